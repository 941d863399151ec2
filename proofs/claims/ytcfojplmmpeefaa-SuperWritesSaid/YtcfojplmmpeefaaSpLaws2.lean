/-
  Layer 10, the helper works, and the walk of SuperReads: it returns true for every string of at most 2^63 - 1 bytes and changes nothing that was there.
-/
import Derived.Test.YtcfojplmmpeefaaSpLaws1
namespace Go.Proofs.Ytcfojplmmpeefaa
open Go.RowKit

def L2 : List (List UInt8) := [[97], [98]]
def N4 : List UInt8 := [109, 45, 115, 49]
theorem L2_enc : ∃ s, encS L2 = (s, 0) ∧ s.length ≤ 60 := by
  have hk : ckS L2 = 0 := by decide
  refine ⟨_, by rw [encS, if_pos hk], ?_⟩
  rw [seS_len, hdS_len]
  decide
theorem N4_tr : ∃ s, trS N4 = (s, 0) ∧ s.length ≤ 60 ∧ 16 ≤ s.length ∧ s.take 16 = stF ++ txS N4 := by
  have hk : okS N4 = true := by decide
  refine ⟨_, by rw [trS, if_pos hk], ?_, ?_, ?_⟩
  · rw [seS_len]; decide
  · rw [seS_len]; decide
  · rw [seS, List.append_assoc, List.take_append_of_le_length (by decide)]; rfl
theorem two_strs (w : World) : Strs (w.alloc (.cells #[.string ⟨#[97]⟩, .string ⟨#[98]⟩] 9)) (some ⟨w.heap.size, 0, none⟩) L2 := by
  have h := blk_new w 9 #[.string ⟨#[97]⟩, .string ⟨#[98]⟩]
  intro j hj
  refine ⟨w.heap.size, 0, rfl, blk_lt h, ?_⟩
  have hj' : j < 2 := hj
  match j, hj' with
  | 0, _ => exact blk_cell h 0 rfl
  | 1, _ => exact blk_cell h 1 rfl

set_option maxHeartbeats 1000000 in
theorem works10_any (w : World) : Calls Try.prog 15 #[] w fun e w' => e = .returned (.bool true) ∧ Below w.heap.size w w' := by
  obtain ⟨s, hs, hsl⟩ := L2_enc
  obtain ⟨t, ht, htl, ht16, htt⟩ := N4_tr
  have ke := fun w a ha => spencode_any a 2 L2 w (by decide) ha (by decide)
  rw [hs] at ke
  have kd := fun w => spdecode_any (ba s) (by rw [ba_size]; omega) w
  rw [ba_list, dec_enc hs] at kd
  have kt := fun w => sptrailer_any (ba N4) w
  rw [ba_list, ht] at kt
  have kn := fun w => spnamed_any (ba t) (by rw [ba_size]; omega) w
  rw [ba_list, named_tr ht] at kn
  have ks := fun w a a2 cap ha hb => s10same_any a a2 cap 2 L2 L2 w (by decide) (by decide) ha hb
  rw [decide_eq_true rfl] at ks
  have q1 : (ba N4).toList = [109, 45, 115, 49] := by rw [ByteArray.toList_eq, ba_list]; rfl
  have q2 : ((ba t).extract 0 16).toList = [97, 110, 110, 120, 110, 97, 109, 101, 0, 0, 0, 4, 109, 45, 115, 49] := by
    rw [sext_take, htt, ByteArray.toList_eq, ba_list]; rfl
  have q3 : (16 : Int) ≤ (ba t).size := by rw [ba_size]; omega
  have q4 : 16 ≤ (ba t).size := by rw [ba_size]; omega
  simp only at ke kd kt kn
  rw [show L2.length = 2 from rfl] at ke kd ks
  change ∀ w, Calls _ _ #[.string ⟨#[109, 45, 115, 49]⟩] w _ at kt
  generalize ba N4 = n4 at kn q1
  generalize ba t = tt at kt kn q2 q3 q4
  generalize ba s = ss at ke kd
  clear hs hsl ht htl ht16 htt
  have HB := Lib.hid (Below.refl w.heap.size w)
  go_enter Try.func15, Try.ntmps15
  go_wp2_with (first
    | (go_at_call 8; refine (ke _ _ (two_strs w)).mono ?_; rintro e w1 ⟨rfl, b1⟩)
    | (go_at_call 12; refine (kd _).mono ?_; rintro e w2 ⟨a, cap, rfl, hst, b2⟩)
    | (go_at_call 10; refine (kt _).mono ?_; rintro e w3 ⟨rfl, b3⟩)
    | (go_at_call 13; refine (kn _).mono ?_; rintro e w4 ⟨rfl, b4⟩)
    | (go_at_call 14; refine (ks _ _ _ _ (strs_below (strs_below (strs_below hst b3) b4) (sbelow_alloc _ _)) (two_strs w4)).mono ?_; rintro e w5 ⟨rfl, b5⟩))
  go_ret
  have h1 := (sbelow_alloc w (.cells #[.string ⟨#[97]⟩, .string ⟨#[98]⟩] 9)).trans (b1.mono (by simp))
  have h2 := h1.trans (b2.mono h1.size)
  have h3 := h2.trans (b3.mono h2.size)
  have h4 := h3.trans (b4.mono h3.size)
  have h5 := h4.trans ((sbelow_alloc w4 (.cells #[.string ⟨#[97]⟩, .string ⟨#[98]⟩] 9)).mono h4.size)
  exact ⟨rfl, h5.trans (b5.mono h5.size)⟩

theorem decS_len (s : List UInt8) : (decS s).1.length ≤ 12 := by
  unfold decS; split
  · exact flP_len s
  · exact Nat.zero_le _
set_option maxHeartbeats 1000000 in
theorem sreads_any (s : ByteArray) (hs : s.size ≤ 9223372036854775807) (w : World) :
    Calls Try.prog 4 #[.string s] w fun e w' => e = .returned (.bool true) ∧ Below w.heap.size w w' := by
  by_cases h3 : 3000 < s.size
  · have t1 : decide ((3000 : Int) < s.size) = true := decide_eq_true (by omega)
    go_enter Try.func4, Try.ntmps4
    go_wp2
    go_ret
    exact ⟨rfl, Below.refl _ _⟩
  have t1 : decide ((3000 : Int) < s.size) = false := decide_eq_false (by omega)
  have k1 := fun w => spdecode_any s (by omega) w
  have k2 := fun w => r10decode_any s (by omega) w
  have k3 := fun w => spnamed_any s (by omega) w
  have k4 := fun w => r10named_any s (by omega) w
  have hd := decS_len s.data.toList
  generalize decS s.data.toList = D at k1 k2 hd
  generalize namS s.data.toList = M at k3 k4
  obtain ⟨L, x⟩ := D
  obtain ⟨m, y⟩ := M
  simp only at k1 k2 k3 k4 hd
  have ks := fun w a a2 cap cap2 ha hb => s10same_any a a2 cap cap2 L L w (by omega) (by omega) ha hb
  rw [decide_eq_true rfl] at ks
  generalize L.length = ll at k1 k2 ks
  have q1 : ((ba m).toList == (ba m).toList) = true := by rw [ba_eqb]; exact decide_eq_true rfl
  clear hd
  go_enter Try.func4, Try.ntmps4
  go_wp2_with (first
    | (go_at_call 12; refine (k1 _).mono ?_; rintro e w1 ⟨a, cap, rfl, hst, b1⟩)
    | (go_at_call 16; refine (k2 _).mono ?_; rintro e w2 ⟨a2, cap2, rfl, hst2, b2⟩)
    | (go_at_call 13; refine (k3 _).mono ?_; rintro e w3 ⟨rfl, b3⟩)
    | (go_at_call 17; refine (k4 _).mono ?_; rintro e w4 ⟨rfl, b4⟩)
    | (go_at_call 14; refine (ks _ _ _ _ _ (strs_below (strs_below (strs_below hst b2) b3) b4) (strs_below (strs_below hst2 b3) b4)).mono ?_; rintro e w5 ⟨rfl, b5⟩)
    | (go_at_call 15; refine (works10_any _).mono ?_; rintro e w6 ⟨rfl, b6⟩))
  go_ret
  have h2 := b1.trans (b2.mono b1.size)
  have h3 := h2.trans (b3.mono h2.size)
  have h4 := h3.trans (b4.mono h3.size)
  have h5 := h4.trans (b5.mono h4.size)
  exact ⟨rfl, h5.trans (b6.mono h5.size)⟩
end Go.Proofs.Ytcfojplmmpeefaa
