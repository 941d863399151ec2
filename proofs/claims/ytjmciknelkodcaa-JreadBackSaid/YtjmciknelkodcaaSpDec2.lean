/-
  Layer 10, Decode and Named, the program's and the document's: each returns its plain function of the bytes and changes nothing that was there. Condition: at most 1048576 bytes.
-/
import Derived.Test.YtjmciknelkodcaaSpDec
import Derived.OwnWalk
namespace Go.Proofs.Ytjmciknelkodcaa
open Go.RowKit

theorem ret_ss {a b : ByteArray} {x y : Int} (h : a = b) (h2 : x = y) : Ending.returned (.tuple #[.string a, .int .i64 x]) = .returned (.tuple #[.string b, .int .i64 y]) := by rw [h, h2]
theorem ba_neb (p : List UInt8) (s : ByteArray) : ((ba p).toList == s.toList) = decide (p = s.data.toList) := by
  rw [← ba_back s, ba_eqb, ba_list]
theorem enc_pair (L : List (List UInt8)) (s : List UInt8) : encS L = (s, 0) ↔ (encS L).2 = 0 ∧ (encS L).1 = s := ⟨fun h => by rw [h]; exact ⟨rfl, rfl⟩, fun h => Prod.ext h.2 h.1⟩
theorem tr_pair (p : List UInt8) (s : List UInt8) : trS p = (s, 0) ↔ (trS p).2 = 0 ∧ (trS p).1 = s := ⟨fun h => by rw [h]; exact ⟨rfl, rfl⟩, fun h => Prod.ext h.2 h.1⟩
theorem flP_len (s : List UInt8) : (flP s).length ≤ 12 := by
  unfold flP; split
  · exact Nat.zero_le _
  · rw [pths_len]; omega
theorem rdr_new (w : World) (s : ByteArray) : Rdr (w.alloc (.cells #[.string s] 85)) w.heap.size s.data.toList := by
  have := blk_new w 85 #[.string s]
  rw [← ba_back s] at this
  exact this
theorem below_dec {w W w' : World} {o : Obj} (hW : W = w.alloc o) (h : W.grownBy w' (some w.heap.size)) : Below w.heap.size w w' := by
  subst hW
  refine ⟨h.os, h.tape, h.output, Nat.le_trans (by simp) h.size, fun k hk => ?_⟩
  rw [h.block k (by simp; omega) (fun e => by injection e; omega)]
  exact (sbelow_alloc w o).block k hk

set_option maxHeartbeats 1000000 in
theorem spnamed_any (s : ByteArray) (hs : s.size ≤ 1048576) (w : World) :
    Calls Try.prog 21 #[.string s] w fun e w' => e = .returned (.tuple #[.string (ba (namS s.data.toList).1), .int .i64 (namS s.data.toList).2]) ∧ Below w.heap.size w w' := by
  have hl : s.data.toList.length = s.size := by simp
  have kf := fun w b h => spname_any b s.data.toList w (by omega) h
  obtain ⟨r, hr⟩ : ∃ r, r = namS s.data.toList := ⟨_, rfl⟩
  rw [← hr]
  unfold namS at hr
  generalize nmP s.data.toList = F at kf hr
  have ke := fun w => sptrailer_any (ba F) w
  rw [ba_list] at ke
  simp only [tr_pair] at hr
  have hq := ba_neb (trS F).1 s
  obtain ⟨x, hx⟩ : ∃ x, x = trS F := ⟨_, rfl⟩
  rw [← hx] at ke hr hq
  clear hx hl
  obtain ⟨p, q⟩ := x
  simp only at ke hr hq
  have HR := rdr_new w s
  obtain ⟨W0, hW0⟩ : ∃ W0, W0 = w.alloc (.cells #[.string s] 85) := ⟨_, rfl⟩
  rw [← hW0] at HR
  have HRD := Lib.hid HR
  clear HR
  by_cases h0 : q = 0
  · by_cases h1 : p = s.data.toList
    · rw [decide_eq_true h1] at hq
      rw [if_pos ⟨h0, h1⟩] at hr; subst hr h0
      clear h1
      go_enter Try.func21, Try.ntmps21
      go_wp2_with (first
        | (go_at_call 38; refine (kf _ _ (by rw [← hW0]; exact HRD.out)).mono ?_; rintro e w1 ⟨rfl, hg⟩; have b1 := Lib.hid (below_dec rfl hg); clear hg)
        | (go_at_call 39; refine (ke _).mono ?_; rintro e w2 ⟨rfl, b2⟩))
      go_ret2
      exact ⟨rfl, b1.out.trans (b2.mono b1.out.size)⟩
    · rw [decide_eq_false h1] at hq
      rw [if_neg (fun h => h1 h.2)] at hr; subst hr h0
      clear h1
      go_enter Try.func21, Try.ntmps21
      go_wp2_with (first
        | (go_at_call 38; refine (kf _ _ (by rw [← hW0]; exact HRD.out)).mono ?_; rintro e w1 ⟨rfl, hg⟩; have b1 := Lib.hid (below_dec rfl hg); clear hg)
        | (go_at_call 39; refine (ke _).mono ?_; rintro e w2 ⟨rfl, b2⟩))
      go_ret2
      exact ⟨rfl, b1.out.trans (b2.mono b1.out.size)⟩
  · have t1 : (q != 0) = true := by simpa using h0
    rw [if_neg (fun h => h0 h.1)] at hr; subst hr
    clear h0 hq
    go_enter Try.func21, Try.ntmps21
    go_wp2_with (first
      | (go_at_call 38; refine (kf _ _ (by rw [← hW0]; exact HRD.out)).mono ?_; rintro e w1 ⟨rfl, hg⟩; have b1 := Lib.hid (below_dec rfl hg); clear hg)
      | (go_at_call 39; refine (ke _).mono ?_; rintro e w2 ⟨rfl, b2⟩))
    go_ret2
    exact ⟨rfl, b1.out.trans (b2.mono b1.out.size)⟩
theorem r10named_any (s : ByteArray) (hs : s.size ≤ 1048576) (w : World) :
    Calls Try.prog 23 #[.string s] w fun e w' => e = .returned (.tuple #[.string (ba (namS s.data.toList).1), .int .i64 (namS s.data.toList).2]) ∧ Below w.heap.size w w' := by
  have kf := fun w => r10take_any s hs 8 (by decide) (by decide) w
  obtain ⟨r, hr⟩ : ∃ r, r = namS s.data.toList := ⟨_, rfl⟩
  rw [← hr]
  rw [← namD_eq] at hr
  unfold namD at hr
  generalize tkD s.data.toList 8 = F at kf hr
  obtain ⟨F, u⟩ := F
  simp only at kf hr
  have ke := fun w => r10trailer_any (ba F) w
  rw [ba_list] at ke
  simp only [tr_pair] at hr
  have hq := ba_neb (trS F).1 s
  obtain ⟨x, hx⟩ : ∃ x, x = trS F := ⟨_, rfl⟩
  rw [← hx] at ke hr hq
  clear hx
  obtain ⟨p, q⟩ := x
  simp only at ke hr hq
  by_cases h0 : q = 0
  · by_cases h1 : p = s.data.toList
    · rw [decide_eq_true h1] at hq
      rw [if_pos ⟨h0, h1⟩] at hr; subst hr h0
      clear h1
      go_enter Try.func23, Try.ntmps23
      go_wp2_with (first
        | (go_at_call 42; refine (kf _).mono ?_; rintro e w1 ⟨rfl, b1⟩)
        | (go_at_call 19; refine (ke _).mono ?_; rintro e w2 ⟨rfl, b2⟩))
      go_ret2
      exact ⟨rfl, b1.trans (b2.mono b1.size)⟩
    · rw [decide_eq_false h1] at hq
      rw [if_neg (fun h => h1 h.2)] at hr; subst hr h0
      clear h1
      go_enter Try.func23, Try.ntmps23
      go_wp2_with (first
        | (go_at_call 42; refine (kf _).mono ?_; rintro e w1 ⟨rfl, b1⟩)
        | (go_at_call 19; refine (ke _).mono ?_; rintro e w2 ⟨rfl, b2⟩))
      go_ret2
      exact ⟨rfl, b1.trans (b2.mono b1.size)⟩
  · have t1 : (q != 0) = true := by simpa using h0
    rw [if_neg (fun h => h0 h.1)] at hr; subst hr
    clear h0 hq
    go_enter Try.func23, Try.ntmps23
    go_wp2_with (first
      | (go_at_call 42; refine (kf _).mono ?_; rintro e w1 ⟨rfl, b1⟩)
      | (go_at_call 19; refine (ke _).mono ?_; rintro e w2 ⟨rfl, b2⟩))
    go_ret2
    exact ⟨rfl, b1.trans (b2.mono b1.size)⟩
end Go.Proofs.Ytjmciknelkodcaa
