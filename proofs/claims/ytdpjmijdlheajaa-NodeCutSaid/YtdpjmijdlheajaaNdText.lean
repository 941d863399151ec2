/-
  Layer 16, the document's text (annexeref16): a text with its length ahead, and where it ends; it changes nothing. Condition: the place is within the string; sizes of at most 100000.
-/
import Derived.Test.YtdpjmijdlheajaaNdParse
namespace Go.Proofs.Ytdpjmijdlheajaa
open Go.RowKit

def TxtV (o : Option (Nat × List UInt8)) (at_ : Nat) : Value := match o with
  | none => .tuple #[.string ⟨#[]⟩, .int .i64 (at_ : Int), .bool false]
  | some (k, t) => .tuple #[.string (nb t), .int .i64 ((at_ + k : Nat) : Int), .bool true]
theorem nb_mid (s : ByteArray) (k m : Nat) : s.extract k m = nb ((s.data.toList.drop k).take (m - k)) := by
  have h := nb_ext s.data.toList k m
  rw [nb_back] at h
  exact h
theorem nb_drop (s : ByteArray) (k : Nat) : (s.extract k s.size).data.toList = s.data.toList.drop k := by
  rw [nb_mid, nb_list]
  exact List.take_of_length_le (by simp)
set_option maxRecDepth 100000 in
set_option maxHeartbeats 4000000 in
theorem rtext_any (s : ByteArray) (a most : Nat) (w : World) (ha : a ≤ s.size) (hs : s.size ≤ 100000) (hm : most ≤ 1000) :
    Calls Try.prog 28 #[.string s, .int .i64 (a : Int), .int .i64 (most : Int)] w fun e w' => e = .returned (TxtV (txtP (s.data.toList.drop a) most) a) ∧ Below w.heap.size w w' := by
  have hl : s.data.toList.length = s.size := by simp
  have hT := nb_drop s a
  have hts : (s.extract a s.size).size ≤ 9223372036854775807 := by
    have : (s.extract a s.size).data.toList.length = (s.extract a s.size).size := by simp
    rw [← this, hT, List.length_drop]; omega
  have kg := fun W => rget_any (s.extract a s.size) hts W
  rw [hT] at kg
  obtain ⟨G, hG⟩ : ∃ G, G = getR (s.data.toList.drop a) := ⟨_, rfl⟩
  have hx : txtP (s.data.toList.drop a) most = if G.2.2 = 0 ∧ G.1 ≤ most ∧ G.2.1 + G.1 ≤ s.size - a then some (G.2.1 + G.1, ((s.data.toList.drop a).drop G.2.1).take G.1) else none := by
    unfold txtP
    rw [← hG, List.length_drop, hl]
  rw [← hG] at kg
  obtain ⟨r, hr⟩ : ∃ r, r = TxtV (txtP (s.data.toList.drop a) most) a := ⟨_, rfl⟩
  have HXR := Lib.hid hr.symm
  rw [hx] at hr
  obtain ⟨n, k, er⟩ := G
  simp only at kg hr
  have hk9 : k ≤ 9 := by
    have h9 := scan_len (s.data.toList.drop a) 0 0 (by omega)
    have : (getR (s.data.toList.drop a)).2.1 ≤ 9 := by
      unfold getR
      split
      · split
        · exact h9
        · exact Nat.zero_le _
      · exact Nat.zero_le _
    rw [← hG] at this
    exact this
  have HR := Lib.hid hr
  have hmin : min (a : Int) (s.size : Int) = a := by omega
  have q0 : (a : Int) ≤ s.size := by omega
  have wm : IntKind.u64.wrap (most : Int) = most := by rw [IntKind.wrap_u64]; omega
  clear hx hG hT hl hts
  by_cases h1 : er = 0
  · subst h1
    by_cases h2 : most < n
    · have h2' : (most : Int) < n := by omega
      have HE := Lib.hid (show r = .tuple #[.string ⟨#[]⟩, .int .i64 (a : Int), .bool false] by rw [HR.out, if_neg (by omega)]; rfl)
      clear HR hr
      go_enter Try.func28, Try.ntmps28
      go_wp2_with (go_at_call 52; (with_reducible refine (kg _).mono ?_); rintro e w2 ⟨rfl, hb⟩; have HB := Lib.hid hb; clear hb)
      go_returns
      exact ⟨by rw [HXR.out, HE.out]; rfl, HB.out⟩
    · by_cases h3 : s.size - a < k + n
      · have HE := Lib.hid (show r = .tuple #[.string ⟨#[]⟩, .int .i64 (a : Int), .bool false] by rw [HR.out, if_neg (by omega)]; rfl)
        have h2' : ¬ (most : Int) < n := by omega
        have w1 : IntKind.i64.wrap ((s.size : Int) - a) = (s.size : Int) - a := IntWalk.i64_in _ ⟨by omega, by omega⟩
        have w2 : IntKind.i64.wrap ((s.size : Int) - a - k) = (s.size : Int) - a - k := IntWalk.i64_in _ ⟨by omega, by omega⟩
        have w3 : IntKind.i64.wrap (n : Int) = n := IntWalk.i64_in _ ⟨by omega, by omega⟩
        have h3' : (s.size : Int) - a - k < n := by omega
        clear HR hr
        go_enter Try.func28, Try.ntmps28
        go_wp2_with (go_at_call 52; (with_reducible refine (kg _).mono ?_); rintro e w2 ⟨rfl, hb⟩; have HB := Lib.hid hb; clear hb)
        go_returns
        exact ⟨by rw [HXR.out, HE.out]; rfl, HB.out⟩
      · obtain ⟨b, hb⟩ : ∃ b, b = a + k := ⟨_, rfl⟩
        obtain ⟨c, hc⟩ : ∃ c, c = b + n := ⟨_, rfl⟩
        have hmid := nb_mid s b c
        rw [show c - b = n by omega, hb, ← List.drop_drop, ← hb] at hmid
        have HE := Lib.hid (show r = .tuple #[.string (s.extract b c), .int .i64 (c : Int), .bool true] by
          rw [HR.out, if_pos ⟨rfl, by omega, by omega⟩, hmid, hc, hb]
          simp only [TxtV, Nat.add_assoc])
        have h2' : ¬ (most : Int) < n := by omega
        have w1 : IntKind.i64.wrap ((s.size : Int) - a) = (s.size : Int) - a := IntWalk.i64_in _ ⟨by omega, by omega⟩
        have w2 : IntKind.i64.wrap ((s.size : Int) - a - k) = (s.size : Int) - a - k := IntWalk.i64_in _ ⟨by omega, by omega⟩
        have w3 : IntKind.i64.wrap (n : Int) = n := IntWalk.i64_in _ ⟨by omega, by omega⟩
        have hab : (a : Int) + k = (b : Int) := by omega
        have hbc : (b : Int) + n = (c : Int) := by omega
        have w4 : IntKind.i64.wrap (b : Int) = (b : Int) := IntWalk.i64_in _ ⟨by omega, by omega⟩
        have w5 : IntKind.i64.wrap (c : Int) = (c : Int) := IntWalk.i64_in _ ⟨by omega, by omega⟩
        have h3' : ¬ (s.size : Int) - a - k < n := by omega
        have q1 : (b : Int) ≤ (c : Int) := by omega
        have q2 : (c : Int) ≤ s.size := by omega
        have q3 : b ≤ c := by omega
        have q4 : c ≤ s.size := by omega
        clear HR hr hmid hb hc
        go_enter Try.func28, Try.ntmps28
        go_wp2_with (go_at_call 52; (with_reducible refine (kg _).mono ?_); rintro e w2 ⟨rfl, hb⟩; have HB := Lib.hid hb; clear hb)
        go_returns
        exact ⟨by rw [HXR.out, HE.out]; rfl, HB.out⟩
  · have HE := Lib.hid (show r = .tuple #[.string ⟨#[]⟩, .int .i64 (a : Int), .bool false] by rw [HR.out, if_neg (fun h => h1 h.1)]; rfl)
    clear HR hr
    go_enter Try.func28, Try.ntmps28
    go_wp2_with (go_at_call 52; (with_reducible refine (kg _).mono ?_); rintro e w2 ⟨rfl, hb⟩; have HB := Lib.hid hb; clear hb)
    go_returns
    exact ⟨by rw [HXR.out, HE.out]; rfl, HB.out⟩
end Go.Proofs.Ytdpjmijdlheajaa
