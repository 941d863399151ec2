/-
  Layer 10, the walk of SuperTurned: it returns true for every input and changes nothing that was there.
-/
import Derived.Test.YtcfojplmmpeefaaSpTurn
namespace Go.Proofs.Ytcfojplmmpeefaa
open Go.RowKit

theorem enc_split (L : List (List UInt8)) : (∃ s, encS L = (s, 0)) ∨ ∃ x, x ≠ 0 ∧ encS L = ([], x) := by
  by_cases h : ckS L = 0
  · exact .inl ⟨_, by rw [encS, if_pos h]⟩
  · exact .inr ⟨_, h, by rw [encS, if_neg h]⟩
theorem tr_split (p : List UInt8) : (∃ s, trS p = (s, 0)) ∨ trS p = ([], 13) := by
  by_cases h : okS p = true
  · exact .inl ⟨_, by rw [trS, if_pos h]⟩
  · exact .inr (by rw [trS, if_neg h])

set_option maxHeartbeats 4000000 in
set_option maxRecDepth 100000 in
theorem sturned_any (a : Option Addr) (cap : Nat) (L : List (List UInt8)) (hl : L.length ≤ 4611686018427387904) (hcap : L.length ≤ cap) (hz : ∀ p ∈ L, p.length ≤ 4611686018427387904)
    (nm : ByteArray) (hn : nm.size ≤ 9223372036854775807) (t : Int) (h7 : -9223372036854775808 ≤ t) (h8 : t ≤ 9223372036854775807) (y : Int) (h9 : -9223372036854775808 ≤ y) (h10 : y ≤ 9223372036854775807) (w : World) (ha : Strs w a L) :
    Calls Try.prog 6 #[.slice a L.length cap, .string nm, .int .i64 t, .int .i64 y] w fun e w' => e = .returned (.bool true) ∧ Below w.heap.size w w' := by
  have kg := fun w ha => s10great_any a cap L w (by omega) hz ha
  have ke := fun w ha => spencode_any a cap L w (by omega) ha hcap
  have kt := fun w => sptrailer_any nm w
  have HA := Lib.hid ha
  have HB := Lib.hid (Below.refl w.heap.size w)
  clear ha
  generalize hM : nm.data.toList = M at kt
  obtain ⟨z, hz'⟩ : ∃ z, y.tmod 256 = z := ⟨_, rfl⟩
  by_cases hskip : 100 < nm.size ∨ z = 0
  · clear ke kt
    by_cases h100 : 100 < nm.size
    · have t1 : decide ((100 : Int) < nm.size) = true := decide_eq_true (by omega)
      go_enter Try.func6, Try.ntmps6
      go_wp2_with (first | (go_at_call 15; refine (works10_any _).mono ?_; rintro e w1 ⟨rfl, b1⟩) | (go_at_call 7; refine (kg _ (strs_below HA.out b1)).mono ?_; rintro e w2 ⟨g, rfl, -, rfl⟩; cases g))
      all_goals go_ret
      all_goals exact ⟨rfl, b1⟩
    · have t1 : decide ((100 : Int) < nm.size) = false := decide_eq_false (by omega)
      have t2 : z = 0 := by omega
      subst t2
      go_enter Try.func6, Try.ntmps6
      go_wp2_with (first | (go_at_call 15; refine (works10_any _).mono ?_; rintro e w1 ⟨rfl, b1⟩) | (go_at_call 7; refine (kg _ (strs_below HA.out b1)).mono ?_; rintro e w2 ⟨g, rfl, -, rfl⟩; cases g))
      all_goals go_ret
      all_goals exact ⟨rfl, b1⟩
  have t1 : decide ((100 : Int) < nm.size) = false := decide_eq_false (by omega)
  have hz0 : z ≠ 0 := by omega
  have t2 : (z == 0) = false := beq_eq_false_iff_ne.2 hz0
  have hy : y.tmod 256 ≠ 0 := by rw [hz']; exact hz0
  rcases enc_split L with ⟨s, he⟩ | ⟨x, hx, he⟩
  · have k1 := fun w => turned_dec he t h7 h8 y h9 h10 hy w
    rw [he] at ke
    simp only at ke
    generalize ba s = ss at ke k1
    rcases tr_split M with ⟨s2, hs2⟩ | hs2
    · have k2 := fun w => turned_nam hs2 t h7 h8 y h9 h10 hy w
      rw [hs2] at kt
      simp only at kt
      generalize ba s2 = ss2 at kt k2
      clear hs2 he hskip hM hy hz0
      go_enter Try.func6, Try.ntmps6
      go_wp2_with (first | (go_at_call 15; refine (works10_any _).mono ?_; rintro e w1 ⟨rfl, b1⟩) | (go_at_call 7; refine (kg _ (strs_below HA.out b1)).mono ?_; rintro e w2 ⟨g, rfl, -, rfl⟩; cases g) | (go_at_call 8; refine (ke _ (strs_below HA.out b1)).mono ?_; rintro e w3 ⟨rfl, b3⟩; have c3 := b1.trans (b3.mono b1.size)) | (go_at_call 10; refine (kt _).mono ?_; rintro e w4 ⟨rfl, b4⟩; have c4 := c3.trans (b4.mono c3.size)) | (go_at_call 18; (with_reducible refine (k1 _).mono ?_); rintro e w5 ⟨s5, rfl, h5, b5⟩; have c5 := c4.trans (b5.mono c4.size)) | (go_at_call 18; (with_reducible refine (k2 _).mono ?_); rintro e w7 ⟨s7, rfl, h7', b7⟩; have c7 := c6.trans (b7.mono c6.size)) | (go_at_call 12; refine (decode_no h5.out.1 h5.out.2 _).mono ?_; rintro e w6 ⟨a6, p6, rfl, b6⟩; have c6 := c5.trans (b6.mono c5.size)) | (go_at_call 13; refine (named_no h7'.out.1 h7'.out.2 _).mono ?_; rintro e w8 ⟨rfl, b8⟩; have c8 := c7.trans (b8.mono c7.size)))
      all_goals go_ret
      all_goals first | exact ⟨rfl, c8⟩ | exact ⟨rfl, b1⟩
    · rw [hs2] at kt
      simp only at kt
      clear hs2 he hskip hM hy hz0
      go_enter Try.func6, Try.ntmps6
      go_wp2_with (first | (go_at_call 15; refine (works10_any _).mono ?_; rintro e w1 ⟨rfl, b1⟩) | (go_at_call 7; refine (kg _ (strs_below HA.out b1)).mono ?_; rintro e w2 ⟨g, rfl, -, rfl⟩; cases g) | (go_at_call 8; refine (ke _ (strs_below HA.out b1)).mono ?_; rintro e w3 ⟨rfl, b3⟩; have c3 := b1.trans (b3.mono b1.size)) | (go_at_call 10; refine (kt _).mono ?_; rintro e w4 ⟨rfl, b4⟩; have c4 := c3.trans (b4.mono c3.size)) | (go_at_call 18; (with_reducible refine (k1 _).mono ?_); rintro e w5 ⟨s5, rfl, h5, b5⟩; have c5 := c4.trans (b5.mono c4.size)) | (go_at_call 12; refine (decode_no h5.out.1 h5.out.2 _).mono ?_; rintro e w6 ⟨a6, p6, rfl, b6⟩; have c6 := c5.trans (b6.mono c5.size)))
      all_goals go_ret
      all_goals first | exact ⟨rfl, c6⟩ | exact ⟨rfl, b1⟩
  · rw [he] at ke
    simp only at ke
    have t3 : (x == 0) = false := beq_eq_false_iff_ne.2 hx
    rcases tr_split M with ⟨s2, hs2⟩ | hs2
    · have k2 := fun w => turned_nam hs2 t h7 h8 y h9 h10 hy w
      rw [hs2] at kt
      simp only at kt
      generalize ba s2 = ss2 at kt k2
      clear hs2 he hskip hM hy hz0
      go_enter Try.func6, Try.ntmps6
      go_wp2_with (first | (go_at_call 15; refine (works10_any _).mono ?_; rintro e w1 ⟨rfl, b1⟩) | (go_at_call 7; refine (kg _ (strs_below HA.out b1)).mono ?_; rintro e w2 ⟨g, rfl, -, rfl⟩; cases g) | (go_at_call 8; refine (ke _ (strs_below HA.out b1)).mono ?_; rintro e w3 ⟨rfl, b3⟩; have c3 := b1.trans (b3.mono b1.size)) | (go_at_call 10; refine (kt _).mono ?_; rintro e w4 ⟨rfl, b4⟩; have c4 := c3.trans (b4.mono c3.size)) | (go_at_call 18; (with_reducible refine (k2 _).mono ?_); rintro e w7 ⟨s7, rfl, h7', b7⟩; have c7 := c4.trans (b7.mono c4.size)) | (go_at_call 13; refine (named_no h7'.out.1 h7'.out.2 _).mono ?_; rintro e w8 ⟨rfl, b8⟩; have c8 := c7.trans (b8.mono c7.size)))
      all_goals go_ret
      all_goals first | exact ⟨rfl, c8⟩ | exact ⟨rfl, b1⟩
    · rw [hs2] at kt
      simp only at kt
      clear hs2 he hskip hM hy hz0
      go_enter Try.func6, Try.ntmps6
      go_wp2_with (first | (go_at_call 15; refine (works10_any _).mono ?_; rintro e w1 ⟨rfl, b1⟩) | (go_at_call 7; refine (kg _ (strs_below HA.out b1)).mono ?_; rintro e w2 ⟨g, rfl, -, rfl⟩; cases g) | (go_at_call 8; refine (ke _ (strs_below HA.out b1)).mono ?_; rintro e w3 ⟨rfl, b3⟩; have c3 := b1.trans (b3.mono b1.size)) | (go_at_call 10; refine (kt _).mono ?_; rintro e w4 ⟨rfl, b4⟩; have c4 := c3.trans (b4.mono c3.size)))
      all_goals go_ret
      all_goals first | exact ⟨rfl, c4⟩ | exact ⟨rfl, b1⟩
end Go.Proofs.Ytcfojplmmpeefaa
