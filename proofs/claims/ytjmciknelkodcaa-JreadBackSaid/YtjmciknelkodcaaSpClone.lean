/-
  Layer 10: strings.Clone, and the reader's methods path, name and files: each returns what it reads, and changes the reader alone. Condition: at most 1048576 bytes.
-/
import Derived.Test.YtjmciknelkodcaaSpRead
import Derived.Test.YtjmciknelkodcaaShelf
namespace Go.Proofs.Ytjmciknelkodcaa
open Go.RowKit

theorem spclone_any (s : ByteArray) (w : World) (h : s.size ≤ 281474976710656) :
    Calls Try.prog 70 #[.string s] w fun e w' => e = .returned (.string s) ∧ Below w.heap.size w w' := by
  have hc := fun w => Try.stringslite_Clone s w h
  go_enter Try.func70, Try.ntmps70
  go_wp2_with (go_at_call 76; refine (hc _).mono ?_; rintro e w' ⟨rfl, hb⟩)
  go_ret
  exact ⟨rfl, hb⟩
theorem grown_then {w w1 w2 : World} {b : Nat} (h : w.grownBy w1 (some b)) (h2 : Below w1.heap.size w1 w2) : w.grownBy w2 (some b) := Lib.grownBy_trans h (below_grown h2 rfl)
set_option maxHeartbeats 1000000 in
theorem sppath_any (b : Nat) (l : List UInt8) (w : World) (hs : l.length ≤ 1048576) (h : Rdr w b l) :
    Calls Try.prog 55 #[.pointer (some ⟨b, 0, none⟩)] w fun e w' => e = .returned (.string (ba (pthP l).1)) ∧ Rdr w' b (pthP l).2 ∧ w.grownBy w' (some b) := by
  have k1 := spnumber_any b l w hs h
  have hbd := nmL_bd l
  obtain ⟨r, hr⟩ : ∃ r, r = pthP l := ⟨_, rfl⟩
  rw [← hr]
  rw [pthP] at hr
  obtain ⟨n, hn⟩ : ∃ n, n = nmL l := ⟨_, rfl⟩
  rw [← hn] at k1 hr hbd
  clear hn h
  have hl4 : (l.drop 4).length ≤ 1048576 := by rw [List.length_drop]; omega
  by_cases h40 : 40 < n
  · rw [if_pos h40] at hr; subst hr
    go_enter Try.func55, Try.ntmps55
    go_wp2_with (first | (go_at_call 71; refine k1.mono ?_; rintro e w1 ⟨rfl, hr, hg⟩))
    go_ret
    exact ⟨rfl, hr, hg⟩
  rw [if_neg h40] at hr; subst hr
  obtain ⟨m, rfl⟩ : ∃ m : Nat, n = m := ⟨n.toNat, by omega⟩
  rw [Int.toNat_natCast]
  have k2 := fun w (h : Rdr w b (l.drop 4)) => sptake_any b (l.drop 4) m w hl4 (by omega) h
  have k3 := fun w => spclone_any (ba ((l.drop 4).take m)) w (by rw [ba_size, List.length_take]; omega)
  generalize l.drop 4 = q at k1 k2 k3 ⊢
  go_enter Try.func55, Try.ntmps55
  go_wp2_with (first | (go_at_call 71; refine k1.mono ?_; rintro e w1 ⟨rfl, hr, hg⟩) | (go_at_call 54; refine (k2 _ hr).mono ?_; rintro e w2 ⟨rfl, hr2, hg2⟩) | (go_at_call 70; refine (k3 _).mono ?_; rintro e w3 ⟨rfl, hb⟩))
  go_ret
  exact ⟨rfl, blk_below hr2 hb, grown_then (Lib.grownBy_trans hg hg2) hb⟩
theorem spname_any (b : Nat) (l : List UInt8) (w : World) (hs : l.length ≤ 1048576) (h : Rdr w b l) :
    Calls Try.prog 38 #[.pointer (some ⟨b, 0, none⟩)] w fun e w' => e = .returned (.string (ba (nmP l))) ∧ w.grownBy w' (some b) := by
  have k1 := sptake_any b l 8 w hs (by decide) h
  have k2 := fun w (h : Rdr w b (l.drop 8)) => sppath_any b (l.drop 8) w (by rw [List.length_drop]; omega) h
  rw [nmP]
  generalize l.drop 8 = q at k1 k2 ⊢
  clear h
  go_enter Try.func38, Try.ntmps38
  go_wp2_with (first | (go_at_call 54; refine k1.mono ?_; rintro e w1 ⟨rfl, hr, hg⟩) | (go_at_call 55; refine (k2 _ hr).mono ?_; rintro e w2 ⟨rfl, hr2, hg2⟩))
  go_ret
  exact ⟨rfl, Lib.grownBy_trans hg hg2⟩
end Go.Proofs.Ytjmciknelkodcaa
