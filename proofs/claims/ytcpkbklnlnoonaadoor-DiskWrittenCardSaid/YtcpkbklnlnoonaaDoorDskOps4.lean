/-
  Layer 7: Truncate and Read: what they do inside a counted call, and the calls. Condition: the sizes that the invariant holds; the paths of the visible state are distinct.
-/
import Derived.Test.YtcpkbklnlnoonaaDoorDskWorks
namespace Go.Proofs.YtcpkbklnlnoonaaDoor
open Go.RowKit
variable {L : Loc} {ρ ρ' : Nat → Option Role} {n : Nat} {S : DS} {w w' : World}

/-! ### Truncate -/
def truncIn (S : DS) (i : Nat) (z : Int) : Int × DS :=
  if z < 0 ∨ 4000000 < z then (3, S) else if excB S i z = true then (31, S) else (0, perfS (.trunc i z.toNat) S)
def truncZ (S : DS) (p : List UInt8) (z : Int) : Int × DS := match findL (S.dirs false) p with
  | none => (cutE (begS S) 8, begS S)
  | some i => (cutE (truncIn (begS S) i z).2 (truncIn (begS S) i z).1, (truncIn (begS S) i z).2)
set_option maxHeartbeats 2000000 in
theorem trunc1_any (i : Nat) (z : Int) (b1 b2 : Nat) (h : Inv L ρ n S w) (hk : ((S.dirs false).map (·.1)).Nodup) (hne : S.dirs false ≠ []) (hi : i < S.nf)
    (h1 : w.cell? ⟨b1, 0, none⟩ = some (.int .i64 z)) (h2 : w.cell? ⟨b2, 0, none⟩ = some (.pointer (some ⟨L.b, 0, none⟩))) (hn : n + 2 ≤ 100000) :
    Calls Tryd.prog 23 #[.pointer (some ⟨L.F i, 0, none⟩), .pointer (some ⟨b1, 0, none⟩), .pointer (some ⟨b2, 0, none⟩)] w (PostQ L ρ w (fun x S' n' _ => x = (truncIn S i z).1 ∧ S' = (truncIn S i z).2 ∧ n' ≤ n + 2)) := by
  have HH := Lib.hid h
  by_cases hr : z < 0 ∨ 4000000 < z
  · have HE := Lib.hid (show truncIn S i z = (3, S) by unfold truncIn; rw [if_pos hr])
    clear h hk hne
    rcases hr with hr | hr
    · go_enter Tryd.func23, Tryd.ntmps23
      go_wp2
      all_goals go_ret
      all_goals exact ⟨3, L, ρ, n, S, rfl, HH.out, Step.refl _ _ _, by rw [HE.out], by rw [HE.out], Nat.le_add_right _ _⟩
    · go_enter Tryd.func23, Tryd.ntmps23
      go_wp2
      all_goals go_ret
      all_goals exact ⟨3, L, ρ, n, S, rfl, HH.out, Step.refl _ _ _, by rw [HE.out], by rw [HE.out], Nat.le_add_right _ _⟩
  have hr1 : 0 ≤ z := by omega
  have hr2 : z ≤ 4000000 := by omega
  have u1 : decide (z < 0) = false := decide_eq_false (by omega)
  have u2 : decide (4000000 < z) = false := decide_eq_false (by omega)
  have HX := Lib.hid (exceeds_any h hk hne i hi z hr1 (by omega))
  cases hx : excB S i z with
  | true =>
    have HE := Lib.hid (show truncIn S i z = (31, S) by unfold truncIn; rw [if_neg hr, if_pos hx])
    rw [hx] at HX
    clear h hk hne hr hx
    go_enter Tryd.func23, Tryd.ntmps23
    go_wp2_with (go_at_call 21; (with_reducible refine HX.out.mono ?_); rintro e w1 ⟨rfl, hb⟩; have HB := Lib.hid hb; clear hb)
    all_goals go_ret
    all_goals exact ⟨31, L, ρ, n, S, rfl, HH.out.below HB.out, Step.below HB.out, by rw [HE.out], by rw [HE.out], Nat.le_add_right _ _⟩
  | false =>
    have HE := Lib.hid (show truncIn S i z = (0, perfS (.trunc i z.toNat) S) by unfold truncIn; rw [if_neg hr, if_neg (by rw [hx]; simp)])
    rw [hx] at HX
    have hok : (Chg.trunc i z.toNat).Ok S.nf := ⟨hi, by omega⟩
    have hcl : (Chg.trunc i z.toNat).cells L.F = [.int .i64 3, .string ⟨#[]⟩, .pointer (some ⟨L.F i, 0, none⟩), .int .i64 z, .string ⟨#[]⟩] := by
      simp only [Chg.cells]
      rw [show ((z.toNat : Nat) : Int) = z by omega]
      rfl
    have HCL := Lib.hid hcl; have HOK := Lib.hid hok
    have HN := Lib.hid hn
    have hl1 := World.block_lt_of_cell? w _ h1
    have hl2 := World.block_lt_of_cell? w _ h2
    have H1 := Lib.hid h1; have H2 := Lib.hid h2
    clear h hk hne hr hx hok hcl
    go_enter Tryd.func23, Tryd.ntmps23
    go_wp2_with (first
      | (go_at_call 21; (with_reducible refine HX.out.mono ?_); rintro e w1 ⟨rfl, hb⟩
         have HB := Lib.hid hb
         have k1 : w1.cell? ⟨b1, 0, none⟩ = some (.int .i64 z) := (hb.cell hl1).trans H1.out
         have k2 : w1.cell? ⟨b2, 0, none⟩ = some (.pointer (some ⟨L.b, 0, none⟩)) := (hb.cell hl2).trans H2.out
         have HC := Lib.hid (perform_lit (.trunc i z.toNat) 3 ⟨#[]⟩ (some ⟨L.F i, 0, none⟩) z ⟨#[]⟩ HCL.out (HH.out.below hb) HOK.out HN.out)
         clear hb)
      | (go_at_call 18; (with_reducible refine HC.out.mono ?_); rintro e w2 ⟨rfl, L', ρ', hI, hS1, hF1⟩; have HI := Lib.hid hI; have HS1 := Lib.hid hS1; clear hI hS1 hF1))
    all_goals go_ret
    all_goals exact ⟨0, L', ρ', _, _, rfl, HI.out, (Step.below HB.out).trans HS1.out, by rw [HE.out], by rw [HE.out], Nat.le_refl _⟩
theorem trunc_any (p : ByteArray) (hp : p.size ≤ 1000000) (z : Int) (h : Inv L ρ n S w) (hk : ((S.dirs false).map (·.1)).Nodup) (hd : S.down = false) (hfl : S.flt (S.ops + 1) = 0) (hn : n + 3 ≤ 100000) :
    Calls Tryd.prog 9 #[.pointer (some ⟨L.b, 0, none⟩), .string p, .int .i64 z] w (OutQ L ρ w (truncZ S p.data.toList z) (n + 3)) := by
  have hA := (h.alloc (.cells #[.pointer (some ⟨L.b, 0, none⟩)] 23)).alloc (.cells #[.int .i64 z] 3)
  have hb1 : Below w.heap.size w ((w.alloc (.cells #[.pointer (some ⟨L.b, 0, none⟩)] 23)).alloc (.cells #[.int .i64 z] 3)) := ((Below.refl _ _).alloc (Nat.le_refl _) _).alloc (by simp) _
  have hx : (w.alloc (.cells #[.pointer (some ⟨L.b, 0, none⟩)] 23)).cell? ⟨w.heap.size, 0, none⟩ = some (.pointer (some ⟨L.b, 0, none⟩)) := by simp
  have hx2 := cell_alloc hx (.cells #[.int .i64 z] 3)
  have hy : ((w.alloc (.cells #[.pointer (some ⟨L.b, 0, none⟩)] 23)).alloc (.cells #[.int .i64 z] 3)).cell? ⟨w.heap.size + 1, 0, none⟩ = some (.int .i64 z) := by
    rw [World.cell?_alloc_at _ _ _ _ (by simp)]; rfl
  have r1 := h.old w.heap.size (Nat.le_refl _)
  have r2 := h.old (w.heap.size + 1) (Nat.le_succ _)
  have hC := callOn_Trunc1 (.pointer (some ⟨w.heap.size + 1, 0, none⟩)) (.pointer (some ⟨w.heap.size, 0, none⟩)) p hp hA hd hfl (by omega) (Q := IsR (truncZ S p.data.toList z) (n + 3))
    (fun hq w1 _ => ⟨by unfold truncZ; rw [hq], by omega⟩)
    (fun i hq w1 hI1 hS1 _ => by
      refine (trunc1_any i z (w.heap.size + 1) w.heap.size hI1 hk (findL_ne hq) (findL_nf hI1 (s := false) hq) (step_cell hS1 r2 hy) (step_cell hS1 r1 hx2) (by omega)).mono fun e w2 hq2 => ?_
      obtain ⟨x, L', ρ', n', S', he, hI, hS, rfl, rfl, hn'⟩ := hq2
      exact ⟨_, L', ρ', n', _, he, hI, hS, by unfold truncZ; rw [hq], by omega⟩)
  have HC := Lib.hid hC; have HB1 := Lib.hid hb1
  clear hC hA hb1 hx hx2 hy h hd hfl r1 r2
  go_enter Tryd.func9, Tryd.ntmps9
  go_wp2_with (go_at_call 19; (with_reducible refine HC.out.mono ?_); rintro e w1 ⟨x, L', ρ', n', S', rfl, hI, hS, hQ⟩; have HI := Lib.hid hI; have HS := Lib.hid hS; have HQ := Lib.hid hQ; clear hI hS hQ)
  go_ret
  exact out_of ⟨x, L', ρ', n', S', rfl, HI.out, (Step.below HB1.out).trans HS.out, HQ.out⟩

/-! ### Read, of a file that is there, at an offset and a length that are not negative -/
def readL (S : DS) (i : Nat) (o m : Int) : List UInt8 := ((S.con false i).drop o.toNat).take m.toNat
set_option maxRecDepth 100000 in
theorem bys_part {v : Value} {l : List UInt8} (h : Bys w v l) (k m : Nat) (hk : k + m ≤ l.length) (a : Option Addr) (cap : Nat) (hv : ∃ g c, v = .slice (some ⟨g, 0, none⟩) l.length c ∧ a = some ⟨g, k, none⟩) :
    (convert 30 9 (.slice a m cap)).run Tryd.prog w = .ok (.string (bz ((l.drop k).take m))) w := by
  obtain ⟨g, c, rfl, rfl⟩ := hv
  rcases bys_cases h with ⟨e, _⟩ | ⟨g', cap', cur, e, hg, h1, h2, h3, h4⟩
  · cases e
  · injection e with e1 _ _
    injection e1 with e1
    injection e1 with e1
    subst e1
    have hl : ((l.drop k).take m).length = m := by rw [List.length_take, List.length_drop]; omega
    have := run_convert_bytes_back (P := Tryd.prog) w 30 9 5 ⟨g, k, none⟩ cap ((l.drop k).take m) (by kernel_rfl) (by kernel_rfl) (by kernel_rfl) (fun j hj => by
      have hj' : j < m := by omega
      rw [Addr.add_lit, cell_of_row w g (k + j) cur 5 (0, 0) hg]
      have e : (cur.toList.take l.length)[k + j]? = (Lib.byteCells l)[k + j]? := by rw [h4]
      rw [List.getElem?_take_of_lt (by omega)] at e
      simp only [Lib.byteCells, List.getElem?_map, List.getElem?_eq_getElem (show k + j < l.length by omega), Option.map_some] at e
      rw [List.getElem_take, List.getElem_drop]
      simpa using e)
    rw [hl] at this
    exact this
end Go.Proofs.YtcpkbklnlnoonaaDoor
