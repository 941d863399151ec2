/-
  Layer 7: Write: what it does inside a counted call, and the call. Condition: the sizes that the invariant holds; the paths of the visible state are distinct.
-/
import Derived.Test.YtcpkbklnlnoonaaDoorDskOps2
namespace Go.Proofs.YtcpkbklnlnoonaaDoor
open Go.RowKit
variable {L : Loc} {ρ ρ' : Nat → Option Role} {n : Nat} {S : DS} {w w' : World}

def writeIn (S : DS) (i : Nat) (o : Int) (d : List UInt8) : Int × DS :=
  if o < 0 ∨ 4000000 - (d.length : Int) < o then (3, S) else if d = [] then (0, S) else if excB S i (o + (d.length : Int)) = true then (31, S) else (0, perfS (.write i o.toNat d) S)
def writeZ (S : DS) (p : List UInt8) (o : Int) (d : List UInt8) : Int × DS := match findL (S.dirs false) p with
  | none => (cutE (begS S) 8, begS S)
  | some i => (cutE (writeIn (begS S) i o d).2 (writeIn (begS S) i o d).1, (writeIn (begS S) i o d).2)

set_option maxHeartbeats 2000000 in
theorem write1_any (i : Nat) (o : Int) (d : ByteArray) (b1 b2 b3 : Nat) (h : Inv L ρ n S w) (hk : ((S.dirs false).map (·.1)).Nodup) (hne : S.dirs false ≠ []) (hi : i < S.nf) (ho1 : -9223372036854775808 ≤ o) (ho2 : o ≤ 9223372036854775807) (hd : d.size ≤ 4611686018427387904)
    (h1 : w.cell? ⟨b1, 0, none⟩ = some (.int .i64 o)) (h2 : w.cell? ⟨b2, 0, none⟩ = some (.string d)) (h3 : w.cell? ⟨b3, 0, none⟩ = some (.pointer (some ⟨L.b, 0, none⟩))) (hn : n + 2 ≤ 100000) :
    Calls Tryd.prog 20 #[.pointer (some ⟨L.F i, 0, none⟩), .pointer (some ⟨b1, 0, none⟩), .pointer (some ⟨b2, 0, none⟩), .pointer (some ⟨b3, 0, none⟩)] w (PostQ L ρ w (fun x S' n' _ => x = (writeIn S i o d.data.toList).1 ∧ S' = (writeIn S i o d.data.toList).2 ∧ n' ≤ n + 2)) := by
  have HH := Lib.hid h
  have hdl : d.data.toList.length = d.size := by simp
  by_cases hr : o < 0 ∨ 4000000 - (d.size : Int) < o
  · have HE := Lib.hid (show writeIn S i o d.data.toList = (3, S) by unfold writeIn; rw [hdl, if_pos hr])
    have e1 : IntKind.i64.wrap (4000000 - (d.size : Int)) = 4000000 - (d.size : Int) := IntWalk.i64_in _ ⟨by omega, by omega⟩
    clear h hk hne hdl
    rcases hr with hr | hr
    · go_enter Tryd.func20, Tryd.ntmps20
      go_wp2
      all_goals go_ret
      all_goals exact ⟨3, L, ρ, n, S, rfl, HH.out, Step.refl _ _ _, by rw [HE.out], by rw [HE.out], Nat.le_add_right _ _⟩
    · go_enter Tryd.func20, Tryd.ntmps20
      go_wp2
      all_goals go_ret
      all_goals exact ⟨3, L, ρ, n, S, rfl, HH.out, Step.refl _ _ _, by rw [HE.out], by rw [HE.out], Nat.le_add_right _ _⟩
  have hr1 : 0 ≤ o := by omega
  have hr2 : o ≤ 4000000 - (d.size : Int) := by omega
  have e1 : IntKind.i64.wrap (4000000 - (d.size : Int)) = 4000000 - (d.size : Int) := IntWalk.i64_in _ ⟨by omega, by omega⟩
  have u1 : decide (o < 0) = false := decide_eq_false (by omega)
  have u2 : decide (4000000 - (d.size : Int) < o) = false := decide_eq_false (by omega)
  by_cases h0 : d.size = 0
  · have hn0 : d.data.toList = [] := List.eq_nil_of_length_eq_zero (by omega)
    have HE := Lib.hid (show writeIn S i o d.data.toList = (0, S) by unfold writeIn; rw [hdl, if_neg hr, if_pos hn0])
    have t1 : (d.toList == []) = true := beq_iff_eq.2 (by rw [ByteArray.toList_eq]; exact hn0)
    clear h hk hne hdl h0 hn0 hr
    go_enter Tryd.func20, Tryd.ntmps20
    go_wp2
    all_goals go_ret
    all_goals exact ⟨0, L, ρ, n, S, rfl, HH.out, Step.refl _ _ _, by rw [HE.out], by rw [HE.out], Nat.le_add_right _ _⟩
  have hn0 : d.data.toList ≠ [] := fun e => h0 (by rw [← hdl, e]; rfl)
  have t1 : (d.toList == []) = false := beq_eq_false_iff_ne.2 (by rw [ByteArray.toList_eq]; exact hn0)
  have e2 : IntKind.i64.wrap (o + (d.size : Int)) = o + (d.size : Int) := IntWalk.i64_in _ ⟨by omega, by omega⟩
  have HX := Lib.hid (exceeds_any h hk hne i hi (o + (d.size : Int)) (by omega) (by omega))
  cases hx : excB S i (o + (d.size : Int)) with
  | true =>
    have HE := Lib.hid (show writeIn S i o d.data.toList = (31, S) by unfold writeIn; rw [hdl, if_neg hr, if_neg hn0, if_pos hx])
    rw [hx] at HX
    clear h hk hne hdl h0 hn0 hr hx
    go_enter Tryd.func20, Tryd.ntmps20
    go_wp2_with (go_at_call 21; (with_reducible refine HX.out.mono ?_); rintro e w1 ⟨rfl, hb⟩; have HB := Lib.hid hb; clear hb)
    all_goals go_ret
    all_goals exact ⟨31, L, ρ, n, S, rfl, HH.out.below HB.out, Step.below HB.out, by rw [HE.out], by rw [HE.out], Nat.le_add_right _ _⟩
  | false =>
    have HE := Lib.hid (show writeIn S i o d.data.toList = (0, perfS (.write i o.toNat d.data.toList) S) by unfold writeIn; rw [hdl, if_neg hr, if_neg hn0, if_neg (by rw [hx]; simp)])
    rw [hx] at HX
    have hok : (Chg.write i o.toNat d.data.toList).Ok S.nf := ⟨hi, by rw [hdl]; omega⟩
    have hcl : (Chg.write i o.toNat d.data.toList).cells L.F = [.int .i64 2, .string ⟨#[]⟩, .pointer (some ⟨L.F i, 0, none⟩), .int .i64 o, .string d] := by
      simp only [Chg.cells, bz_back]
      rw [show ((o.toNat : Nat) : Int) = o by omega]
      rfl
    have HCL := Lib.hid hcl; have HOK := Lib.hid hok
    have HN := Lib.hid hn
    have hl1 := World.block_lt_of_cell? w _ h1
    have hl2 := World.block_lt_of_cell? w _ h2
    have hl3 := World.block_lt_of_cell? w _ h3
    have H1 := Lib.hid h1; have H2 := Lib.hid h2; have H3 := Lib.hid h3
    clear h hk hne hdl h0 hn0 hr hx hok hcl
    go_enter Tryd.func20, Tryd.ntmps20
    go_wp2_with (first
      | (go_at_call 21; (with_reducible refine HX.out.mono ?_); rintro e w1 ⟨rfl, hb⟩
         have HB := Lib.hid hb
         have k1 : w1.cell? ⟨b1, 0, none⟩ = some (.int .i64 o) := (hb.cell hl1).trans H1.out
         have k2 : w1.cell? ⟨b2, 0, none⟩ = some (.string d) := (hb.cell hl2).trans H2.out
         have k3 : w1.cell? ⟨b3, 0, none⟩ = some (.pointer (some ⟨L.b, 0, none⟩)) := (hb.cell hl3).trans H3.out
         have HC := Lib.hid (perform_lit (.write i o.toNat d.data.toList) 2 ⟨#[]⟩ (some ⟨L.F i, 0, none⟩) o d HCL.out (HH.out.below hb) HOK.out HN.out)
         clear hb)
      | (go_at_call 18; (with_reducible refine HC.out.mono ?_); rintro e w2 ⟨rfl, L', ρ', hI, hS1, hF1⟩; have HI := Lib.hid hI; have HS1 := Lib.hid hS1; clear hI hS1 hF1))
    all_goals go_ret
    all_goals exact ⟨0, L', ρ', _, _, rfl, HI.out, (Step.below HB.out).trans HS1.out, by rw [HE.out], by rw [HE.out], Nat.le_refl _⟩
theorem findL_ne {l : List (List UInt8 × Nat)} {p : List UInt8} {i : Nat} (h : findL l p = some i) : l ≠ [] := fun e => by rw [e] at h; cases h
theorem write_any (p : ByteArray) (hp : p.size ≤ 1000000) (o : Int) (ho1 : -9223372036854775808 ≤ o) (ho2 : o ≤ 9223372036854775807) (d : ByteArray) (hd' : d.size ≤ 4611686018427387904) (h : Inv L ρ n S w) (hk : ((S.dirs false).map (·.1)).Nodup) (hd : S.down = false) (hfl : S.flt (S.ops + 1) = 0) (hn : n + 3 ≤ 100000) :
    Calls Tryd.prog 7 #[.pointer (some ⟨L.b, 0, none⟩), .string p, .int .i64 o, .string d] w (OutQ L ρ w (writeZ S p.data.toList o d.data.toList) (n + 3)) := by
  have hA := ((h.alloc (.cells #[.pointer (some ⟨L.b, 0, none⟩)] 23)).alloc (.cells #[.int .i64 o] 3)).alloc (.cells #[.string d] 9)
  have hb1 : Below w.heap.size w (((w.alloc (.cells #[.pointer (some ⟨L.b, 0, none⟩)] 23)).alloc (.cells #[.int .i64 o] 3)).alloc (.cells #[.string d] 9)) := (((Below.refl _ _).alloc (Nat.le_refl _) _).alloc (by simp) _).alloc (by simp; omega) _
  have hx : (w.alloc (.cells #[.pointer (some ⟨L.b, 0, none⟩)] 23)).cell? ⟨w.heap.size, 0, none⟩ = some (.pointer (some ⟨L.b, 0, none⟩)) := by simp
  have hx2 := cell_alloc (cell_alloc hx (.cells #[.int .i64 o] 3)) (.cells #[.string d] 9)
  have hy : ((w.alloc (.cells #[.pointer (some ⟨L.b, 0, none⟩)] 23)).alloc (.cells #[.int .i64 o] 3)).cell? ⟨w.heap.size + 1, 0, none⟩ = some (.int .i64 o) := by
    rw [World.cell?_alloc_at _ _ _ _ (by simp)]; rfl
  have hy2 := cell_alloc hy (.cells #[.string d] 9)
  have hz : (((w.alloc (.cells #[.pointer (some ⟨L.b, 0, none⟩)] 23)).alloc (.cells #[.int .i64 o] 3)).alloc (.cells #[.string d] 9)).cell? ⟨w.heap.size + 1 + 1, 0, none⟩ = some (.string d) := by
    rw [World.cell?_alloc_at _ _ _ _ (by simp)]; rfl
  have r1 := h.old w.heap.size (Nat.le_refl _)
  have r2 := h.old (w.heap.size + 1) (Nat.le_succ _)
  have r3 := h.old (w.heap.size + 1 + 1) (by omega)
  have hC := callOn_Write1 (.pointer (some ⟨w.heap.size + 1, 0, none⟩)) (.pointer (some ⟨w.heap.size + 1 + 1, 0, none⟩)) (.pointer (some ⟨w.heap.size, 0, none⟩)) p hp hA hd hfl (by omega) (Q := IsR (writeZ S p.data.toList o d.data.toList) (n + 3))
    (fun hq w1 _ => ⟨by unfold writeZ; rw [hq], by omega⟩)
    (fun i hq w1 hI1 hS1 _ => by
      refine (write1_any i o d (w.heap.size + 1) (w.heap.size + 1 + 1) w.heap.size hI1 hk (findL_ne hq) (findL_nf hI1 (s := false) hq) ho1 ho2 hd' (step_cell hS1 r2 hy2) (step_cell hS1 r3 hz) (step_cell hS1 r1 hx2) (by omega)).mono fun e w2 hq2 => ?_
      obtain ⟨x, L', ρ', n', S', he, hI, hS, rfl, rfl, hn'⟩ := hq2
      exact ⟨_, L', ρ', n', _, he, hI, hS, by unfold writeZ; rw [hq], by omega⟩)
  have HC := Lib.hid hC; have HB1 := Lib.hid hb1
  clear hC hA hb1 hx hx2 hy hy2 hz h hd hfl r1 r2 r3
  go_enter Tryd.func7, Tryd.ntmps7
  go_wp2_with (go_at_call 19; (with_reducible refine HC.out.mono ?_); rintro e w1 ⟨x, L', ρ', n', S', rfl, hI, hS, hQ⟩; have HI := Lib.hid hI; have HS := Lib.hid hS; have HQ := Lib.hid hQ; clear hI hS hQ)
  go_ret
  exact out_of ⟨x, L', ρ', n', S', rfl, HI.out, (Step.below HB1.out).trans HS.out, HQ.out⟩
end Go.Proofs.YtcpkbklnlnoonaaDoor
