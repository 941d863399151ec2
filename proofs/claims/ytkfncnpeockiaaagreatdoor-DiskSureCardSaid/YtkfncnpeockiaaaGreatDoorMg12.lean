/-
  Layer 7: Truncate and Read: what they do inside a counted call, and the calls. Condition: the sizes that the invariant holds; the paths of the visible state are distinct.
  Layer 7: Read of a file that is there, at an offset and a length that are not negative: the bytes from the offset on, as far as the file reaches. Condition: the sizes that the invariant holds; no crash at this call.
  Layer 7: settle with the choice that DirSync makes: the pending changes of the directory become durable, in order, the others stay pending. Condition: the sizes that the invariant holds.
  Layer 7: Delete and DirSync: what they do inside a counted call, and the calls; Size, Down, CrashAt. Condition: the sizes that the invariant holds.
-/
import Derived.Test.YtkfncnpeockiaaaGreatDoorMg10
import Derived.Test.YtkfncnpeockiaaaGreatDoorMg7
namespace Go.Proofs.YtkfncnpeockiaaaGreatDoor
open Go.RowKit
variable {L : Loc} {ρ ρ' : Nat → Option Role} {n : Nat} {S : DS} {w w' : World}

/-! ### Truncate -/
def truncIn (S : DS) (i : Nat) (z : Int) : Int × DS :=
  if z < 0 ∨ 4000000 < z then (3, S) else if excB S i z = true then (31, S) else (0, perfS (.trunc i z.toNat) S)
def truncZ (S : DS) (p : List UInt8) (z : Int) : Int × DS := match findL (S.dirs false) p with
  | none => (cutE (begS S) 8, begS S)
  | some i => (cutE (truncIn (begS S) i z).2 (truncIn (begS S) i z).1, (truncIn (begS S) i z).2)
set_option maxHeartbeats 2000000 in
theorem trunc1_any (i : Nat) (z : Int) (b1 b2 : Nat) (h : Inv L ρ n S w) (hk : ((S.dirs false).map (·.1)).Nodup) (hne : S.dirs false ≠ []) (hi : i < S.nf)
    (h1 : w.cell? ⟨b1, 0, none⟩ = some (.int .i64 z)) (h2 : w.cell? ⟨b2, 0, none⟩ = some (.pointer (some ⟨L.b, 0, none⟩))) (hn : n + 2 ≤ 100000) :
    Calls Tryz.prog 59 #[.pointer (some ⟨L.F i, 0, none⟩), .pointer (some ⟨b1, 0, none⟩), .pointer (some ⟨b2, 0, none⟩)] w (PostQ L ρ w (fun x S' n' _ => x = (truncIn S i z).1 ∧ S' = (truncIn S i z).2 ∧ n' ≤ n + 2)) := by
  have HH := Lib.hid h
  by_cases hr : z < 0 ∨ 4000000 < z
  · have HE := Lib.hid (show truncIn S i z = (3, S) by unfold truncIn; rw [if_pos hr])
    clear h hk hne
    rcases hr with hr | hr
    · go_enter Tryz.func59, Tryz.ntmps59
      go_wp2
      all_goals go_ret
      all_goals exact ⟨3, L, ρ, n, S, rfl, HH.out, Step.refl _ _ _, by rw [HE.out], by rw [HE.out], Nat.le_add_right _ _⟩
    · go_enter Tryz.func59, Tryz.ntmps59
      go_wp2
      all_goals go_ret
      all_goals exact ⟨3, L, ρ, n, S, rfl, HH.out, Step.refl _ _ _, by rw [HE.out], by rw [HE.out], Nat.le_add_right _ _⟩
  have hr1 : 0 ≤ z := by omega
  have hr2 : z ≤ 4000000 := by omega
  have u1 : decide (z < 0) = false := decide_eq_false (by omega)
  have u2 : decide (4000000 < z) = false := decide_eq_false (by omega)
  have HX := Lib.hid (exceeds_any h hk hne i hi z hr1 (by omega))
  cases hx : excB S i z with
  | true =>
    have HE := Lib.hid (show truncIn S i z = (31, S) by unfold truncIn; rw [if_neg hr, if_pos hx])
    rw [hx] at HX
    clear h hk hne hr hx
    go_enter Tryz.func59, Tryz.ntmps59
    go_wp2_with (go_at_call 58; (with_reducible refine HX.out.mono ?_); rintro e w1 ⟨rfl, hb⟩; have HB := Lib.hid hb; clear hb)
    all_goals go_ret
    all_goals exact ⟨31, L, ρ, n, S, rfl, HH.out.below HB.out, Step.below HB.out, by rw [HE.out], by rw [HE.out], Nat.le_add_right _ _⟩
  | false =>
    have HE := Lib.hid (show truncIn S i z = (0, perfS (.trunc i z.toNat) S) by unfold truncIn; rw [if_neg hr, if_neg (by rw [hx]; simp)])
    rw [hx] at HX
    have hok : (Chg.trunc i z.toNat).Ok S.nf := ⟨hi, by omega⟩
    have hcl : (Chg.trunc i z.toNat).cells L.F = [.int .i64 3, .string ⟨#[]⟩, .pointer (some ⟨L.F i, 0, none⟩), .int .i64 z, .string ⟨#[]⟩] := by
      simp only [Chg.cells]
      rw [show ((z.toNat : Nat) : Int) = z by omega]
      rfl
    have HCL := Lib.hid hcl; have HOK := Lib.hid hok
    have HN := Lib.hid hn
    have hl1 := World.block_lt_of_cell? w _ h1
    have hl2 := World.block_lt_of_cell? w _ h2
    have H1 := Lib.hid h1; have H2 := Lib.hid h2
    clear h hk hne hr hx hok hcl
    go_enter Tryz.func59, Tryz.ntmps59
    go_wp2_with (first
      | (go_at_call 58; (with_reducible refine HX.out.mono ?_); rintro e w1 ⟨rfl, hb⟩
         have HB := Lib.hid hb
         have k1 : w1.cell? ⟨b1, 0, none⟩ = some (.int .i64 z) := (hb.cell hl1).trans H1.out
         have k2 : w1.cell? ⟨b2, 0, none⟩ = some (.pointer (some ⟨L.b, 0, none⟩)) := (hb.cell hl2).trans H2.out
         have HC := Lib.hid (perform_lit (.trunc i z.toNat) 3 ⟨#[]⟩ (some ⟨L.F i, 0, none⟩) z ⟨#[]⟩ HCL.out (HH.out.below hb) HOK.out HN.out)
         clear hb)
      | (go_at_call 55; (with_reducible refine HC.out.mono ?_); rintro e w2 ⟨rfl, L', ρ', hI, hS1, hF1⟩; have HI := Lib.hid hI; have HS1 := Lib.hid hS1; clear hI hS1 hF1))
    all_goals go_ret
    all_goals exact ⟨0, L', ρ', _, _, rfl, HI.out, (Step.below HB.out).trans HS1.out, by rw [HE.out], by rw [HE.out], Nat.le_refl _⟩
theorem trunc_any (p : ByteArray) (hp : p.size ≤ 1000000) (z : Int) (h : Inv L ρ n S w) (hk : ((S.dirs false).map (·.1)).Nodup) (hd : S.down = false) (hfl : S.flt (S.ops + 1) = 0) (hn : n + 3 ≤ 100000) :
    Calls Tryz.prog 25 #[.pointer (some ⟨L.b, 0, none⟩), .string p, .int .i64 z] w (OutQ L ρ w (truncZ S p.data.toList z) (n + 3)) := by
  have hA := (h.alloc (.cells #[.pointer (some ⟨L.b, 0, none⟩)] 25)).alloc (.cells #[.int .i64 z] 3)
  have hb1 : Below w.heap.size w ((w.alloc (.cells #[.pointer (some ⟨L.b, 0, none⟩)] 25)).alloc (.cells #[.int .i64 z] 3)) := ((Below.refl _ _).alloc (Nat.le_refl _) _).alloc (by simp) _
  have hx : (w.alloc (.cells #[.pointer (some ⟨L.b, 0, none⟩)] 25)).cell? ⟨w.heap.size, 0, none⟩ = some (.pointer (some ⟨L.b, 0, none⟩)) := by simp
  have hx2 := cell_alloc hx (.cells #[.int .i64 z] 3)
  have hy : ((w.alloc (.cells #[.pointer (some ⟨L.b, 0, none⟩)] 25)).alloc (.cells #[.int .i64 z] 3)).cell? ⟨w.heap.size + 1, 0, none⟩ = some (.int .i64 z) := by
    rw [World.cell?_alloc_at _ _ _ _ (by simp)]; rfl
  have r1 := h.old w.heap.size (Nat.le_refl _)
  have r2 := h.old (w.heap.size + 1) (Nat.le_succ _)
  have hC := callOn_Trunc1 (.pointer (some ⟨w.heap.size + 1, 0, none⟩)) (.pointer (some ⟨w.heap.size, 0, none⟩)) p hp hA hd hfl (by omega) (Q := IsR (truncZ S p.data.toList z) (n + 3))
    (fun hq w1 _ => ⟨by unfold truncZ; rw [hq], by omega⟩)
    (fun i hq w1 hI1 hS1 _ => by
      refine (trunc1_any i z (w.heap.size + 1) w.heap.size hI1 hk (findL_ne hq) (findL_nf hI1 (s := false) hq) (step_cell hS1 r2 hy) (step_cell hS1 r1 hx2) (by omega)).mono fun e w2 hq2 => ?_
      obtain ⟨x, L', ρ', n', S', he, hI, hS, rfl, rfl, hn'⟩ := hq2
      exact ⟨_, L', ρ', n', _, he, hI, hS, by unfold truncZ; rw [hq], by omega⟩)
  have HC := Lib.hid hC; have HB1 := Lib.hid hb1
  clear hC hA hb1 hx hx2 hy h hd hfl r1 r2
  go_enter Tryz.func25, Tryz.ntmps25
  go_wp2_with (go_at_call 38; (with_reducible refine HC.out.mono ?_); rintro e w1 ⟨x, L', ρ', n', S', rfl, hI, hS, hQ⟩; have HI := Lib.hid hI; have HS := Lib.hid hS; have HQ := Lib.hid hQ; clear hI hS hQ)
  go_ret
  exact out_of ⟨x, L', ρ', n', S', rfl, HI.out, (Step.below HB1.out).trans HS.out, HQ.out⟩

/-! ### Read, of a file that is there, at an offset and a length that are not negative -/
def readL (S : DS) (i : Nat) (o m : Int) : List UInt8 := ((S.con false i).drop o.toNat).take m.toNat
set_option maxRecDepth 100000 in
theorem bys_part {v : Value} {l : List UInt8} (h : Bys w v l) (k m : Nat) (hk : k + m ≤ l.length) (a : Option Addr) (cap : Nat) (hv : ∃ g c, v = .slice (some ⟨g, 0, none⟩) l.length c ∧ a = some ⟨g, k, none⟩) :
    (convert 79 9 (.slice a m cap)).run Tryz.prog w = .ok (.string (bz ((l.drop k).take m))) w := by
  obtain ⟨g, c, rfl, rfl⟩ := hv
  rcases bys_cases h with ⟨e, _⟩ | ⟨g', cap', cur, e, hg, h1, h2, h3, h4⟩
  · cases e
  · injection e with e1 _ _
    injection e1 with e1
    injection e1 with e1
    subst e1
    have hl : ((l.drop k).take m).length = m := by rw [List.length_take, List.length_drop]; omega
    have := run_convert_bytes_back (P := Tryz.prog) w 79 9 5 ⟨g, k, none⟩ cap ((l.drop k).take m) (by kernel_rfl) (by kernel_rfl) (by kernel_rfl) (fun j hj => by
      have hj' : j < m := by omega
      rw [Addr.add_lit, cell_of_row w g (k + j) cur 5 (0, 0) hg]
      have e : (cur.toList.take l.length)[k + j]? = (Lib.byteCells l)[k + j]? := by rw [h4]
      rw [List.getElem?_take_of_lt (by omega)] at e
      simp only [Lib.byteCells, List.getElem?_map, List.getElem?_eq_getElem (show k + j < l.length by omega), Option.map_some] at e
      rw [List.getElem_take, List.getElem_drop]
      simpa using e)
    rw [hl] at this
    exact this
end Go.Proofs.YtkfncnpeockiaaaGreatDoor

namespace Go.Proofs.YtkfncnpeockiaaaGreatDoor
open Go.RowKit
variable {L : Loc} {ρ ρ' : Nat → Option Role} {n : Nat} {S : DS} {w w' : World}

/-- A box of ours gets a part of its own: that of a file that is none. -/
theorem inv_addbox (h : Inv L ρ n S w) (b : Nat) (hb : b < w.heap.size) (hr : ρ b = none) : Inv L (updN ρ b (some (.file S.nf))) n S w := by
  have hx : ∀ k r, ρ k = some r → updN ρ b (some (.file S.nf)) k = some r := fun k r hk => by
    unfold updN
    rw [if_neg (fun e => by subst e; rw [hr] at hk; cases hk)]; exact hk
  exact {
    hb := hx _ _ h.hb
    blk := h.blk
    mp := fun t => mapI_keep (h.mp t) (fun _ _ => rfl) hx
    flt := fltI_keep h.flt (fun _ _ => rfl) hx
    pnd := h.pnd
    pro := fun g hg => hx _ _ (h.pro g hg)
    fro := fun j hj => hx _ _ (h.fro j hj)
    fil := h.fil
    con := h.con
    cro := fun t j g hj hg => hx _ _ (h.cro t j g hj hg)
    clen := h.clen
    dok := h.dok
    pok := h.pok
    old := fun k hk => by
      unfold updN
      rw [if_neg (by omega)]; exact h.old k hk
    room := h.room
    bnd := h.bnd }
theorem inv_box (h : Inv L ρ n S w) (b : Nat) (hr : ρ b = some (.file S.nf)) (hk : ∀ g, g ≠ b → w'.heap[g]? = w.heap[g]?) (hz : w.heap.size ≤ w'.heap.size) : Inv L ρ n S w' := by
  have hkr : ∀ k r, ρ k = some r → r ≠ .file S.nf → w'.heap[k]? = w.heap[k]? := fun k r h1 h2 => hk k (fun e => by subst e; rw [hr] at h1; cases h1; exact h2 rfl)
  have hf : ∀ j, j < S.nf → Role.file j ≠ .file S.nf := fun j hj e => by injection e with e; omega
  exact {
    hb := h.hb
    blk := (hkr _ _ h.hb (by simp)).trans h.blk
    mp := fun t => mapI_keep (h.mp t) (fun g hg => hkr g _ hg (by simp)) (fun _ _ h => h)
    flt := fltI_keep h.flt (fun g hg => hkr g _ hg (by simp)) (fun _ _ h => h)
    pnd := row_keep h.pnd (fun g hg => hkr g _ (h.pro g hg) (by simp))
    pro := h.pro
    fro := h.fro
    fil := fun j hj => (hkr _ _ (h.fro j hj) (hf j hj)).trans (h.fil j hj)
    con := fun t j hj => row_keep (h.con t j hj) (fun g hg => hkr g _ (h.cro t j g hj hg) (by simp))
    cro := h.cro
    clen := h.clen
    dok := h.dok
    pok := h.pok
    old := fun k hk' => h.old k (Nat.le_trans hz hk')
    room := h.room
    bnd := h.bnd }

theorem conv_nil (a : Option Addr) (c : Nat) (w : World) : (convert 79 9 (.slice a 0 c)).run Tryz.prog w = .ok (.string ⟨#[]⟩) w := by
  have h := run_convert_bytes_string (P := Tryz.prog) w 79 9 5 a 0 c (by kernel_rfl) (by kernel_rfl) (by kernel_rfl)
  rw [h]
  cases a <;> rfl
theorem readL_at (l : List UInt8) (o m : Int) (k q : Nat) (hk : (k : Int) = min o l.length) (ho : 0 ≤ o) (hm : 0 ≤ m) (hq : (q : Int) = min m ((l.length - k : Nat) : Int)) : (l.drop o.toNat).take m.toNat = (l.drop k).take q := by
  by_cases h1 : o.toNat ≤ l.length
  · have e : o.toNat = k := by omega
    rw [e]
    by_cases h2 : m.toNat ≤ l.length - k
    · rw [show m.toNat = q by omega]
    · rw [List.take_of_length_le (by rw [List.length_drop]; omega), List.take_of_length_le (by rw [List.length_drop]; omega)]
  · rw [List.drop_of_length_le (by omega), List.drop_of_length_le (by omega), List.take_nil, List.take_nil]

set_option maxHeartbeats 2000000 in
set_option maxRecDepth 100000 in
theorem read1_any (i : Nat) (o m : Int) (b1 b2 b3 : Nat) (old : Value) (h : Inv L ρ n S w) (hi : i < S.nf) (ho : 0 ≤ o) (hm : 0 ≤ m) (ho2 : o ≤ 9223372036854775807) (hm2 : m ≤ 9223372036854775807)
    (h1 : w.cell? ⟨b1, 0, none⟩ = some (.int .i64 o)) (h2 : w.cell? ⟨b2, 0, none⟩ = some (.int .i64 m)) (h3 : w.cell? ⟨b3, 0, none⟩ = some old) (f3 : w.frozen? ⟨b3, 0, none⟩ = false) (hr : ρ b3 = some (.file S.nf)) :
    Calls Tryz.prog 52 #[.pointer (some ⟨L.F i, 0, none⟩), .pointer (some ⟨b1, 0, none⟩), .pointer (some ⟨b2, 0, none⟩), .pointer (some ⟨b3, 0, none⟩)] w (PostQ L ρ w (fun x S' n' w' => x = 0 ∧ S' = S ∧ n' = n ∧ w'.cell? ⟨b3, 0, none⟩ = some (.string (bz (readL S i o m))))) := by
  have hfin : ∀ s : ByteArray, s = bz (readL S i o m) → PostQ L ρ w (fun x S' n' w' => x = 0 ∧ S' = S ∧ n' = n ∧ w'.cell? ⟨b3, 0, none⟩ = some (.string (bz (readL S i o m)))) (.returned (.int .i64 0)) (w.setCell ⟨b3, 0, none⟩ (.string s)) := by
    rintro s rfl
    have hk : ∀ g, g ≠ b3 → (w.setCell ⟨b3, 0, none⟩ (.string (bz (readL S i o m)))).heap[g]? = w.heap[g]? := setCell_keep _ _ _ _
    have hz := size_setCell' w ⟨b3, 0, none⟩ (.string (bz (readL S i o m)))
    exact ⟨0, L, ρ, n, S, rfl, inv_box h b3 hr hk (Nat.le_of_eq hz.symm), ⟨rfl, rfl, rfl, Nat.le_of_eq hz.symm, fun k _ hk' => hk k (fun e => by subst e; rw [hr] at hk'; cases hk'), fun _ _ => rfl, rfl⟩, rfl, rfl, rfl, World.cell?_setCell_same' _ _ _ (by rw [h3]; rfl)⟩
  have HFIN := Lib.hid hfin
  have v0 := blk_cell (h.fil i hi) 0 rfl
  have u1 : decide (o < 0) = false := decide_eq_false (by omega)
  have u2 : decide (m < 0) = false := decide_eq_false (by omega)
  have hcl := h.clen false i hi
  have hcon := h.con false i hi
  rcases bys_cases hcon with ⟨hv, hl⟩ | ⟨g, cap, cur, hv, hg, c1, c2, c3, c4⟩
  · rw [hv] at v0
    have HQ := Lib.hid (hfin ⟨#[]⟩ (by unfold readL; rw [hl, List.drop_nil, List.take_nil]; rfl))
    have m1 : min o (0 : Int) = 0 := by omega
    have m2 : min m (0 : Int) = 0 := by omega
    have hcv := conv_nil none 0
    clear hfin HFIN hcon hl hv h
    go_enter Tryz.func52, Tryz.ntmps52
    go_wp2
    go_ret
    exact HQ.out
  · rw [hv] at v0
    obtain ⟨k, hk⟩ : ∃ k : Nat, (k : Int) = min o ((S.con false i).length : Int) := ⟨(min o ((S.con false i).length : Int)).toNat, by omega⟩
    have hkl : k ≤ (S.con false i).length := by omega
    obtain ⟨q, hq⟩ : ∃ q : Nat, (q : Int) = min m (((S.con false i).length - k : Nat) : Int) := ⟨(min m (((S.con false i).length - k : Nat) : Int)).toNat, by omega⟩
    have hql : k + q ≤ (S.con false i).length := by omega
    have hread := readL_at (S.con false i) o m k q hk ho hm hq
    have hcv := bys_part hcon k q hql (some ⟨g, k, none⟩) (cap - k) ⟨g, cap, hv, rfl⟩
    have HQ := Lib.hid (hfin (bz (((S.con false i).drop k).take q)) (by unfold readL; rw [hread]))
    have hce := conv_nil
    have HE := Lib.hid (show q = 0 → bz (((S.con false i).drop k).take q) = ⟨#[]⟩ by rintro rfl; rw [List.take_zero]; rfl)
    obtain ⟨s, hs⟩ : ∃ s, s = bz (((S.con false i).drop k).take q) := ⟨_, rfl⟩
    rw [← hs] at hcv HQ HE
    generalize (S.con false i).length = len at *
    have m1 : min o (len : Int) = (k : Int) := hk.symm
    have m2 : min m (((len - k : Nat)) : Int) = (q : Int) := hq.symm
    have n1 : (q : Int) ≤ ((len - k : Nat) : Int) := by omega
    have n2 : q ≤ cap - k := by omega
    have n3 : k ≤ cap := by omega
    clear hfin HFIN hcon hv h hread hs hk hq hg c4
    by_cases hkc : k < cap
    · have n4 : ¬ (cap - k = 0) := by omega
      clear hce HE
      go_enter Tryz.func52, Tryz.ntmps52
      go_wp2
      go_ret
      exact HQ.out
    · obtain rfl : q = 0 := by omega
      obtain rfl : len = k := by omega
      obtain rfl : len = cap := by omega
      rw [HE.out rfl] at HQ
      have m3 : min m (0 : Int) = 0 := by omega
      have e5 : len - len = 0 := Nat.sub_self _
      clear hcv m2 HE n1 n2
      go_enter Tryz.func52, Tryz.ntmps52
      go_wp2
      go_ret
      exact HQ.out
theorem cutE_up {S : DS} (h : S.down = false) (x : Int) : cutE S x = x := by unfold cutE; rw [if_neg (by rw [h]; simp)]
theorem read_any (p : ByteArray) (hp : p.size ≤ 1000000) (i : Nat) (o m : Int) (h : Inv L ρ n S w) (hfi : findL (S.dirs false) p.data.toList = some i) (ho : 0 ≤ o) (hm : 0 ≤ m) (ho2 : o ≤ 9223372036854775807) (hm2 : m ≤ 9223372036854775807) (hd : S.down = false) (hdn : (begS S).down = false) (hfl : S.flt (S.ops + 1) = 0) (hn : n + 1 ≤ 100000) :
    Calls Tryz.prog 20 #[.pointer (some ⟨L.b, 0, none⟩), .string p, .int .i64 o, .int .i64 m] w fun e w' => e = .returned (.tuple #[.string (bz (readL S i o m)), .int .i64 0]) ∧ ∃ L' ρ' n', Inv L' ρ' n' (begS S) w' ∧ Step L ρ w L' ρ' w' ∧ n' ≤ n + 1 := by
  have hA := ((h.alloc (.cells #[.int .i64 o] 3)).alloc (.cells #[.int .i64 m] 3)).alloc (.cells #[.string ⟨#[]⟩] 9)
  have hb1 : Below w.heap.size w (((w.alloc (.cells #[.int .i64 o] 3)).alloc (.cells #[.int .i64 m] 3)).alloc (.cells #[.string ⟨#[]⟩] 9)) := (((Below.refl _ _).alloc (Nat.le_refl _) _).alloc (by simp) _).alloc (by simp; omega) _
  have hx : (w.alloc (.cells #[.int .i64 o] 3)).cell? ⟨w.heap.size, 0, none⟩ = some (.int .i64 o) := by simp
  have hx2 := cell_alloc (cell_alloc hx (.cells #[.int .i64 m] 3)) (.cells #[.string ⟨#[]⟩] 9)
  have hy : ((w.alloc (.cells #[.int .i64 o] 3)).alloc (.cells #[.int .i64 m] 3)).cell? ⟨w.heap.size + 1, 0, none⟩ = some (.int .i64 m) := by
    rw [World.cell?_alloc_at _ _ _ _ (by simp)]; rfl
  have hy2 := cell_alloc hy (.cells #[.string ⟨#[]⟩] 9)
  have hz : Blk (((w.alloc (.cells #[.int .i64 o] 3)).alloc (.cells #[.int .i64 m] 3)).alloc (.cells #[.string ⟨#[]⟩] 9)) (w.heap.size + 1 + 1) 9 #[.string ⟨#[]⟩] := blk_at (by simp)
  have r1 := h.old w.heap.size (Nat.le_refl _)
  have r2 := h.old (w.heap.size + 1) (Nat.le_succ _)
  have r3 := h.old (w.heap.size + 1 + 1) (by omega)
  have hlb : L.b < w.heap.size := h.lt (by rw [h.hb]; simp)
  have hI3 := inv_addbox hA (w.heap.size + 1 + 1) (blk_lt hz) r3
  have s1 : updN ρ (w.heap.size + 1 + 1) (some (.file S.nf)) w.heap.size = none := by unfold updN; rw [if_neg (by omega)]; exact r1
  have s2 : updN ρ (w.heap.size + 1 + 1) (some (.file S.nf)) (w.heap.size + 1) = none := by unfold updN; rw [if_neg (by omega)]; exact r2
  have s3 : updN ρ (w.heap.size + 1 + 1) (some (.file S.nf)) (w.heap.size + 1 + 1) = some (.file S.nf) := by simp [updN]
  have hC := callOn_Read1 (.pointer (some ⟨w.heap.size, 0, none⟩)) (.pointer (some ⟨w.heap.size + 1, 0, none⟩)) (.pointer (some ⟨w.heap.size + 1 + 1, 0, none⟩)) p hp hI3 hd hfl hn
    (Q := fun x S' n' w' => x = 0 ∧ S' = begS S ∧ n' ≤ n + 1 ∧ w'.cell? ⟨w.heap.size + 1 + 1, 0, none⟩ = some (.string (bz (readL S i o m))))
    (fun hq => by rw [hfi] at hq; cases hq)
    (fun i' hq w1 hI1 hS1 hO1 => by
      rw [hfi] at hq
      cases hq
      have hz1 : Blk w1 (w.heap.size + 1 + 1) 9 #[.string ⟨#[]⟩] := (hO1 _ (blk_lt hz) (by omega)).trans hz
      refine (read1_any i o m w.heap.size (w.heap.size + 1) (w.heap.size + 1 + 1) (.string ⟨#[]⟩) hI1 (findL_nf h (s := false) hfi) ho hm ho2 hm2 (step_cell hS1 s1 hx2) (step_cell hS1 s2 hy2) (blk_cell hz1 0 rfl) (blk_frozen hz1 0) s3).mono fun e w2 hq2 => ?_
      obtain ⟨x, L', ρ', n', S', he, hI, hS, rfl, rfl, rfl, hc⟩ := hq2
      exact ⟨0, L', ρ', _, _, he, hI, hS, rfl, rfl, Nat.le_refl _, hc⟩)
  have HC := Lib.hid hC; have HB1 := Lib.hid hb1; have HD := Lib.hid hdn
  have HRO := Lib.hid (show ∀ k, k < w.heap.size → updN ρ (w.heap.size + 1 + 1) (some (.file S.nf)) k = ρ k from fun k hk => by unfold updN; rw [if_neg (by omega)])
  clear hC hA hb1 hx hx2 hy hy2 hz h hd hfl hdn r1 r2 r3 s1 s2 s3 hI3
  go_enter Tryz.func20, Tryz.ntmps20
  go_wp2_with (go_at_call 38; (with_reducible refine HC.out.mono ?_); rintro e w1 ⟨x, L', ρ', n', S', rfl, hI, hS, rfl, rfl, hn', hc⟩; rw [cutE_up HD.out]; have HI := Lib.hid hI; have HS := Lib.hid hS; clear hI hS)
  go_ret2
  refine ⟨rfl, L', ρ', n', HI.out, ⟨HS.out.os.trans HB1.out.os, HS.out.tape.trans HB1.out.tape, HS.out.output.trans HB1.out.output, Nat.le_trans HB1.out.size HS.out.size, fun k hk hr => ?_, fun k hk => ?_, HS.out.b⟩, hn'⟩
  · exact (HS.out.blk k (Nat.lt_of_lt_of_le hk HB1.out.size) (by rw [HRO.out k hk]; exact hr)).trans (HB1.out.block k hk)
  · exact (HS.out.ro k (Nat.lt_of_lt_of_le hk HB1.out.size)).trans (HRO.out k hk)
theorem own_trunc {b : Nat} {v : World} (h : Own w b n S v) (p : ByteArray) (hp : p.size ≤ 1000000) (z : Int) (hk : ((S.dirs false).map (·.1)).Nodup) (hd : S.down = false) (hfl : S.flt (S.ops + 1) = 0) (hn : n + 3 ≤ 100000) :
    Calls Tryz.prog 25 #[.pointer (some ⟨b, 0, none⟩), .string p, .int .i64 z] v (OwnQ w b (truncZ S p.data.toList z) (n + 3)) := by
  obtain ⟨L, ρ, hI, rfl, hr⟩ := h.ex
  exact (trunc_any p hp z hI hk hd hfl hn).mono fun _ _ hq => own_out rfl hr h.below hq
theorem own_read {b : Nat} {v : World} (h : Own w b n S v) (p : ByteArray) (hp : p.size ≤ 1000000) (i : Nat) (o m : Int) (hfi : findL (S.dirs false) p.data.toList = some i) (ho : 0 ≤ o) (hm : 0 ≤ m) (ho2 : o ≤ 9223372036854775807) (hm2 : m ≤ 9223372036854775807) (hd : S.down = false) (hdn : (begS S).down = false) (hfl : S.flt (S.ops + 1) = 0) (hn : n + 1 ≤ 100000) :
    Calls Tryz.prog 20 #[.pointer (some ⟨b, 0, none⟩), .string p, .int .i64 o, .int .i64 m] v fun e w' => e = .returned (.tuple #[.string (bz (readL S i o m)), .int .i64 0]) ∧ ∃ m', Own w b m' (begS S) w' ∧ m' ≤ n + 1 := by
  obtain ⟨L, ρ, hI, rfl, hr⟩ := h.ex
  exact (read_any p hp i o m hI hfi ho hm ho2 hm2 hd hdn hfl hn).mono fun _ _ ⟨he, L', ρ', n', hI', hS, hn'⟩ => ⟨he, n', own_step rfl hr h.below hI' hS, hn'⟩
end Go.Proofs.YtkfncnpeockiaaaGreatDoor

namespace Go.Proofs.YtkfncnpeockiaaaGreatDoor
open Go.RowKit
variable {L : Loc} {ρ ρ' : Nat → Option Role} {n : Nat} {S : DS} {w w' : World}

theorem dirsync11_any (c : Chg) (F : Nat → Nat) (w : World) : Calls Tryz.prog 45 #[.agg (c.cells F).toArray] w fun e w' => e = .returned (.bool (ofDir c)) ∧ Below w.heap.size w w' := by
  have key : ∀ (k : Int) (nm : ByteArray) (fp : Option Addr) (o : Int) (d : ByteArray) (r : Bool), (c.cells F).toArray = #[.int .i64 k, .string nm, .pointer fp, .int .i64 o, .string d] → (!(k == 2 || k == 3)) = r →
      Calls Tryz.prog 45 #[.agg (c.cells F).toArray] w fun e w' => e = .returned (.bool r) ∧ Below w.heap.size w w' := by
    intro k nm fp o d r hcl hr
    rw [hcl]
    have HB1 : Hid (Below w.heap.size w (w.alloc (.cells #[.int .i64 k, .string nm, .pointer fp, .int .i64 o, .string d] 74))) := Lib.hid ((Below.refl _ _).alloc (Nat.le_refl _) _)
    subst hr
    generalize hq : (k == 2 || k == 3) = q
    clear hcl
    go_enter Tryz.func45, Tryz.ntmps45
    go_wp2_with (go_at_call 42; (with_reducible refine (ofCont_any k nm fp o d _).mono ?_); rw [hq]; rintro e' w1 ⟨rfl, hb⟩)
    go_ret
    exact ⟨rfl, HB1.out.trans (hb.mono HB1.out.size)⟩
  cases c with
  | create nm i => exact key 0 (bz nm) (some ⟨F i, 0, none⟩) 0 (bz []) true rfl rfl
  | remove nm => exact key 1 (bz nm) none 0 (bz []) true rfl rfl
  | write i o d => exact key 2 (bz []) (some ⟨F i, 0, none⟩) o (bz d) false rfl rfl
  | trunc i z => exact key 3 (bz []) (some ⟨F i, 0, none⟩) z (bz []) false rfl rfl

set_option maxHeartbeats 4000000 in
set_option maxRecDepth 100000 in
theorem settleDir_any (h : Inv L ρ n S w) (hd : S.down = false) (hn : n + S.pend.length + 1 ≤ 100000) (g cap : Nat) (hpv : L.pv = .slice (some ⟨g, 0, none⟩) S.pend.length cap) :
    Calls Tryz.prog 40 #[.pointer (some ⟨L.b, 0, none⟩), .func (.func 45) #[] #[]] w (SetQ L ρ (n + S.pend.length) (settleS ofDir S) w) := by
  have c7 := blk_cell h.blk 7 rfl
  have c3 := blk_cell h.blk 3 rfl
  rw [hd] at c7
  rw [hpv] at c3
  have HI0 := Lib.hid (show SetI ofDir L ρ n S w 0 w from ⟨L, ρ, by rw [midS_zero]; exact h, Step.refl _ _ _, rfl, rfl⟩)
  have HPV := Lib.hid hpv
  have HN := Lib.hid hn
  have hcap : S.pend.length ≤ cap := by
    rcases prow_of h.pnd with ⟨e, _⟩ | ⟨g', cap', cur, e, hp⟩
    · rw [hpv] at e; cases e
    · rw [hpv] at e; cases e; exact hp.len
  have hcap0 : (0 : Int) ≤ cap := by omega
  obtain ⟨len, hlen⟩ : ∃ len, len = S.pend.length := ⟨_, rfl⟩
  have HL := Lib.hid hlen
  have HH := Lib.hid h
  rw [← hlen] at c3 hcap
  have hlb : len ≤ 100000 := by omega
  clear h hpv hn hd hlen
  go_enter Tryz.func40, Tryz.ntmps40
  go_wp2
  go_loopw [4, 21] (fun rest iv wr => ∃ (i k : Nat), i ≤ len ∧ k ≤ i ∧ rest = .slice (some ⟨g, 0, none⟩) k cap ∧ iv = .int .i64 i ∧ Hid (k = (keptL ofDir (S.pend.take i)).length) ∧ Hid (SetI ofDir L ρ n S w i wr)) (fun _ iv _ => len - (intOf iv).toNat)
  case atStart => exact ⟨0, 0, Nat.zero_le _, Nat.le_refl _, rfl, rfl, Lib.hid rfl, HI0⟩
  case round =>
    obtain ⟨i, k, hi, hki, rfl, rfl, hk, hI⟩ := hrel
    by_cases hlt : i < len
    · have hlt' : i < S.pend.length := by have := HL.out; omega
      obtain ⟨L1, ρ1, hI1, hS1, hF1, hpv1⟩ := hI.out
      have hb1 : L1.b = L.b := hS1.b
      have hcO : S.pend[i].Ok S.nf := HH.out.pok _ (List.getElem_mem hlt')
      have hmp := midS_pend ofDir S i (Nat.le_of_lt hlt')
      have hmi : i < (midS ofDir S i).pend.length := by omega
      have hma := midS_at ofDir S i hlt' hmi
      obtain ⟨cur, hP⟩ := prow_at hI1.pnd (hpv1.trans HPV.out)
      rw [hF1] at hP
      obtain ⟨ck, nm, fp, o, d, hcl⟩ := chg_lit L.F S.pend[i]
      have r0 := prow_cell hP i 0 hmi (by omega) (v := .int .i64 ck) (by rw [hma, hcl]; rfl)
      have r1 := prow_cell hP i 1 hmi (by omega) (v := .string nm) (by rw [hma, hcl]; rfl)
      have r2 := prow_cell hP i 2 hmi (by omega) (v := .pointer fp) (by rw [hma, hcl]; rfl)
      have r3 := prow_cell hP i 3 hmi (by omega) (v := .int .i64 o) (by rw [hma, hcl]; rfl)
      have r4 := prow_cell hP i 4 hmi (by omega) (v := .string d) (by rw [hma, hcl]; rfl)
      rw [Nat.add_zero] at r0
      have hIA := hI1.alloc (.cells #[.int .i64 ck, .string nm, .pointer fp, .int .i64 o, .string d] 74)
      have hbA : Below wr.heap.size wr (wr.alloc (.cells #[.int .i64 ck, .string nm, .pointer fp, .int .i64 o, .string d] 74)) := (Below.refl _ _).alloc (Nat.le_refl _) _
      have hSA : Step L ρ w L1 ρ1 (wr.alloc (.cells #[.int .i64 ck, .string nm, .pointer fp, .int .i64 o, .string d] 74)) := hS1.trans (Step.below hbA)
      have hK := dirsync11_any S.pend[i] L.F (wr.alloc (.cells #[.int .i64 ck, .string nm, .pointer fp, .int .i64 o, .string d] 74))
      have hbx := blk_new wr 74 #[.int .i64 ck, .string nm, .pointer fp, .int .i64 o, .string d]
      rw [hcl] at hK
      have hro := hI1.old wr.heap.size (Nat.le_refl _)
      have HK := Lib.hid hK; have HIA := Lib.hid hIA; have HSA := Lib.hid hSA; have HBX := Lib.hid hbx; have HCL := Lib.hid hcl; have HB1 := Lib.hid hb1; have HP := Lib.hid hP; have HRO := Lib.hid hro; have HCO := Lib.hid hcO; have HF1 := Lib.hid hF1; have HPV1 := Lib.hid hpv1; have HMP := Lib.hid hmp
      have hlti : (i : Int) < len := by omega
      clear hK hIA hSA hbx hcl hb1 hP hro hcO hF1 hpv1 hma hmp hI1 hS1 hbA hI
      by_cases hp : ofDir S.pend[i] = true
      · rw [hp] at HK
        have HST := Lib.hid (midS_true ofDir S i hlt' hp)
        clear hp
        go_wp2_with (first
          | (go_at_call 45; (with_reducible refine HK.out.mono ?_); rintro e w2 ⟨rfl, hb2⟩
             have HI2 := Lib.hid (HIA.out.below hb2)
             have HA := Lib.hid (apply_any true S.pend[i] HI2.out (by rw [midS_nf]; exact HCO.out) (by have := HN.out; have := HL.out; omega))
             rw [HF1.out, HCL.out, HB1.out, show stI true = 1 from rfl] at HA
             have hbx2 : Blk w2 wr.heap.size 74 _ := (hb2.block _ (blk_lt HBX.out)).trans HBX.out
             have HS2 := Lib.hid (HSA.out.trans (Step.below hb2))
             have b0 := blk_cell hbx2 0 rfl; have b1 := blk_cell hbx2 1 rfl; have b2 := blk_cell hbx2 2 rfl; have b3 := blk_cell hbx2 3 rfl; have b4 := blk_cell hbx2 4 rfl
             clear hb2 hbx2)
          | (go_at_call 70; (with_reducible refine HA.out.mono ?_); rintro e w3 ⟨rfl, L3, ρ3, hI3, hS3, hF3, hpv3⟩
             have HI3 := Lib.hid (show SetI ofDir L ρ n S w (i + 1) w3 from ⟨L3, ρ3, by rw [HST.out.1, ← Nat.add_assoc]; exact hI3, HS2.out.trans hS3, hF3.trans HF1.out, hpv3.trans HPV1.out⟩)
             clear hI3 hS3 hF3 hpv3))
        go_roundw
        case rel => exact ⟨i + 1, k, by omega, by omega, rfl, by go_num, Lib.hid (by rw [HST.out.2]; exact hk.out), HI3⟩
        case measure => simp [intOf]; omega
      · have hpf : ofDir S.pend[i] = false := by simpa using hp
        rw [hpf] at HK
        have HST := Lib.hid (midS_false ofDir S i hlt' hpf)
        clear hp hpf
        go_wp2_with (first
          | (go_at_call 45; (with_reducible refine HK.out.mono ?_); rintro e w2 ⟨rfl, hb2⟩
             have HI2 := Lib.hid (HIA.out.below hb2)
             have hbx2 : Blk w2 wr.heap.size 74 _ := (hb2.block _ (blk_lt HBX.out)).trans HBX.out
             have HS2 := Lib.hid (HSA.out.trans (Step.below hb2))
             have HP2 := Lib.hid (prow_keep HP.out (w' := w2.alloc (.cells #[.int .i64 ck, .string nm, .pointer fp, .int .i64 o, .string d] 74)) (prow_chain HP.out hb2))
             have HRUN := Lib.hid (settle_run (ty := 56) HP2.out k (by have := HMP.out; have := HL.out; omega) S.pend[i] w2.heap.size (by rw [HCL.out]; exact blk_new w2 _ _))
             have b0 := blk_cell hbx2 0 rfl; have b1 := blk_cell hbx2 1 rfl; have b2 := blk_cell hbx2 2 rfl; have b3 := blk_cell hbx2 3 rfl; have b4 := blk_cell hbx2 4 rfl
             clear hb2 hbx2)
          | (at_builtin; refine wpList_append_is rfl _ _ _ _ rfl rfl rfl HRUN.out ?_))
        have hbB : Below w2.heap.size w2 (w2.alloc (.cells #[.int .i64 ck, .string nm, .pointer fp, .int .i64 o, .string d] 74)) := (Below.refl _ _).alloc (Nat.le_refl _) _
        have hI3 := inv_row (w' := ((w2.alloc (.cells #[.int .i64 ck, .string nm, .pointer fp, .int .i64 o, .string d] 74)).setRow g (cur.toList.take (k * 5) ++ S.pend[i].cells L.F ++ cur.toList.drop (k * 5 + (S.pend[i].cells L.F).length)).toArray)) (HI2.out.below hbB) ((midS ofDir S i).pend.take k ++ S.pend[i] :: (midS ofDir S i).pend.drop (k + 1)) (by rw [HPV1.out, HPV.out]; exact setRow_grown' _ g _)
          (by
            have hq := prow_back (prow_put HP2.out k (by have := HMP.out; have := HL.out; omega) S.pend[i])
            have hlq : ((midS ofDir S i).pend.take k ++ S.pend[i] :: (midS ofDir S i).pend.drop (k + 1)).length = S.pend.length := by
              have := HMP.out; have := HL.out
              rw [List.length_append, List.length_cons, List.length_take, List.length_drop]; omega
            rw [HPV1.out, HPV.out, HF1.out]
            rw [hlq] at hq ⊢
            exact hq)
          (fun y hy => by
            rw [midS_nf]
            rcases List.mem_append.1 hy with hy | hy
            · have := HI2.out.pok _ (List.mem_of_mem_take hy); rwa [midS_nf] at this
            · rcases List.mem_cons.1 hy with rfl | hy
              · exact HCO.out
              · have := HI2.out.pok _ (List.mem_of_mem_drop hy); rwa [midS_nf] at this)
          (by
            have h1 := HMP.out; have h2 := HL.out; have h3 := HH.out.bnd.1
            rw [List.length_append, List.length_cons, List.length_take, List.length_drop]; omega)
        have HI3 := Lib.hid (show SetI ofDir L ρ n S w (i + 1) _ from ⟨L1, ρ1, by
          rw [HST.out.1, ← hk.out, ← Nat.add_assoc]
          exact hI3.1.mono (Nat.le_succ _) (by have := HN.out; have := HL.out; omega), HS2.out.trans ((Step.below hbB).trans hI3.2), HF1.out, HPV1.out⟩)
        rw [List.append_assoc] at HI3
        clear hI3 hbB
        go_wp2
        go_roundw
        case rel => exact ⟨i + 1, k + 1, by omega, by omega, rfl, by go_num, Lib.hid (by rw [HST.out.2, ← hk.out]), HI3⟩
        case measure => simp [intOf]; omega
    · obtain rfl : i = len := by omega
      obtain ⟨L1, ρ1, hI1, hS1, hF1, hpv1⟩ := hI.out
      have hb1 : L1.b = L.b := hS1.b
      have hmp := midS_pend ofDir S S.pend.length (Nat.le_refl _)
      rw [HL.out] at hI1
      have hkl : k = (keptL ofDir S.pend).length := by rw [hk.out, HL.out, List.take_length]
      have hkt : (midS ofDir S S.pend.length).pend.take k = keptL ofDir S.pend := by
        have e : (midS ofDir S S.pend.length).pend = keptL ofDir (S.pend.take S.pend.length) ++ S.pend.drop (keptL ofDir (S.pend.take S.pend.length)).length := rfl
        rw [e, List.take_length, hkl, List.take_left]
      obtain ⟨cur, hP⟩ := prow_at hI1.pnd (hpv1.trans HPV.out)
      have hbk := hI1.blk
      rw [hb1, hpv1, HPV.out, ← HL.out] at hbk
      have hpr : ρ1 g = some .pend := hI1.pro g (by rw [hpv1, HPV.out]; rfl)
      have hbg : L.b ≠ g := fun e => by have h1 := hI1.hb; rw [hb1, e, hpr] at h1; cases h1
      have hkm : ∀ c, c ∈ keptL ofDir S.pend → c.Ok (midS ofDir S S.pend.length).nf := fun c hc => by rw [midS_nf]; exact HH.out.pok c (keptL_mem hc)
      have fin : ∀ (W : World) (cur' : Array Value), wr.grownBy W (some g) → PRow W g cap L1.F ((midS ofDir S S.pend.length).pend.take k) cur' →
          SetQ L ρ (n + S.pend.length) (settleS ofDir S) w (.returned (.tuple #[])) (W.setCell ⟨L.b, 3, none⟩ (.slice (some ⟨g, 0, none⟩) k cap)) := by
        intro W cur' hg hq
        have hq2 := prow_back hq
        rw [hkt, ← hkl] at hq2
        obtain ⟨ρ', hA, hB⟩ := inv_pend (n' := n + S.pend.length) hI1 (v1 := .slice (some ⟨g, 0, none⟩) k cap) (keptL ofDir S.pend) (by rw [hpv1, HPV.out]; exact hg) (by rw [← hkl]; exact hq2) hkm (.inl (by rw [hpv1, HPV.out]; rfl)) (Nat.le_refl _) (by have := HN.out; omega) (by have := keptL_le ofDir S.pend; have := HH.out.bnd.1; omega)
        rw [hb1] at hA hB
        exact ⟨rfl, _, ρ', by rw [midS_end]; exact hA, hS1.trans hB, hF1⟩
      have HFIN := Lib.hid fin
      have d3 := blk_cell hbk 3 rfl
      have f3 := blk_frozen hbk 3
      by_cases hkn : k = i
      · subst hkn
        have hc0 : ∀ (a : Option Addr) (c : Nat) ty, (Builtin.clear_ #[56] ty #[.slice a 0 c]).run Tryz.prog wr = .ok (.tuple #[]) wr := by
          intro a c ty
          cases a <;> simp [Builtin.clear_, run_underlying (P := Tryz.prog) (show Tryz.prog.underlying 56 = some (.slice 74) by kernel_rfl)] <;> rfl
        have hq0 := fin wr cur (grown_refl _ _) (by
          have := prow_take hP k (by rw [hmp]; have := HL.out; omega)
          exact this)
        have HQ := Lib.hid hq0
        clear fin HFIN hI1 hS1 hP hbk hkm hkt hq0 hpr hkl
        go_wp2
        all_goals go_returns
        all_goals first
          | exact HQ.out
          | (have e : cap = k := by omega
             rw [e] at HQ
             exact HQ.out)
      · have hkc : k < cap := by omega
        have hkn' : k < i := by omega
        have hcl := fun ty => prow_clear (P := Tryz.prog) (t := 56) (ty := ty) (by kernel_rfl) zeroChg (by rfl) (by simp [Value.cells, Value.oneCell']) hP k (i - k) (cap - k) (by rw [hmp]; have := HL.out; omega) (by omega)
        obtain ⟨cur', hclr, hP'⟩ := hcl 0
        have hW := setRow_grown' wr g cur'
        have hbW : Blk (wr.setRow g cur') L.b 59 _ := (setRow_other wr g L.b cur' hbg).trans hbk
        have e3 := blk_cell hbW 3 rfl
        have g3 := blk_frozen hbW 3
        have HQ := Lib.hid (fin (wr.setRow g cur') cur' hW hP')
        have hkc1 : ¬ cap - k = 0 := by omega
        have hkc2 : (k : Int) < cap := by omega
        clear fin HFIN hI1 hS1 hP hbk hkm hkt hpr hkl hcl hP' hW hbW
        go_wp2
        all_goals go_returns
        all_goals exact HQ.out


/-- settle with the choice that DirSync makes. -/
theorem settleDir (h : Inv L ρ n S w) (hd : S.down = false) (hn : n + S.pend.length + 1 ≤ 100000) :
    Calls Tryz.prog 40 #[.pointer (some ⟨L.b, 0, none⟩), .func (.func 45) #[] #[]] w (SetQ L ρ (n + S.pend.length) (settleS ofDir S) w) := by
  rcases prow_of h.pnd with ⟨e, hp⟩ | ⟨g, cap, cur, e, -⟩
  · have := settleSync_nil (.func (.func 45) #[] #[]) ofDir h hd hp e
    rw [hp]
    exact this
  · exact settleDir_any h hd hn g cap e
end Go.Proofs.YtkfncnpeockiaaaGreatDoor

namespace Go.Proofs.YtkfncnpeockiaaaGreatDoor
open Go.RowKit
variable {L : Loc} {ρ ρ' : Nat → Option Role} {n : Nat} {S : DS} {w w' : World}

/-! ### Delete -/
def deleteZ (S : DS) (p : List UInt8) : Int × DS := match findL (S.dirs false) p with
  | none => (cutE (begS S) 8, begS S)
  | some _ => (cutE (perfS (.remove p) (begS S)) 0, perfS (.remove p) (begS S))
theorem delete1_any (p : ByteArray) (hp : p.size ≤ 1000000) (fv : Value) (b1 b2 : Nat) (h : Inv L ρ n S w) (h1 : w.cell? ⟨b1, 0, none⟩ = some (.pointer (some ⟨L.b, 0, none⟩))) (h2 : w.cell? ⟨b2, 0, none⟩ = some (.string p)) (hn : n + 2 ≤ 100000) :
    Calls Tryz.prog 56 #[fv, .pointer (some ⟨b1, 0, none⟩), .pointer (some ⟨b2, 0, none⟩)] w (PostQ L ρ w (fun x S' n' _ => x = 0 ∧ S' = perfS (.remove p.data.toList) S ∧ n' ≤ n + 2)) := by
  have hps : p.data.toList.length ≤ 1000000 := by have : p.data.toList.length = p.size := by simp
                                                  omega
  have hcl : (Chg.remove p.data.toList).cells L.F = [.int .i64 1, .string p, .pointer none, .int .i64 0, .string ⟨#[]⟩] := by
    simp only [Chg.cells, bz_back]; rfl
  have HC := Lib.hid (perform_lit (.remove p.data.toList) 1 p none 0 ⟨#[]⟩ hcl h hps hn)
  clear h hcl
  go_enter Tryz.func56, Tryz.ntmps56
  go_wp2_with (go_at_call 55; (with_reducible refine HC.out.mono ?_); rintro e w1 ⟨rfl, L', ρ', hI, hS1, hF1⟩; have HI := Lib.hid hI; have HS1 := Lib.hid hS1; clear hI hS1 hF1)
  go_ret
  exact ⟨0, L', ρ', _, _, rfl, HI.out, HS1.out, rfl, rfl, Nat.le_refl _⟩
theorem delete_any (p : ByteArray) (hp : p.size ≤ 1000000) (h : Inv L ρ n S w) (hd : S.down = false) (hfl : S.flt (S.ops + 1) = 0) (hn : n + 3 ≤ 100000) :
    Calls Tryz.prog 23 #[.pointer (some ⟨L.b, 0, none⟩), .string p] w (OutQ L ρ w (deleteZ S p.data.toList) (n + 3)) := by
  have hA := (h.alloc (.cells #[.pointer (some ⟨L.b, 0, none⟩)] 25)).alloc (.cells #[.string p] 9)
  have hb1 : Below w.heap.size w ((w.alloc (.cells #[.pointer (some ⟨L.b, 0, none⟩)] 25)).alloc (.cells #[.string p] 9)) := ((Below.refl _ _).alloc (Nat.le_refl _) _).alloc (by simp) _
  have hx : (w.alloc (.cells #[.pointer (some ⟨L.b, 0, none⟩)] 25)).cell? ⟨w.heap.size, 0, none⟩ = some (.pointer (some ⟨L.b, 0, none⟩)) := by simp
  have hx2 := cell_alloc hx (.cells #[.string p] 9)
  have hy : ((w.alloc (.cells #[.pointer (some ⟨L.b, 0, none⟩)] 25)).alloc (.cells #[.string p] 9)).cell? ⟨w.heap.size + 1, 0, none⟩ = some (.string p) := by
    rw [World.cell?_alloc_at _ _ _ _ (by simp)]; rfl
  have r1 := h.old w.heap.size (Nat.le_refl _)
  have r2 := h.old (w.heap.size + 1) (Nat.le_succ _)
  have hC := callOn_Delete1 (.pointer (some ⟨w.heap.size, 0, none⟩)) (.pointer (some ⟨w.heap.size + 1, 0, none⟩)) p hp hA hd hfl (by omega) (Q := IsR (deleteZ S p.data.toList) (n + 3))
    (fun hq w1 _ => ⟨by unfold deleteZ; rw [hq], by omega⟩)
    (fun i hq w1 hI1 hS1 _ => by
      refine (delete1_any p hp _ w.heap.size (w.heap.size + 1) hI1 (step_cell hS1 r1 hx2) (step_cell hS1 r2 hy) (by omega)).mono fun e w2 hq2 => ?_
      obtain ⟨x, L', ρ', n', S', he, hI, hS, rfl, rfl, hn'⟩ := hq2
      exact ⟨_, L', ρ', n', _, he, hI, hS, by unfold deleteZ; rw [hq], by omega⟩)
  have HC := Lib.hid hC; have HB1 := Lib.hid hb1
  clear hC hA hb1 hy h hd hfl r1 r2
  go_enter Tryz.func23, Tryz.ntmps23
  go_wp2_with (go_at_call 38; (with_reducible refine HC.out.mono ?_); rintro e w1 ⟨x, L', ρ', n', S', rfl, hI, hS, hQ⟩; have HI := Lib.hid hI; have HS := Lib.hid hS; have HQ := Lib.hid hQ; clear hI hS hQ)
  go_ret
  exact out_of ⟨x, L', ρ', n', S', rfl, HI.out, (Step.below HB1.out).trans HS.out, HQ.out⟩

/-! ### DirSync -/
def dirsyncIn (S : DS) : DS := if S.down = true then S else settleS ofDir S
def dirsyncZ (S : DS) : Int × DS := (cutE (dirsyncIn (begS S)) 0, dirsyncIn (begS S))
theorem dirsync1_any (bx : Nat) (h : Inv L ρ n S w) (hbx : w.cell? ⟨bx, 0, none⟩ = some (.pointer (some ⟨L.b, 0, none⟩))) (hn : n + S.pend.length + 1 ≤ 100000) :
    Calls Tryz.prog 44 #[.pointer (some ⟨bx, 0, none⟩)] w (PostQ L ρ w (fun x S' n' _ => x = 0 ∧ S' = dirsyncIn S ∧ n' ≤ n + S.pend.length)) := by
  cases hd : S.down with
  | true =>
    have HC := Lib.hid (settleSync_down h hd (.func (.func 45) #[] #[]))
    have HA := Lib.hid h
    have e : dirsyncIn S = S := by unfold dirsyncIn; rw [if_pos hd]
    clear h
    go_enter Tryz.func44, Tryz.ntmps44
    go_wp2_with (go_at_call 40; (with_reducible refine HC.out.mono ?_); rintro e w1 ⟨rfl, rfl⟩)
    go_ret
    exact ⟨0, L, ρ, n, S, rfl, HA.out, Step.refl _ _ _, rfl, e.symm, Nat.le_add_right _ _⟩
  | false =>
    have HC := Lib.hid (settleDir h hd hn)
    have e : dirsyncIn S = settleS ofDir S := by unfold dirsyncIn; rw [if_neg (by rw [hd]; simp)]
    clear h
    go_enter Tryz.func44, Tryz.ntmps44
    go_wp2_with (go_at_call 40; (with_reducible refine HC.out.mono ?_); rintro e' w1 ⟨rfl, L', ρ', hI, hS, hF⟩; have HI := Lib.hid hI; have HS := Lib.hid hS; clear hI hS hF)
    go_ret
    exact ⟨0, L', ρ', _, _, rfl, HI.out, HS.out, rfl, e.symm, Nat.le_refl _⟩
theorem dirsync_any (h : Inv L ρ n S w) (hd : S.down = false) (hfl : S.flt (S.ops + 1) = 0) (hn : n + S.pend.length + 2 ≤ 100000) :
    Calls Tryz.prog 15 #[.pointer (some ⟨L.b, 0, none⟩)] w (OutQ L ρ w (dirsyncZ S) (n + 1 + S.pend.length)) := by
  have hA := h.alloc (.cells #[.pointer (some ⟨L.b, 0, none⟩)] 25)
  have hb1 : Below w.heap.size w (w.alloc (.cells #[.pointer (some ⟨L.b, 0, none⟩)] 25)) := (Below.refl _ _).alloc (Nat.le_refl _) _
  have hx : (w.alloc (.cells #[.pointer (some ⟨L.b, 0, none⟩)] 25)).cell? ⟨w.heap.size, 0, none⟩ = some (.pointer (some ⟨L.b, 0, none⟩)) := by simp
  have hr := h.old w.heap.size (Nat.le_refl _)
  have hC := call_DirSync1 #[.pointer (some ⟨w.heap.size, 0, none⟩)] hA hd hfl (by omega) (Q := IsR (dirsyncZ S) (n + 1 + S.pend.length))
    (fun w1 hI1 hS1 _ => by
      refine (dirsync1_any w.heap.size hI1 (step_cell hS1 hr hx) (by show n + 1 + S.pend.length + 1 ≤ 100000; omega)).mono fun e w2 hq2 => ?_
      obtain ⟨x, L', ρ', n', S', he, hI, hS, rfl, rfl, hn'⟩ := hq2
      exact ⟨0, L', ρ', n', _, he, hI, hS, rfl, hn'⟩)
  have HC := Lib.hid hC; have HB1 := Lib.hid hb1
  clear hC hA hb1 hx h hd hfl hr
  go_enter Tryz.func15, Tryz.ntmps15
  go_wp2_with (go_at_call 43; (with_reducible refine HC.out.mono ?_); rintro e w1 ⟨x, L', ρ', n', S', rfl, hI, hS, hQ⟩; have HI := Lib.hid hI; have HS := Lib.hid hS; have HQ := Lib.hid hQ; clear hI hS hQ)
  go_ret
  exact out_of ⟨x, L', ρ', n', S', rfl, HI.out, (Step.below HB1.out).trans HS.out, HQ.out⟩

/-! ### Size, Down, CrashAt -/
theorem size_any (h : Inv L ρ n S w) (p : ByteArray) (hp : p.size ≤ 1000000) :
    Calls Tryz.prog 21 #[.pointer (some ⟨L.b, 0, none⟩), .string p] w fun e w' => e = .returned (.tuple #[.int .i64 (contZ S p.data.toList).length, .bool (hasZ S p.data.toList)]) ∧ w' = w := by
  have HF := Lib.hid (find_any h p hp)
  unfold contZ hasZ
  cases hq : findL (S.dirs false) p.data.toList with
  | none =>
    rw [hq] at HF
    simp only [ptrF, Option.map_none] at HF
    clear h hq
    go_enter Tryz.func21, Tryz.ntmps21
    go_wp2_with (go_at_call 46; (with_reducible refine HF.out.mono ?_); rintro e w1 ⟨rfl, rfl⟩)
    go_ret2
    exact ⟨rfl, rfl⟩
  | some i =>
    rw [hq] at HF
    simp only [ptrF, Option.map_some] at HF
    have hi := findL_nf h (s := false) hq
    have c0 := blk_cell (h.fil i hi) 0 rfl
    obtain ⟨va, vc, hv, hvc⟩ := bys_slice (h.con false i hi)
    rw [hv] at c0
    clear h hq hi hv hvc
    simp only [Option.isSome_some]
    generalize (S.con false i).length = cl at c0 ⊢
    go_enter Tryz.func21, Tryz.ntmps21
    go_wp2_with (go_at_call 46; (with_reducible refine HF.out.mono ?_); rintro e w1 ⟨rfl, rfl⟩)
    go_ret2
    exact ⟨rfl, rfl⟩
theorem down_any (h : Inv L ρ n S w) : Calls Tryz.prog 19 #[.pointer (some ⟨L.b, 0, none⟩)] w fun e w' => e = .returned (.bool S.down) ∧ w' = w := by
  have c7 := blk_cell h.blk 7 rfl
  clear h
  go_enter Tryz.func19, Tryz.ntmps19
  go_wp2
  go_ret
  exact ⟨rfl, rfl⟩
theorem crashat_any (h : Inv L ρ n S w) (z : Int) : Calls Tryz.prog 13 #[.pointer (some ⟨L.b, 0, none⟩), .int .i64 z] w fun e w' => e = .returned (.tuple #[]) ∧ Inv L ρ n { S with crash := z } w' ∧ Step L ρ w L ρ w' := by
  have hB := h.blk
  have c6 := blk_cell hB 6 rfl
  have f6 := blk_frozen hB 6
  have hk : ∀ g, g ≠ L.b → (w.setCell ⟨L.b, 6, none⟩ (.int .i64 z)).heap[g]? = w.heap[g]? := setCell_keep _ _ _ _
  have hz : (w.setCell ⟨L.b, 6, none⟩ (.int .i64 z)).heap.size = w.heap.size := size_setCell' _ _ _
  have HQ := Lib.hid (show Inv L ρ n { S with crash := z } (w.setCell ⟨L.b, 6, none⟩ (.int .i64 z)) from inv_disk h (Nat.le_refl _) h.bnd.2.2.2 (blk_set hB 6 (.int .i64 z)) hk (Nat.le_of_eq hz.symm) rfl rfl rfl rfl rfl rfl h.bnd.2.1)
  have HS := Lib.hid (show Step L ρ w L ρ (w.setCell ⟨L.b, 6, none⟩ (.int .i64 z)) from Step.disk hk h.hb hz rfl rfl rfl)
  clear h hB hk hz
  go_enter Tryz.func13, Tryz.ntmps13
  go_wp2
  go_returns
  exact ⟨rfl, HQ.out, HS.out⟩
end Go.Proofs.YtkfncnpeockiaaaGreatDoor
