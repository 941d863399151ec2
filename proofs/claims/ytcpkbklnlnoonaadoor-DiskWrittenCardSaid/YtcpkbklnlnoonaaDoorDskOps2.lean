/-
  Layer 7: Create and Write: what they do inside a counted call, and the calls. Condition: the sizes that the invariant holds; the paths of the visible state are distinct.
-/
import Derived.Test.YtcpkbklnlnoonaaDoorDskOps
namespace Go.Proofs.YtcpkbklnlnoonaaDoor
open Go.RowKit
variable {L : Loc} {ρ ρ' : Nat → Option Role} {n : Nat} {S : DS} {w w' : World}

theorem mapI_len {F : Nat → Nat} {m : Option Nat} {r : Role} {l : List (List UInt8 × Nat)} (h : MapI ρ F w m r l) (ty : TypeId) :
    (Builtin.len_ #[37] ty #[.map m]).run Tryd.prog w = .ok (.int .i64 l.length) w := by
  rcases h with ⟨rfl, rfl⟩ | ⟨g, rfl, _, hown⟩
  · exact Maps.len_nil underF ty
  · rw [hown.len underF ty, fileD_size]
theorem neqP_none (w : World) : (binOp .neq 45 (.pointer none) (.pointer none)).run Tryd.prog w = .ok (.bool false) w := by kernel_rfl

/-! ### Create -/
def createIn (S : DS) (p : List UInt8) : Int × DS :=
  if pathB p = false then (13, S) else match findL (S.dirs false) p with
  | some _ => (9, S)
  | none => if 60 ≤ (S.dirs false).length then (6, S) else (0, perfS (.create p S.nf) (newFile S))
def createZ (S : DS) (p : List UInt8) : Int × DS := (cutE (createIn (begS S) p).2 (createIn (begS S) p).1, (createIn (begS S) p).2)
theorem cell_alloc {a : Addr} {v : Value} (h : w.cell? a = some v) (o : Obj) : (w.alloc o).cell? a = some v := by
  rw [World.cell?_alloc_lt _ _ a (World.block_lt_of_cell? w _ h)]; exact h

set_option maxHeartbeats 1000000 in
theorem create1_any (p : ByteArray) (hp : p.size ≤ 1000000) (b1 b2 : Nat) (h : Inv L ρ n S w) (h1 : w.cell? ⟨b1, 0, none⟩ = some (.string p)) (h2 : w.cell? ⟨b2, 0, none⟩ = some (.pointer (some ⟨L.b, 0, none⟩))) (hn : n + 2 ≤ 100000) :
    Calls Tryd.prog 15 #[.pointer (some ⟨b1, 0, none⟩), .pointer (some ⟨b2, 0, none⟩)] w (PostQ L ρ w (fun x S' n' _ => x = (createIn S p.data.toList).1 ∧ S' = (createIn S p.data.toList).2 ∧ n' ≤ n + 2)) := by
  have HP := Lib.hid (fun w => ispath_any p (by omega) w)
  have HH := Lib.hid h
  cases hpb : pathB p.data.toList with
  | false =>
    rw [hpb] at HP
    have e : createIn S p.data.toList = (13, S) := by unfold createIn; rw [if_pos hpb]
    have HE := Lib.hid e
    clear h e hpb
    go_enter Tryd.func15, Tryd.ntmps15
    go_wp2_with (go_at_call 16; (with_reducible refine (HP.out _).mono ?_); rintro e w1 ⟨rfl, rfl⟩)
    go_ret
    exact ⟨13, L, ρ, n, S, rfl, HH.out, Step.refl _ _ _, by rw [HE.out], by rw [HE.out], Nat.le_add_right _ _⟩
  | true =>
    rw [hpb] at HP
    have HF := Lib.hid (find_any h p hp)
    cases hq : findL (S.dirs false) p.data.toList with
    | some i =>
      have e : createIn S p.data.toList = (9, S) := by unfold createIn; rw [if_neg (by rw [hpb]; simp), hq]
      have HE := Lib.hid e
      rw [hq] at HF
      simp only [ptrF, Option.map_some] at HF
      clear h e hpb hq
      go_enter Tryd.func15, Tryd.ntmps15
      go_wp2_with (first | (go_at_call 16; (with_reducible refine (HP.out _).mono ?_); rintro e w1 ⟨rfl, rfl⟩) | (go_at_call 17; (with_reducible refine HF.out.mono ?_); rintro e w1 ⟨rfl, rfl⟩))
      go_ret
      exact ⟨9, L, ρ, n, S, rfl, HH.out, Step.refl _ _ _, by rw [HE.out], by rw [HE.out], Nat.le_add_right _ _⟩
    | none =>
      rw [hq] at HF
      simp only [ptrF, Option.map_none] at HF
      have hnq := neqP_none
      have c1 := blk_cell h.blk 1 rfl
      have hlen := mapI_len (h.mp false)
      obtain ⟨m, hm⟩ : ∃ m, m = L.m false := ⟨_, rfl⟩
      rw [← hm] at c1 hlen
      obtain ⟨dl, hdl⟩ : ∃ dl, dl = (S.dirs false).length := ⟨_, rfl⟩
      rw [← hdl] at hlen
      by_cases h60 : 60 ≤ dl
      · have e : createIn S p.data.toList = (6, S) := by unfold createIn; rw [if_neg (by rw [hpb]; simp), hq]; simp only; rw [if_pos (by omega)]
        have HE := Lib.hid e
        have t1 : (60 : Int) ≤ dl := by omega
        clear h e hpb hq hm hdl h60
        go_enter Tryd.func15, Tryd.ntmps15
        go_wp2_with (first | (go_at_call 16; (with_reducible refine (HP.out _).mono ?_); rintro e w1 ⟨rfl, rfl⟩) | (go_at_call 17; (with_reducible refine HF.out.mono ?_); rintro e w1 ⟨rfl, rfl⟩))
        go_ret
        exact ⟨6, L, ρ, n, S, rfl, HH.out, Step.refl _ _ _, by rw [HE.out], by rw [HE.out], Nat.le_add_right _ _⟩
      · have e : createIn S p.data.toList = (0, perfS (.create p.data.toList S.nf) (newFile S)) := by unfold createIn; rw [if_neg (by rw [hpb]; simp), hq]; simp only; rw [if_neg (by omega)]
        have HE := Lib.hid e
        have t1 : (dl : Int) < 60 := by omega
        have hps : p.data.toList.length ≤ 1000000 := by have : p.data.toList.length = p.size := by simp
                                                        omega
        have hN := inv_newfile h
        have hok : (Chg.create p.data.toList S.nf).Ok (newFile S).nf := ⟨Nat.lt_succ_self _, hps⟩
        have hF0 : (newLoc L S.nf w.heap.size).F S.nf = w.heap.size := by simp [newLoc, updN]
        have hcl : (Chg.create p.data.toList S.nf).cells (newLoc L S.nf w.heap.size).F = [.int .i64 0, .string p, .pointer (some ⟨w.heap.size, 0, none⟩), .int .i64 0, .string ⟨#[]⟩] := by
          simp only [Chg.cells, hF0, bz_back]; rfl
        have hC := perform_lit (.create p.data.toList S.nf) 0 p (some ⟨w.heap.size, 0, none⟩) 0 ⟨#[]⟩ hcl hN.1 hok hn
        rw [show (newLoc L S.nf w.heap.size).b = L.b from rfl] at hC
        have HC := Lib.hid hC; have HS := Lib.hid hN.2
        clear h e hpb hq hm hdl h60 hN hok hF0 hcl hC
        go_enter Tryd.func15, Tryd.ntmps15
        go_wp2_with (first | (go_at_call 16; (with_reducible refine (HP.out _).mono ?_); rintro e w1 ⟨rfl, rfl⟩) | (go_at_call 17; (with_reducible refine HF.out.mono ?_); rintro e w1 ⟨rfl, rfl⟩) | (go_at_call 18; (with_reducible refine HC.out.mono ?_); rintro e w1 ⟨rfl, L', ρ', hI, hS1, hF1⟩; have HI := Lib.hid hI; have HS1 := Lib.hid hS1; clear hI hS1 hF1))
        go_ret
        exact ⟨0, L', ρ', _, _, rfl, HI.out, HS.out.trans HS1.out, by rw [HE.out], by rw [HE.out], Nat.le_refl _⟩
theorem create_any (p : ByteArray) (hp : p.size ≤ 1000000) (h : Inv L ρ n S w) (hd : S.down = false) (hfl : S.flt (S.ops + 1) = 0) (hn : n + 3 ≤ 100000) :
    Calls Tryd.prog 6 #[.pointer (some ⟨L.b, 0, none⟩), .string p] w (OutQ L ρ w (createZ S p.data.toList) (n + 3)) := by
  have hA := (h.alloc (.cells #[.pointer (some ⟨L.b, 0, none⟩)] 23)).alloc (.cells #[.string p] 9)
  have hb1 : Below w.heap.size w ((w.alloc (.cells #[.pointer (some ⟨L.b, 0, none⟩)] 23)).alloc (.cells #[.string p] 9)) := ((Below.refl _ _).alloc (Nat.le_refl _) _).alloc (by simp) _
  have hx : (w.alloc (.cells #[.pointer (some ⟨L.b, 0, none⟩)] 23)).cell? ⟨w.heap.size, 0, none⟩ = some (.pointer (some ⟨L.b, 0, none⟩)) := by simp
  have hx2 := cell_alloc hx (.cells #[.string p] 9)
  have hy : ((w.alloc (.cells #[.pointer (some ⟨L.b, 0, none⟩)] 23)).alloc (.cells #[.string p] 9)).cell? ⟨w.heap.size + 1, 0, none⟩ = some (.string p) := by
    rw [World.cell?_alloc_at _ _ _ _ (by simp)]; rfl
  have r1 := h.old w.heap.size (Nat.le_refl _)
  have r2 := h.old (w.heap.size + 1) (Nat.le_succ _)
  have hC := call_Create1 #[.pointer (some ⟨w.heap.size + 1, 0, none⟩), .pointer (some ⟨w.heap.size, 0, none⟩)] hA hd hfl (by omega) (Q := IsR (createZ S p.data.toList) (n + 3))
    (fun w1 hI1 hS1 _ => by
      refine (create1_any p hp (w.heap.size + 1) w.heap.size hI1 (step_cell hS1 r2 hy) (step_cell hS1 r1 hx2) (by omega)).mono fun e w2 hq2 => ?_
      obtain ⟨x, L', ρ', n', S', he, hI, hS, rfl, rfl, hn'⟩ := hq2
      exact ⟨_, L', ρ', n', _, he, hI, hS, rfl, by omega⟩)
  have HC := Lib.hid hC; have HB1 := Lib.hid hb1
  clear hC hA hb1 hx hx2 hy h hd hfl r1 r2
  go_enter Tryd.func6, Tryd.ntmps6
  go_wp2_with (go_at_call 14; (with_reducible refine HC.out.mono ?_); rintro e w1 ⟨x, L', ρ', n', S', rfl, hI, hS, hQ⟩; have HI := Lib.hid hI; have HS := Lib.hid hS; have HQ := Lib.hid hQ; clear hI hS hQ)
  go_ret
  exact out_of ⟨x, L', ρ', n', S', rfl, HI.out, (Step.below HB1.out).trans HS.out, HQ.out⟩
end Go.Proofs.YtcpkbklnlnoonaaDoor
