/-
  Layer 7: call and callOn: a counted call around what it does; at a nil disk ErrState, at one that is down ErrCrash. Condition: the variable errors.errorType holds what the program's text lays there.
-/
import Derived.Test.YtkfncnpeockiaaaGreatDoorMg4
import Derived.Test.YtkfncnpeockiaaaGreatDoorMg3
namespace Go.Proofs.YtkfncnpeockiaaaGreatDoor
open Go.RowKit
variable {L : Loc} {ρ ρ' : Nat → Option Role} {n : Nat} {S : DS} {w w' : World}

abbrev PostQ (L : Loc) (ρ : Nat → Option Role) (w : World) (Q : Int → DS → Nat → World → Prop) (e : Ending) (w' : World) : Prop :=
  ∃ x L' ρ' n' S', e = .returned (.int .i64 x) ∧ Inv L' ρ' n' S' w' ∧ Step L ρ w L' ρ' w' ∧ Q x S' n' w'
/-- What a call does: from any world in which the disk is in this state, it ends in Q. -/
def ActQ (K : Nat) (args : Array Value) (L : Loc) (ρ : Nat → Option Role) (n : Nat) (S : DS) (w : World) (Q : Int → DS → Nat → World → Prop) : Prop :=
  ∀ w1, Inv L ρ n S w1 → Step L ρ w L ρ w1 → (∀ k, k < w.heap.size → k ≠ L.b → w1.heap[k]? = w.heap[k]?) → Calls Tryz.prog K args w1 (PostQ L ρ w1 Q)
def cutE (S : DS) (x : Int) : Int := if S.down = true then 33 else x
abbrev CallQ (L : Loc) (ρ : Nat → Option Role) (w : World) (Q : Int → DS → Nat → World → Prop) (e : Ending) (w' : World) : Prop :=
  ∃ x L' ρ' n' S', e = .returned (.int .i64 (cutE S' x)) ∧ Inv L' ρ' n' S' w' ∧ Step L ρ w L' ρ' w' ∧ Q x S' n' w'
theorem ret_cut {S : DS} {x y : Int} (h : y = cutE S x) : Ending.returned (.int .i64 y) = .returned (.int .i64 (cutE S x)) := by rw [h]
theorem step_cell (h : Step L ρ w L ρ w') {g i : Nat} {v : Value} (hr : ρ g = none) (hc : w.cell? ⟨g, i, none⟩ = some v) : w'.cell? ⟨g, i, none⟩ = some v := by
  rw [World.cell?_of_block (a := ⟨g, i, none⟩) (h.blk g (World.block_lt_of_cell? w _ hc) hr)]; exact hc

set_option maxHeartbeats 1000000 in
theorem call_Create1 (caps : Array Value) (h : Inv L ρ n S w) (hd : S.down = false) (hf : S.flt (S.ops + 1) = 0) (hn : n + 1 ≤ 100000) {Q : Int → DS → Nat → World → Prop} (hA : ActQ 53 caps L ρ (n + 1) (begS S) w Q) :
    Calls Tryz.prog 43 #[.pointer (some ⟨L.b, 0, none⟩), .func (.func 53) #[] caps] w (CallQ L ρ w Q) := by
  have HB := Lib.hid (begin_ok h hd hf hn)
  have HA := Lib.hid hA
  clear h hd hf hA
  go_enter Tryz.func43, Tryz.ntmps43
  go_wp2_with (first
    | (go_at_call 71; with_reducible refine HB.out.mono ?_; rintro e w1 ⟨rfl, hI1, hS1, hO1⟩
       have HA1 := Lib.hid (HA.out w1 hI1 hS1 hO1); have HS1 := Lib.hid hS1; clear hI1 hS1 hO1)
    | (go_at_call 53; with_reducible refine HA1.out.mono ?_; rintro e w2 ⟨x, L', ρ', n', S', rfl, hI2, hS2, hQ⟩
       have c7 := blk_cell hI2.blk 7 rfl
       rw [hS2.b] at c7
       have HI2 := Lib.hid hI2; have HS2 := Lib.hid hS2; have HQ := Lib.hid hQ; clear hI2 hS2 hQ))
  all_goals
    go_ret
    refine ⟨x, L', ρ', n', S', ret_cut ?_, HI2.out, HS1.out.trans HS2.out, HQ.out⟩
    unfold cutE; simp_all
theorem call_nil_Create1 (caps : Array Value) (hG : Glob w) : Calls Tryz.prog 43 #[.pointer none, .func (.func 53) #[] caps] w fun e w' => e = .returned (.int .i64 10) ∧ Below w.heap.size w w' := by
  have HG := Lib.hid hG; clear hG
  go_enter Tryz.func43, Tryz.ntmps43
  go_wp2_with (first
    | (go_at_call 71; with_reducible refine (begin_nil _).mono ?_; rintro e w1 ⟨rfl, rfl⟩)
    | (go_at_call 72; with_reducible refine (number_errno _ _ HG.out).mono ?_; rintro e w1 ⟨rfl, hb⟩))
  go_ret
  exact ⟨rfl, hb⟩
theorem call_down_Create1 (caps : Array Value) (h : Inv L ρ n S w) (hd : S.down = true) (hG : Glob w) : Calls Tryz.prog 43 #[.pointer (some ⟨L.b, 0, none⟩), .func (.func 53) #[] caps] w fun e w' => e = .returned (.int .i64 33) ∧ Below w.heap.size w w' := by
  have HG := Lib.hid hG; clear hG
  have HD := Lib.hid (begin_down h hd); clear h hd
  go_enter Tryz.func43, Tryz.ntmps43
  go_wp2_with (first
    | (go_at_call 71; with_reducible refine HD.out.mono ?_; rintro e w1 ⟨rfl, rfl⟩)
    | (go_at_call 72; with_reducible refine (number_errno _ _ HG.out).mono ?_; rintro e w1 ⟨rfl, hb⟩))
  go_ret
  exact ⟨rfl, hb⟩

set_option maxHeartbeats 1000000 in
theorem call_DirSync1 (caps : Array Value) (h : Inv L ρ n S w) (hd : S.down = false) (hf : S.flt (S.ops + 1) = 0) (hn : n + 1 ≤ 100000) {Q : Int → DS → Nat → World → Prop} (hA : ActQ 44 caps L ρ (n + 1) (begS S) w Q) :
    Calls Tryz.prog 43 #[.pointer (some ⟨L.b, 0, none⟩), .func (.func 44) #[] caps] w (CallQ L ρ w Q) := by
  have HB := Lib.hid (begin_ok h hd hf hn)
  have HA := Lib.hid hA
  clear h hd hf hA
  go_enter Tryz.func43, Tryz.ntmps43
  go_wp2_with (first
    | (go_at_call 71; with_reducible refine HB.out.mono ?_; rintro e w1 ⟨rfl, hI1, hS1, hO1⟩
       have HA1 := Lib.hid (HA.out w1 hI1 hS1 hO1); have HS1 := Lib.hid hS1; clear hI1 hS1 hO1)
    | (go_at_call 44; with_reducible refine HA1.out.mono ?_; rintro e w2 ⟨x, L', ρ', n', S', rfl, hI2, hS2, hQ⟩
       have c7 := blk_cell hI2.blk 7 rfl
       rw [hS2.b] at c7
       have HI2 := Lib.hid hI2; have HS2 := Lib.hid hS2; have HQ := Lib.hid hQ; clear hI2 hS2 hQ))
  all_goals
    go_ret
    refine ⟨x, L', ρ', n', S', ret_cut ?_, HI2.out, HS1.out.trans HS2.out, HQ.out⟩
    unfold cutE; simp_all
theorem call_nil_DirSync1 (caps : Array Value) (hG : Glob w) : Calls Tryz.prog 43 #[.pointer none, .func (.func 44) #[] caps] w fun e w' => e = .returned (.int .i64 10) ∧ Below w.heap.size w w' := by
  have HG := Lib.hid hG; clear hG
  go_enter Tryz.func43, Tryz.ntmps43
  go_wp2_with (first
    | (go_at_call 71; with_reducible refine (begin_nil _).mono ?_; rintro e w1 ⟨rfl, rfl⟩)
    | (go_at_call 72; with_reducible refine (number_errno _ _ HG.out).mono ?_; rintro e w1 ⟨rfl, hb⟩))
  go_ret
  exact ⟨rfl, hb⟩
theorem call_down_DirSync1 (caps : Array Value) (h : Inv L ρ n S w) (hd : S.down = true) (hG : Glob w) : Calls Tryz.prog 43 #[.pointer (some ⟨L.b, 0, none⟩), .func (.func 44) #[] caps] w fun e w' => e = .returned (.int .i64 33) ∧ Below w.heap.size w w' := by
  have HG := Lib.hid hG; clear hG
  have HD := Lib.hid (begin_down h hd); clear h hd
  go_enter Tryz.func43, Tryz.ntmps43
  go_wp2_with (first
    | (go_at_call 71; with_reducible refine HD.out.mono ?_; rintro e w1 ⟨rfl, rfl⟩)
    | (go_at_call 72; with_reducible refine (number_errno _ _ HG.out).mono ?_; rintro e w1 ⟨rfl, hb⟩))
  go_ret
  exact ⟨rfl, hb⟩

set_option maxHeartbeats 1000000 in
theorem call_CallOn1 (caps : Array Value) (h : Inv L ρ n S w) (hd : S.down = false) (hf : S.flt (S.ops + 1) = 0) (hn : n + 1 ≤ 100000) {Q : Int → DS → Nat → World → Prop} (hA : ActQ 69 caps L ρ (n + 1) (begS S) w Q) :
    Calls Tryz.prog 43 #[.pointer (some ⟨L.b, 0, none⟩), .func (.func 69) #[] caps] w (CallQ L ρ w Q) := by
  have HB := Lib.hid (begin_ok h hd hf hn)
  have HA := Lib.hid hA
  clear h hd hf hA
  go_enter Tryz.func43, Tryz.ntmps43
  go_wp2_with (first
    | (go_at_call 71; with_reducible refine HB.out.mono ?_; rintro e w1 ⟨rfl, hI1, hS1, hO1⟩
       have HA1 := Lib.hid (HA.out w1 hI1 hS1 hO1); have HS1 := Lib.hid hS1; clear hI1 hS1 hO1)
    | (go_at_call 69; with_reducible refine HA1.out.mono ?_; rintro e w2 ⟨x, L', ρ', n', S', rfl, hI2, hS2, hQ⟩
       have c7 := blk_cell hI2.blk 7 rfl
       rw [hS2.b] at c7
       have HI2 := Lib.hid hI2; have HS2 := Lib.hid hS2; have HQ := Lib.hid hQ; clear hI2 hS2 hQ))
  all_goals
    go_ret
    refine ⟨x, L', ρ', n', S', ret_cut ?_, HI2.out, HS1.out.trans HS2.out, HQ.out⟩
    unfold cutE; simp_all
theorem call_nil_CallOn1 (caps : Array Value) (hG : Glob w) : Calls Tryz.prog 43 #[.pointer none, .func (.func 69) #[] caps] w fun e w' => e = .returned (.int .i64 10) ∧ Below w.heap.size w w' := by
  have HG := Lib.hid hG; clear hG
  go_enter Tryz.func43, Tryz.ntmps43
  go_wp2_with (first
    | (go_at_call 71; with_reducible refine (begin_nil _).mono ?_; rintro e w1 ⟨rfl, rfl⟩)
    | (go_at_call 72; with_reducible refine (number_errno _ _ HG.out).mono ?_; rintro e w1 ⟨rfl, hb⟩))
  go_ret
  exact ⟨rfl, hb⟩
theorem call_down_CallOn1 (caps : Array Value) (h : Inv L ρ n S w) (hd : S.down = true) (hG : Glob w) : Calls Tryz.prog 43 #[.pointer (some ⟨L.b, 0, none⟩), .func (.func 69) #[] caps] w fun e w' => e = .returned (.int .i64 33) ∧ Below w.heap.size w w' := by
  have HG := Lib.hid hG; clear hG
  have HD := Lib.hid (begin_down h hd); clear h hd
  go_enter Tryz.func43, Tryz.ntmps43
  go_wp2_with (first
    | (go_at_call 71; with_reducible refine HD.out.mono ?_; rintro e w1 ⟨rfl, rfl⟩)
    | (go_at_call 72; with_reducible refine (number_errno _ _ HG.out).mono ?_; rintro e w1 ⟨rfl, hb⟩))
  go_ret
  exact ⟨rfl, hb⟩

set_option maxHeartbeats 1000000 in
theorem callOn1_Delete1 (c1 c2 : Value) (p : ByteArray) (hp : p.size ≤ 1000000) (b1 b2 b3 : Nat) (h : Inv L ρ n S w) (hc1 : w.cell? ⟨b1, 0, none⟩ = some (.pointer (some ⟨L.b, 0, none⟩))) (hc2 : w.cell? ⟨b2, 0, none⟩ = some (.string p)) (hc3 : w.cell? ⟨b3, 0, none⟩ = some (.func (.func 56) #[] #[c1, c2]))
    {Q : Int → DS → Nat → World → Prop} (hN : findL (S.dirs false) p.data.toList = none → Q 8 S n w) (hA : ∀ i, findL (S.dirs false) p.data.toList = some i → Calls Tryz.prog 56 #[.pointer (some ⟨L.F i, 0, none⟩), c1, c2] w (PostQ L ρ w Q)) :
    Calls Tryz.prog 69 #[.pointer (some ⟨b1, 0, none⟩), .pointer (some ⟨b2, 0, none⟩), .pointer (some ⟨b3, 0, none⟩)] w (PostQ L ρ w Q) := by
  have HF := Lib.hid (find_any h p hp)
  have H := Lib.hid h
  clear h
  cases hq : findL (S.dirs false) p.data.toList with
  | none =>
    rw [hq] at HF
    have HN := Lib.hid (hN hq)
    simp only [ptrF, Option.map_none] at HF
    clear hN hA hq
    go_enter Tryz.func69, Tryz.ntmps69
    go_wp2_with (go_at_call 46; with_reducible refine HF.out.mono ?_; rintro e w1 ⟨rfl, rfl⟩)
    go_ret
    exact ⟨8, L, ρ, n, S, rfl, H.out, Step.refl _ _ _, HN.out⟩
  | some i =>
    rw [hq] at HF
    have HA := Lib.hid (hA i hq)
    simp only [ptrF, Option.map_some] at HF
    clear hN hA hq
    go_enter Tryz.func69, Tryz.ntmps69
    go_wp2_with (first
      | (go_at_call 46; with_reducible refine HF.out.mono ?_; rintro e w1 ⟨rfl, rfl⟩)
      | (go_at_call 56; with_reducible refine HA.out.mono ?_; rintro e w2 ⟨x, L', ρ', n', S', rfl, hI2, hS2, hQ⟩
         have HI2 := Lib.hid hI2; have HS2 := Lib.hid hS2; have HQ := Lib.hid hQ; clear hI2 hS2 hQ))
    go_ret
    exact ⟨x, L', ρ', n', S', rfl, HI2.out, HS2.out, HQ.out⟩

set_option maxHeartbeats 1000000 in
theorem callOn_Delete1 (c1 c2 : Value) (p : ByteArray) (hp : p.size ≤ 1000000) (h : Inv L ρ n S w) (hd : S.down = false) (hf : S.flt (S.ops + 1) = 0) (hn : n + 1 ≤ 100000)
    {Q : Int → DS → Nat → World → Prop} (hN : findL (S.dirs false) p.data.toList = none → ∀ w1, Step L ρ w L ρ w1 → Q 8 (begS S) (n + 1) w1) (hA : ∀ i, findL (S.dirs false) p.data.toList = some i → ActQ 56 #[.pointer (some ⟨L.F i, 0, none⟩), c1, c2] L ρ (n + 1) (begS S) w Q) :
    Calls Tryz.prog 38 #[.pointer (some ⟨L.b, 0, none⟩), .string p, .func (.func 56) #[] #[c1, c2]] w (CallQ L ρ w Q) := by
  have hb3 : Below w.heap.size w (((w.alloc (.cells #[.pointer (some ⟨L.b, 0, none⟩)] 25)).alloc (.cells #[.string p] 9)).alloc (.cells #[.func (.func 56) #[] #[c1, c2]] 76)) := (((Below.refl _ _).alloc (Nat.le_refl _) _).alloc (by simp) _).alloc (by simp; omega) _
  have r1 := h.old w.heap.size (Nat.le_refl _)
  have r2 := h.old (w.heap.size + 1) (by omega)
  have r3 := h.old (w.heap.size + 1 + 1) (by omega)
  have k1 : (((w.alloc (.cells #[.pointer (some ⟨L.b, 0, none⟩)] 25)).alloc (.cells #[.string p] 9)).alloc (.cells #[.func (.func 56) #[] #[c1, c2]] 76)).cell? ⟨w.heap.size, 0, none⟩ = some (.pointer (some ⟨L.b, 0, none⟩)) := by
    rw [World.cell?_alloc_lt _ _ ⟨w.heap.size, 0, none⟩ (by simp; omega), World.cell?_alloc_lt _ _ ⟨w.heap.size, 0, none⟩ (by simp)]; simp
  have k2 : (((w.alloc (.cells #[.pointer (some ⟨L.b, 0, none⟩)] 25)).alloc (.cells #[.string p] 9)).alloc (.cells #[.func (.func 56) #[] #[c1, c2]] 76)).cell? ⟨w.heap.size + 1, 0, none⟩ = some (.string p) := by
    rw [World.cell?_alloc_lt _ _ ⟨w.heap.size + 1, 0, none⟩ (by simp), World.cell?_alloc_at _ _ _ _ (by simp)]; rfl
  have k3 : (((w.alloc (.cells #[.pointer (some ⟨L.b, 0, none⟩)] 25)).alloc (.cells #[.string p] 9)).alloc (.cells #[.func (.func 56) #[] #[c1, c2]] 76)).cell? ⟨w.heap.size + 1 + 1, 0, none⟩ = some (.func (.func 56) #[] #[c1, c2]) := by
    rw [World.cell?_alloc_at _ _ _ _ (by simp)]; rfl
  have hC := call_CallOn1 (Q := Q) #[.pointer (some ⟨w.heap.size, 0, none⟩), .pointer (some ⟨w.heap.size + 1, 0, none⟩), .pointer (some ⟨w.heap.size + 1 + 1, 0, none⟩)] (h.below hb3) hd hf hn (by
    intro w1 hI1 hS1 hO1
    refine callOn1_Delete1 c1 c2 p hp _ _ _ hI1 (step_cell hS1 r1 k1) (step_cell hS1 r2 k2) (step_cell hS1 r3 k3) (fun hq => ?_) (fun i hq => ?_)
    · exact hN hq w1 ((Step.below hb3).trans hS1)
    · exact hA i hq w1 hI1 ((Step.below hb3).trans hS1) (fun k hk hne => (hO1 k (Nat.lt_of_lt_of_le hk hb3.size) hne).trans (hb3.block k hk)))
  have HC := Lib.hid hC; have HB3 := Lib.hid hb3
  clear hC hA hN h hd hf hb3 r1 r2 r3 k2 k3
  go_enter Tryz.func38, Tryz.ntmps38
  go_wp2_with (go_at_call 43; with_reducible refine HC.out.mono ?_; rintro e w1 ⟨x, L', ρ', n', S', rfl, hI, hS, hQ⟩; have HI := Lib.hid hI; have HS := Lib.hid hS; have HQ := Lib.hid hQ; clear hI hS hQ)
  go_ret
  exact ⟨x, L', ρ', n', S', rfl, HI.out, (Step.below HB3.out).trans HS.out, HQ.out⟩

theorem callOn_nil_Delete1 (c1 c2 : Value) (p : ByteArray) (hG : Glob w) :
    Calls Tryz.prog 38 #[.pointer none, .string p, .func (.func 56) #[] #[c1, c2]] w fun e w' => e = .returned (.int .i64 10) ∧ Below w.heap.size w w' := by
  have hb3 : Below w.heap.size w (((w.alloc (.cells #[.pointer none] 25)).alloc (.cells #[.string p] 9)).alloc (.cells #[.func (.func 56) #[] #[c1, c2]] 76)) := (((Below.refl _ _).alloc (Nat.le_refl _) _).alloc (by simp) _).alloc (by simp; omega) _
  have k1 : (((w.alloc (.cells #[.pointer none] 25)).alloc (.cells #[.string p] 9)).alloc (.cells #[.func (.func 56) #[] #[c1, c2]] 76)).cell? ⟨w.heap.size, 0, none⟩ = some (.pointer none) := by
    rw [World.cell?_alloc_lt _ _ ⟨w.heap.size, 0, none⟩ (by simp; omega), World.cell?_alloc_lt _ _ ⟨w.heap.size, 0, none⟩ (by simp)]; simp
  have HC := Lib.hid (call_nil_CallOn1 #[.pointer (some ⟨w.heap.size, 0, none⟩), .pointer (some ⟨w.heap.size + 1, 0, none⟩), .pointer (some ⟨w.heap.size + 1 + 1, 0, none⟩)] (glob_alloc (glob_alloc (glob_alloc hG _) _) _ : Glob (((w.alloc (.cells #[.pointer none] 25)).alloc (.cells #[.string p] 9)).alloc (.cells #[.func (.func 56) #[] #[c1, c2]] 76))))
  have HB3 := Lib.hid hb3
  clear hG hb3
  go_enter Tryz.func38, Tryz.ntmps38
  go_wp2_with (go_at_call 43; with_reducible refine HC.out.mono ?_; rintro e w1 ⟨rfl, hb⟩; have HB := Lib.hid hb; clear hb)
  go_ret
  exact ⟨rfl, HB3.out.trans (HB.out.mono HB3.out.size)⟩

theorem callOn_down_Delete1 (c1 c2 : Value) (p : ByteArray) (h : Inv L ρ n S w) (hd : S.down = true) (hG : Glob w) :
    Calls Tryz.prog 38 #[.pointer (some ⟨L.b, 0, none⟩), .string p, .func (.func 56) #[] #[c1, c2]] w fun e w' => e = .returned (.int .i64 33) ∧ Below w.heap.size w w' := by
  have hb3 : Below w.heap.size w (((w.alloc (.cells #[.pointer (some ⟨L.b, 0, none⟩)] 25)).alloc (.cells #[.string p] 9)).alloc (.cells #[.func (.func 56) #[] #[c1, c2]] 76)) := (((Below.refl _ _).alloc (Nat.le_refl _) _).alloc (by simp) _).alloc (by simp; omega) _
  have k1 : (((w.alloc (.cells #[.pointer (some ⟨L.b, 0, none⟩)] 25)).alloc (.cells #[.string p] 9)).alloc (.cells #[.func (.func 56) #[] #[c1, c2]] 76)).cell? ⟨w.heap.size, 0, none⟩ = some (.pointer (some ⟨L.b, 0, none⟩)) := by
    rw [World.cell?_alloc_lt _ _ ⟨w.heap.size, 0, none⟩ (by simp; omega), World.cell?_alloc_lt _ _ ⟨w.heap.size, 0, none⟩ (by simp)]; simp
  have HC := Lib.hid (call_down_CallOn1 #[.pointer (some ⟨w.heap.size, 0, none⟩), .pointer (some ⟨w.heap.size + 1, 0, none⟩), .pointer (some ⟨w.heap.size + 1 + 1, 0, none⟩)] (h.below hb3) hd (glob_alloc (glob_alloc (glob_alloc hG _) _) _ : Glob (((w.alloc (.cells #[.pointer (some ⟨L.b, 0, none⟩)] 25)).alloc (.cells #[.string p] 9)).alloc (.cells #[.func (.func 56) #[] #[c1, c2]] 76))))
  have HB3 := Lib.hid hb3
  clear hG hb3 h hd
  go_enter Tryz.func38, Tryz.ntmps38
  go_wp2_with (go_at_call 43; with_reducible refine HC.out.mono ?_; rintro e w1 ⟨rfl, hb⟩; have HB := Lib.hid hb; clear hb)
  go_ret
  exact ⟨rfl, HB3.out.trans (HB.out.mono HB3.out.size)⟩

set_option maxHeartbeats 1000000 in
theorem callOn1_Read1 (c1 c2 c3 : Value) (p : ByteArray) (hp : p.size ≤ 1000000) (b1 b2 b3 : Nat) (h : Inv L ρ n S w) (hc1 : w.cell? ⟨b1, 0, none⟩ = some (.pointer (some ⟨L.b, 0, none⟩))) (hc2 : w.cell? ⟨b2, 0, none⟩ = some (.string p)) (hc3 : w.cell? ⟨b3, 0, none⟩ = some (.func (.func 52) #[] #[c1, c2, c3]))
    {Q : Int → DS → Nat → World → Prop} (hN : findL (S.dirs false) p.data.toList = none → Q 8 S n w) (hA : ∀ i, findL (S.dirs false) p.data.toList = some i → Calls Tryz.prog 52 #[.pointer (some ⟨L.F i, 0, none⟩), c1, c2, c3] w (PostQ L ρ w Q)) :
    Calls Tryz.prog 69 #[.pointer (some ⟨b1, 0, none⟩), .pointer (some ⟨b2, 0, none⟩), .pointer (some ⟨b3, 0, none⟩)] w (PostQ L ρ w Q) := by
  have HF := Lib.hid (find_any h p hp)
  have H := Lib.hid h
  clear h
  cases hq : findL (S.dirs false) p.data.toList with
  | none =>
    rw [hq] at HF
    have HN := Lib.hid (hN hq)
    simp only [ptrF, Option.map_none] at HF
    clear hN hA hq
    go_enter Tryz.func69, Tryz.ntmps69
    go_wp2_with (go_at_call 46; with_reducible refine HF.out.mono ?_; rintro e w1 ⟨rfl, rfl⟩)
    go_ret
    exact ⟨8, L, ρ, n, S, rfl, H.out, Step.refl _ _ _, HN.out⟩
  | some i =>
    rw [hq] at HF
    have HA := Lib.hid (hA i hq)
    simp only [ptrF, Option.map_some] at HF
    clear hN hA hq
    go_enter Tryz.func69, Tryz.ntmps69
    go_wp2_with (first
      | (go_at_call 46; with_reducible refine HF.out.mono ?_; rintro e w1 ⟨rfl, rfl⟩)
      | (go_at_call 52; with_reducible refine HA.out.mono ?_; rintro e w2 ⟨x, L', ρ', n', S', rfl, hI2, hS2, hQ⟩
         have HI2 := Lib.hid hI2; have HS2 := Lib.hid hS2; have HQ := Lib.hid hQ; clear hI2 hS2 hQ))
    go_ret
    exact ⟨x, L', ρ', n', S', rfl, HI2.out, HS2.out, HQ.out⟩

set_option maxHeartbeats 1000000 in
theorem callOn_Read1 (c1 c2 c3 : Value) (p : ByteArray) (hp : p.size ≤ 1000000) (h : Inv L ρ n S w) (hd : S.down = false) (hf : S.flt (S.ops + 1) = 0) (hn : n + 1 ≤ 100000)
    {Q : Int → DS → Nat → World → Prop} (hN : findL (S.dirs false) p.data.toList = none → ∀ w1, Step L ρ w L ρ w1 → Q 8 (begS S) (n + 1) w1) (hA : ∀ i, findL (S.dirs false) p.data.toList = some i → ActQ 52 #[.pointer (some ⟨L.F i, 0, none⟩), c1, c2, c3] L ρ (n + 1) (begS S) w Q) :
    Calls Tryz.prog 38 #[.pointer (some ⟨L.b, 0, none⟩), .string p, .func (.func 52) #[] #[c1, c2, c3]] w (CallQ L ρ w Q) := by
  have hb3 : Below w.heap.size w (((w.alloc (.cells #[.pointer (some ⟨L.b, 0, none⟩)] 25)).alloc (.cells #[.string p] 9)).alloc (.cells #[.func (.func 52) #[] #[c1, c2, c3]] 76)) := (((Below.refl _ _).alloc (Nat.le_refl _) _).alloc (by simp) _).alloc (by simp; omega) _
  have r1 := h.old w.heap.size (Nat.le_refl _)
  have r2 := h.old (w.heap.size + 1) (by omega)
  have r3 := h.old (w.heap.size + 1 + 1) (by omega)
  have k1 : (((w.alloc (.cells #[.pointer (some ⟨L.b, 0, none⟩)] 25)).alloc (.cells #[.string p] 9)).alloc (.cells #[.func (.func 52) #[] #[c1, c2, c3]] 76)).cell? ⟨w.heap.size, 0, none⟩ = some (.pointer (some ⟨L.b, 0, none⟩)) := by
    rw [World.cell?_alloc_lt _ _ ⟨w.heap.size, 0, none⟩ (by simp; omega), World.cell?_alloc_lt _ _ ⟨w.heap.size, 0, none⟩ (by simp)]; simp
  have k2 : (((w.alloc (.cells #[.pointer (some ⟨L.b, 0, none⟩)] 25)).alloc (.cells #[.string p] 9)).alloc (.cells #[.func (.func 52) #[] #[c1, c2, c3]] 76)).cell? ⟨w.heap.size + 1, 0, none⟩ = some (.string p) := by
    rw [World.cell?_alloc_lt _ _ ⟨w.heap.size + 1, 0, none⟩ (by simp), World.cell?_alloc_at _ _ _ _ (by simp)]; rfl
  have k3 : (((w.alloc (.cells #[.pointer (some ⟨L.b, 0, none⟩)] 25)).alloc (.cells #[.string p] 9)).alloc (.cells #[.func (.func 52) #[] #[c1, c2, c3]] 76)).cell? ⟨w.heap.size + 1 + 1, 0, none⟩ = some (.func (.func 52) #[] #[c1, c2, c3]) := by
    rw [World.cell?_alloc_at _ _ _ _ (by simp)]; rfl
  have hC := call_CallOn1 (Q := Q) #[.pointer (some ⟨w.heap.size, 0, none⟩), .pointer (some ⟨w.heap.size + 1, 0, none⟩), .pointer (some ⟨w.heap.size + 1 + 1, 0, none⟩)] (h.below hb3) hd hf hn (by
    intro w1 hI1 hS1 hO1
    refine callOn1_Read1 c1 c2 c3 p hp _ _ _ hI1 (step_cell hS1 r1 k1) (step_cell hS1 r2 k2) (step_cell hS1 r3 k3) (fun hq => ?_) (fun i hq => ?_)
    · exact hN hq w1 ((Step.below hb3).trans hS1)
    · exact hA i hq w1 hI1 ((Step.below hb3).trans hS1) (fun k hk hne => (hO1 k (Nat.lt_of_lt_of_le hk hb3.size) hne).trans (hb3.block k hk)))
  have HC := Lib.hid hC; have HB3 := Lib.hid hb3
  clear hC hA hN h hd hf hb3 r1 r2 r3 k2 k3
  go_enter Tryz.func38, Tryz.ntmps38
  go_wp2_with (go_at_call 43; with_reducible refine HC.out.mono ?_; rintro e w1 ⟨x, L', ρ', n', S', rfl, hI, hS, hQ⟩; have HI := Lib.hid hI; have HS := Lib.hid hS; have HQ := Lib.hid hQ; clear hI hS hQ)
  go_ret
  exact ⟨x, L', ρ', n', S', rfl, HI.out, (Step.below HB3.out).trans HS.out, HQ.out⟩

theorem callOn_nil_Read1 (c1 c2 c3 : Value) (p : ByteArray) (hG : Glob w) :
    Calls Tryz.prog 38 #[.pointer none, .string p, .func (.func 52) #[] #[c1, c2, c3]] w fun e w' => e = .returned (.int .i64 10) ∧ Below w.heap.size w w' := by
  have hb3 : Below w.heap.size w (((w.alloc (.cells #[.pointer none] 25)).alloc (.cells #[.string p] 9)).alloc (.cells #[.func (.func 52) #[] #[c1, c2, c3]] 76)) := (((Below.refl _ _).alloc (Nat.le_refl _) _).alloc (by simp) _).alloc (by simp; omega) _
  have k1 : (((w.alloc (.cells #[.pointer none] 25)).alloc (.cells #[.string p] 9)).alloc (.cells #[.func (.func 52) #[] #[c1, c2, c3]] 76)).cell? ⟨w.heap.size, 0, none⟩ = some (.pointer none) := by
    rw [World.cell?_alloc_lt _ _ ⟨w.heap.size, 0, none⟩ (by simp; omega), World.cell?_alloc_lt _ _ ⟨w.heap.size, 0, none⟩ (by simp)]; simp
  have HC := Lib.hid (call_nil_CallOn1 #[.pointer (some ⟨w.heap.size, 0, none⟩), .pointer (some ⟨w.heap.size + 1, 0, none⟩), .pointer (some ⟨w.heap.size + 1 + 1, 0, none⟩)] (glob_alloc (glob_alloc (glob_alloc hG _) _) _ : Glob (((w.alloc (.cells #[.pointer none] 25)).alloc (.cells #[.string p] 9)).alloc (.cells #[.func (.func 52) #[] #[c1, c2, c3]] 76))))
  have HB3 := Lib.hid hb3
  clear hG hb3
  go_enter Tryz.func38, Tryz.ntmps38
  go_wp2_with (go_at_call 43; with_reducible refine HC.out.mono ?_; rintro e w1 ⟨rfl, hb⟩; have HB := Lib.hid hb; clear hb)
  go_ret
  exact ⟨rfl, HB3.out.trans (HB.out.mono HB3.out.size)⟩

theorem callOn_down_Read1 (c1 c2 c3 : Value) (p : ByteArray) (h : Inv L ρ n S w) (hd : S.down = true) (hG : Glob w) :
    Calls Tryz.prog 38 #[.pointer (some ⟨L.b, 0, none⟩), .string p, .func (.func 52) #[] #[c1, c2, c3]] w fun e w' => e = .returned (.int .i64 33) ∧ Below w.heap.size w w' := by
  have hb3 : Below w.heap.size w (((w.alloc (.cells #[.pointer (some ⟨L.b, 0, none⟩)] 25)).alloc (.cells #[.string p] 9)).alloc (.cells #[.func (.func 52) #[] #[c1, c2, c3]] 76)) := (((Below.refl _ _).alloc (Nat.le_refl _) _).alloc (by simp) _).alloc (by simp; omega) _
  have k1 : (((w.alloc (.cells #[.pointer (some ⟨L.b, 0, none⟩)] 25)).alloc (.cells #[.string p] 9)).alloc (.cells #[.func (.func 52) #[] #[c1, c2, c3]] 76)).cell? ⟨w.heap.size, 0, none⟩ = some (.pointer (some ⟨L.b, 0, none⟩)) := by
    rw [World.cell?_alloc_lt _ _ ⟨w.heap.size, 0, none⟩ (by simp; omega), World.cell?_alloc_lt _ _ ⟨w.heap.size, 0, none⟩ (by simp)]; simp
  have HC := Lib.hid (call_down_CallOn1 #[.pointer (some ⟨w.heap.size, 0, none⟩), .pointer (some ⟨w.heap.size + 1, 0, none⟩), .pointer (some ⟨w.heap.size + 1 + 1, 0, none⟩)] (h.below hb3) hd (glob_alloc (glob_alloc (glob_alloc hG _) _) _ : Glob (((w.alloc (.cells #[.pointer (some ⟨L.b, 0, none⟩)] 25)).alloc (.cells #[.string p] 9)).alloc (.cells #[.func (.func 52) #[] #[c1, c2, c3]] 76))))
  have HB3 := Lib.hid hb3
  clear hG hb3 h hd
  go_enter Tryz.func38, Tryz.ntmps38
  go_wp2_with (go_at_call 43; with_reducible refine HC.out.mono ?_; rintro e w1 ⟨rfl, hb⟩; have HB := Lib.hid hb; clear hb)
  go_ret
  exact ⟨rfl, HB3.out.trans (HB.out.mono HB3.out.size)⟩

set_option maxHeartbeats 1000000 in
theorem callOn1_Write1 (c1 c2 c3 : Value) (p : ByteArray) (hp : p.size ≤ 1000000) (b1 b2 b3 : Nat) (h : Inv L ρ n S w) (hc1 : w.cell? ⟨b1, 0, none⟩ = some (.pointer (some ⟨L.b, 0, none⟩))) (hc2 : w.cell? ⟨b2, 0, none⟩ = some (.string p)) (hc3 : w.cell? ⟨b3, 0, none⟩ = some (.func (.func 57) #[] #[c1, c2, c3]))
    {Q : Int → DS → Nat → World → Prop} (hN : findL (S.dirs false) p.data.toList = none → Q 8 S n w) (hA : ∀ i, findL (S.dirs false) p.data.toList = some i → Calls Tryz.prog 57 #[.pointer (some ⟨L.F i, 0, none⟩), c1, c2, c3] w (PostQ L ρ w Q)) :
    Calls Tryz.prog 69 #[.pointer (some ⟨b1, 0, none⟩), .pointer (some ⟨b2, 0, none⟩), .pointer (some ⟨b3, 0, none⟩)] w (PostQ L ρ w Q) := by
  have HF := Lib.hid (find_any h p hp)
  have H := Lib.hid h
  clear h
  cases hq : findL (S.dirs false) p.data.toList with
  | none =>
    rw [hq] at HF
    have HN := Lib.hid (hN hq)
    simp only [ptrF, Option.map_none] at HF
    clear hN hA hq
    go_enter Tryz.func69, Tryz.ntmps69
    go_wp2_with (go_at_call 46; with_reducible refine HF.out.mono ?_; rintro e w1 ⟨rfl, rfl⟩)
    go_ret
    exact ⟨8, L, ρ, n, S, rfl, H.out, Step.refl _ _ _, HN.out⟩
  | some i =>
    rw [hq] at HF
    have HA := Lib.hid (hA i hq)
    simp only [ptrF, Option.map_some] at HF
    clear hN hA hq
    go_enter Tryz.func69, Tryz.ntmps69
    go_wp2_with (first
      | (go_at_call 46; with_reducible refine HF.out.mono ?_; rintro e w1 ⟨rfl, rfl⟩)
      | (go_at_call 57; with_reducible refine HA.out.mono ?_; rintro e w2 ⟨x, L', ρ', n', S', rfl, hI2, hS2, hQ⟩
         have HI2 := Lib.hid hI2; have HS2 := Lib.hid hS2; have HQ := Lib.hid hQ; clear hI2 hS2 hQ))
    go_ret
    exact ⟨x, L', ρ', n', S', rfl, HI2.out, HS2.out, HQ.out⟩

set_option maxHeartbeats 1000000 in
theorem callOn_Write1 (c1 c2 c3 : Value) (p : ByteArray) (hp : p.size ≤ 1000000) (h : Inv L ρ n S w) (hd : S.down = false) (hf : S.flt (S.ops + 1) = 0) (hn : n + 1 ≤ 100000)
    {Q : Int → DS → Nat → World → Prop} (hN : findL (S.dirs false) p.data.toList = none → ∀ w1, Step L ρ w L ρ w1 → Q 8 (begS S) (n + 1) w1) (hA : ∀ i, findL (S.dirs false) p.data.toList = some i → ActQ 57 #[.pointer (some ⟨L.F i, 0, none⟩), c1, c2, c3] L ρ (n + 1) (begS S) w Q) :
    Calls Tryz.prog 38 #[.pointer (some ⟨L.b, 0, none⟩), .string p, .func (.func 57) #[] #[c1, c2, c3]] w (CallQ L ρ w Q) := by
  have hb3 : Below w.heap.size w (((w.alloc (.cells #[.pointer (some ⟨L.b, 0, none⟩)] 25)).alloc (.cells #[.string p] 9)).alloc (.cells #[.func (.func 57) #[] #[c1, c2, c3]] 76)) := (((Below.refl _ _).alloc (Nat.le_refl _) _).alloc (by simp) _).alloc (by simp; omega) _
  have r1 := h.old w.heap.size (Nat.le_refl _)
  have r2 := h.old (w.heap.size + 1) (by omega)
  have r3 := h.old (w.heap.size + 1 + 1) (by omega)
  have k1 : (((w.alloc (.cells #[.pointer (some ⟨L.b, 0, none⟩)] 25)).alloc (.cells #[.string p] 9)).alloc (.cells #[.func (.func 57) #[] #[c1, c2, c3]] 76)).cell? ⟨w.heap.size, 0, none⟩ = some (.pointer (some ⟨L.b, 0, none⟩)) := by
    rw [World.cell?_alloc_lt _ _ ⟨w.heap.size, 0, none⟩ (by simp; omega), World.cell?_alloc_lt _ _ ⟨w.heap.size, 0, none⟩ (by simp)]; simp
  have k2 : (((w.alloc (.cells #[.pointer (some ⟨L.b, 0, none⟩)] 25)).alloc (.cells #[.string p] 9)).alloc (.cells #[.func (.func 57) #[] #[c1, c2, c3]] 76)).cell? ⟨w.heap.size + 1, 0, none⟩ = some (.string p) := by
    rw [World.cell?_alloc_lt _ _ ⟨w.heap.size + 1, 0, none⟩ (by simp), World.cell?_alloc_at _ _ _ _ (by simp)]; rfl
  have k3 : (((w.alloc (.cells #[.pointer (some ⟨L.b, 0, none⟩)] 25)).alloc (.cells #[.string p] 9)).alloc (.cells #[.func (.func 57) #[] #[c1, c2, c3]] 76)).cell? ⟨w.heap.size + 1 + 1, 0, none⟩ = some (.func (.func 57) #[] #[c1, c2, c3]) := by
    rw [World.cell?_alloc_at _ _ _ _ (by simp)]; rfl
  have hC := call_CallOn1 (Q := Q) #[.pointer (some ⟨w.heap.size, 0, none⟩), .pointer (some ⟨w.heap.size + 1, 0, none⟩), .pointer (some ⟨w.heap.size + 1 + 1, 0, none⟩)] (h.below hb3) hd hf hn (by
    intro w1 hI1 hS1 hO1
    refine callOn1_Write1 c1 c2 c3 p hp _ _ _ hI1 (step_cell hS1 r1 k1) (step_cell hS1 r2 k2) (step_cell hS1 r3 k3) (fun hq => ?_) (fun i hq => ?_)
    · exact hN hq w1 ((Step.below hb3).trans hS1)
    · exact hA i hq w1 hI1 ((Step.below hb3).trans hS1) (fun k hk hne => (hO1 k (Nat.lt_of_lt_of_le hk hb3.size) hne).trans (hb3.block k hk)))
  have HC := Lib.hid hC; have HB3 := Lib.hid hb3
  clear hC hA hN h hd hf hb3 r1 r2 r3 k2 k3
  go_enter Tryz.func38, Tryz.ntmps38
  go_wp2_with (go_at_call 43; with_reducible refine HC.out.mono ?_; rintro e w1 ⟨x, L', ρ', n', S', rfl, hI, hS, hQ⟩; have HI := Lib.hid hI; have HS := Lib.hid hS; have HQ := Lib.hid hQ; clear hI hS hQ)
  go_ret
  exact ⟨x, L', ρ', n', S', rfl, HI.out, (Step.below HB3.out).trans HS.out, HQ.out⟩

theorem callOn_nil_Write1 (c1 c2 c3 : Value) (p : ByteArray) (hG : Glob w) :
    Calls Tryz.prog 38 #[.pointer none, .string p, .func (.func 57) #[] #[c1, c2, c3]] w fun e w' => e = .returned (.int .i64 10) ∧ Below w.heap.size w w' := by
  have hb3 : Below w.heap.size w (((w.alloc (.cells #[.pointer none] 25)).alloc (.cells #[.string p] 9)).alloc (.cells #[.func (.func 57) #[] #[c1, c2, c3]] 76)) := (((Below.refl _ _).alloc (Nat.le_refl _) _).alloc (by simp) _).alloc (by simp; omega) _
  have k1 : (((w.alloc (.cells #[.pointer none] 25)).alloc (.cells #[.string p] 9)).alloc (.cells #[.func (.func 57) #[] #[c1, c2, c3]] 76)).cell? ⟨w.heap.size, 0, none⟩ = some (.pointer none) := by
    rw [World.cell?_alloc_lt _ _ ⟨w.heap.size, 0, none⟩ (by simp; omega), World.cell?_alloc_lt _ _ ⟨w.heap.size, 0, none⟩ (by simp)]; simp
  have HC := Lib.hid (call_nil_CallOn1 #[.pointer (some ⟨w.heap.size, 0, none⟩), .pointer (some ⟨w.heap.size + 1, 0, none⟩), .pointer (some ⟨w.heap.size + 1 + 1, 0, none⟩)] (glob_alloc (glob_alloc (glob_alloc hG _) _) _ : Glob (((w.alloc (.cells #[.pointer none] 25)).alloc (.cells #[.string p] 9)).alloc (.cells #[.func (.func 57) #[] #[c1, c2, c3]] 76))))
  have HB3 := Lib.hid hb3
  clear hG hb3
  go_enter Tryz.func38, Tryz.ntmps38
  go_wp2_with (go_at_call 43; with_reducible refine HC.out.mono ?_; rintro e w1 ⟨rfl, hb⟩; have HB := Lib.hid hb; clear hb)
  go_ret
  exact ⟨rfl, HB3.out.trans (HB.out.mono HB3.out.size)⟩

theorem callOn_down_Write1 (c1 c2 c3 : Value) (p : ByteArray) (h : Inv L ρ n S w) (hd : S.down = true) (hG : Glob w) :
    Calls Tryz.prog 38 #[.pointer (some ⟨L.b, 0, none⟩), .string p, .func (.func 57) #[] #[c1, c2, c3]] w fun e w' => e = .returned (.int .i64 33) ∧ Below w.heap.size w w' := by
  have hb3 : Below w.heap.size w (((w.alloc (.cells #[.pointer (some ⟨L.b, 0, none⟩)] 25)).alloc (.cells #[.string p] 9)).alloc (.cells #[.func (.func 57) #[] #[c1, c2, c3]] 76)) := (((Below.refl _ _).alloc (Nat.le_refl _) _).alloc (by simp) _).alloc (by simp; omega) _
  have k1 : (((w.alloc (.cells #[.pointer (some ⟨L.b, 0, none⟩)] 25)).alloc (.cells #[.string p] 9)).alloc (.cells #[.func (.func 57) #[] #[c1, c2, c3]] 76)).cell? ⟨w.heap.size, 0, none⟩ = some (.pointer (some ⟨L.b, 0, none⟩)) := by
    rw [World.cell?_alloc_lt _ _ ⟨w.heap.size, 0, none⟩ (by simp; omega), World.cell?_alloc_lt _ _ ⟨w.heap.size, 0, none⟩ (by simp)]; simp
  have HC := Lib.hid (call_down_CallOn1 #[.pointer (some ⟨w.heap.size, 0, none⟩), .pointer (some ⟨w.heap.size + 1, 0, none⟩), .pointer (some ⟨w.heap.size + 1 + 1, 0, none⟩)] (h.below hb3) hd (glob_alloc (glob_alloc (glob_alloc hG _) _) _ : Glob (((w.alloc (.cells #[.pointer (some ⟨L.b, 0, none⟩)] 25)).alloc (.cells #[.string p] 9)).alloc (.cells #[.func (.func 57) #[] #[c1, c2, c3]] 76))))
  have HB3 := Lib.hid hb3
  clear hG hb3 h hd
  go_enter Tryz.func38, Tryz.ntmps38
  go_wp2_with (go_at_call 43; with_reducible refine HC.out.mono ?_; rintro e w1 ⟨rfl, hb⟩; have HB := Lib.hid hb; clear hb)
  go_ret
  exact ⟨rfl, HB3.out.trans (HB.out.mono HB3.out.size)⟩

set_option maxHeartbeats 1000000 in
theorem callOn1_Trunc1 (c1 c2 : Value) (p : ByteArray) (hp : p.size ≤ 1000000) (b1 b2 b3 : Nat) (h : Inv L ρ n S w) (hc1 : w.cell? ⟨b1, 0, none⟩ = some (.pointer (some ⟨L.b, 0, none⟩))) (hc2 : w.cell? ⟨b2, 0, none⟩ = some (.string p)) (hc3 : w.cell? ⟨b3, 0, none⟩ = some (.func (.func 59) #[] #[c1, c2]))
    {Q : Int → DS → Nat → World → Prop} (hN : findL (S.dirs false) p.data.toList = none → Q 8 S n w) (hA : ∀ i, findL (S.dirs false) p.data.toList = some i → Calls Tryz.prog 59 #[.pointer (some ⟨L.F i, 0, none⟩), c1, c2] w (PostQ L ρ w Q)) :
    Calls Tryz.prog 69 #[.pointer (some ⟨b1, 0, none⟩), .pointer (some ⟨b2, 0, none⟩), .pointer (some ⟨b3, 0, none⟩)] w (PostQ L ρ w Q) := by
  have HF := Lib.hid (find_any h p hp)
  have H := Lib.hid h
  clear h
  cases hq : findL (S.dirs false) p.data.toList with
  | none =>
    rw [hq] at HF
    have HN := Lib.hid (hN hq)
    simp only [ptrF, Option.map_none] at HF
    clear hN hA hq
    go_enter Tryz.func69, Tryz.ntmps69
    go_wp2_with (go_at_call 46; with_reducible refine HF.out.mono ?_; rintro e w1 ⟨rfl, rfl⟩)
    go_ret
    exact ⟨8, L, ρ, n, S, rfl, H.out, Step.refl _ _ _, HN.out⟩
  | some i =>
    rw [hq] at HF
    have HA := Lib.hid (hA i hq)
    simp only [ptrF, Option.map_some] at HF
    clear hN hA hq
    go_enter Tryz.func69, Tryz.ntmps69
    go_wp2_with (first
      | (go_at_call 46; with_reducible refine HF.out.mono ?_; rintro e w1 ⟨rfl, rfl⟩)
      | (go_at_call 59; with_reducible refine HA.out.mono ?_; rintro e w2 ⟨x, L', ρ', n', S', rfl, hI2, hS2, hQ⟩
         have HI2 := Lib.hid hI2; have HS2 := Lib.hid hS2; have HQ := Lib.hid hQ; clear hI2 hS2 hQ))
    go_ret
    exact ⟨x, L', ρ', n', S', rfl, HI2.out, HS2.out, HQ.out⟩

set_option maxHeartbeats 1000000 in
theorem callOn_Trunc1 (c1 c2 : Value) (p : ByteArray) (hp : p.size ≤ 1000000) (h : Inv L ρ n S w) (hd : S.down = false) (hf : S.flt (S.ops + 1) = 0) (hn : n + 1 ≤ 100000)
    {Q : Int → DS → Nat → World → Prop} (hN : findL (S.dirs false) p.data.toList = none → ∀ w1, Step L ρ w L ρ w1 → Q 8 (begS S) (n + 1) w1) (hA : ∀ i, findL (S.dirs false) p.data.toList = some i → ActQ 59 #[.pointer (some ⟨L.F i, 0, none⟩), c1, c2] L ρ (n + 1) (begS S) w Q) :
    Calls Tryz.prog 38 #[.pointer (some ⟨L.b, 0, none⟩), .string p, .func (.func 59) #[] #[c1, c2]] w (CallQ L ρ w Q) := by
  have hb3 : Below w.heap.size w (((w.alloc (.cells #[.pointer (some ⟨L.b, 0, none⟩)] 25)).alloc (.cells #[.string p] 9)).alloc (.cells #[.func (.func 59) #[] #[c1, c2]] 76)) := (((Below.refl _ _).alloc (Nat.le_refl _) _).alloc (by simp) _).alloc (by simp; omega) _
  have r1 := h.old w.heap.size (Nat.le_refl _)
  have r2 := h.old (w.heap.size + 1) (by omega)
  have r3 := h.old (w.heap.size + 1 + 1) (by omega)
  have k1 : (((w.alloc (.cells #[.pointer (some ⟨L.b, 0, none⟩)] 25)).alloc (.cells #[.string p] 9)).alloc (.cells #[.func (.func 59) #[] #[c1, c2]] 76)).cell? ⟨w.heap.size, 0, none⟩ = some (.pointer (some ⟨L.b, 0, none⟩)) := by
    rw [World.cell?_alloc_lt _ _ ⟨w.heap.size, 0, none⟩ (by simp; omega), World.cell?_alloc_lt _ _ ⟨w.heap.size, 0, none⟩ (by simp)]; simp
  have k2 : (((w.alloc (.cells #[.pointer (some ⟨L.b, 0, none⟩)] 25)).alloc (.cells #[.string p] 9)).alloc (.cells #[.func (.func 59) #[] #[c1, c2]] 76)).cell? ⟨w.heap.size + 1, 0, none⟩ = some (.string p) := by
    rw [World.cell?_alloc_lt _ _ ⟨w.heap.size + 1, 0, none⟩ (by simp), World.cell?_alloc_at _ _ _ _ (by simp)]; rfl
  have k3 : (((w.alloc (.cells #[.pointer (some ⟨L.b, 0, none⟩)] 25)).alloc (.cells #[.string p] 9)).alloc (.cells #[.func (.func 59) #[] #[c1, c2]] 76)).cell? ⟨w.heap.size + 1 + 1, 0, none⟩ = some (.func (.func 59) #[] #[c1, c2]) := by
    rw [World.cell?_alloc_at _ _ _ _ (by simp)]; rfl
  have hC := call_CallOn1 (Q := Q) #[.pointer (some ⟨w.heap.size, 0, none⟩), .pointer (some ⟨w.heap.size + 1, 0, none⟩), .pointer (some ⟨w.heap.size + 1 + 1, 0, none⟩)] (h.below hb3) hd hf hn (by
    intro w1 hI1 hS1 hO1
    refine callOn1_Trunc1 c1 c2 p hp _ _ _ hI1 (step_cell hS1 r1 k1) (step_cell hS1 r2 k2) (step_cell hS1 r3 k3) (fun hq => ?_) (fun i hq => ?_)
    · exact hN hq w1 ((Step.below hb3).trans hS1)
    · exact hA i hq w1 hI1 ((Step.below hb3).trans hS1) (fun k hk hne => (hO1 k (Nat.lt_of_lt_of_le hk hb3.size) hne).trans (hb3.block k hk)))
  have HC := Lib.hid hC; have HB3 := Lib.hid hb3
  clear hC hA hN h hd hf hb3 r1 r2 r3 k2 k3
  go_enter Tryz.func38, Tryz.ntmps38
  go_wp2_with (go_at_call 43; with_reducible refine HC.out.mono ?_; rintro e w1 ⟨x, L', ρ', n', S', rfl, hI, hS, hQ⟩; have HI := Lib.hid hI; have HS := Lib.hid hS; have HQ := Lib.hid hQ; clear hI hS hQ)
  go_ret
  exact ⟨x, L', ρ', n', S', rfl, HI.out, (Step.below HB3.out).trans HS.out, HQ.out⟩

theorem callOn_nil_Trunc1 (c1 c2 : Value) (p : ByteArray) (hG : Glob w) :
    Calls Tryz.prog 38 #[.pointer none, .string p, .func (.func 59) #[] #[c1, c2]] w fun e w' => e = .returned (.int .i64 10) ∧ Below w.heap.size w w' := by
  have hb3 : Below w.heap.size w (((w.alloc (.cells #[.pointer none] 25)).alloc (.cells #[.string p] 9)).alloc (.cells #[.func (.func 59) #[] #[c1, c2]] 76)) := (((Below.refl _ _).alloc (Nat.le_refl _) _).alloc (by simp) _).alloc (by simp; omega) _
  have k1 : (((w.alloc (.cells #[.pointer none] 25)).alloc (.cells #[.string p] 9)).alloc (.cells #[.func (.func 59) #[] #[c1, c2]] 76)).cell? ⟨w.heap.size, 0, none⟩ = some (.pointer none) := by
    rw [World.cell?_alloc_lt _ _ ⟨w.heap.size, 0, none⟩ (by simp; omega), World.cell?_alloc_lt _ _ ⟨w.heap.size, 0, none⟩ (by simp)]; simp
  have HC := Lib.hid (call_nil_CallOn1 #[.pointer (some ⟨w.heap.size, 0, none⟩), .pointer (some ⟨w.heap.size + 1, 0, none⟩), .pointer (some ⟨w.heap.size + 1 + 1, 0, none⟩)] (glob_alloc (glob_alloc (glob_alloc hG _) _) _ : Glob (((w.alloc (.cells #[.pointer none] 25)).alloc (.cells #[.string p] 9)).alloc (.cells #[.func (.func 59) #[] #[c1, c2]] 76))))
  have HB3 := Lib.hid hb3
  clear hG hb3
  go_enter Tryz.func38, Tryz.ntmps38
  go_wp2_with (go_at_call 43; with_reducible refine HC.out.mono ?_; rintro e w1 ⟨rfl, hb⟩; have HB := Lib.hid hb; clear hb)
  go_ret
  exact ⟨rfl, HB3.out.trans (HB.out.mono HB3.out.size)⟩

theorem callOn_down_Trunc1 (c1 c2 : Value) (p : ByteArray) (h : Inv L ρ n S w) (hd : S.down = true) (hG : Glob w) :
    Calls Tryz.prog 38 #[.pointer (some ⟨L.b, 0, none⟩), .string p, .func (.func 59) #[] #[c1, c2]] w fun e w' => e = .returned (.int .i64 33) ∧ Below w.heap.size w w' := by
  have hb3 : Below w.heap.size w (((w.alloc (.cells #[.pointer (some ⟨L.b, 0, none⟩)] 25)).alloc (.cells #[.string p] 9)).alloc (.cells #[.func (.func 59) #[] #[c1, c2]] 76)) := (((Below.refl _ _).alloc (Nat.le_refl _) _).alloc (by simp) _).alloc (by simp; omega) _
  have k1 : (((w.alloc (.cells #[.pointer (some ⟨L.b, 0, none⟩)] 25)).alloc (.cells #[.string p] 9)).alloc (.cells #[.func (.func 59) #[] #[c1, c2]] 76)).cell? ⟨w.heap.size, 0, none⟩ = some (.pointer (some ⟨L.b, 0, none⟩)) := by
    rw [World.cell?_alloc_lt _ _ ⟨w.heap.size, 0, none⟩ (by simp; omega), World.cell?_alloc_lt _ _ ⟨w.heap.size, 0, none⟩ (by simp)]; simp
  have HC := Lib.hid (call_down_CallOn1 #[.pointer (some ⟨w.heap.size, 0, none⟩), .pointer (some ⟨w.heap.size + 1, 0, none⟩), .pointer (some ⟨w.heap.size + 1 + 1, 0, none⟩)] (h.below hb3) hd (glob_alloc (glob_alloc (glob_alloc hG _) _) _ : Glob (((w.alloc (.cells #[.pointer (some ⟨L.b, 0, none⟩)] 25)).alloc (.cells #[.string p] 9)).alloc (.cells #[.func (.func 59) #[] #[c1, c2]] 76))))
  have HB3 := Lib.hid hb3
  clear hG hb3 h hd
  go_enter Tryz.func38, Tryz.ntmps38
  go_wp2_with (go_at_call 43; with_reducible refine HC.out.mono ?_; rintro e w1 ⟨rfl, hb⟩; have HB := Lib.hid hb; clear hb)
  go_ret
  exact ⟨rfl, HB3.out.trans (HB.out.mono HB3.out.size)⟩

set_option maxHeartbeats 1000000 in
theorem callOn1_Sync1 (c1 : Value) (p : ByteArray) (hp : p.size ≤ 1000000) (b1 b2 b3 : Nat) (h : Inv L ρ n S w) (hc1 : w.cell? ⟨b1, 0, none⟩ = some (.pointer (some ⟨L.b, 0, none⟩))) (hc2 : w.cell? ⟨b2, 0, none⟩ = some (.string p)) (hc3 : w.cell? ⟨b3, 0, none⟩ = some (.func (.func 39) #[] #[c1]))
    {Q : Int → DS → Nat → World → Prop} (hN : findL (S.dirs false) p.data.toList = none → Q 8 S n w) (hA : ∀ i, findL (S.dirs false) p.data.toList = some i → Calls Tryz.prog 39 #[.pointer (some ⟨L.F i, 0, none⟩), c1] w (PostQ L ρ w Q)) :
    Calls Tryz.prog 69 #[.pointer (some ⟨b1, 0, none⟩), .pointer (some ⟨b2, 0, none⟩), .pointer (some ⟨b3, 0, none⟩)] w (PostQ L ρ w Q) := by
  have HF := Lib.hid (find_any h p hp)
  have H := Lib.hid h
  clear h
  cases hq : findL (S.dirs false) p.data.toList with
  | none =>
    rw [hq] at HF
    have HN := Lib.hid (hN hq)
    simp only [ptrF, Option.map_none] at HF
    clear hN hA hq
    go_enter Tryz.func69, Tryz.ntmps69
    go_wp2_with (go_at_call 46; with_reducible refine HF.out.mono ?_; rintro e w1 ⟨rfl, rfl⟩)
    go_ret
    exact ⟨8, L, ρ, n, S, rfl, H.out, Step.refl _ _ _, HN.out⟩
  | some i =>
    rw [hq] at HF
    have HA := Lib.hid (hA i hq)
    simp only [ptrF, Option.map_some] at HF
    clear hN hA hq
    go_enter Tryz.func69, Tryz.ntmps69
    go_wp2_with (first
      | (go_at_call 46; with_reducible refine HF.out.mono ?_; rintro e w1 ⟨rfl, rfl⟩)
      | (go_at_call 39; with_reducible refine HA.out.mono ?_; rintro e w2 ⟨x, L', ρ', n', S', rfl, hI2, hS2, hQ⟩
         have HI2 := Lib.hid hI2; have HS2 := Lib.hid hS2; have HQ := Lib.hid hQ; clear hI2 hS2 hQ))
    go_ret
    exact ⟨x, L', ρ', n', S', rfl, HI2.out, HS2.out, HQ.out⟩

set_option maxHeartbeats 1000000 in
theorem callOn_Sync1 (c1 : Value) (p : ByteArray) (hp : p.size ≤ 1000000) (h : Inv L ρ n S w) (hd : S.down = false) (hf : S.flt (S.ops + 1) = 0) (hn : n + 1 ≤ 100000)
    {Q : Int → DS → Nat → World → Prop} (hN : findL (S.dirs false) p.data.toList = none → ∀ w1, Step L ρ w L ρ w1 → Q 8 (begS S) (n + 1) w1) (hA : ∀ i, findL (S.dirs false) p.data.toList = some i → ActQ 39 #[.pointer (some ⟨L.F i, 0, none⟩), c1] L ρ (n + 1) (begS S) w Q) :
    Calls Tryz.prog 38 #[.pointer (some ⟨L.b, 0, none⟩), .string p, .func (.func 39) #[] #[c1]] w (CallQ L ρ w Q) := by
  have hb3 : Below w.heap.size w (((w.alloc (.cells #[.pointer (some ⟨L.b, 0, none⟩)] 25)).alloc (.cells #[.string p] 9)).alloc (.cells #[.func (.func 39) #[] #[c1]] 76)) := (((Below.refl _ _).alloc (Nat.le_refl _) _).alloc (by simp) _).alloc (by simp; omega) _
  have r1 := h.old w.heap.size (Nat.le_refl _)
  have r2 := h.old (w.heap.size + 1) (by omega)
  have r3 := h.old (w.heap.size + 1 + 1) (by omega)
  have k1 : (((w.alloc (.cells #[.pointer (some ⟨L.b, 0, none⟩)] 25)).alloc (.cells #[.string p] 9)).alloc (.cells #[.func (.func 39) #[] #[c1]] 76)).cell? ⟨w.heap.size, 0, none⟩ = some (.pointer (some ⟨L.b, 0, none⟩)) := by
    rw [World.cell?_alloc_lt _ _ ⟨w.heap.size, 0, none⟩ (by simp; omega), World.cell?_alloc_lt _ _ ⟨w.heap.size, 0, none⟩ (by simp)]; simp
  have k2 : (((w.alloc (.cells #[.pointer (some ⟨L.b, 0, none⟩)] 25)).alloc (.cells #[.string p] 9)).alloc (.cells #[.func (.func 39) #[] #[c1]] 76)).cell? ⟨w.heap.size + 1, 0, none⟩ = some (.string p) := by
    rw [World.cell?_alloc_lt _ _ ⟨w.heap.size + 1, 0, none⟩ (by simp), World.cell?_alloc_at _ _ _ _ (by simp)]; rfl
  have k3 : (((w.alloc (.cells #[.pointer (some ⟨L.b, 0, none⟩)] 25)).alloc (.cells #[.string p] 9)).alloc (.cells #[.func (.func 39) #[] #[c1]] 76)).cell? ⟨w.heap.size + 1 + 1, 0, none⟩ = some (.func (.func 39) #[] #[c1]) := by
    rw [World.cell?_alloc_at _ _ _ _ (by simp)]; rfl
  have hC := call_CallOn1 (Q := Q) #[.pointer (some ⟨w.heap.size, 0, none⟩), .pointer (some ⟨w.heap.size + 1, 0, none⟩), .pointer (some ⟨w.heap.size + 1 + 1, 0, none⟩)] (h.below hb3) hd hf hn (by
    intro w1 hI1 hS1 hO1
    refine callOn1_Sync1 c1 p hp _ _ _ hI1 (step_cell hS1 r1 k1) (step_cell hS1 r2 k2) (step_cell hS1 r3 k3) (fun hq => ?_) (fun i hq => ?_)
    · exact hN hq w1 ((Step.below hb3).trans hS1)
    · exact hA i hq w1 hI1 ((Step.below hb3).trans hS1) (fun k hk hne => (hO1 k (Nat.lt_of_lt_of_le hk hb3.size) hne).trans (hb3.block k hk)))
  have HC := Lib.hid hC; have HB3 := Lib.hid hb3
  clear hC hA hN h hd hf hb3 r1 r2 r3 k2 k3
  go_enter Tryz.func38, Tryz.ntmps38
  go_wp2_with (go_at_call 43; with_reducible refine HC.out.mono ?_; rintro e w1 ⟨x, L', ρ', n', S', rfl, hI, hS, hQ⟩; have HI := Lib.hid hI; have HS := Lib.hid hS; have HQ := Lib.hid hQ; clear hI hS hQ)
  go_ret
  exact ⟨x, L', ρ', n', S', rfl, HI.out, (Step.below HB3.out).trans HS.out, HQ.out⟩

theorem callOn_nil_Sync1 (c1 : Value) (p : ByteArray) (hG : Glob w) :
    Calls Tryz.prog 38 #[.pointer none, .string p, .func (.func 39) #[] #[c1]] w fun e w' => e = .returned (.int .i64 10) ∧ Below w.heap.size w w' := by
  have hb3 : Below w.heap.size w (((w.alloc (.cells #[.pointer none] 25)).alloc (.cells #[.string p] 9)).alloc (.cells #[.func (.func 39) #[] #[c1]] 76)) := (((Below.refl _ _).alloc (Nat.le_refl _) _).alloc (by simp) _).alloc (by simp; omega) _
  have k1 : (((w.alloc (.cells #[.pointer none] 25)).alloc (.cells #[.string p] 9)).alloc (.cells #[.func (.func 39) #[] #[c1]] 76)).cell? ⟨w.heap.size, 0, none⟩ = some (.pointer none) := by
    rw [World.cell?_alloc_lt _ _ ⟨w.heap.size, 0, none⟩ (by simp; omega), World.cell?_alloc_lt _ _ ⟨w.heap.size, 0, none⟩ (by simp)]; simp
  have HC := Lib.hid (call_nil_CallOn1 #[.pointer (some ⟨w.heap.size, 0, none⟩), .pointer (some ⟨w.heap.size + 1, 0, none⟩), .pointer (some ⟨w.heap.size + 1 + 1, 0, none⟩)] (glob_alloc (glob_alloc (glob_alloc hG _) _) _ : Glob (((w.alloc (.cells #[.pointer none] 25)).alloc (.cells #[.string p] 9)).alloc (.cells #[.func (.func 39) #[] #[c1]] 76))))
  have HB3 := Lib.hid hb3
  clear hG hb3
  go_enter Tryz.func38, Tryz.ntmps38
  go_wp2_with (go_at_call 43; with_reducible refine HC.out.mono ?_; rintro e w1 ⟨rfl, hb⟩; have HB := Lib.hid hb; clear hb)
  go_ret
  exact ⟨rfl, HB3.out.trans (HB.out.mono HB3.out.size)⟩

theorem callOn_down_Sync1 (c1 : Value) (p : ByteArray) (h : Inv L ρ n S w) (hd : S.down = true) (hG : Glob w) :
    Calls Tryz.prog 38 #[.pointer (some ⟨L.b, 0, none⟩), .string p, .func (.func 39) #[] #[c1]] w fun e w' => e = .returned (.int .i64 33) ∧ Below w.heap.size w w' := by
  have hb3 : Below w.heap.size w (((w.alloc (.cells #[.pointer (some ⟨L.b, 0, none⟩)] 25)).alloc (.cells #[.string p] 9)).alloc (.cells #[.func (.func 39) #[] #[c1]] 76)) := (((Below.refl _ _).alloc (Nat.le_refl _) _).alloc (by simp) _).alloc (by simp; omega) _
  have k1 : (((w.alloc (.cells #[.pointer (some ⟨L.b, 0, none⟩)] 25)).alloc (.cells #[.string p] 9)).alloc (.cells #[.func (.func 39) #[] #[c1]] 76)).cell? ⟨w.heap.size, 0, none⟩ = some (.pointer (some ⟨L.b, 0, none⟩)) := by
    rw [World.cell?_alloc_lt _ _ ⟨w.heap.size, 0, none⟩ (by simp; omega), World.cell?_alloc_lt _ _ ⟨w.heap.size, 0, none⟩ (by simp)]; simp
  have HC := Lib.hid (call_down_CallOn1 #[.pointer (some ⟨w.heap.size, 0, none⟩), .pointer (some ⟨w.heap.size + 1, 0, none⟩), .pointer (some ⟨w.heap.size + 1 + 1, 0, none⟩)] (h.below hb3) hd (glob_alloc (glob_alloc (glob_alloc hG _) _) _ : Glob (((w.alloc (.cells #[.pointer (some ⟨L.b, 0, none⟩)] 25)).alloc (.cells #[.string p] 9)).alloc (.cells #[.func (.func 39) #[] #[c1]] 76))))
  have HB3 := Lib.hid hb3
  clear hG hb3 h hd
  go_enter Tryz.func38, Tryz.ntmps38
  go_wp2_with (go_at_call 43; with_reducible refine HC.out.mono ?_; rintro e w1 ⟨rfl, hb⟩; have HB := Lib.hid hb; clear hb)
  go_ret
  exact ⟨rfl, HB3.out.trans (HB.out.mono HB3.out.size)⟩
end Go.Proofs.YtkfncnpeockiaaaGreatDoor
