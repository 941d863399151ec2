/-
  Layer 7: Delete and DirSync: what they do inside a counted call, and the calls; Size, Down, CrashAt. Condition: the sizes that the invariant holds.
  Layer 7: number: the error of the api that an error is, or that a fault wraps (errors.As, by Go's own text). Condition: the variable errors.errorType holds what the program's text lays there.
  Layer 7: call and callOn: a counted call around what it does; at a nil disk ErrState, at one that is down ErrCrash. Condition: the variable errors.errorType holds what the program's text lays there.
  Layer 7: what Create, Write and Sync do inside a counted call: a new file, a write, the pending changes of one file made durable. Condition: the sizes that the invariant holds; the paths of the visible state are distinct.
  Layer 7: Create and Write: what they do inside a counted call, and the calls. Condition: the sizes that the invariant holds; the paths of the visible state are distinct.
  Layer 7: the paths of a directory are distinct, and stay so through changes (mathematics only).
  Layer 7: the paths of a directory are in order, and stay so through changes (mathematics only).
  Layer 7: Write: what it does inside a counted call, and the call. Condition: the sizes that the invariant holds; the paths of the visible state are distinct.
  Layer 7: maps.Clone of a map of files: nil for nil, else a new block with the same entries. Condition: none.
  Layer 7: Truncate and Read: what they do inside a counted call, and the calls. Condition: the sizes that the invariant holds; the paths of the visible state are distinct.
  Layer 7: Read of a file that is there, at an offset and a length that are not negative: the bytes from the offset on, as far as the file reaches. Condition: the sizes that the invariant holds; no crash at this call.
  Layer 7: settle with the choice that DirSync makes: the pending changes of the directory become durable, in order, the others stay pending. Condition: the sizes that the invariant holds.
-/
import Derived.Shelf.SlMaps.Clone
import Derived.Laws.IdiomRangeMap
import Derived.Deep.Cut
import Derived.Test.YthfebcfdhmihcaaGreatDoorMh2
import Derived.Test.YthfebcfdhmihcaaGreatDoorMh1
namespace Go.Proofs.YthfebcfdhmihcaaGreatDoor
open Go.RowKit Go.Extern.Stop Go.Stop Go.Extern

theorem glob_alloc {w : World} (h : Glob w) (o : Obj) : Glob (w.alloc o) := by
  unfold Glob at *
  rw [World.cell?_alloc_lt _ _ ⟨1, 0, none⟩ (World.block_lt_of_cell? w _ h)]
  exact h
theorem glob_block {w w' : World} (h : Glob w) (hb : w'.heap[1]? = w.heap[1]?) : Glob w' := by
  unfold Glob at *
  rw [World.cell?_of_block (a := ⟨1, 0, none⟩) hb]; exact h

/-- The blocks that errors.As leaves, at the errors that are asked for here. -/
def asW (w : World) (t : Addr) : World := ((w.alloc (.cells #[.pointer (some t)] 125)).alloc (.cells #[.pointer (some ⟨6, 125, none⟩), .pointer (some ⟨w.heap.size, 0, none⟩), .int .u64 150] 179)).alloc (.cells #[.pointer (some ⟨6, 125, none⟩), .pointer (some ⟨w.heap.size, 0, none⟩), .int .u64 150] 179)

end Go.Proofs.YthfebcfdhmihcaaGreatDoor

namespace Go.Proofs.YthfebcfdhmihcaaGreatDoor
open Go.RowKit
variable {L : Loc} {ρ ρ' : Nat → Option Role} {n : Nat} {S : DS} {w w' : World}

abbrev PostQ (L : Loc) (ρ : Nat → Option Role) (w : World) (Q : Int → DS → Nat → World → Prop) (e : Ending) (w' : World) : Prop :=
  ∃ x L' ρ' n' S', e = .returned (.int .i64 x) ∧ Inv L' ρ' n' S' w' ∧ Step L ρ w L' ρ' w' ∧ Q x S' n' w'
/-- What a call does: from any world in which the disk is in this state, it ends in Q. -/
def ActQ (K : Nat) (args : Array Value) (L : Loc) (ρ : Nat → Option Role) (n : Nat) (S : DS) (w : World) (Q : Int → DS → Nat → World → Prop) : Prop :=
  ∀ w1, Inv L ρ n S w1 → Step L ρ w L ρ w1 → (∀ k, k < w.heap.size → k ≠ L.b → w1.heap[k]? = w.heap[k]?) → Calls Tryz.prog K args w1 (PostQ L ρ w1 Q)
def cutE (S : DS) (x : Int) : Int := if S.down = true then 33 else x
abbrev CallQ (L : Loc) (ρ : Nat → Option Role) (w : World) (Q : Int → DS → Nat → World → Prop) (e : Ending) (w' : World) : Prop :=
  ∃ x L' ρ' n' S', e = .returned (.int .i64 (cutE S' x)) ∧ Inv L' ρ' n' S' w' ∧ Step L ρ w L' ρ' w' ∧ Q x S' n' w'
theorem ret_cut {S : DS} {x y : Int} (h : y = cutE S x) : Ending.returned (.int .i64 y) = .returned (.int .i64 (cutE S x)) := by rw [h]
theorem step_cell (h : Step L ρ w L ρ w') {g i : Nat} {v : Value} (hr : ρ g = none) (hc : w.cell? ⟨g, i, none⟩ = some v) : w'.cell? ⟨g, i, none⟩ = some v := by
  rw [World.cell?_of_block (a := ⟨g, i, none⟩) (h.blk g (World.block_lt_of_cell? w _ hc) hr)]; exact hc

set_option maxHeartbeats 1000000 in
theorem call_Create1 (caps : Array Value) (h : Inv L ρ n S w) (hd : S.down = false) (hf : S.flt (S.ops + 1) = 0) (hn : n + 1 ≤ 100000) {Q : Int → DS → Nat → World → Prop} (hA : ActQ 59 caps L ρ (n + 1) (begS S) w Q) :
    Calls Tryz.prog 58 #[.pointer (some ⟨L.b, 0, none⟩), .func (.func 59) #[] caps] w (CallQ L ρ w Q) := by
  have HB := Lib.hid (begin_ok h hd hf hn)
  have HA := Lib.hid hA
  clear h hd hf hA
  go_enter Tryz.func58, Tryz.ntmps58
  go_wp2_with (first
    | (go_at_call 101; with_reducible refine HB.out.mono ?_; rintro e w1 ⟨rfl, hI1, hS1, hO1⟩
       have HA1 := Lib.hid (HA.out w1 hI1 hS1 hO1); have HS1 := Lib.hid hS1; clear hI1 hS1 hO1)
    | (go_at_call 59; with_reducible refine HA1.out.mono ?_; rintro e w2 ⟨x, L', ρ', n', S', rfl, hI2, hS2, hQ⟩
       have c7 := blk_cell hI2.blk 7 rfl
       rw [hS2.b] at c7
       have HI2 := Lib.hid hI2; have HS2 := Lib.hid hS2; have HQ := Lib.hid hQ; clear hI2 hS2 hQ))
  all_goals
    go_ret
    refine ⟨x, L', ρ', n', S', ret_cut ?_, HI2.out, HS1.out.trans HS2.out, HQ.out⟩
    unfold cutE; simp_all
set_option maxHeartbeats 1000000 in
theorem call_DirSync1 (caps : Array Value) (h : Inv L ρ n S w) (hd : S.down = false) (hf : S.flt (S.ops + 1) = 0) (hn : n + 1 ≤ 100000) {Q : Int → DS → Nat → World → Prop} (hA : ActQ 69 caps L ρ (n + 1) (begS S) w Q) :
    Calls Tryz.prog 58 #[.pointer (some ⟨L.b, 0, none⟩), .func (.func 69) #[] caps] w (CallQ L ρ w Q) := by
  have HB := Lib.hid (begin_ok h hd hf hn)
  have HA := Lib.hid hA
  clear h hd hf hA
  go_enter Tryz.func58, Tryz.ntmps58
  go_wp2_with (first
    | (go_at_call 101; with_reducible refine HB.out.mono ?_; rintro e w1 ⟨rfl, hI1, hS1, hO1⟩
       have HA1 := Lib.hid (HA.out w1 hI1 hS1 hO1); have HS1 := Lib.hid hS1; clear hI1 hS1 hO1)
    | (go_at_call 69; with_reducible refine HA1.out.mono ?_; rintro e w2 ⟨x, L', ρ', n', S', rfl, hI2, hS2, hQ⟩
       have c7 := blk_cell hI2.blk 7 rfl
       rw [hS2.b] at c7
       have HI2 := Lib.hid hI2; have HS2 := Lib.hid hS2; have HQ := Lib.hid hQ; clear hI2 hS2 hQ))
  all_goals
    go_ret
    refine ⟨x, L', ρ', n', S', ret_cut ?_, HI2.out, HS1.out.trans HS2.out, HQ.out⟩
    unfold cutE; simp_all
set_option maxHeartbeats 1000000 in
theorem call_CallOn1 (caps : Array Value) (h : Inv L ρ n S w) (hd : S.down = false) (hf : S.flt (S.ops + 1) = 0) (hn : n + 1 ≤ 100000) {Q : Int → DS → Nat → World → Prop} (hA : ActQ 104 caps L ρ (n + 1) (begS S) w Q) :
    Calls Tryz.prog 58 #[.pointer (some ⟨L.b, 0, none⟩), .func (.func 104) #[] caps] w (CallQ L ρ w Q) := by
  have HB := Lib.hid (begin_ok h hd hf hn)
  have HA := Lib.hid hA
  clear h hd hf hA
  go_enter Tryz.func58, Tryz.ntmps58
  go_wp2_with (first
    | (go_at_call 101; with_reducible refine HB.out.mono ?_; rintro e w1 ⟨rfl, hI1, hS1, hO1⟩
       have HA1 := Lib.hid (HA.out w1 hI1 hS1 hO1); have HS1 := Lib.hid hS1; clear hI1 hS1 hO1)
    | (go_at_call 104; with_reducible refine HA1.out.mono ?_; rintro e w2 ⟨x, L', ρ', n', S', rfl, hI2, hS2, hQ⟩
       have c7 := blk_cell hI2.blk 7 rfl
       rw [hS2.b] at c7
       have HI2 := Lib.hid hI2; have HS2 := Lib.hid hS2; have HQ := Lib.hid hQ; clear hI2 hS2 hQ))
  all_goals
    go_ret
    refine ⟨x, L', ρ', n', S', ret_cut ?_, HI2.out, HS1.out.trans HS2.out, HQ.out⟩
    unfold cutE; simp_all
set_option maxHeartbeats 1000000 in
theorem callOn1_Delete1 (c1 c2 : Value) (p : ByteArray) (hp : p.size ≤ 1000000) (b1 b2 b3 : Nat) (h : Inv L ρ n S w) (hc1 : w.cell? ⟨b1, 0, none⟩ = some (.pointer (some ⟨L.b, 0, none⟩))) (hc2 : w.cell? ⟨b2, 0, none⟩ = some (.string p)) (hc3 : w.cell? ⟨b3, 0, none⟩ = some (.func (.func 153) #[] #[c1, c2]))
    {Q : Int → DS → Nat → World → Prop} (hN : findL (S.dirs false) p.data.toList = none → Q 8 S n w) (hA : ∀ i, findL (S.dirs false) p.data.toList = some i → Calls Tryz.prog 153 #[.pointer (some ⟨L.F i, 0, none⟩), c1, c2] w (PostQ L ρ w Q)) :
    Calls Tryz.prog 104 #[.pointer (some ⟨b1, 0, none⟩), .pointer (some ⟨b2, 0, none⟩), .pointer (some ⟨b3, 0, none⟩)] w (PostQ L ρ w Q) := by
  have HF := Lib.hid (find_any h p hp)
  have H := Lib.hid h
  clear h
  cases hq : findL (S.dirs false) p.data.toList with
  | none =>
    rw [hq] at HF
    have HN := Lib.hid (hN hq)
    simp only [ptrF, Option.map_none] at HF
    clear hN hA hq
    go_enter Tryz.func104, Tryz.ntmps104
    go_wp2_with (go_at_call 55; with_reducible refine HF.out.mono ?_; rintro e w1 ⟨rfl, rfl⟩)
    go_ret
    exact ⟨8, L, ρ, n, S, rfl, H.out, Step.refl _ _ _, HN.out⟩
  | some i =>
    rw [hq] at HF
    have HA := Lib.hid (hA i hq)
    simp only [ptrF, Option.map_some] at HF
    clear hN hA hq
    go_enter Tryz.func104, Tryz.ntmps104
    go_wp2_with (first
      | (go_at_call 55; with_reducible refine HF.out.mono ?_; rintro e w1 ⟨rfl, rfl⟩)
      | (go_at_call 153; with_reducible refine HA.out.mono ?_; rintro e w2 ⟨x, L', ρ', n', S', rfl, hI2, hS2, hQ⟩
         have HI2 := Lib.hid hI2; have HS2 := Lib.hid hS2; have HQ := Lib.hid hQ; clear hI2 hS2 hQ))
    go_ret
    exact ⟨x, L', ρ', n', S', rfl, HI2.out, HS2.out, HQ.out⟩

set_option maxHeartbeats 1000000 in
theorem callOn_Delete1 (c1 c2 : Value) (p : ByteArray) (hp : p.size ≤ 1000000) (h : Inv L ρ n S w) (hd : S.down = false) (hf : S.flt (S.ops + 1) = 0) (hn : n + 1 ≤ 100000)
    {Q : Int → DS → Nat → World → Prop} (hN : findL (S.dirs false) p.data.toList = none → ∀ w1, Step L ρ w L ρ w1 → Q 8 (begS S) (n + 1) w1) (hA : ∀ i, findL (S.dirs false) p.data.toList = some i → ActQ 153 #[.pointer (some ⟨L.F i, 0, none⟩), c1, c2] L ρ (n + 1) (begS S) w Q) :
    Calls Tryz.prog 62 #[.pointer (some ⟨L.b, 0, none⟩), .string p, .func (.func 153) #[] #[c1, c2]] w (CallQ L ρ w Q) := by
  have hb3 : Below w.heap.size w (((w.alloc (.cells #[.pointer (some ⟨L.b, 0, none⟩)] 25)).alloc (.cells #[.string p] 9)).alloc (.cells #[.func (.func 153) #[] #[c1, c2]] 114)) := (((Below.refl _ _).alloc (Nat.le_refl _) _).alloc (by simp) _).alloc (by simp; omega) _
  have r1 := h.old w.heap.size (Nat.le_refl _)
  have r2 := h.old (w.heap.size + 1) (by omega)
  have r3 := h.old (w.heap.size + 1 + 1) (by omega)
  have k1 : (((w.alloc (.cells #[.pointer (some ⟨L.b, 0, none⟩)] 25)).alloc (.cells #[.string p] 9)).alloc (.cells #[.func (.func 153) #[] #[c1, c2]] 114)).cell? ⟨w.heap.size, 0, none⟩ = some (.pointer (some ⟨L.b, 0, none⟩)) := by
    rw [World.cell?_alloc_lt _ _ ⟨w.heap.size, 0, none⟩ (by simp; omega), World.cell?_alloc_lt _ _ ⟨w.heap.size, 0, none⟩ (by simp)]; simp
  have k2 : (((w.alloc (.cells #[.pointer (some ⟨L.b, 0, none⟩)] 25)).alloc (.cells #[.string p] 9)).alloc (.cells #[.func (.func 153) #[] #[c1, c2]] 114)).cell? ⟨w.heap.size + 1, 0, none⟩ = some (.string p) := by
    rw [World.cell?_alloc_lt _ _ ⟨w.heap.size + 1, 0, none⟩ (by simp), World.cell?_alloc_at _ _ _ _ (by simp)]; rfl
  have k3 : (((w.alloc (.cells #[.pointer (some ⟨L.b, 0, none⟩)] 25)).alloc (.cells #[.string p] 9)).alloc (.cells #[.func (.func 153) #[] #[c1, c2]] 114)).cell? ⟨w.heap.size + 1 + 1, 0, none⟩ = some (.func (.func 153) #[] #[c1, c2]) := by
    rw [World.cell?_alloc_at _ _ _ _ (by simp)]; rfl
  have hC := call_CallOn1 (Q := Q) #[.pointer (some ⟨w.heap.size, 0, none⟩), .pointer (some ⟨w.heap.size + 1, 0, none⟩), .pointer (some ⟨w.heap.size + 1 + 1, 0, none⟩)] (h.below hb3) hd hf hn (by
    intro w1 hI1 hS1 hO1
    refine callOn1_Delete1 c1 c2 p hp _ _ _ hI1 (step_cell hS1 r1 k1) (step_cell hS1 r2 k2) (step_cell hS1 r3 k3) (fun hq => ?_) (fun i hq => ?_)
    · exact hN hq w1 ((Step.below hb3).trans hS1)
    · exact hA i hq w1 hI1 ((Step.below hb3).trans hS1) (fun k hk hne => (hO1 k (Nat.lt_of_lt_of_le hk hb3.size) hne).trans (hb3.block k hk)))
  have HC := Lib.hid hC; have HB3 := Lib.hid hb3
  clear hC hA hN h hd hf hb3 r1 r2 r3 k2 k3
  go_enter Tryz.func62, Tryz.ntmps62
  go_wp2_with (go_at_call 58; with_reducible refine HC.out.mono ?_; rintro e w1 ⟨x, L', ρ', n', S', rfl, hI, hS, hQ⟩; have HI := Lib.hid hI; have HS := Lib.hid hS; have HQ := Lib.hid hQ; clear hI hS hQ)
  go_ret
  exact ⟨x, L', ρ', n', S', rfl, HI.out, (Step.below HB3.out).trans HS.out, HQ.out⟩

set_option maxHeartbeats 1000000 in
theorem callOn1_Read1 (c1 c2 c3 : Value) (p : ByteArray) (hp : p.size ≤ 1000000) (b1 b2 b3 : Nat) (h : Inv L ρ n S w) (hc1 : w.cell? ⟨b1, 0, none⟩ = some (.pointer (some ⟨L.b, 0, none⟩))) (hc2 : w.cell? ⟨b2, 0, none⟩ = some (.string p)) (hc3 : w.cell? ⟨b3, 0, none⟩ = some (.func (.func 136) #[] #[c1, c2, c3]))
    {Q : Int → DS → Nat → World → Prop} (hN : findL (S.dirs false) p.data.toList = none → Q 8 S n w) (hA : ∀ i, findL (S.dirs false) p.data.toList = some i → Calls Tryz.prog 136 #[.pointer (some ⟨L.F i, 0, none⟩), c1, c2, c3] w (PostQ L ρ w Q)) :
    Calls Tryz.prog 104 #[.pointer (some ⟨b1, 0, none⟩), .pointer (some ⟨b2, 0, none⟩), .pointer (some ⟨b3, 0, none⟩)] w (PostQ L ρ w Q) := by
  have HF := Lib.hid (find_any h p hp)
  have H := Lib.hid h
  clear h
  cases hq : findL (S.dirs false) p.data.toList with
  | none =>
    rw [hq] at HF
    have HN := Lib.hid (hN hq)
    simp only [ptrF, Option.map_none] at HF
    clear hN hA hq
    go_enter Tryz.func104, Tryz.ntmps104
    go_wp2_with (go_at_call 55; with_reducible refine HF.out.mono ?_; rintro e w1 ⟨rfl, rfl⟩)
    go_ret
    exact ⟨8, L, ρ, n, S, rfl, H.out, Step.refl _ _ _, HN.out⟩
  | some i =>
    rw [hq] at HF
    have HA := Lib.hid (hA i hq)
    simp only [ptrF, Option.map_some] at HF
    clear hN hA hq
    go_enter Tryz.func104, Tryz.ntmps104
    go_wp2_with (first
      | (go_at_call 55; with_reducible refine HF.out.mono ?_; rintro e w1 ⟨rfl, rfl⟩)
      | (go_at_call 136; with_reducible refine HA.out.mono ?_; rintro e w2 ⟨x, L', ρ', n', S', rfl, hI2, hS2, hQ⟩
         have HI2 := Lib.hid hI2; have HS2 := Lib.hid hS2; have HQ := Lib.hid hQ; clear hI2 hS2 hQ))
    go_ret
    exact ⟨x, L', ρ', n', S', rfl, HI2.out, HS2.out, HQ.out⟩

set_option maxHeartbeats 1000000 in
theorem callOn_Read1 (c1 c2 c3 : Value) (p : ByteArray) (hp : p.size ≤ 1000000) (h : Inv L ρ n S w) (hd : S.down = false) (hf : S.flt (S.ops + 1) = 0) (hn : n + 1 ≤ 100000)
    {Q : Int → DS → Nat → World → Prop} (hN : findL (S.dirs false) p.data.toList = none → ∀ w1, Step L ρ w L ρ w1 → Q 8 (begS S) (n + 1) w1) (hA : ∀ i, findL (S.dirs false) p.data.toList = some i → ActQ 136 #[.pointer (some ⟨L.F i, 0, none⟩), c1, c2, c3] L ρ (n + 1) (begS S) w Q) :
    Calls Tryz.prog 62 #[.pointer (some ⟨L.b, 0, none⟩), .string p, .func (.func 136) #[] #[c1, c2, c3]] w (CallQ L ρ w Q) := by
  have hb3 : Below w.heap.size w (((w.alloc (.cells #[.pointer (some ⟨L.b, 0, none⟩)] 25)).alloc (.cells #[.string p] 9)).alloc (.cells #[.func (.func 136) #[] #[c1, c2, c3]] 114)) := (((Below.refl _ _).alloc (Nat.le_refl _) _).alloc (by simp) _).alloc (by simp; omega) _
  have r1 := h.old w.heap.size (Nat.le_refl _)
  have r2 := h.old (w.heap.size + 1) (by omega)
  have r3 := h.old (w.heap.size + 1 + 1) (by omega)
  have k1 : (((w.alloc (.cells #[.pointer (some ⟨L.b, 0, none⟩)] 25)).alloc (.cells #[.string p] 9)).alloc (.cells #[.func (.func 136) #[] #[c1, c2, c3]] 114)).cell? ⟨w.heap.size, 0, none⟩ = some (.pointer (some ⟨L.b, 0, none⟩)) := by
    rw [World.cell?_alloc_lt _ _ ⟨w.heap.size, 0, none⟩ (by simp; omega), World.cell?_alloc_lt _ _ ⟨w.heap.size, 0, none⟩ (by simp)]; simp
  have k2 : (((w.alloc (.cells #[.pointer (some ⟨L.b, 0, none⟩)] 25)).alloc (.cells #[.string p] 9)).alloc (.cells #[.func (.func 136) #[] #[c1, c2, c3]] 114)).cell? ⟨w.heap.size + 1, 0, none⟩ = some (.string p) := by
    rw [World.cell?_alloc_lt _ _ ⟨w.heap.size + 1, 0, none⟩ (by simp), World.cell?_alloc_at _ _ _ _ (by simp)]; rfl
  have k3 : (((w.alloc (.cells #[.pointer (some ⟨L.b, 0, none⟩)] 25)).alloc (.cells #[.string p] 9)).alloc (.cells #[.func (.func 136) #[] #[c1, c2, c3]] 114)).cell? ⟨w.heap.size + 1 + 1, 0, none⟩ = some (.func (.func 136) #[] #[c1, c2, c3]) := by
    rw [World.cell?_alloc_at _ _ _ _ (by simp)]; rfl
  have hC := call_CallOn1 (Q := Q) #[.pointer (some ⟨w.heap.size, 0, none⟩), .pointer (some ⟨w.heap.size + 1, 0, none⟩), .pointer (some ⟨w.heap.size + 1 + 1, 0, none⟩)] (h.below hb3) hd hf hn (by
    intro w1 hI1 hS1 hO1
    refine callOn1_Read1 c1 c2 c3 p hp _ _ _ hI1 (step_cell hS1 r1 k1) (step_cell hS1 r2 k2) (step_cell hS1 r3 k3) (fun hq => ?_) (fun i hq => ?_)
    · exact hN hq w1 ((Step.below hb3).trans hS1)
    · exact hA i hq w1 hI1 ((Step.below hb3).trans hS1) (fun k hk hne => (hO1 k (Nat.lt_of_lt_of_le hk hb3.size) hne).trans (hb3.block k hk)))
  have HC := Lib.hid hC; have HB3 := Lib.hid hb3
  clear hC hA hN h hd hf hb3 r1 r2 r3 k2 k3
  go_enter Tryz.func62, Tryz.ntmps62
  go_wp2_with (go_at_call 58; with_reducible refine HC.out.mono ?_; rintro e w1 ⟨x, L', ρ', n', S', rfl, hI, hS, hQ⟩; have HI := Lib.hid hI; have HS := Lib.hid hS; have HQ := Lib.hid hQ; clear hI hS hQ)
  go_ret
  exact ⟨x, L', ρ', n', S', rfl, HI.out, (Step.below HB3.out).trans HS.out, HQ.out⟩

set_option maxHeartbeats 1000000 in
theorem callOn1_Write1 (c1 c2 c3 : Value) (p : ByteArray) (hp : p.size ≤ 1000000) (b1 b2 b3 : Nat) (h : Inv L ρ n S w) (hc1 : w.cell? ⟨b1, 0, none⟩ = some (.pointer (some ⟨L.b, 0, none⟩))) (hc2 : w.cell? ⟨b2, 0, none⟩ = some (.string p)) (hc3 : w.cell? ⟨b3, 0, none⟩ = some (.func (.func 63) #[] #[c1, c2, c3]))
    {Q : Int → DS → Nat → World → Prop} (hN : findL (S.dirs false) p.data.toList = none → Q 8 S n w) (hA : ∀ i, findL (S.dirs false) p.data.toList = some i → Calls Tryz.prog 63 #[.pointer (some ⟨L.F i, 0, none⟩), c1, c2, c3] w (PostQ L ρ w Q)) :
    Calls Tryz.prog 104 #[.pointer (some ⟨b1, 0, none⟩), .pointer (some ⟨b2, 0, none⟩), .pointer (some ⟨b3, 0, none⟩)] w (PostQ L ρ w Q) := by
  have HF := Lib.hid (find_any h p hp)
  have H := Lib.hid h
  clear h
  cases hq : findL (S.dirs false) p.data.toList with
  | none =>
    rw [hq] at HF
    have HN := Lib.hid (hN hq)
    simp only [ptrF, Option.map_none] at HF
    clear hN hA hq
    go_enter Tryz.func104, Tryz.ntmps104
    go_wp2_with (go_at_call 55; with_reducible refine HF.out.mono ?_; rintro e w1 ⟨rfl, rfl⟩)
    go_ret
    exact ⟨8, L, ρ, n, S, rfl, H.out, Step.refl _ _ _, HN.out⟩
  | some i =>
    rw [hq] at HF
    have HA := Lib.hid (hA i hq)
    simp only [ptrF, Option.map_some] at HF
    clear hN hA hq
    go_enter Tryz.func104, Tryz.ntmps104
    go_wp2_with (first
      | (go_at_call 55; with_reducible refine HF.out.mono ?_; rintro e w1 ⟨rfl, rfl⟩)
      | (go_at_call 63; with_reducible refine HA.out.mono ?_; rintro e w2 ⟨x, L', ρ', n', S', rfl, hI2, hS2, hQ⟩
         have HI2 := Lib.hid hI2; have HS2 := Lib.hid hS2; have HQ := Lib.hid hQ; clear hI2 hS2 hQ))
    go_ret
    exact ⟨x, L', ρ', n', S', rfl, HI2.out, HS2.out, HQ.out⟩

set_option maxHeartbeats 1000000 in
theorem callOn_Write1 (c1 c2 c3 : Value) (p : ByteArray) (hp : p.size ≤ 1000000) (h : Inv L ρ n S w) (hd : S.down = false) (hf : S.flt (S.ops + 1) = 0) (hn : n + 1 ≤ 100000)
    {Q : Int → DS → Nat → World → Prop} (hN : findL (S.dirs false) p.data.toList = none → ∀ w1, Step L ρ w L ρ w1 → Q 8 (begS S) (n + 1) w1) (hA : ∀ i, findL (S.dirs false) p.data.toList = some i → ActQ 63 #[.pointer (some ⟨L.F i, 0, none⟩), c1, c2, c3] L ρ (n + 1) (begS S) w Q) :
    Calls Tryz.prog 62 #[.pointer (some ⟨L.b, 0, none⟩), .string p, .func (.func 63) #[] #[c1, c2, c3]] w (CallQ L ρ w Q) := by
  have hb3 : Below w.heap.size w (((w.alloc (.cells #[.pointer (some ⟨L.b, 0, none⟩)] 25)).alloc (.cells #[.string p] 9)).alloc (.cells #[.func (.func 63) #[] #[c1, c2, c3]] 114)) := (((Below.refl _ _).alloc (Nat.le_refl _) _).alloc (by simp) _).alloc (by simp; omega) _
  have r1 := h.old w.heap.size (Nat.le_refl _)
  have r2 := h.old (w.heap.size + 1) (by omega)
  have r3 := h.old (w.heap.size + 1 + 1) (by omega)
  have k1 : (((w.alloc (.cells #[.pointer (some ⟨L.b, 0, none⟩)] 25)).alloc (.cells #[.string p] 9)).alloc (.cells #[.func (.func 63) #[] #[c1, c2, c3]] 114)).cell? ⟨w.heap.size, 0, none⟩ = some (.pointer (some ⟨L.b, 0, none⟩)) := by
    rw [World.cell?_alloc_lt _ _ ⟨w.heap.size, 0, none⟩ (by simp; omega), World.cell?_alloc_lt _ _ ⟨w.heap.size, 0, none⟩ (by simp)]; simp
  have k2 : (((w.alloc (.cells #[.pointer (some ⟨L.b, 0, none⟩)] 25)).alloc (.cells #[.string p] 9)).alloc (.cells #[.func (.func 63) #[] #[c1, c2, c3]] 114)).cell? ⟨w.heap.size + 1, 0, none⟩ = some (.string p) := by
    rw [World.cell?_alloc_lt _ _ ⟨w.heap.size + 1, 0, none⟩ (by simp), World.cell?_alloc_at _ _ _ _ (by simp)]; rfl
  have k3 : (((w.alloc (.cells #[.pointer (some ⟨L.b, 0, none⟩)] 25)).alloc (.cells #[.string p] 9)).alloc (.cells #[.func (.func 63) #[] #[c1, c2, c3]] 114)).cell? ⟨w.heap.size + 1 + 1, 0, none⟩ = some (.func (.func 63) #[] #[c1, c2, c3]) := by
    rw [World.cell?_alloc_at _ _ _ _ (by simp)]; rfl
  have hC := call_CallOn1 (Q := Q) #[.pointer (some ⟨w.heap.size, 0, none⟩), .pointer (some ⟨w.heap.size + 1, 0, none⟩), .pointer (some ⟨w.heap.size + 1 + 1, 0, none⟩)] (h.below hb3) hd hf hn (by
    intro w1 hI1 hS1 hO1
    refine callOn1_Write1 c1 c2 c3 p hp _ _ _ hI1 (step_cell hS1 r1 k1) (step_cell hS1 r2 k2) (step_cell hS1 r3 k3) (fun hq => ?_) (fun i hq => ?_)
    · exact hN hq w1 ((Step.below hb3).trans hS1)
    · exact hA i hq w1 hI1 ((Step.below hb3).trans hS1) (fun k hk hne => (hO1 k (Nat.lt_of_lt_of_le hk hb3.size) hne).trans (hb3.block k hk)))
  have HC := Lib.hid hC; have HB3 := Lib.hid hb3
  clear hC hA hN h hd hf hb3 r1 r2 r3 k2 k3
  go_enter Tryz.func62, Tryz.ntmps62
  go_wp2_with (go_at_call 58; with_reducible refine HC.out.mono ?_; rintro e w1 ⟨x, L', ρ', n', S', rfl, hI, hS, hQ⟩; have HI := Lib.hid hI; have HS := Lib.hid hS; have HQ := Lib.hid hQ; clear hI hS hQ)
  go_ret
  exact ⟨x, L', ρ', n', S', rfl, HI.out, (Step.below HB3.out).trans HS.out, HQ.out⟩

set_option maxHeartbeats 1000000 in
theorem callOn1_Trunc1 (c1 c2 : Value) (p : ByteArray) (hp : p.size ≤ 1000000) (b1 b2 b3 : Nat) (h : Inv L ρ n S w) (hc1 : w.cell? ⟨b1, 0, none⟩ = some (.pointer (some ⟨L.b, 0, none⟩))) (hc2 : w.cell? ⟨b2, 0, none⟩ = some (.string p)) (hc3 : w.cell? ⟨b3, 0, none⟩ = some (.func (.func 180) #[] #[c1, c2]))
    {Q : Int → DS → Nat → World → Prop} (hN : findL (S.dirs false) p.data.toList = none → Q 8 S n w) (hA : ∀ i, findL (S.dirs false) p.data.toList = some i → Calls Tryz.prog 180 #[.pointer (some ⟨L.F i, 0, none⟩), c1, c2] w (PostQ L ρ w Q)) :
    Calls Tryz.prog 104 #[.pointer (some ⟨b1, 0, none⟩), .pointer (some ⟨b2, 0, none⟩), .pointer (some ⟨b3, 0, none⟩)] w (PostQ L ρ w Q) := by
  have HF := Lib.hid (find_any h p hp)
  have H := Lib.hid h
  clear h
  cases hq : findL (S.dirs false) p.data.toList with
  | none =>
    rw [hq] at HF
    have HN := Lib.hid (hN hq)
    simp only [ptrF, Option.map_none] at HF
    clear hN hA hq
    go_enter Tryz.func104, Tryz.ntmps104
    go_wp2_with (go_at_call 55; with_reducible refine HF.out.mono ?_; rintro e w1 ⟨rfl, rfl⟩)
    go_ret
    exact ⟨8, L, ρ, n, S, rfl, H.out, Step.refl _ _ _, HN.out⟩
  | some i =>
    rw [hq] at HF
    have HA := Lib.hid (hA i hq)
    simp only [ptrF, Option.map_some] at HF
    clear hN hA hq
    go_enter Tryz.func104, Tryz.ntmps104
    go_wp2_with (first
      | (go_at_call 55; with_reducible refine HF.out.mono ?_; rintro e w1 ⟨rfl, rfl⟩)
      | (go_at_call 180; with_reducible refine HA.out.mono ?_; rintro e w2 ⟨x, L', ρ', n', S', rfl, hI2, hS2, hQ⟩
         have HI2 := Lib.hid hI2; have HS2 := Lib.hid hS2; have HQ := Lib.hid hQ; clear hI2 hS2 hQ))
    go_ret
    exact ⟨x, L', ρ', n', S', rfl, HI2.out, HS2.out, HQ.out⟩

set_option maxHeartbeats 1000000 in
theorem callOn_Trunc1 (c1 c2 : Value) (p : ByteArray) (hp : p.size ≤ 1000000) (h : Inv L ρ n S w) (hd : S.down = false) (hf : S.flt (S.ops + 1) = 0) (hn : n + 1 ≤ 100000)
    {Q : Int → DS → Nat → World → Prop} (hN : findL (S.dirs false) p.data.toList = none → ∀ w1, Step L ρ w L ρ w1 → Q 8 (begS S) (n + 1) w1) (hA : ∀ i, findL (S.dirs false) p.data.toList = some i → ActQ 180 #[.pointer (some ⟨L.F i, 0, none⟩), c1, c2] L ρ (n + 1) (begS S) w Q) :
    Calls Tryz.prog 62 #[.pointer (some ⟨L.b, 0, none⟩), .string p, .func (.func 180) #[] #[c1, c2]] w (CallQ L ρ w Q) := by
  have hb3 : Below w.heap.size w (((w.alloc (.cells #[.pointer (some ⟨L.b, 0, none⟩)] 25)).alloc (.cells #[.string p] 9)).alloc (.cells #[.func (.func 180) #[] #[c1, c2]] 114)) := (((Below.refl _ _).alloc (Nat.le_refl _) _).alloc (by simp) _).alloc (by simp; omega) _
  have r1 := h.old w.heap.size (Nat.le_refl _)
  have r2 := h.old (w.heap.size + 1) (by omega)
  have r3 := h.old (w.heap.size + 1 + 1) (by omega)
  have k1 : (((w.alloc (.cells #[.pointer (some ⟨L.b, 0, none⟩)] 25)).alloc (.cells #[.string p] 9)).alloc (.cells #[.func (.func 180) #[] #[c1, c2]] 114)).cell? ⟨w.heap.size, 0, none⟩ = some (.pointer (some ⟨L.b, 0, none⟩)) := by
    rw [World.cell?_alloc_lt _ _ ⟨w.heap.size, 0, none⟩ (by simp; omega), World.cell?_alloc_lt _ _ ⟨w.heap.size, 0, none⟩ (by simp)]; simp
  have k2 : (((w.alloc (.cells #[.pointer (some ⟨L.b, 0, none⟩)] 25)).alloc (.cells #[.string p] 9)).alloc (.cells #[.func (.func 180) #[] #[c1, c2]] 114)).cell? ⟨w.heap.size + 1, 0, none⟩ = some (.string p) := by
    rw [World.cell?_alloc_lt _ _ ⟨w.heap.size + 1, 0, none⟩ (by simp), World.cell?_alloc_at _ _ _ _ (by simp)]; rfl
  have k3 : (((w.alloc (.cells #[.pointer (some ⟨L.b, 0, none⟩)] 25)).alloc (.cells #[.string p] 9)).alloc (.cells #[.func (.func 180) #[] #[c1, c2]] 114)).cell? ⟨w.heap.size + 1 + 1, 0, none⟩ = some (.func (.func 180) #[] #[c1, c2]) := by
    rw [World.cell?_alloc_at _ _ _ _ (by simp)]; rfl
  have hC := call_CallOn1 (Q := Q) #[.pointer (some ⟨w.heap.size, 0, none⟩), .pointer (some ⟨w.heap.size + 1, 0, none⟩), .pointer (some ⟨w.heap.size + 1 + 1, 0, none⟩)] (h.below hb3) hd hf hn (by
    intro w1 hI1 hS1 hO1
    refine callOn1_Trunc1 c1 c2 p hp _ _ _ hI1 (step_cell hS1 r1 k1) (step_cell hS1 r2 k2) (step_cell hS1 r3 k3) (fun hq => ?_) (fun i hq => ?_)
    · exact hN hq w1 ((Step.below hb3).trans hS1)
    · exact hA i hq w1 hI1 ((Step.below hb3).trans hS1) (fun k hk hne => (hO1 k (Nat.lt_of_lt_of_le hk hb3.size) hne).trans (hb3.block k hk)))
  have HC := Lib.hid hC; have HB3 := Lib.hid hb3
  clear hC hA hN h hd hf hb3 r1 r2 r3 k2 k3
  go_enter Tryz.func62, Tryz.ntmps62
  go_wp2_with (go_at_call 58; with_reducible refine HC.out.mono ?_; rintro e w1 ⟨x, L', ρ', n', S', rfl, hI, hS, hQ⟩; have HI := Lib.hid hI; have HS := Lib.hid hS; have HQ := Lib.hid hQ; clear hI hS hQ)
  go_ret
  exact ⟨x, L', ρ', n', S', rfl, HI.out, (Step.below HB3.out).trans HS.out, HQ.out⟩

set_option maxHeartbeats 1000000 in
theorem callOn1_Sync1 (c1 : Value) (p : ByteArray) (hp : p.size ≤ 1000000) (b1 b2 b3 : Nat) (h : Inv L ρ n S w) (hc1 : w.cell? ⟨b1, 0, none⟩ = some (.pointer (some ⟨L.b, 0, none⟩))) (hc2 : w.cell? ⟨b2, 0, none⟩ = some (.string p)) (hc3 : w.cell? ⟨b3, 0, none⟩ = some (.func (.func 65) #[] #[c1]))
    {Q : Int → DS → Nat → World → Prop} (hN : findL (S.dirs false) p.data.toList = none → Q 8 S n w) (hA : ∀ i, findL (S.dirs false) p.data.toList = some i → Calls Tryz.prog 65 #[.pointer (some ⟨L.F i, 0, none⟩), c1] w (PostQ L ρ w Q)) :
    Calls Tryz.prog 104 #[.pointer (some ⟨b1, 0, none⟩), .pointer (some ⟨b2, 0, none⟩), .pointer (some ⟨b3, 0, none⟩)] w (PostQ L ρ w Q) := by
  have HF := Lib.hid (find_any h p hp)
  have H := Lib.hid h
  clear h
  cases hq : findL (S.dirs false) p.data.toList with
  | none =>
    rw [hq] at HF
    have HN := Lib.hid (hN hq)
    simp only [ptrF, Option.map_none] at HF
    clear hN hA hq
    go_enter Tryz.func104, Tryz.ntmps104
    go_wp2_with (go_at_call 55; with_reducible refine HF.out.mono ?_; rintro e w1 ⟨rfl, rfl⟩)
    go_ret
    exact ⟨8, L, ρ, n, S, rfl, H.out, Step.refl _ _ _, HN.out⟩
  | some i =>
    rw [hq] at HF
    have HA := Lib.hid (hA i hq)
    simp only [ptrF, Option.map_some] at HF
    clear hN hA hq
    go_enter Tryz.func104, Tryz.ntmps104
    go_wp2_with (first
      | (go_at_call 55; with_reducible refine HF.out.mono ?_; rintro e w1 ⟨rfl, rfl⟩)
      | (go_at_call 65; with_reducible refine HA.out.mono ?_; rintro e w2 ⟨x, L', ρ', n', S', rfl, hI2, hS2, hQ⟩
         have HI2 := Lib.hid hI2; have HS2 := Lib.hid hS2; have HQ := Lib.hid hQ; clear hI2 hS2 hQ))
    go_ret
    exact ⟨x, L', ρ', n', S', rfl, HI2.out, HS2.out, HQ.out⟩

set_option maxHeartbeats 1000000 in
theorem callOn_Sync1 (c1 : Value) (p : ByteArray) (hp : p.size ≤ 1000000) (h : Inv L ρ n S w) (hd : S.down = false) (hf : S.flt (S.ops + 1) = 0) (hn : n + 1 ≤ 100000)
    {Q : Int → DS → Nat → World → Prop} (hN : findL (S.dirs false) p.data.toList = none → ∀ w1, Step L ρ w L ρ w1 → Q 8 (begS S) (n + 1) w1) (hA : ∀ i, findL (S.dirs false) p.data.toList = some i → ActQ 65 #[.pointer (some ⟨L.F i, 0, none⟩), c1] L ρ (n + 1) (begS S) w Q) :
    Calls Tryz.prog 62 #[.pointer (some ⟨L.b, 0, none⟩), .string p, .func (.func 65) #[] #[c1]] w (CallQ L ρ w Q) := by
  have hb3 : Below w.heap.size w (((w.alloc (.cells #[.pointer (some ⟨L.b, 0, none⟩)] 25)).alloc (.cells #[.string p] 9)).alloc (.cells #[.func (.func 65) #[] #[c1]] 114)) := (((Below.refl _ _).alloc (Nat.le_refl _) _).alloc (by simp) _).alloc (by simp; omega) _
  have r1 := h.old w.heap.size (Nat.le_refl _)
  have r2 := h.old (w.heap.size + 1) (by omega)
  have r3 := h.old (w.heap.size + 1 + 1) (by omega)
  have k1 : (((w.alloc (.cells #[.pointer (some ⟨L.b, 0, none⟩)] 25)).alloc (.cells #[.string p] 9)).alloc (.cells #[.func (.func 65) #[] #[c1]] 114)).cell? ⟨w.heap.size, 0, none⟩ = some (.pointer (some ⟨L.b, 0, none⟩)) := by
    rw [World.cell?_alloc_lt _ _ ⟨w.heap.size, 0, none⟩ (by simp; omega), World.cell?_alloc_lt _ _ ⟨w.heap.size, 0, none⟩ (by simp)]; simp
  have k2 : (((w.alloc (.cells #[.pointer (some ⟨L.b, 0, none⟩)] 25)).alloc (.cells #[.string p] 9)).alloc (.cells #[.func (.func 65) #[] #[c1]] 114)).cell? ⟨w.heap.size + 1, 0, none⟩ = some (.string p) := by
    rw [World.cell?_alloc_lt _ _ ⟨w.heap.size + 1, 0, none⟩ (by simp), World.cell?_alloc_at _ _ _ _ (by simp)]; rfl
  have k3 : (((w.alloc (.cells #[.pointer (some ⟨L.b, 0, none⟩)] 25)).alloc (.cells #[.string p] 9)).alloc (.cells #[.func (.func 65) #[] #[c1]] 114)).cell? ⟨w.heap.size + 1 + 1, 0, none⟩ = some (.func (.func 65) #[] #[c1]) := by
    rw [World.cell?_alloc_at _ _ _ _ (by simp)]; rfl
  have hC := call_CallOn1 (Q := Q) #[.pointer (some ⟨w.heap.size, 0, none⟩), .pointer (some ⟨w.heap.size + 1, 0, none⟩), .pointer (some ⟨w.heap.size + 1 + 1, 0, none⟩)] (h.below hb3) hd hf hn (by
    intro w1 hI1 hS1 hO1
    refine callOn1_Sync1 c1 p hp _ _ _ hI1 (step_cell hS1 r1 k1) (step_cell hS1 r2 k2) (step_cell hS1 r3 k3) (fun hq => ?_) (fun i hq => ?_)
    · exact hN hq w1 ((Step.below hb3).trans hS1)
    · exact hA i hq w1 hI1 ((Step.below hb3).trans hS1) (fun k hk hne => (hO1 k (Nat.lt_of_lt_of_le hk hb3.size) hne).trans (hb3.block k hk)))
  have HC := Lib.hid hC; have HB3 := Lib.hid hb3
  clear hC hA hN h hd hf hb3 r1 r2 r3 k2 k3
  go_enter Tryz.func62, Tryz.ntmps62
  go_wp2_with (go_at_call 58; with_reducible refine HC.out.mono ?_; rintro e w1 ⟨x, L', ρ', n', S', rfl, hI, hS, hQ⟩; have HI := Lib.hid hI; have HS := Lib.hid hS; have HQ := Lib.hid hQ; clear hI hS hQ)
  go_ret
  exact ⟨x, L', ρ', n', S', rfl, HI.out, (Step.below HB3.out).trans HS.out, HQ.out⟩

end Go.Proofs.YthfebcfdhmihcaaGreatDoor

namespace Go.Proofs.YthfebcfdhmihcaaGreatDoor
open Go.RowKit
variable {L : Loc} {ρ ρ' : Nat → Option Role} {n : Nat} {S : DS} {w w' : World}

def newFile (S : DS) : DS := { S with nf := S.nf + 1, con := fun s i => if i = S.nf then [] else S.con s i }
def newLoc (L : Loc) (nf g : Nat) : Loc := { L with F := updN L.F nf g, V := fun s i => if i = nf then .slice none 0 0 else L.V s i }
theorem cells_upd {F : Nat → Nat} {nf g : Nat} {c : Chg} (h : c.Ok nf) : c.cells (updN F nf g) = c.cells F := by
  cases c with
  | create nm i => have := h.1; simp only [Chg.cells, updN, if_neg (Nat.ne_of_lt this)]
  | remove nm => rfl
  | write i o d => have := h.1; simp only [Chg.cells, updN, if_neg (Nat.ne_of_lt this)]
  | trunc i z => have := h.1; simp only [Chg.cells, updN, if_neg (Nat.ne_of_lt this)]
theorem ok_mono {c : Chg} {a b : Nat} (h : c.Ok a) (hab : a ≤ b) : c.Ok b := by
  cases c with
  | create nm i => exact ⟨Nat.lt_of_lt_of_le h.1 hab, h.2⟩
  | remove nm => exact h
  | write i o d => exact ⟨Nat.lt_of_lt_of_le h.1 hab, h.2⟩
  | trunc i z => exact ⟨Nat.lt_of_lt_of_le h.1 hab, h.2⟩
/-- A file that no path refers to yet. -/
theorem inv_newfile (h : Inv L ρ n S w) : Inv (newLoc L S.nf w.heap.size) (updN ρ w.heap.size (some (.file S.nf))) n (newFile S) (w.alloc (.cells #[.slice none 0 0, .slice none 0 0] 104)) ∧
    Step L ρ w (newLoc L S.nf w.heap.size) (updN ρ w.heap.size (some (.file S.nf))) (w.alloc (.cells #[.slice none 0 0, .slice none 0 0] 104)) := by
  have hnew := h.old w.heap.size (Nat.le_refl _)
  have hx : ∀ k r, ρ k = some r → updN ρ w.heap.size (some (.file S.nf)) k = some r := fun k r hk => by
    unfold updN
    rw [if_neg (fun e => by subst e; rw [hnew] at hk; cases hk)]; exact hk
  have hA := h.alloc (.cells #[.slice none 0 0, .slice none 0 0] 104)
  have hrows : S.pend.flatMap (Chg.cells (updN L.F S.nf w.heap.size)) = S.pend.flatMap (Chg.cells L.F) := by
    rw [List.flatMap_def, List.flatMap_def]
    congr 1
    exact List.map_congr_left fun c hc => cells_upd (h.pok c hc)
  refine ⟨?_, ?_⟩
  · exact {
      hb := hx _ _ hA.hb
      blk := hA.blk
      mp := fun s => mapI_F (mapI_keep (hA.mp s) (fun _ _ => rfl) hx) (fun p hp => by have := h.dok s p hp; simp only [newLoc, updN, if_neg (Nat.ne_of_lt this)])
      flt := fltI_keep hA.flt (fun _ _ => rfl) hx
      pnd := by
        show World.ownsRow _ _ _ _ _ _ (S.pend.flatMap (Chg.cells (updN L.F S.nf w.heap.size)))
        rw [hrows]; exact hA.pnd
      pro := fun g hg => hx _ _ (hA.pro g hg)
      fro := fun i hi => by
        by_cases e : i = S.nf
        · subst e; simp [newLoc, updN]
        · have hi' : i < S.nf := by have : i < S.nf + 1 := hi; omega
          simp only [newLoc, updN, if_neg e]
          exact hx _ _ (h.fro i hi')
      fil := fun i hi => by
        by_cases e : i = S.nf
        · subst e; simp only [newLoc, updN, if_true]; exact blk_new _ _ _
        · have hi' : i < S.nf := by have : i < S.nf + 1 := hi; omega
          simp only [newLoc, updN, if_neg e]
          exact hA.fil i hi'
      con := fun s i hi => by
        by_cases e : i = S.nf
        · subst e; simp only [newLoc, newFile, if_true]; exact World.ownsRow_nil _ _ _ _
        · have hi' : i < S.nf := by have : i < S.nf + 1 := hi; omega
          simp only [newLoc, newFile, if_neg e]
          exact hA.con s i hi'
      cro := fun s i g hi hg => by
        by_cases e : i = S.nf
        · subst e; simp only [newLoc, if_true] at hg; cases hg
        · have hi' : i < S.nf := by have : i < S.nf + 1 := hi; omega
          simp only [newLoc, if_neg e] at hg
          exact hx _ _ (h.cro s i g hi' hg)
      clen := fun s i hi => by
        by_cases e : i = S.nf
        · subst e; simp [newFile]
        · have hi' : i < S.nf := by have : i < S.nf + 1 := hi; omega
          simp only [newFile, if_neg e]
          exact h.clen s i hi'
      dok := fun s p hp => Nat.lt_succ_of_lt (h.dok s p hp)
      pok := fun c hc => ok_mono (h.pok c hc) (Nat.le_succ _)
      old := fun k hk => by
        have hk' : w.heap.size + 1 ≤ k := by simpa using hk
        unfold updN
        rw [if_neg (fun e => by omega)]; exact h.old k (by omega)
      room := h.room
      bnd := h.bnd }
  · exact ⟨rfl, rfl, rfl, by simp, fun k hk _ => heap_alloc_old w _ hk, fun k hk => by unfold updN; rw [if_neg (Nat.ne_of_lt hk)], rfl⟩

/-- What a counted call returns, and the state behind it. -/
abbrev IsR (r : Int × DS) (N : Nat) : Int → DS → Nat → World → Prop := fun x S' n' _ => (cutE S' x, S') = r ∧ n' ≤ N
def OutQ (L : Loc) (ρ : Nat → Option Role) (w : World) (r : Int × DS) (N : Nat) (e : Ending) (w' : World) : Prop :=
  ∃ L' ρ' n', e = .returned (.int .i64 r.1) ∧ Inv L' ρ' n' r.2 w' ∧ Step L ρ w L' ρ' w' ∧ n' ≤ N
theorem out_of {r : Int × DS} {N : Nat} {e : Ending} (h : CallQ L ρ w (IsR r N) e w') : OutQ L ρ w r N e w' := by
  obtain ⟨x, L', ρ', n', S', he, hI, hS, hr, hn⟩ := h
  subst hr
  exact ⟨L', ρ', n', he, hI, hS, hn⟩

def syncIn (S : DS) (f : Nat) : DS := if S.down = true then S else settleS (ofFile f) S
def syncZ (S : DS) (p : List UInt8) : Int × DS := match findL (S.dirs false) p with
  | none => (cutE (begS S) 8, begS S)
  | some f => (cutE (syncIn (begS S) f) 0, syncIn (begS S) f)
theorem sync1_any (f bx : Nat) (h : Inv L ρ n S w) (hf : f < S.nf) (hbx : w.cell? ⟨bx, 0, none⟩ = some (.pointer (some ⟨L.b, 0, none⟩))) (hn : n + S.pend.length + 1 ≤ 100000) :
    Calls Tryz.prog 65 #[.pointer (some ⟨L.F f, 0, none⟩), .pointer (some ⟨bx, 0, none⟩)] w (PostQ L ρ w (fun x S' n' _ => x = 0 ∧ S' = syncIn S f ∧ n' ≤ n + S.pend.length)) := by
  have hA := h.alloc (.cells #[.pointer (some ⟨L.F f, 0, none⟩)] 94)
  have hb1 : Below w.heap.size w (w.alloc (.cells #[.pointer (some ⟨L.F f, 0, none⟩)] 94)) := (Below.refl _ _).alloc (Nat.le_refl _) _
  have hx : (w.alloc (.cells #[.pointer (some ⟨L.F f, 0, none⟩)] 94)).cell? ⟨w.heap.size, 0, none⟩ = some (.pointer (some ⟨L.F f, 0, none⟩)) := by simp
  have hbxA : (w.alloc (.cells #[.pointer (some ⟨L.F f, 0, none⟩)] 94)).cell? ⟨bx, 0, none⟩ = some (.pointer (some ⟨L.b, 0, none⟩)) := by
    rw [World.cell?_alloc_lt _ _ ⟨bx, 0, none⟩ (World.block_lt_of_cell? w _ hbx)]; exact hbx
  cases hd : S.down with
  | true =>
    have HC := Lib.hid (settleSync_down hA hd (.func (.func 67) #[] #[.pointer (some ⟨w.heap.size, 0, none⟩)]))
    have HA := Lib.hid hA; have HB1 := Lib.hid hb1
    have e : syncIn S f = S := by unfold syncIn; rw [if_pos hd]
    clear h hA hb1 hx
    go_enter Tryz.func65, Tryz.ntmps65
    go_wp2_with (go_at_call 66; (with_reducible refine HC.out.mono ?_); rintro e w1 ⟨rfl, rfl⟩)
    go_ret
    exact ⟨0, L, ρ, n, S, rfl, HA.out, Step.below HB1.out, rfl, e.symm, Nat.le_add_right _ _⟩
  | false =>
    have HC := Lib.hid (settleSync f ⟨w.heap.size, 0, none⟩ hA hd hf hx rfl (h.old _ (Nat.le_refl _)) hn)
    have HB1 := Lib.hid hb1
    have e : syncIn S f = settleS (ofFile f) S := by unfold syncIn; rw [if_neg (by rw [hd]; simp)]
    clear h hA hb1 hx
    go_enter Tryz.func65, Tryz.ntmps65
    go_wp2_with (go_at_call 66; (with_reducible refine HC.out.mono ?_); rintro e' w1 ⟨rfl, L', ρ', hI, hS, hF⟩; have HI := Lib.hid hI; have HS := Lib.hid hS; clear hI hS hF)
    go_ret
    exact ⟨0, L', ρ', _, _, rfl, HI.out, (Step.below HB1.out).trans HS.out, rfl, e.symm, Nat.le_refl _⟩
theorem findL_nf (h : Inv L ρ n S w) {s : Bool} {p : List UInt8} {i : Nat} (hf : findL (S.dirs s) p = some i) : i < S.nf := h.dok s _ (findL_mem hf)
theorem sync_any (p : ByteArray) (hp : p.size ≤ 1000000) (h : Inv L ρ n S w) (hd : S.down = false) (hfl : S.flt (S.ops + 1) = 0) (hn : n + S.pend.length + 2 ≤ 100000) :
    Calls Tryz.prog 25 #[.pointer (some ⟨L.b, 0, none⟩), .string p] w (OutQ L ρ w (syncZ S p.data.toList) (n + 1 + S.pend.length)) := by
  have hA := h.alloc (.cells #[.pointer (some ⟨L.b, 0, none⟩)] 25)
  have hb1 : Below w.heap.size w (w.alloc (.cells #[.pointer (some ⟨L.b, 0, none⟩)] 25)) := (Below.refl _ _).alloc (Nat.le_refl _) _
  have hx : (w.alloc (.cells #[.pointer (some ⟨L.b, 0, none⟩)] 25)).cell? ⟨w.heap.size, 0, none⟩ = some (.pointer (some ⟨L.b, 0, none⟩)) := by simp
  have hr := h.old w.heap.size (Nat.le_refl _)
  have hC := callOn_Sync1 (.pointer (some ⟨w.heap.size, 0, none⟩)) p hp hA hd hfl (by omega) (Q := IsR (syncZ S p.data.toList) (n + 1 + S.pend.length))
    (fun hq w1 _ => ⟨by unfold syncZ; rw [hq], by omega⟩)
    (fun i hq w1 hI1 hS1 _ => by
      refine (sync1_any i w.heap.size hI1 (findL_nf hI1 (s := false) hq) (step_cell hS1 hr hx) (by show n + 1 + S.pend.length + 1 ≤ 100000; omega)).mono fun e w2 hq2 => ?_
      obtain ⟨x, L', ρ', n', S', he, hI, hS, rfl, rfl, hn'⟩ := hq2
      exact ⟨0, L', ρ', n', _, he, hI, hS, by unfold syncZ; rw [hq], hn'⟩)
  have HC := Lib.hid hC; have HB1 := Lib.hid hb1
  clear hC hA hb1 hx h hd hfl hr
  go_enter Tryz.func25, Tryz.ntmps25
  go_wp2_with (go_at_call 62; (with_reducible refine HC.out.mono ?_); rintro e w1 ⟨x, L', ρ', n', S', rfl, hI, hS, hQ⟩; have HI := Lib.hid hI; have HS := Lib.hid hS; have HQ := Lib.hid hQ; clear hI hS hQ)
  go_ret
  exact out_of ⟨x, L', ρ', n', S', rfl, HI.out, (Step.below HB1.out).trans HS.out, HQ.out⟩
end Go.Proofs.YthfebcfdhmihcaaGreatDoor

namespace Go.Proofs.YthfebcfdhmihcaaGreatDoor
open Go.RowKit
variable {L : Loc} {ρ ρ' : Nat → Option Role} {n : Nat} {S : DS} {w w' : World}

theorem mapI_len {F : Nat → Nat} {m : Option Nat} {r : Role} {l : List (List UInt8 × Nat)} (h : MapI ρ F w m r l) (ty : TypeId) :
    (Builtin.len_ #[88] ty #[.map m]).run Tryz.prog w = .ok (.int .i64 l.length) w := by
  rcases h with ⟨rfl, rfl⟩ | ⟨g, rfl, _, hown⟩
  · exact Maps.len_nil underF ty
  · rw [hown.len underF ty, fileD_size]
theorem neqP_none (w : World) : (binOp .neq 94 (.pointer none) (.pointer none)).run Tryz.prog w = .ok (.bool false) w := by kernel_rfl

def createIn (S : DS) (p : List UInt8) : Int × DS :=
  if pathB p = false then (13, S) else match findL (S.dirs false) p with
  | some _ => (9, S)
  | none => if 60 ≤ (S.dirs false).length then (6, S) else (0, perfS (.create p S.nf) (newFile S))
def createZ (S : DS) (p : List UInt8) : Int × DS := (cutE (createIn (begS S) p).2 (createIn (begS S) p).1, (createIn (begS S) p).2)
theorem cell_alloc {a : Addr} {v : Value} (h : w.cell? a = some v) (o : Obj) : (w.alloc o).cell? a = some v := by
  rw [World.cell?_alloc_lt _ _ a (World.block_lt_of_cell? w _ h)]; exact h

set_option maxHeartbeats 1000000 in
theorem create1_any (p : ByteArray) (hp : p.size ≤ 1000000) (b1 b2 : Nat) (h : Inv L ρ n S w) (h1 : w.cell? ⟨b1, 0, none⟩ = some (.string p)) (h2 : w.cell? ⟨b2, 0, none⟩ = some (.pointer (some ⟨L.b, 0, none⟩))) (hn : n + 2 ≤ 100000) :
    Calls Tryz.prog 59 #[.pointer (some ⟨b1, 0, none⟩), .pointer (some ⟨b2, 0, none⟩)] w (PostQ L ρ w (fun x S' n' _ => x = (createIn S p.data.toList).1 ∧ S' = (createIn S p.data.toList).2 ∧ n' ≤ n + 2)) := by
  have HP := Lib.hid (fun w => ispath_any p (by omega) w)
  have HH := Lib.hid h
  cases hpb : pathB p.data.toList with
  | false =>
    rw [hpb] at HP
    have e : createIn S p.data.toList = (13, S) := by unfold createIn; rw [if_pos hpb]
    have HE := Lib.hid e
    clear h e hpb
    go_enter Tryz.func59, Tryz.ntmps59
    go_wp2_with (go_at_call 60; (with_reducible refine (HP.out _).mono ?_); rintro e w1 ⟨rfl, rfl⟩)
    go_ret
    exact ⟨13, L, ρ, n, S, rfl, HH.out, Step.refl _ _ _, by rw [HE.out], by rw [HE.out], Nat.le_add_right _ _⟩
  | true =>
    rw [hpb] at HP
    have HF := Lib.hid (find_any h p hp)
    cases hq : findL (S.dirs false) p.data.toList with
    | some i =>
      have e : createIn S p.data.toList = (9, S) := by unfold createIn; rw [if_neg (by rw [hpb]; simp), hq]
      have HE := Lib.hid e
      rw [hq] at HF
      simp only [ptrF, Option.map_some] at HF
      clear h e hpb hq
      go_enter Tryz.func59, Tryz.ntmps59
      go_wp2_with (first | (go_at_call 60; (with_reducible refine (HP.out _).mono ?_); rintro e w1 ⟨rfl, rfl⟩) | (go_at_call 55; (with_reducible refine HF.out.mono ?_); rintro e w1 ⟨rfl, rfl⟩))
      go_ret
      exact ⟨9, L, ρ, n, S, rfl, HH.out, Step.refl _ _ _, by rw [HE.out], by rw [HE.out], Nat.le_add_right _ _⟩
    | none =>
      rw [hq] at HF
      simp only [ptrF, Option.map_none] at HF
      have hnq := neqP_none
      have c1 := blk_cell h.blk 1 rfl
      have hlen := mapI_len (h.mp false)
      obtain ⟨m, hm⟩ : ∃ m, m = L.m false := ⟨_, rfl⟩
      rw [← hm] at c1 hlen
      obtain ⟨dl, hdl⟩ : ∃ dl, dl = (S.dirs false).length := ⟨_, rfl⟩
      rw [← hdl] at hlen
      by_cases h60 : 60 ≤ dl
      · have e : createIn S p.data.toList = (6, S) := by unfold createIn; rw [if_neg (by rw [hpb]; simp), hq]; simp only; rw [if_pos (by omega)]
        have HE := Lib.hid e
        have t1 : (60 : Int) ≤ dl := by omega
        clear h e hpb hq hm hdl h60
        go_enter Tryz.func59, Tryz.ntmps59
        go_wp2_with (first | (go_at_call 60; (with_reducible refine (HP.out _).mono ?_); rintro e w1 ⟨rfl, rfl⟩) | (go_at_call 55; (with_reducible refine HF.out.mono ?_); rintro e w1 ⟨rfl, rfl⟩))
        go_ret
        exact ⟨6, L, ρ, n, S, rfl, HH.out, Step.refl _ _ _, by rw [HE.out], by rw [HE.out], Nat.le_add_right _ _⟩
      · have e : createIn S p.data.toList = (0, perfS (.create p.data.toList S.nf) (newFile S)) := by unfold createIn; rw [if_neg (by rw [hpb]; simp), hq]; simp only; rw [if_neg (by omega)]
        have HE := Lib.hid e
        have t1 : (dl : Int) < 60 := by omega
        have hps : p.data.toList.length ≤ 1000000 := by have : p.data.toList.length = p.size := by simp
                                                        omega
        have hN := inv_newfile h
        have hok : (Chg.create p.data.toList S.nf).Ok (newFile S).nf := ⟨Nat.lt_succ_self _, hps⟩
        have hF0 : (newLoc L S.nf w.heap.size).F S.nf = w.heap.size := by simp [newLoc, updN]
        have hcl : (Chg.create p.data.toList S.nf).cells (newLoc L S.nf w.heap.size).F = [.int .i64 0, .string p, .pointer (some ⟨w.heap.size, 0, none⟩), .int .i64 0, .string ⟨#[]⟩] := by
          simp only [Chg.cells, hF0, bz_back]; rfl
        have hC := perform_lit (.create p.data.toList S.nf) 0 p (some ⟨w.heap.size, 0, none⟩) 0 ⟨#[]⟩ hcl hN.1 hok hn
        rw [show (newLoc L S.nf w.heap.size).b = L.b from rfl] at hC
        have HC := Lib.hid hC; have HS := Lib.hid hN.2
        clear h e hpb hq hm hdl h60 hN hok hF0 hcl hC
        go_enter Tryz.func59, Tryz.ntmps59
        go_wp2_with (first | (go_at_call 60; (with_reducible refine (HP.out _).mono ?_); rintro e w1 ⟨rfl, rfl⟩) | (go_at_call 55; (with_reducible refine HF.out.mono ?_); rintro e w1 ⟨rfl, rfl⟩) | (go_at_call 61; (with_reducible refine HC.out.mono ?_); rintro e w1 ⟨rfl, L', ρ', hI, hS1, hF1⟩; have HI := Lib.hid hI; have HS1 := Lib.hid hS1; clear hI hS1 hF1))
        go_ret
        exact ⟨0, L', ρ', _, _, rfl, HI.out, HS.out.trans HS1.out, by rw [HE.out], by rw [HE.out], Nat.le_refl _⟩
theorem create_any (p : ByteArray) (hp : p.size ≤ 1000000) (h : Inv L ρ n S w) (hd : S.down = false) (hfl : S.flt (S.ops + 1) = 0) (hn : n + 3 ≤ 100000) :
    Calls Tryz.prog 23 #[.pointer (some ⟨L.b, 0, none⟩), .string p] w (OutQ L ρ w (createZ S p.data.toList) (n + 3)) := by
  have hA := (h.alloc (.cells #[.pointer (some ⟨L.b, 0, none⟩)] 25)).alloc (.cells #[.string p] 9)
  have hb1 : Below w.heap.size w ((w.alloc (.cells #[.pointer (some ⟨L.b, 0, none⟩)] 25)).alloc (.cells #[.string p] 9)) := ((Below.refl _ _).alloc (Nat.le_refl _) _).alloc (by simp) _
  have hx : (w.alloc (.cells #[.pointer (some ⟨L.b, 0, none⟩)] 25)).cell? ⟨w.heap.size, 0, none⟩ = some (.pointer (some ⟨L.b, 0, none⟩)) := by simp
  have hx2 := cell_alloc hx (.cells #[.string p] 9)
  have hy : ((w.alloc (.cells #[.pointer (some ⟨L.b, 0, none⟩)] 25)).alloc (.cells #[.string p] 9)).cell? ⟨w.heap.size + 1, 0, none⟩ = some (.string p) := by
    rw [World.cell?_alloc_at _ _ _ _ (by simp)]; rfl
  have r1 := h.old w.heap.size (Nat.le_refl _)
  have r2 := h.old (w.heap.size + 1) (Nat.le_succ _)
  have hC := call_Create1 #[.pointer (some ⟨w.heap.size + 1, 0, none⟩), .pointer (some ⟨w.heap.size, 0, none⟩)] hA hd hfl (by omega) (Q := IsR (createZ S p.data.toList) (n + 3))
    (fun w1 hI1 hS1 _ => by
      refine (create1_any p hp (w.heap.size + 1) w.heap.size hI1 (step_cell hS1 r2 hy) (step_cell hS1 r1 hx2) (by omega)).mono fun e w2 hq2 => ?_
      obtain ⟨x, L', ρ', n', S', he, hI, hS, rfl, rfl, hn'⟩ := hq2
      exact ⟨_, L', ρ', n', _, he, hI, hS, rfl, by omega⟩)
  have HC := Lib.hid hC; have HB1 := Lib.hid hb1
  clear hC hA hb1 hx hx2 hy h hd hfl r1 r2
  go_enter Tryz.func23, Tryz.ntmps23
  go_wp2_with (go_at_call 58; (with_reducible refine HC.out.mono ?_); rintro e w1 ⟨x, L', ρ', n', S', rfl, hI, hS, hQ⟩; have HI := Lib.hid hI; have HS := Lib.hid hS; have HQ := Lib.hid hQ; clear hI hS hQ)
  go_ret
  exact out_of ⟨x, L', ρ', n', S', rfl, HI.out, (Step.below HB1.out).trans HS.out, HQ.out⟩
end Go.Proofs.YthfebcfdhmihcaaGreatDoor

namespace Go.Proofs.YthfebcfdhmihcaaGreatDoor
open Go.RowKit

def Keys (l : List (List UInt8 × Nat)) : Prop := (l.map (·.1)).Nodup
theorem keys_del {l : List (List UInt8 × Nat)} (h : Keys l) (p : List UInt8) : Keys (delL l p) := by
  unfold Keys delL at *
  exact h.sublist (List.Sublist.map _ List.filter_sublist)
theorem insL_perm (x : List UInt8 × Nat) : ∀ l, (insL x l).Perm (x :: l)
  | [] => List.Perm.refl _
  | y :: r => by
    unfold insL
    split
    · exact List.Perm.refl _
    · exact ((insL_perm x r).cons y).trans (List.Perm.swap x y r)
theorem del_no {l : List (List UInt8 × Nat)} {p : List UInt8} : p ∉ (delL l p).map (·.1) := by
  intro h
  obtain ⟨q, hq, e⟩ := List.mem_map.1 h
  have := (List.mem_filter.1 hq).2
  simp [e] at this
theorem keys_put {l : List (List UInt8 × Nat)} (h : Keys l) (p : List UInt8) (i : Nat) : Keys (putL l p i) := by
  have hp := (insL_perm (p, i) (delL l p)).map (·.1)
  unfold Keys
  show ((putL l p i).map (·.1)).Nodup
  unfold putL
  rw [hp.nodup_iff]
  exact List.nodup_cons.2 ⟨del_no, keys_del h p⟩
def KeysS (S : DS) : Prop := ∀ s, Keys (S.dirs s)
theorem keys_apply {S : DS} (h : KeysS S) (s : Bool) (c : Chg) : KeysS (applyS s c S) := by
  cases c with
  | create nm i =>
    intro t
    show Keys (upd S.dirs s (putL (S.dirs s) nm i) t)
    unfold upd
    split
    · exact keys_put (h s) nm i
    · exact h t
  | remove nm =>
    intro t
    show Keys (upd S.dirs s (delL (S.dirs s) nm) t)
    unfold upd
    split
    · exact keys_del (h s) nm
    · exact h t
  | write _ _ _ => exact h
  | trunc _ _ => exact h
theorem keys_perf {S : DS} (h : KeysS S) (c : Chg) : KeysS (perfS c S) := fun t => keys_apply h false c t
theorem keys_fold {p : Chg → Bool} : ∀ (l : List Chg) {S : DS}, KeysS S → KeysS (foldP p S l)
  | [], _, h => h
  | c :: r, S, h => by
    have h1 : KeysS (stepP p S c) := by
      unfold stepP
      split
      · exact keys_apply h true c
      · exact h
    exact keys_fold r h1
theorem keys_settle {S : DS} (h : KeysS S) (p : Chg → Bool) : KeysS (settleS p S) := fun t => keys_fold S.pend h t
end Go.Proofs.YthfebcfdhmihcaaGreatDoor

namespace Go.Proofs.YthfebcfdhmihcaaGreatDoor
open Go.RowKit

theorem before_lt : ∀ (a b : List UInt8), bytesBefore a b = true ↔ a < b
  | [], [] => by simp [bytesBefore]
  | _ :: _, [] => by simp [bytesBefore]
  | [], b :: t => by simp [bytesBefore]
  | a :: s, b :: t => by
    have ih := before_lt s t
    rw [List.cons_lt_cons_iff]
    unfold bytesBefore
    by_cases h1 : a < b
    · simp [h1]
    · by_cases h2 : a = b
      · subst h2; simp [ih]
      · simp [h1, h2]
theorem before_no {a b : List UInt8} (h : ¬ bytesBefore a b = true) : b ≤ a := by
  rw [before_lt] at h
  exact List.not_lt.1 h
theorem before_le {a b : List UInt8} (h : bytesBefore a b = true) : a ≤ b := by
  rw [before_lt] at h
  exact List.le_of_lt h
def Srt (l : List (List UInt8 × Nat)) : Prop := l.Pairwise (fun p q => p.1 ≤ q.1)
theorem sorts_del {l : List (List UInt8 × Nat)} (h : Srt l) (p : List UInt8) : Srt (delL l p) := List.Pairwise.sublist List.filter_sublist h
theorem sorts_ins {l : List (List UInt8 × Nat)} (h : Srt l) (x : List UInt8 × Nat) : Srt (insL x l) := by
  induction l with
  | nil => exact List.pairwise_singleton _ _
  | cons y r ih =>
    unfold Srt at h ih
    rw [List.pairwise_cons] at h
    unfold insL
    split
    · rename_i hb
      refine List.pairwise_cons.2 ⟨fun q hq => ?_, List.pairwise_cons.2 h⟩
      rcases List.mem_cons.1 hq with rfl | hq
      · exact before_le hb
      · exact List.le_trans (before_le hb) (h.1 q hq)
    · rename_i hb
      refine List.pairwise_cons.2 ⟨fun q hq => ?_, ih h.2⟩
      rcases List.mem_cons.1 ((insL_perm x r).mem_iff.1 hq) with rfl | hq
      · exact before_no hb
      · exact h.1 q hq
theorem sorts_put {l : List (List UInt8 × Nat)} (h : Srt l) (p : List UInt8) (i : Nat) : Srt (putL l p i) := sorts_ins (sorts_del h p) _
def SortS (S : DS) : Prop := ∀ s, Srt (S.dirs s)
theorem sorts_apply {S : DS} (h : SortS S) (s : Bool) (c : Chg) : SortS (applyS s c S) := by
  cases c with
  | create nm i =>
    intro t
    show Srt (upd S.dirs s (putL (S.dirs s) nm i) t)
    unfold upd
    split
    · exact sorts_put (h s) nm i
    · exact h t
  | remove nm =>
    intro t
    show Srt (upd S.dirs s (delL (S.dirs s) nm) t)
    unfold upd
    split
    · exact sorts_del (h s) nm
    · exact h t
  | write _ _ _ => exact h
  | trunc _ _ => exact h
theorem sorts_perf {S : DS} (h : SortS S) (c : Chg) : SortS (perfS c S) := fun t => sorts_apply h false c t
theorem sorts_fold {p : Chg → Bool} : ∀ (l : List Chg) {S : DS}, SortS S → SortS (foldP p S l)
  | [], _, h => h
  | c :: r, S, h => by
    have h1 : SortS (stepP p S c) := by
      unfold stepP
      split
      · exact sorts_apply h true c
      · exact h
    exact sorts_fold r h1
theorem sorts_settle {S : DS} (h : SortS S) (p : Chg → Bool) : SortS (settleS p S) := fun t => sorts_fold S.pend h t
end Go.Proofs.YthfebcfdhmihcaaGreatDoor

namespace Go.Proofs.YthfebcfdhmihcaaGreatDoor
open Go.RowKit
variable {L : Loc} {ρ ρ' : Nat → Option Role} {n : Nat} {S : DS} {w w' : World}

def writeIn (S : DS) (i : Nat) (o : Int) (d : List UInt8) : Int × DS :=
  if o < 0 ∨ 4000000 - (d.length : Int) < o then (3, S) else if d = [] then (0, S) else if excB S i (o + (d.length : Int)) = true then (31, S) else (0, perfS (.write i o.toNat d) S)
def writeZ (S : DS) (p : List UInt8) (o : Int) (d : List UInt8) : Int × DS := match findL (S.dirs false) p with
  | none => (cutE (begS S) 8, begS S)
  | some i => (cutE (writeIn (begS S) i o d).2 (writeIn (begS S) i o d).1, (writeIn (begS S) i o d).2)

set_option maxHeartbeats 2000000 in
theorem write1_any (i : Nat) (o : Int) (d : ByteArray) (b1 b2 b3 : Nat) (h : Inv L ρ n S w) (hk : ((S.dirs false).map (·.1)).Nodup) (hne : S.dirs false ≠ []) (hi : i < S.nf) (ho1 : -9223372036854775808 ≤ o) (ho2 : o ≤ 9223372036854775807) (hd : d.size ≤ 4611686018427387904)
    (h1 : w.cell? ⟨b1, 0, none⟩ = some (.int .i64 o)) (h2 : w.cell? ⟨b2, 0, none⟩ = some (.string d)) (h3 : w.cell? ⟨b3, 0, none⟩ = some (.pointer (some ⟨L.b, 0, none⟩))) (hn : n + 2 ≤ 100000) :
    Calls Tryz.prog 63 #[.pointer (some ⟨L.F i, 0, none⟩), .pointer (some ⟨b1, 0, none⟩), .pointer (some ⟨b2, 0, none⟩), .pointer (some ⟨b3, 0, none⟩)] w (PostQ L ρ w (fun x S' n' _ => x = (writeIn S i o d.data.toList).1 ∧ S' = (writeIn S i o d.data.toList).2 ∧ n' ≤ n + 2)) := by
  have HH := Lib.hid h
  have hdl : d.data.toList.length = d.size := by simp
  by_cases hr : o < 0 ∨ 4000000 - (d.size : Int) < o
  · have HE := Lib.hid (show writeIn S i o d.data.toList = (3, S) by unfold writeIn; rw [hdl, if_pos hr])
    have e1 : IntKind.i64.wrap (4000000 - (d.size : Int)) = 4000000 - (d.size : Int) := IntWalk.i64_in _ ⟨by omega, by omega⟩
    clear h hk hne hdl
    rcases hr with hr | hr
    · go_enter Tryz.func63, Tryz.ntmps63
      go_wp2
      all_goals go_ret
      all_goals exact ⟨3, L, ρ, n, S, rfl, HH.out, Step.refl _ _ _, by rw [HE.out], by rw [HE.out], Nat.le_add_right _ _⟩
    · go_enter Tryz.func63, Tryz.ntmps63
      go_wp2
      all_goals go_ret
      all_goals exact ⟨3, L, ρ, n, S, rfl, HH.out, Step.refl _ _ _, by rw [HE.out], by rw [HE.out], Nat.le_add_right _ _⟩
  have hr1 : 0 ≤ o := by omega
  have hr2 : o ≤ 4000000 - (d.size : Int) := by omega
  have e1 : IntKind.i64.wrap (4000000 - (d.size : Int)) = 4000000 - (d.size : Int) := IntWalk.i64_in _ ⟨by omega, by omega⟩
  have u1 : decide (o < 0) = false := decide_eq_false (by omega)
  have u2 : decide (4000000 - (d.size : Int) < o) = false := decide_eq_false (by omega)
  by_cases h0 : d.size = 0
  · have hn0 : d.data.toList = [] := List.eq_nil_of_length_eq_zero (by omega)
    have HE := Lib.hid (show writeIn S i o d.data.toList = (0, S) by unfold writeIn; rw [hdl, if_neg hr, if_pos hn0])
    have t1 : (d.toList == []) = true := beq_iff_eq.2 (by rw [ByteArray.toList_eq]; exact hn0)
    clear h hk hne hdl h0 hn0 hr
    go_enter Tryz.func63, Tryz.ntmps63
    go_wp2
    all_goals go_ret
    all_goals exact ⟨0, L, ρ, n, S, rfl, HH.out, Step.refl _ _ _, by rw [HE.out], by rw [HE.out], Nat.le_add_right _ _⟩
  have hn0 : d.data.toList ≠ [] := fun e => h0 (by rw [← hdl, e]; rfl)
  have t1 : (d.toList == []) = false := beq_eq_false_iff_ne.2 (by rw [ByteArray.toList_eq]; exact hn0)
  have e2 : IntKind.i64.wrap (o + (d.size : Int)) = o + (d.size : Int) := IntWalk.i64_in _ ⟨by omega, by omega⟩
  have HX := Lib.hid (exceeds_any h hk hne i hi (o + (d.size : Int)) (by omega) (by omega))
  cases hx : excB S i (o + (d.size : Int)) with
  | true =>
    have HE := Lib.hid (show writeIn S i o d.data.toList = (31, S) by unfold writeIn; rw [hdl, if_neg hr, if_neg hn0, if_pos hx])
    rw [hx] at HX
    clear h hk hne hdl h0 hn0 hr hx
    go_enter Tryz.func63, Tryz.ntmps63
    go_wp2_with (go_at_call 64; (with_reducible refine HX.out.mono ?_); rintro e w1 ⟨rfl, hb⟩; have HB := Lib.hid hb; clear hb)
    all_goals go_ret
    all_goals exact ⟨31, L, ρ, n, S, rfl, HH.out.below HB.out, Step.below HB.out, by rw [HE.out], by rw [HE.out], Nat.le_add_right _ _⟩
  | false =>
    have HE := Lib.hid (show writeIn S i o d.data.toList = (0, perfS (.write i o.toNat d.data.toList) S) by unfold writeIn; rw [hdl, if_neg hr, if_neg hn0, if_neg (by rw [hx]; simp)])
    rw [hx] at HX
    have hok : (Chg.write i o.toNat d.data.toList).Ok S.nf := ⟨hi, by rw [hdl]; omega⟩
    have hcl : (Chg.write i o.toNat d.data.toList).cells L.F = [.int .i64 2, .string ⟨#[]⟩, .pointer (some ⟨L.F i, 0, none⟩), .int .i64 o, .string d] := by
      simp only [Chg.cells, bz_back]
      rw [show ((o.toNat : Nat) : Int) = o by omega]
      rfl
    have HCL := Lib.hid hcl; have HOK := Lib.hid hok
    have HN := Lib.hid hn
    have hl1 := World.block_lt_of_cell? w _ h1
    have hl2 := World.block_lt_of_cell? w _ h2
    have hl3 := World.block_lt_of_cell? w _ h3
    have H1 := Lib.hid h1; have H2 := Lib.hid h2; have H3 := Lib.hid h3
    clear h hk hne hdl h0 hn0 hr hx hok hcl
    go_enter Tryz.func63, Tryz.ntmps63
    go_wp2_with (first
      | (go_at_call 64; (with_reducible refine HX.out.mono ?_); rintro e w1 ⟨rfl, hb⟩
         have HB := Lib.hid hb
         have k1 : w1.cell? ⟨b1, 0, none⟩ = some (.int .i64 o) := (hb.cell hl1).trans H1.out
         have k2 : w1.cell? ⟨b2, 0, none⟩ = some (.string d) := (hb.cell hl2).trans H2.out
         have k3 : w1.cell? ⟨b3, 0, none⟩ = some (.pointer (some ⟨L.b, 0, none⟩)) := (hb.cell hl3).trans H3.out
         have HC := Lib.hid (perform_lit (.write i o.toNat d.data.toList) 2 ⟨#[]⟩ (some ⟨L.F i, 0, none⟩) o d HCL.out (HH.out.below hb) HOK.out HN.out)
         clear hb)
      | (go_at_call 61; (with_reducible refine HC.out.mono ?_); rintro e w2 ⟨rfl, L', ρ', hI, hS1, hF1⟩; have HI := Lib.hid hI; have HS1 := Lib.hid hS1; clear hI hS1 hF1))
    all_goals go_ret
    all_goals exact ⟨0, L', ρ', _, _, rfl, HI.out, (Step.below HB.out).trans HS1.out, by rw [HE.out], by rw [HE.out], Nat.le_refl _⟩
theorem findL_ne {l : List (List UInt8 × Nat)} {p : List UInt8} {i : Nat} (h : findL l p = some i) : l ≠ [] := fun e => by rw [e] at h; cases h
theorem write_any (p : ByteArray) (hp : p.size ≤ 1000000) (o : Int) (ho1 : -9223372036854775808 ≤ o) (ho2 : o ≤ 9223372036854775807) (d : ByteArray) (hd' : d.size ≤ 4611686018427387904) (h : Inv L ρ n S w) (hk : ((S.dirs false).map (·.1)).Nodup) (hd : S.down = false) (hfl : S.flt (S.ops + 1) = 0) (hn : n + 3 ≤ 100000) :
    Calls Tryz.prog 24 #[.pointer (some ⟨L.b, 0, none⟩), .string p, .int .i64 o, .string d] w (OutQ L ρ w (writeZ S p.data.toList o d.data.toList) (n + 3)) := by
  have hA := ((h.alloc (.cells #[.pointer (some ⟨L.b, 0, none⟩)] 25)).alloc (.cells #[.int .i64 o] 3)).alloc (.cells #[.string d] 9)
  have hb1 : Below w.heap.size w (((w.alloc (.cells #[.pointer (some ⟨L.b, 0, none⟩)] 25)).alloc (.cells #[.int .i64 o] 3)).alloc (.cells #[.string d] 9)) := (((Below.refl _ _).alloc (Nat.le_refl _) _).alloc (by simp) _).alloc (by simp; omega) _
  have hx : (w.alloc (.cells #[.pointer (some ⟨L.b, 0, none⟩)] 25)).cell? ⟨w.heap.size, 0, none⟩ = some (.pointer (some ⟨L.b, 0, none⟩)) := by simp
  have hx2 := cell_alloc (cell_alloc hx (.cells #[.int .i64 o] 3)) (.cells #[.string d] 9)
  have hy : ((w.alloc (.cells #[.pointer (some ⟨L.b, 0, none⟩)] 25)).alloc (.cells #[.int .i64 o] 3)).cell? ⟨w.heap.size + 1, 0, none⟩ = some (.int .i64 o) := by
    rw [World.cell?_alloc_at _ _ _ _ (by simp)]; rfl
  have hy2 := cell_alloc hy (.cells #[.string d] 9)
  have hz : (((w.alloc (.cells #[.pointer (some ⟨L.b, 0, none⟩)] 25)).alloc (.cells #[.int .i64 o] 3)).alloc (.cells #[.string d] 9)).cell? ⟨w.heap.size + 1 + 1, 0, none⟩ = some (.string d) := by
    rw [World.cell?_alloc_at _ _ _ _ (by simp)]; rfl
  have r1 := h.old w.heap.size (Nat.le_refl _)
  have r2 := h.old (w.heap.size + 1) (Nat.le_succ _)
  have r3 := h.old (w.heap.size + 1 + 1) (by omega)
  have hC := callOn_Write1 (.pointer (some ⟨w.heap.size + 1, 0, none⟩)) (.pointer (some ⟨w.heap.size + 1 + 1, 0, none⟩)) (.pointer (some ⟨w.heap.size, 0, none⟩)) p hp hA hd hfl (by omega) (Q := IsR (writeZ S p.data.toList o d.data.toList) (n + 3))
    (fun hq w1 _ => ⟨by unfold writeZ; rw [hq], by omega⟩)
    (fun i hq w1 hI1 hS1 _ => by
      refine (write1_any i o d (w.heap.size + 1) (w.heap.size + 1 + 1) w.heap.size hI1 hk (findL_ne hq) (findL_nf hI1 (s := false) hq) ho1 ho2 hd' (step_cell hS1 r2 hy2) (step_cell hS1 r3 hz) (step_cell hS1 r1 hx2) (by omega)).mono fun e w2 hq2 => ?_
      obtain ⟨x, L', ρ', n', S', he, hI, hS, rfl, rfl, hn'⟩ := hq2
      exact ⟨_, L', ρ', n', _, he, hI, hS, by unfold writeZ; rw [hq], by omega⟩)
  have HC := Lib.hid hC; have HB1 := Lib.hid hb1
  clear hC hA hb1 hx hx2 hy hy2 hz h hd hfl r1 r2 r3
  go_enter Tryz.func24, Tryz.ntmps24
  go_wp2_with (go_at_call 62; (with_reducible refine HC.out.mono ?_); rintro e w1 ⟨x, L', ρ', n', S', rfl, hI, hS, hQ⟩; have HI := Lib.hid hI; have HS := Lib.hid hS; have HQ := Lib.hid hQ; clear hI hS hQ)
  go_ret
  exact out_of ⟨x, L', ρ', n', S', rfl, HI.out, (Step.below HB1.out).trans HS.out, HQ.out⟩
end Go.Proofs.YthfebcfdhmihcaaGreatDoor

namespace Go.Proofs.YthfebcfdhmihcaaGreatDoor
open Go.RowKit
variable {L : Loc} {ρ ρ' : Nat → Option Role} {n : Nat} {S : DS} {w w' : World}

theorem mclone_nil (w : World) : Calls Tryz.prog 53 #[.map none] w fun e w' => e = .returned (.map none) ∧ w' = w := by
  have hq := fun w => run_eql_map_nil_sl (P := Tryz.prog) w 88 _ _ none underF
  go_enter Tryz.func53, Tryz.ntmps53
  go_wp2
  go_ret
  exact ⟨rfl, rfl⟩
set_option maxRecDepth 100000 in
set_option maxHeartbeats 2000000 in
theorem mclone_some (b : Nat) (es : Array MapEntry) (clock : Nat) (w : World) (hb : w.heap[b]? = some (.map es clock)) :
    Calls Tryz.prog 53 #[.map (some b)] w fun e w' => e = .returned (.map (some w.heap.size)) ∧ w' = w.alloc (.map es clock) := by
  have hq := fun w => run_eql_map_nil_sl (P := Tryz.prog) w 88 _ _ (some b) underF
  go_enter Tryz.func53, Tryz.ntmps53
  go_wp2
  rw [run_callFunc_extern Tryz.func97 (by kernel_rfl) (by kernel_rfl) (by kernel_rfl) (e := Extern.MapsClone.clone) (by kernel_rfl), run_maps_clone_sl w 88 hb]
  simp only [Result.andThen]
  rw [Oper.upon_value]
  go_wp2
  rw [run_typeAssert_map_sl _ 88 20 _ _ _ underF]
  simp only [Result.andThen]
  rw [Oper.upon_value]
  go_wp2
  go_ret
  exact ⟨rfl, rfl⟩
/-- The copy of one of the disk's maps. -/
def MapC (F : Nat → Nat) (w0 w : World) (m : Option Nat) (l : List (List UInt8 × Nat)) : Prop := (m = none ∧ l = []) ∨ (m = some w0.heap.size ∧ w.ownsMap Tryz.prog 9 fileR w0.heap.size l.length (fileD F l))
theorem mclone_any {F : Nat → Nat} {m : Option Nat} {r : Role} {l : List (List UInt8 × Nat)} (h : MapI ρ F w m r l) :
    Calls Tryz.prog 53 #[.map m] w fun e w' => ∃ m', e = .returned (.map m') ∧ MapC F w w' m' l ∧ Below w.heap.size w w' := by
  rcases h with ⟨rfl, rfl⟩ | ⟨b, rfl, _, hown⟩
  · exact (mclone_nil w).mono fun e w' ⟨he, hw⟩ => ⟨none, he, .inl ⟨rfl, rfl⟩, by rw [hw]; exact Below.refl _ _⟩
  · have hlt := hown.lt
    obtain ⟨es, clock, hb, F', hs, hD⟩ := hown
    exact (mclone_some b es clock w hb).mono fun e w' ⟨he, hw⟩ => ⟨some w.heap.size, he, .inr ⟨rfl, es, clock, by rw [hw]; exact heap_alloc_new _ _, F', hs, hD⟩, by rw [hw]; exact (Below.refl _ _).alloc (Nat.le_refl _) _⟩
end Go.Proofs.YthfebcfdhmihcaaGreatDoor

namespace Go.Proofs.YthfebcfdhmihcaaGreatDoor
open Go.RowKit
variable {L : Loc} {ρ ρ' : Nat → Option Role} {n : Nat} {S : DS} {w w' : World}

def truncIn (S : DS) (i : Nat) (z : Int) : Int × DS :=
  if z < 0 ∨ 4000000 < z then (3, S) else if excB S i z = true then (31, S) else (0, perfS (.trunc i z.toNat) S)
def truncZ (S : DS) (p : List UInt8) (z : Int) : Int × DS := match findL (S.dirs false) p with
  | none => (cutE (begS S) 8, begS S)
  | some i => (cutE (truncIn (begS S) i z).2 (truncIn (begS S) i z).1, (truncIn (begS S) i z).2)
set_option maxHeartbeats 2000000 in
theorem trunc1_any (i : Nat) (z : Int) (b1 b2 : Nat) (h : Inv L ρ n S w) (hk : ((S.dirs false).map (·.1)).Nodup) (hne : S.dirs false ≠ []) (hi : i < S.nf)
    (h1 : w.cell? ⟨b1, 0, none⟩ = some (.int .i64 z)) (h2 : w.cell? ⟨b2, 0, none⟩ = some (.pointer (some ⟨L.b, 0, none⟩))) (hn : n + 2 ≤ 100000) :
    Calls Tryz.prog 180 #[.pointer (some ⟨L.F i, 0, none⟩), .pointer (some ⟨b1, 0, none⟩), .pointer (some ⟨b2, 0, none⟩)] w (PostQ L ρ w (fun x S' n' _ => x = (truncIn S i z).1 ∧ S' = (truncIn S i z).2 ∧ n' ≤ n + 2)) := by
  have HH := Lib.hid h
  by_cases hr : z < 0 ∨ 4000000 < z
  · have HE := Lib.hid (show truncIn S i z = (3, S) by unfold truncIn; rw [if_pos hr])
    clear h hk hne
    rcases hr with hr | hr
    · go_enter Tryz.func180, Tryz.ntmps180
      go_wp2
      all_goals go_ret
      all_goals exact ⟨3, L, ρ, n, S, rfl, HH.out, Step.refl _ _ _, by rw [HE.out], by rw [HE.out], Nat.le_add_right _ _⟩
    · go_enter Tryz.func180, Tryz.ntmps180
      go_wp2
      all_goals go_ret
      all_goals exact ⟨3, L, ρ, n, S, rfl, HH.out, Step.refl _ _ _, by rw [HE.out], by rw [HE.out], Nat.le_add_right _ _⟩
  have hr1 : 0 ≤ z := by omega
  have hr2 : z ≤ 4000000 := by omega
  have u1 : decide (z < 0) = false := decide_eq_false (by omega)
  have u2 : decide (4000000 < z) = false := decide_eq_false (by omega)
  have HX := Lib.hid (exceeds_any h hk hne i hi z hr1 (by omega))
  cases hx : excB S i z with
  | true =>
    have HE := Lib.hid (show truncIn S i z = (31, S) by unfold truncIn; rw [if_neg hr, if_pos hx])
    rw [hx] at HX
    clear h hk hne hr hx
    go_enter Tryz.func180, Tryz.ntmps180
    go_wp2_with (go_at_call 64; (with_reducible refine HX.out.mono ?_); rintro e w1 ⟨rfl, hb⟩; have HB := Lib.hid hb; clear hb)
    all_goals go_ret
    all_goals exact ⟨31, L, ρ, n, S, rfl, HH.out.below HB.out, Step.below HB.out, by rw [HE.out], by rw [HE.out], Nat.le_add_right _ _⟩
  | false =>
    have HE := Lib.hid (show truncIn S i z = (0, perfS (.trunc i z.toNat) S) by unfold truncIn; rw [if_neg hr, if_neg (by rw [hx]; simp)])
    rw [hx] at HX
    have hok : (Chg.trunc i z.toNat).Ok S.nf := ⟨hi, by omega⟩
    have hcl : (Chg.trunc i z.toNat).cells L.F = [.int .i64 3, .string ⟨#[]⟩, .pointer (some ⟨L.F i, 0, none⟩), .int .i64 z, .string ⟨#[]⟩] := by
      simp only [Chg.cells]
      rw [show ((z.toNat : Nat) : Int) = z by omega]
      rfl
    have HCL := Lib.hid hcl; have HOK := Lib.hid hok
    have HN := Lib.hid hn
    have hl1 := World.block_lt_of_cell? w _ h1
    have hl2 := World.block_lt_of_cell? w _ h2
    have H1 := Lib.hid h1; have H2 := Lib.hid h2
    clear h hk hne hr hx hok hcl
    go_enter Tryz.func180, Tryz.ntmps180
    go_wp2_with (first
      | (go_at_call 64; (with_reducible refine HX.out.mono ?_); rintro e w1 ⟨rfl, hb⟩
         have HB := Lib.hid hb
         have k1 : w1.cell? ⟨b1, 0, none⟩ = some (.int .i64 z) := (hb.cell hl1).trans H1.out
         have k2 : w1.cell? ⟨b2, 0, none⟩ = some (.pointer (some ⟨L.b, 0, none⟩)) := (hb.cell hl2).trans H2.out
         have HC := Lib.hid (perform_lit (.trunc i z.toNat) 3 ⟨#[]⟩ (some ⟨L.F i, 0, none⟩) z ⟨#[]⟩ HCL.out (HH.out.below hb) HOK.out HN.out)
         clear hb)
      | (go_at_call 61; (with_reducible refine HC.out.mono ?_); rintro e w2 ⟨rfl, L', ρ', hI, hS1, hF1⟩; have HI := Lib.hid hI; have HS1 := Lib.hid hS1; clear hI hS1 hF1))
    all_goals go_ret
    all_goals exact ⟨0, L', ρ', _, _, rfl, HI.out, (Step.below HB.out).trans HS1.out, by rw [HE.out], by rw [HE.out], Nat.le_refl _⟩
theorem trunc_any (p : ByteArray) (hp : p.size ≤ 1000000) (z : Int) (h : Inv L ρ n S w) (hk : ((S.dirs false).map (·.1)).Nodup) (hd : S.down = false) (hfl : S.flt (S.ops + 1) = 0) (hn : n + 3 ≤ 100000) :
    Calls Tryz.prog 151 #[.pointer (some ⟨L.b, 0, none⟩), .string p, .int .i64 z] w (OutQ L ρ w (truncZ S p.data.toList z) (n + 3)) := by
  have hA := (h.alloc (.cells #[.pointer (some ⟨L.b, 0, none⟩)] 25)).alloc (.cells #[.int .i64 z] 3)
  have hb1 : Below w.heap.size w ((w.alloc (.cells #[.pointer (some ⟨L.b, 0, none⟩)] 25)).alloc (.cells #[.int .i64 z] 3)) := ((Below.refl _ _).alloc (Nat.le_refl _) _).alloc (by simp) _
  have hx : (w.alloc (.cells #[.pointer (some ⟨L.b, 0, none⟩)] 25)).cell? ⟨w.heap.size, 0, none⟩ = some (.pointer (some ⟨L.b, 0, none⟩)) := by simp
  have hx2 := cell_alloc hx (.cells #[.int .i64 z] 3)
  have hy : ((w.alloc (.cells #[.pointer (some ⟨L.b, 0, none⟩)] 25)).alloc (.cells #[.int .i64 z] 3)).cell? ⟨w.heap.size + 1, 0, none⟩ = some (.int .i64 z) := by
    rw [World.cell?_alloc_at _ _ _ _ (by simp)]; rfl
  have r1 := h.old w.heap.size (Nat.le_refl _)
  have r2 := h.old (w.heap.size + 1) (Nat.le_succ _)
  have hC := callOn_Trunc1 (.pointer (some ⟨w.heap.size + 1, 0, none⟩)) (.pointer (some ⟨w.heap.size, 0, none⟩)) p hp hA hd hfl (by omega) (Q := IsR (truncZ S p.data.toList z) (n + 3))
    (fun hq w1 _ => ⟨by unfold truncZ; rw [hq], by omega⟩)
    (fun i hq w1 hI1 hS1 _ => by
      refine (trunc1_any i z (w.heap.size + 1) w.heap.size hI1 hk (findL_ne hq) (findL_nf hI1 (s := false) hq) (step_cell hS1 r2 hy) (step_cell hS1 r1 hx2) (by omega)).mono fun e w2 hq2 => ?_
      obtain ⟨x, L', ρ', n', S', he, hI, hS, rfl, rfl, hn'⟩ := hq2
      exact ⟨_, L', ρ', n', _, he, hI, hS, by unfold truncZ; rw [hq], by omega⟩)
  have HC := Lib.hid hC; have HB1 := Lib.hid hb1
  clear hC hA hb1 hx hx2 hy h hd hfl r1 r2
  go_enter Tryz.func151, Tryz.ntmps151
  go_wp2_with (go_at_call 62; (with_reducible refine HC.out.mono ?_); rintro e w1 ⟨x, L', ρ', n', S', rfl, hI, hS, hQ⟩; have HI := Lib.hid hI; have HS := Lib.hid hS; have HQ := Lib.hid hQ; clear hI hS hQ)
  go_ret
  exact out_of ⟨x, L', ρ', n', S', rfl, HI.out, (Step.below HB1.out).trans HS.out, HQ.out⟩

def readL (S : DS) (i : Nat) (o m : Int) : List UInt8 := ((S.con false i).drop o.toNat).take m.toNat
set_option maxRecDepth 100000 in
theorem bys_part {v : Value} {l : List UInt8} (h : Bys w v l) (k m : Nat) (hk : k + m ≤ l.length) (a : Option Addr) (cap : Nat) (hv : ∃ g c, v = .slice (some ⟨g, 0, none⟩) l.length c ∧ a = some ⟨g, k, none⟩) :
    (convert 100 9 (.slice a m cap)).run Tryz.prog w = .ok (.string (bz ((l.drop k).take m))) w := by
  obtain ⟨g, c, rfl, rfl⟩ := hv
  rcases bys_cases h with ⟨e, _⟩ | ⟨g', cap', cur, e, hg, h1, h2, h3, h4⟩
  · cases e
  · injection e with e1 _ _
    injection e1 with e1
    injection e1 with e1
    subst e1
    have hl : ((l.drop k).take m).length = m := by rw [List.length_take, List.length_drop]; omega
    have := run_convert_bytes_back (P := Tryz.prog) w 100 9 5 ⟨g, k, none⟩ cap ((l.drop k).take m) (by kernel_rfl) (by kernel_rfl) (by kernel_rfl) (fun j hj => by
      have hj' : j < m := by omega
      rw [Addr.add_lit, cell_of_row w g (k + j) cur 5 (0, 0) hg]
      have e : (cur.toList.take l.length)[k + j]? = (Lib.byteCells l)[k + j]? := by rw [h4]
      rw [List.getElem?_take_of_lt (by omega)] at e
      simp only [Lib.byteCells, List.getElem?_map, List.getElem?_eq_getElem (show k + j < l.length by omega), Option.map_some] at e
      rw [List.getElem_take, List.getElem_drop]
      simpa using e)
    rw [hl] at this
    exact this
end Go.Proofs.YthfebcfdhmihcaaGreatDoor

namespace Go.Proofs.YthfebcfdhmihcaaGreatDoor
open Go.RowKit
variable {L : Loc} {ρ ρ' : Nat → Option Role} {n : Nat} {S : DS} {w w' : World}

/-- A box of ours gets a part of its own: that of a file that is none. -/
theorem inv_addbox (h : Inv L ρ n S w) (b : Nat) (hb : b < w.heap.size) (hr : ρ b = none) : Inv L (updN ρ b (some (.file S.nf))) n S w := by
  have hx : ∀ k r, ρ k = some r → updN ρ b (some (.file S.nf)) k = some r := fun k r hk => by
    unfold updN
    rw [if_neg (fun e => by subst e; rw [hr] at hk; cases hk)]; exact hk
  exact {
    hb := hx _ _ h.hb
    blk := h.blk
    mp := fun t => mapI_keep (h.mp t) (fun _ _ => rfl) hx
    flt := fltI_keep h.flt (fun _ _ => rfl) hx
    pnd := h.pnd
    pro := fun g hg => hx _ _ (h.pro g hg)
    fro := fun j hj => hx _ _ (h.fro j hj)
    fil := h.fil
    con := h.con
    cro := fun t j g hj hg => hx _ _ (h.cro t j g hj hg)
    clen := h.clen
    dok := h.dok
    pok := h.pok
    old := fun k hk => by
      unfold updN
      rw [if_neg (by omega)]; exact h.old k hk
    room := h.room
    bnd := h.bnd }
theorem inv_box (h : Inv L ρ n S w) (b : Nat) (hr : ρ b = some (.file S.nf)) (hk : ∀ g, g ≠ b → w'.heap[g]? = w.heap[g]?) (hz : w.heap.size ≤ w'.heap.size) : Inv L ρ n S w' := by
  have hkr : ∀ k r, ρ k = some r → r ≠ .file S.nf → w'.heap[k]? = w.heap[k]? := fun k r h1 h2 => hk k (fun e => by subst e; rw [hr] at h1; cases h1; exact h2 rfl)
  have hf : ∀ j, j < S.nf → Role.file j ≠ .file S.nf := fun j hj e => by injection e with e; omega
  exact {
    hb := h.hb
    blk := (hkr _ _ h.hb (by simp)).trans h.blk
    mp := fun t => mapI_keep (h.mp t) (fun g hg => hkr g _ hg (by simp)) (fun _ _ h => h)
    flt := fltI_keep h.flt (fun g hg => hkr g _ hg (by simp)) (fun _ _ h => h)
    pnd := row_keep h.pnd (fun g hg => hkr g _ (h.pro g hg) (by simp))
    pro := h.pro
    fro := h.fro
    fil := fun j hj => (hkr _ _ (h.fro j hj) (hf j hj)).trans (h.fil j hj)
    con := fun t j hj => row_keep (h.con t j hj) (fun g hg => hkr g _ (h.cro t j g hj hg) (by simp))
    cro := h.cro
    clen := h.clen
    dok := h.dok
    pok := h.pok
    old := fun k hk' => h.old k (Nat.le_trans hz hk')
    room := h.room
    bnd := h.bnd }

theorem conv_nil (a : Option Addr) (c : Nat) (w : World) : (convert 100 9 (.slice a 0 c)).run Tryz.prog w = .ok (.string ⟨#[]⟩) w := by
  have h := run_convert_bytes_string (P := Tryz.prog) w 100 9 5 a 0 c (by kernel_rfl) (by kernel_rfl) (by kernel_rfl)
  rw [h]
  cases a <;> rfl
theorem readL_at (l : List UInt8) (o m : Int) (k q : Nat) (hk : (k : Int) = min o l.length) (ho : 0 ≤ o) (hm : 0 ≤ m) (hq : (q : Int) = min m ((l.length - k : Nat) : Int)) : (l.drop o.toNat).take m.toNat = (l.drop k).take q := by
  by_cases h1 : o.toNat ≤ l.length
  · have e : o.toNat = k := by omega
    rw [e]
    by_cases h2 : m.toNat ≤ l.length - k
    · rw [show m.toNat = q by omega]
    · rw [List.take_of_length_le (by rw [List.length_drop]; omega), List.take_of_length_le (by rw [List.length_drop]; omega)]
  · rw [List.drop_of_length_le (by omega), List.drop_of_length_le (by omega), List.take_nil, List.take_nil]

set_option maxHeartbeats 2000000 in
set_option maxRecDepth 100000 in
theorem read1_any (i : Nat) (o m : Int) (b1 b2 b3 : Nat) (old : Value) (h : Inv L ρ n S w) (hi : i < S.nf) (ho : 0 ≤ o) (hm : 0 ≤ m) (ho2 : o ≤ 9223372036854775807) (hm2 : m ≤ 9223372036854775807)
    (h1 : w.cell? ⟨b1, 0, none⟩ = some (.int .i64 o)) (h2 : w.cell? ⟨b2, 0, none⟩ = some (.int .i64 m)) (h3 : w.cell? ⟨b3, 0, none⟩ = some old) (f3 : w.frozen? ⟨b3, 0, none⟩ = false) (hr : ρ b3 = some (.file S.nf)) :
    Calls Tryz.prog 136 #[.pointer (some ⟨L.F i, 0, none⟩), .pointer (some ⟨b1, 0, none⟩), .pointer (some ⟨b2, 0, none⟩), .pointer (some ⟨b3, 0, none⟩)] w (PostQ L ρ w (fun x S' n' w' => x = 0 ∧ S' = S ∧ n' = n ∧ w'.cell? ⟨b3, 0, none⟩ = some (.string (bz (readL S i o m))))) := by
  have hfin : ∀ s : ByteArray, s = bz (readL S i o m) → PostQ L ρ w (fun x S' n' w' => x = 0 ∧ S' = S ∧ n' = n ∧ w'.cell? ⟨b3, 0, none⟩ = some (.string (bz (readL S i o m)))) (.returned (.int .i64 0)) (w.setCell ⟨b3, 0, none⟩ (.string s)) := by
    rintro s rfl
    have hk : ∀ g, g ≠ b3 → (w.setCell ⟨b3, 0, none⟩ (.string (bz (readL S i o m)))).heap[g]? = w.heap[g]? := setCell_keep _ _ _ _
    have hz := size_setCell' w ⟨b3, 0, none⟩ (.string (bz (readL S i o m)))
    exact ⟨0, L, ρ, n, S, rfl, inv_box h b3 hr hk (Nat.le_of_eq hz.symm), ⟨rfl, rfl, rfl, Nat.le_of_eq hz.symm, fun k _ hk' => hk k (fun e => by subst e; rw [hr] at hk'; cases hk'), fun _ _ => rfl, rfl⟩, rfl, rfl, rfl, World.cell?_setCell_same' _ _ _ (by rw [h3]; rfl)⟩
  have HFIN := Lib.hid hfin
  have v0 := blk_cell (h.fil i hi) 0 rfl
  have u1 : decide (o < 0) = false := decide_eq_false (by omega)
  have u2 : decide (m < 0) = false := decide_eq_false (by omega)
  have hcl := h.clen false i hi
  have hcon := h.con false i hi
  rcases bys_cases hcon with ⟨hv, hl⟩ | ⟨g, cap, cur, hv, hg, c1, c2, c3, c4⟩
  · rw [hv] at v0
    have HQ := Lib.hid (hfin ⟨#[]⟩ (by unfold readL; rw [hl, List.drop_nil, List.take_nil]; rfl))
    have m1 : min o (0 : Int) = 0 := by omega
    have m2 : min m (0 : Int) = 0 := by omega
    have hcv := conv_nil none 0
    clear hfin HFIN hcon hl hv h
    go_enter Tryz.func136, Tryz.ntmps136
    go_wp2
    go_ret
    exact HQ.out
  · rw [hv] at v0
    obtain ⟨k, hk⟩ : ∃ k : Nat, (k : Int) = min o ((S.con false i).length : Int) := ⟨(min o ((S.con false i).length : Int)).toNat, by omega⟩
    have hkl : k ≤ (S.con false i).length := by omega
    obtain ⟨q, hq⟩ : ∃ q : Nat, (q : Int) = min m (((S.con false i).length - k : Nat) : Int) := ⟨(min m (((S.con false i).length - k : Nat) : Int)).toNat, by omega⟩
    have hql : k + q ≤ (S.con false i).length := by omega
    have hread := readL_at (S.con false i) o m k q hk ho hm hq
    have hcv := bys_part hcon k q hql (some ⟨g, k, none⟩) (cap - k) ⟨g, cap, hv, rfl⟩
    have HQ := Lib.hid (hfin (bz (((S.con false i).drop k).take q)) (by unfold readL; rw [hread]))
    have hce := conv_nil
    have HE := Lib.hid (show q = 0 → bz (((S.con false i).drop k).take q) = ⟨#[]⟩ by rintro rfl; rw [List.take_zero]; rfl)
    obtain ⟨s, hs⟩ : ∃ s, s = bz (((S.con false i).drop k).take q) := ⟨_, rfl⟩
    rw [← hs] at hcv HQ HE
    generalize (S.con false i).length = len at *
    have m1 : min o (len : Int) = (k : Int) := hk.symm
    have m2 : min m (((len - k : Nat)) : Int) = (q : Int) := hq.symm
    have n1 : (q : Int) ≤ ((len - k : Nat) : Int) := by omega
    have n2 : q ≤ cap - k := by omega
    have n3 : k ≤ cap := by omega
    clear hfin HFIN hcon hv h hread hs hk hq hg c4
    by_cases hkc : k < cap
    · have n4 : ¬ (cap - k = 0) := by omega
      clear hce HE
      go_enter Tryz.func136, Tryz.ntmps136
      go_wp2
      go_ret
      exact HQ.out
    · obtain rfl : q = 0 := by omega
      obtain rfl : len = k := by omega
      obtain rfl : len = cap := by omega
      rw [HE.out rfl] at HQ
      have m3 : min m (0 : Int) = 0 := by omega
      have e5 : len - len = 0 := Nat.sub_self _
      clear hcv m2 HE n1 n2
      go_enter Tryz.func136, Tryz.ntmps136
      go_wp2
      go_ret
      exact HQ.out
theorem cutE_up {S : DS} (h : S.down = false) (x : Int) : cutE S x = x := by unfold cutE; rw [if_neg (by rw [h]; simp)]
theorem read_any (p : ByteArray) (hp : p.size ≤ 1000000) (i : Nat) (o m : Int) (h : Inv L ρ n S w) (hfi : findL (S.dirs false) p.data.toList = some i) (ho : 0 ≤ o) (hm : 0 ≤ m) (ho2 : o ≤ 9223372036854775807) (hm2 : m ≤ 9223372036854775807) (hd : S.down = false) (hdn : (begS S).down = false) (hfl : S.flt (S.ops + 1) = 0) (hn : n + 1 ≤ 100000) :
    Calls Tryz.prog 106 #[.pointer (some ⟨L.b, 0, none⟩), .string p, .int .i64 o, .int .i64 m] w fun e w' => e = .returned (.tuple #[.string (bz (readL S i o m)), .int .i64 0]) ∧ ∃ L' ρ' n', Inv L' ρ' n' (begS S) w' ∧ Step L ρ w L' ρ' w' ∧ n' ≤ n + 1 := by
  have hA := ((h.alloc (.cells #[.int .i64 o] 3)).alloc (.cells #[.int .i64 m] 3)).alloc (.cells #[.string ⟨#[]⟩] 9)
  have hb1 : Below w.heap.size w (((w.alloc (.cells #[.int .i64 o] 3)).alloc (.cells #[.int .i64 m] 3)).alloc (.cells #[.string ⟨#[]⟩] 9)) := (((Below.refl _ _).alloc (Nat.le_refl _) _).alloc (by simp) _).alloc (by simp; omega) _
  have hx : (w.alloc (.cells #[.int .i64 o] 3)).cell? ⟨w.heap.size, 0, none⟩ = some (.int .i64 o) := by simp
  have hx2 := cell_alloc (cell_alloc hx (.cells #[.int .i64 m] 3)) (.cells #[.string ⟨#[]⟩] 9)
  have hy : ((w.alloc (.cells #[.int .i64 o] 3)).alloc (.cells #[.int .i64 m] 3)).cell? ⟨w.heap.size + 1, 0, none⟩ = some (.int .i64 m) := by
    rw [World.cell?_alloc_at _ _ _ _ (by simp)]; rfl
  have hy2 := cell_alloc hy (.cells #[.string ⟨#[]⟩] 9)
  have hz : Blk (((w.alloc (.cells #[.int .i64 o] 3)).alloc (.cells #[.int .i64 m] 3)).alloc (.cells #[.string ⟨#[]⟩] 9)) (w.heap.size + 1 + 1) 9 #[.string ⟨#[]⟩] := blk_at (by simp)
  have r1 := h.old w.heap.size (Nat.le_refl _)
  have r2 := h.old (w.heap.size + 1) (Nat.le_succ _)
  have r3 := h.old (w.heap.size + 1 + 1) (by omega)
  have hlb : L.b < w.heap.size := h.lt (by rw [h.hb]; simp)
  have hI3 := inv_addbox hA (w.heap.size + 1 + 1) (blk_lt hz) r3
  have s1 : updN ρ (w.heap.size + 1 + 1) (some (.file S.nf)) w.heap.size = none := by unfold updN; rw [if_neg (by omega)]; exact r1
  have s2 : updN ρ (w.heap.size + 1 + 1) (some (.file S.nf)) (w.heap.size + 1) = none := by unfold updN; rw [if_neg (by omega)]; exact r2
  have s3 : updN ρ (w.heap.size + 1 + 1) (some (.file S.nf)) (w.heap.size + 1 + 1) = some (.file S.nf) := by simp [updN]
  have hC := callOn_Read1 (.pointer (some ⟨w.heap.size, 0, none⟩)) (.pointer (some ⟨w.heap.size + 1, 0, none⟩)) (.pointer (some ⟨w.heap.size + 1 + 1, 0, none⟩)) p hp hI3 hd hfl hn
    (Q := fun x S' n' w' => x = 0 ∧ S' = begS S ∧ n' ≤ n + 1 ∧ w'.cell? ⟨w.heap.size + 1 + 1, 0, none⟩ = some (.string (bz (readL S i o m))))
    (fun hq => by rw [hfi] at hq; cases hq)
    (fun i' hq w1 hI1 hS1 hO1 => by
      rw [hfi] at hq
      cases hq
      have hz1 : Blk w1 (w.heap.size + 1 + 1) 9 #[.string ⟨#[]⟩] := (hO1 _ (blk_lt hz) (by omega)).trans hz
      refine (read1_any i o m w.heap.size (w.heap.size + 1) (w.heap.size + 1 + 1) (.string ⟨#[]⟩) hI1 (findL_nf h (s := false) hfi) ho hm ho2 hm2 (step_cell hS1 s1 hx2) (step_cell hS1 s2 hy2) (blk_cell hz1 0 rfl) (blk_frozen hz1 0) s3).mono fun e w2 hq2 => ?_
      obtain ⟨x, L', ρ', n', S', he, hI, hS, rfl, rfl, rfl, hc⟩ := hq2
      exact ⟨0, L', ρ', _, _, he, hI, hS, rfl, rfl, Nat.le_refl _, hc⟩)
  have HC := Lib.hid hC; have HB1 := Lib.hid hb1; have HD := Lib.hid hdn
  have HRO := Lib.hid (show ∀ k, k < w.heap.size → updN ρ (w.heap.size + 1 + 1) (some (.file S.nf)) k = ρ k from fun k hk => by unfold updN; rw [if_neg (by omega)])
  clear hC hA hb1 hx hx2 hy hy2 hz h hd hfl hdn r1 r2 r3 s1 s2 s3 hI3
  go_enter Tryz.func106, Tryz.ntmps106
  go_wp2_with (go_at_call 62; (with_reducible refine HC.out.mono ?_); rintro e w1 ⟨x, L', ρ', n', S', rfl, hI, hS, rfl, rfl, hn', hc⟩; rw [cutE_up HD.out]; have HI := Lib.hid hI; have HS := Lib.hid hS; clear hI hS)
  go_ret2
  refine ⟨rfl, L', ρ', n', HI.out, ⟨HS.out.os.trans HB1.out.os, HS.out.tape.trans HB1.out.tape, HS.out.output.trans HB1.out.output, Nat.le_trans HB1.out.size HS.out.size, fun k hk hr => ?_, fun k hk => ?_, HS.out.b⟩, hn'⟩
  · exact (HS.out.blk k (Nat.lt_of_lt_of_le hk HB1.out.size) (by rw [HRO.out k hk]; exact hr)).trans (HB1.out.block k hk)
  · exact (HS.out.ro k (Nat.lt_of_lt_of_le hk HB1.out.size)).trans (HRO.out k hk)
end Go.Proofs.YthfebcfdhmihcaaGreatDoor

namespace Go.Proofs.YthfebcfdhmihcaaGreatDoor
open Go.RowKit
variable {L : Loc} {ρ ρ' : Nat → Option Role} {n : Nat} {S : DS} {w w' : World}

theorem dirsync11_any (c : Chg) (F : Nat → Nat) (w : World) : Calls Tryz.prog 70 #[.agg (c.cells F).toArray] w fun e w' => e = .returned (.bool (ofDir c)) ∧ Below w.heap.size w w' := by
  have key : ∀ (k : Int) (nm : ByteArray) (fp : Option Addr) (o : Int) (d : ByteArray) (r : Bool), (c.cells F).toArray = #[.int .i64 k, .string nm, .pointer fp, .int .i64 o, .string d] → (!(k == 2 || k == 3)) = r →
      Calls Tryz.prog 70 #[.agg (c.cells F).toArray] w fun e w' => e = .returned (.bool r) ∧ Below w.heap.size w w' := by
    intro k nm fp o d r hcl hr
    rw [hcl]
    have HB1 : Hid (Below w.heap.size w (w.alloc (.cells #[.int .i64 k, .string nm, .pointer fp, .int .i64 o, .string d] 96))) := Lib.hid ((Below.refl _ _).alloc (Nat.le_refl _) _)
    subst hr
    generalize hq : (k == 2 || k == 3) = q
    clear hcl
    go_enter Tryz.func70, Tryz.ntmps70
    go_wp2_with (go_at_call 68; (with_reducible refine (ofCont_any k nm fp o d _).mono ?_); rw [hq]; rintro e' w1 ⟨rfl, hb⟩)
    go_ret
    exact ⟨rfl, HB1.out.trans (hb.mono HB1.out.size)⟩
  cases c with
  | create nm i => exact key 0 (bz nm) (some ⟨F i, 0, none⟩) 0 (bz []) true rfl rfl
  | remove nm => exact key 1 (bz nm) none 0 (bz []) true rfl rfl
  | write i o d => exact key 2 (bz []) (some ⟨F i, 0, none⟩) o (bz d) false rfl rfl
  | trunc i z => exact key 3 (bz []) (some ⟨F i, 0, none⟩) z (bz []) false rfl rfl

set_option maxHeartbeats 4000000 in
set_option maxRecDepth 100000 in
theorem settleDir_any (h : Inv L ρ n S w) (hd : S.down = false) (hn : n + S.pend.length + 1 ≤ 100000) (g cap : Nat) (hpv : L.pv = .slice (some ⟨g, 0, none⟩) S.pend.length cap) :
    Calls Tryz.prog 66 #[.pointer (some ⟨L.b, 0, none⟩), .func (.func 70) #[] #[]] w (SetQ L ρ (n + S.pend.length) (settleS ofDir S) w) := by
  have c7 := blk_cell h.blk 7 rfl
  have c3 := blk_cell h.blk 3 rfl
  rw [hd] at c7
  rw [hpv] at c3
  have HI0 := Lib.hid (show SetI ofDir L ρ n S w 0 w from ⟨L, ρ, by rw [midS_zero]; exact h, Step.refl _ _ _, rfl, rfl⟩)
  have HPV := Lib.hid hpv
  have HN := Lib.hid hn
  have hcap : S.pend.length ≤ cap := by
    rcases prow_of h.pnd with ⟨e, _⟩ | ⟨g', cap', cur, e, hp⟩
    · rw [hpv] at e; cases e
    · rw [hpv] at e; cases e; exact hp.len
  have hcap0 : (0 : Int) ≤ cap := by omega
  obtain ⟨len, hlen⟩ : ∃ len, len = S.pend.length := ⟨_, rfl⟩
  have HL := Lib.hid hlen
  have HH := Lib.hid h
  rw [← hlen] at c3 hcap
  have hlb : len ≤ 100000 := by omega
  clear h hpv hn hd hlen
  go_enter Tryz.func66, Tryz.ntmps66
  go_wp2
  go_loopw [4, 21] (fun rest iv wr => ∃ (i k : Nat), i ≤ len ∧ k ≤ i ∧ rest = .slice (some ⟨g, 0, none⟩) k cap ∧ iv = .int .i64 i ∧ Hid (k = (keptL ofDir (S.pend.take i)).length) ∧ Hid (SetI ofDir L ρ n S w i wr)) (fun _ iv _ => len - (intOf iv).toNat)
  case atStart => exact ⟨0, 0, Nat.zero_le _, Nat.le_refl _, rfl, rfl, Lib.hid rfl, HI0⟩
  case round =>
    obtain ⟨i, k, hi, hki, rfl, rfl, hk, hI⟩ := hrel
    by_cases hlt : i < len
    · have hlt' : i < S.pend.length := by have := HL.out; omega
      obtain ⟨L1, ρ1, hI1, hS1, hF1, hpv1⟩ := hI.out
      have hb1 : L1.b = L.b := hS1.b
      have hcO : S.pend[i].Ok S.nf := HH.out.pok _ (List.getElem_mem hlt')
      have hmp := midS_pend ofDir S i (Nat.le_of_lt hlt')
      have hmi : i < (midS ofDir S i).pend.length := by omega
      have hma := midS_at ofDir S i hlt' hmi
      obtain ⟨cur, hP⟩ := prow_at hI1.pnd (hpv1.trans HPV.out)
      rw [hF1] at hP
      obtain ⟨ck, nm, fp, o, d, hcl⟩ := chg_lit L.F S.pend[i]
      have r0 := prow_cell hP i 0 hmi (by omega) (v := .int .i64 ck) (by rw [hma, hcl]; rfl)
      have r1 := prow_cell hP i 1 hmi (by omega) (v := .string nm) (by rw [hma, hcl]; rfl)
      have r2 := prow_cell hP i 2 hmi (by omega) (v := .pointer fp) (by rw [hma, hcl]; rfl)
      have r3 := prow_cell hP i 3 hmi (by omega) (v := .int .i64 o) (by rw [hma, hcl]; rfl)
      have r4 := prow_cell hP i 4 hmi (by omega) (v := .string d) (by rw [hma, hcl]; rfl)
      rw [Nat.add_zero] at r0
      have hIA := hI1.alloc (.cells #[.int .i64 ck, .string nm, .pointer fp, .int .i64 o, .string d] 96)
      have hbA : Below wr.heap.size wr (wr.alloc (.cells #[.int .i64 ck, .string nm, .pointer fp, .int .i64 o, .string d] 96)) := (Below.refl _ _).alloc (Nat.le_refl _) _
      have hSA : Step L ρ w L1 ρ1 (wr.alloc (.cells #[.int .i64 ck, .string nm, .pointer fp, .int .i64 o, .string d] 96)) := hS1.trans (Step.below hbA)
      have hK := dirsync11_any S.pend[i] L.F (wr.alloc (.cells #[.int .i64 ck, .string nm, .pointer fp, .int .i64 o, .string d] 96))
      have hbx := blk_new wr 96 #[.int .i64 ck, .string nm, .pointer fp, .int .i64 o, .string d]
      rw [hcl] at hK
      have hro := hI1.old wr.heap.size (Nat.le_refl _)
      have HK := Lib.hid hK; have HIA := Lib.hid hIA; have HSA := Lib.hid hSA; have HBX := Lib.hid hbx; have HCL := Lib.hid hcl; have HB1 := Lib.hid hb1; have HP := Lib.hid hP; have HRO := Lib.hid hro; have HCO := Lib.hid hcO; have HF1 := Lib.hid hF1; have HPV1 := Lib.hid hpv1; have HMP := Lib.hid hmp
      have hlti : (i : Int) < len := by omega
      clear hK hIA hSA hbx hcl hb1 hP hro hcO hF1 hpv1 hma hmp hI1 hS1 hbA hI
      by_cases hp : ofDir S.pend[i] = true
      · rw [hp] at HK
        have HST := Lib.hid (midS_true ofDir S i hlt' hp)
        clear hp
        go_wp2_with (first
          | (go_at_call 70; (with_reducible refine HK.out.mono ?_); rintro e w2 ⟨rfl, hb2⟩
             have HI2 := Lib.hid (HIA.out.below hb2)
             have HA := Lib.hid (apply_any true S.pend[i] HI2.out (by rw [midS_nf]; exact HCO.out) (by have := HN.out; have := HL.out; omega))
             rw [HF1.out, HCL.out, HB1.out, show stI true = 1 from rfl] at HA
             have hbx2 : Blk w2 wr.heap.size 96 _ := (hb2.block _ (blk_lt HBX.out)).trans HBX.out
             have HS2 := Lib.hid (HSA.out.trans (Step.below hb2))
             have b0 := blk_cell hbx2 0 rfl; have b1 := blk_cell hbx2 1 rfl; have b2 := blk_cell hbx2 2 rfl; have b3 := blk_cell hbx2 3 rfl; have b4 := blk_cell hbx2 4 rfl
             clear hb2 hbx2)
          | (go_at_call 96; (with_reducible refine HA.out.mono ?_); rintro e w3 ⟨rfl, L3, ρ3, hI3, hS3, hF3, hpv3⟩
             have HI3 := Lib.hid (show SetI ofDir L ρ n S w (i + 1) w3 from ⟨L3, ρ3, by rw [HST.out.1, ← Nat.add_assoc]; exact hI3, HS2.out.trans hS3, hF3.trans HF1.out, hpv3.trans HPV1.out⟩)
             clear hI3 hS3 hF3 hpv3))
        go_roundw
        case rel => exact ⟨i + 1, k, by omega, by omega, rfl, by go_num, Lib.hid (by rw [HST.out.2]; exact hk.out), HI3⟩
        case measure => simp [intOf]; omega
      · have hpf : ofDir S.pend[i] = false := by simpa using hp
        rw [hpf] at HK
        have HST := Lib.hid (midS_false ofDir S i hlt' hpf)
        clear hp hpf
        go_wp2_with (first
          | (go_at_call 70; (with_reducible refine HK.out.mono ?_); rintro e w2 ⟨rfl, hb2⟩
             have HI2 := Lib.hid (HIA.out.below hb2)
             have hbx2 : Blk w2 wr.heap.size 96 _ := (hb2.block _ (blk_lt HBX.out)).trans HBX.out
             have HS2 := Lib.hid (HSA.out.trans (Step.below hb2))
             have HP2 := Lib.hid (prow_keep HP.out (w' := w2.alloc (.cells #[.int .i64 ck, .string nm, .pointer fp, .int .i64 o, .string d] 96)) (prow_chain HP.out hb2))
             have HRUN := Lib.hid (settle_run (ty := 90) HP2.out k (by have := HMP.out; have := HL.out; omega) S.pend[i] w2.heap.size (by rw [HCL.out]; exact blk_new w2 _ _))
             have b0 := blk_cell hbx2 0 rfl; have b1 := blk_cell hbx2 1 rfl; have b2 := blk_cell hbx2 2 rfl; have b3 := blk_cell hbx2 3 rfl; have b4 := blk_cell hbx2 4 rfl
             clear hb2 hbx2)
          | (at_builtin; refine wpList_append_is rfl _ _ _ _ rfl rfl rfl HRUN.out ?_))
        have hbB : Below w2.heap.size w2 (w2.alloc (.cells #[.int .i64 ck, .string nm, .pointer fp, .int .i64 o, .string d] 96)) := (Below.refl _ _).alloc (Nat.le_refl _) _
        have hI3 := inv_row (w' := ((w2.alloc (.cells #[.int .i64 ck, .string nm, .pointer fp, .int .i64 o, .string d] 96)).setRow g (cur.toList.take (k * 5) ++ S.pend[i].cells L.F ++ cur.toList.drop (k * 5 + (S.pend[i].cells L.F).length)).toArray)) (HI2.out.below hbB) ((midS ofDir S i).pend.take k ++ S.pend[i] :: (midS ofDir S i).pend.drop (k + 1)) (by rw [HPV1.out, HPV.out]; exact setRow_grown' _ g _)
          (by
            have hq := prow_back (prow_put HP2.out k (by have := HMP.out; have := HL.out; omega) S.pend[i])
            have hlq : ((midS ofDir S i).pend.take k ++ S.pend[i] :: (midS ofDir S i).pend.drop (k + 1)).length = S.pend.length := by
              have := HMP.out; have := HL.out
              rw [List.length_append, List.length_cons, List.length_take, List.length_drop]; omega
            rw [HPV1.out, HPV.out, HF1.out]
            rw [hlq] at hq ⊢
            exact hq)
          (fun y hy => by
            rw [midS_nf]
            rcases List.mem_append.1 hy with hy | hy
            · have := HI2.out.pok _ (List.mem_of_mem_take hy); rwa [midS_nf] at this
            · rcases List.mem_cons.1 hy with rfl | hy
              · exact HCO.out
              · have := HI2.out.pok _ (List.mem_of_mem_drop hy); rwa [midS_nf] at this)
          (by
            have h1 := HMP.out; have h2 := HL.out; have h3 := HH.out.bnd.1
            rw [List.length_append, List.length_cons, List.length_take, List.length_drop]; omega)
        have HI3 := Lib.hid (show SetI ofDir L ρ n S w (i + 1) _ from ⟨L1, ρ1, by
          rw [HST.out.1, ← hk.out, ← Nat.add_assoc]
          exact hI3.1.mono (Nat.le_succ _) (by have := HN.out; have := HL.out; omega), HS2.out.trans ((Step.below hbB).trans hI3.2), HF1.out, HPV1.out⟩)
        rw [List.append_assoc] at HI3
        clear hI3 hbB
        go_wp2
        go_roundw
        case rel => exact ⟨i + 1, k + 1, by omega, by omega, rfl, by go_num, Lib.hid (by rw [HST.out.2, ← hk.out]), HI3⟩
        case measure => simp [intOf]; omega
    · obtain rfl : i = len := by omega
      obtain ⟨L1, ρ1, hI1, hS1, hF1, hpv1⟩ := hI.out
      have hb1 : L1.b = L.b := hS1.b
      have hmp := midS_pend ofDir S S.pend.length (Nat.le_refl _)
      rw [HL.out] at hI1
      have hkl : k = (keptL ofDir S.pend).length := by rw [hk.out, HL.out, List.take_length]
      have hkt : (midS ofDir S S.pend.length).pend.take k = keptL ofDir S.pend := by
        have e : (midS ofDir S S.pend.length).pend = keptL ofDir (S.pend.take S.pend.length) ++ S.pend.drop (keptL ofDir (S.pend.take S.pend.length)).length := rfl
        rw [e, List.take_length, hkl, List.take_left]
      obtain ⟨cur, hP⟩ := prow_at hI1.pnd (hpv1.trans HPV.out)
      have hbk := hI1.blk
      rw [hb1, hpv1, HPV.out, ← HL.out] at hbk
      have hpr : ρ1 g = some .pend := hI1.pro g (by rw [hpv1, HPV.out]; rfl)
      have hbg : L.b ≠ g := fun e => by have h1 := hI1.hb; rw [hb1, e, hpr] at h1; cases h1
      have hkm : ∀ c, c ∈ keptL ofDir S.pend → c.Ok (midS ofDir S S.pend.length).nf := fun c hc => by rw [midS_nf]; exact HH.out.pok c (keptL_mem hc)
      have fin : ∀ (W : World) (cur' : Array Value), wr.grownBy W (some g) → PRow W g cap L1.F ((midS ofDir S S.pend.length).pend.take k) cur' →
          SetQ L ρ (n + S.pend.length) (settleS ofDir S) w (.returned (.tuple #[])) (W.setCell ⟨L.b, 3, none⟩ (.slice (some ⟨g, 0, none⟩) k cap)) := by
        intro W cur' hg hq
        have hq2 := prow_back hq
        rw [hkt, ← hkl] at hq2
        obtain ⟨ρ', hA, hB⟩ := inv_pend (n' := n + S.pend.length) hI1 (v1 := .slice (some ⟨g, 0, none⟩) k cap) (keptL ofDir S.pend) (by rw [hpv1, HPV.out]; exact hg) (by rw [← hkl]; exact hq2) hkm (.inl (by rw [hpv1, HPV.out]; rfl)) (Nat.le_refl _) (by have := HN.out; omega) (by have := keptL_le ofDir S.pend; have := HH.out.bnd.1; omega)
        rw [hb1] at hA hB
        exact ⟨rfl, _, ρ', by rw [midS_end]; exact hA, hS1.trans hB, hF1⟩
      have HFIN := Lib.hid fin
      have d3 := blk_cell hbk 3 rfl
      have f3 := blk_frozen hbk 3
      by_cases hkn : k = i
      · subst hkn
        have hc0 : ∀ (a : Option Addr) (c : Nat) ty, (Builtin.clear_ #[90] ty #[.slice a 0 c]).run Tryz.prog wr = .ok (.tuple #[]) wr := by
          intro a c ty
          cases a <;> simp [Builtin.clear_, run_underlying (P := Tryz.prog) (show Tryz.prog.underlying 90 = some (.slice 96) by kernel_rfl)] <;> rfl
        have hq0 := fin wr cur (grown_refl _ _) (by
          have := prow_take hP k (by rw [hmp]; have := HL.out; omega)
          exact this)
        have HQ := Lib.hid hq0
        clear fin HFIN hI1 hS1 hP hbk hkm hkt hq0 hpr hkl
        go_wp2
        all_goals go_returns
        all_goals first
          | exact HQ.out
          | (have e : cap = k := by omega
             rw [e] at HQ
             exact HQ.out)
      · have hkc : k < cap := by omega
        have hkn' : k < i := by omega
        have hcl := fun ty => prow_clear (P := Tryz.prog) (t := 90) (ty := ty) (by kernel_rfl) zeroChg (by rfl) (by simp [Value.cells, Value.oneCell']) hP k (i - k) (cap - k) (by rw [hmp]; have := HL.out; omega) (by omega)
        obtain ⟨cur', hclr, hP'⟩ := hcl 0
        have hW := setRow_grown' wr g cur'
        have hbW : Blk (wr.setRow g cur') L.b 93 _ := (setRow_other wr g L.b cur' hbg).trans hbk
        have e3 := blk_cell hbW 3 rfl
        have g3 := blk_frozen hbW 3
        have HQ := Lib.hid (fin (wr.setRow g cur') cur' hW hP')
        have hkc1 : ¬ cap - k = 0 := by omega
        have hkc2 : (k : Int) < cap := by omega
        clear fin HFIN hI1 hS1 hP hbk hkm hkt hpr hkl hcl hP' hW hbW
        go_wp2
        all_goals go_returns
        all_goals exact HQ.out


/-- settle with the choice that DirSync makes. -/
theorem settleDir (h : Inv L ρ n S w) (hd : S.down = false) (hn : n + S.pend.length + 1 ≤ 100000) :
    Calls Tryz.prog 66 #[.pointer (some ⟨L.b, 0, none⟩), .func (.func 70) #[] #[]] w (SetQ L ρ (n + S.pend.length) (settleS ofDir S) w) := by
  rcases prow_of h.pnd with ⟨e, hp⟩ | ⟨g, cap, cur, e, -⟩
  · have := settleSync_nil (.func (.func 70) #[] #[]) ofDir h hd hp e
    rw [hp]
    exact this
  · exact settleDir_any h hd hn g cap e
end Go.Proofs.YthfebcfdhmihcaaGreatDoor

namespace Go.Proofs.YthfebcfdhmihcaaGreatDoor
open Go.RowKit
variable {L : Loc} {ρ ρ' : Nat → Option Role} {n : Nat} {S : DS} {w w' : World}

def deleteZ (S : DS) (p : List UInt8) : Int × DS := match findL (S.dirs false) p with
  | none => (cutE (begS S) 8, begS S)
  | some _ => (cutE (perfS (.remove p) (begS S)) 0, perfS (.remove p) (begS S))
theorem delete1_any (p : ByteArray) (hp : p.size ≤ 1000000) (fv : Value) (b1 b2 : Nat) (h : Inv L ρ n S w) (h1 : w.cell? ⟨b1, 0, none⟩ = some (.pointer (some ⟨L.b, 0, none⟩))) (h2 : w.cell? ⟨b2, 0, none⟩ = some (.string p)) (hn : n + 2 ≤ 100000) :
    Calls Tryz.prog 153 #[fv, .pointer (some ⟨b1, 0, none⟩), .pointer (some ⟨b2, 0, none⟩)] w (PostQ L ρ w (fun x S' n' _ => x = 0 ∧ S' = perfS (.remove p.data.toList) S ∧ n' ≤ n + 2)) := by
  have hps : p.data.toList.length ≤ 1000000 := by have : p.data.toList.length = p.size := by simp
                                                  omega
  have hcl : (Chg.remove p.data.toList).cells L.F = [.int .i64 1, .string p, .pointer none, .int .i64 0, .string ⟨#[]⟩] := by
    simp only [Chg.cells, bz_back]; rfl
  have HC := Lib.hid (perform_lit (.remove p.data.toList) 1 p none 0 ⟨#[]⟩ hcl h hps hn)
  clear h hcl
  go_enter Tryz.func153, Tryz.ntmps153
  go_wp2_with (go_at_call 61; (with_reducible refine HC.out.mono ?_); rintro e w1 ⟨rfl, L', ρ', hI, hS1, hF1⟩; have HI := Lib.hid hI; have HS1 := Lib.hid hS1; clear hI hS1 hF1)
  go_ret
  exact ⟨0, L', ρ', _, _, rfl, HI.out, HS1.out, rfl, rfl, Nat.le_refl _⟩
theorem delete_any (p : ByteArray) (hp : p.size ≤ 1000000) (h : Inv L ρ n S w) (hd : S.down = false) (hfl : S.flt (S.ops + 1) = 0) (hn : n + 3 ≤ 100000) :
    Calls Tryz.prog 126 #[.pointer (some ⟨L.b, 0, none⟩), .string p] w (OutQ L ρ w (deleteZ S p.data.toList) (n + 3)) := by
  have hA := (h.alloc (.cells #[.pointer (some ⟨L.b, 0, none⟩)] 25)).alloc (.cells #[.string p] 9)
  have hb1 : Below w.heap.size w ((w.alloc (.cells #[.pointer (some ⟨L.b, 0, none⟩)] 25)).alloc (.cells #[.string p] 9)) := ((Below.refl _ _).alloc (Nat.le_refl _) _).alloc (by simp) _
  have hx : (w.alloc (.cells #[.pointer (some ⟨L.b, 0, none⟩)] 25)).cell? ⟨w.heap.size, 0, none⟩ = some (.pointer (some ⟨L.b, 0, none⟩)) := by simp
  have hx2 := cell_alloc hx (.cells #[.string p] 9)
  have hy : ((w.alloc (.cells #[.pointer (some ⟨L.b, 0, none⟩)] 25)).alloc (.cells #[.string p] 9)).cell? ⟨w.heap.size + 1, 0, none⟩ = some (.string p) := by
    rw [World.cell?_alloc_at _ _ _ _ (by simp)]; rfl
  have r1 := h.old w.heap.size (Nat.le_refl _)
  have r2 := h.old (w.heap.size + 1) (Nat.le_succ _)
  have hC := callOn_Delete1 (.pointer (some ⟨w.heap.size, 0, none⟩)) (.pointer (some ⟨w.heap.size + 1, 0, none⟩)) p hp hA hd hfl (by omega) (Q := IsR (deleteZ S p.data.toList) (n + 3))
    (fun hq w1 _ => ⟨by unfold deleteZ; rw [hq], by omega⟩)
    (fun i hq w1 hI1 hS1 _ => by
      refine (delete1_any p hp _ w.heap.size (w.heap.size + 1) hI1 (step_cell hS1 r1 hx2) (step_cell hS1 r2 hy) (by omega)).mono fun e w2 hq2 => ?_
      obtain ⟨x, L', ρ', n', S', he, hI, hS, rfl, rfl, hn'⟩ := hq2
      exact ⟨_, L', ρ', n', _, he, hI, hS, by unfold deleteZ; rw [hq], by omega⟩)
  have HC := Lib.hid hC; have HB1 := Lib.hid hb1
  clear hC hA hb1 hy h hd hfl r1 r2
  go_enter Tryz.func126, Tryz.ntmps126
  go_wp2_with (go_at_call 62; (with_reducible refine HC.out.mono ?_); rintro e w1 ⟨x, L', ρ', n', S', rfl, hI, hS, hQ⟩; have HI := Lib.hid hI; have HS := Lib.hid hS; have HQ := Lib.hid hQ; clear hI hS hQ)
  go_ret
  exact out_of ⟨x, L', ρ', n', S', rfl, HI.out, (Step.below HB1.out).trans HS.out, HQ.out⟩

def dirsyncIn (S : DS) : DS := if S.down = true then S else settleS ofDir S
def dirsyncZ (S : DS) : Int × DS := (cutE (dirsyncIn (begS S)) 0, dirsyncIn (begS S))
theorem dirsync1_any (bx : Nat) (h : Inv L ρ n S w) (hbx : w.cell? ⟨bx, 0, none⟩ = some (.pointer (some ⟨L.b, 0, none⟩))) (hn : n + S.pend.length + 1 ≤ 100000) :
    Calls Tryz.prog 69 #[.pointer (some ⟨bx, 0, none⟩)] w (PostQ L ρ w (fun x S' n' _ => x = 0 ∧ S' = dirsyncIn S ∧ n' ≤ n + S.pend.length)) := by
  cases hd : S.down with
  | true =>
    have HC := Lib.hid (settleSync_down h hd (.func (.func 70) #[] #[]))
    have HA := Lib.hid h
    have e : dirsyncIn S = S := by unfold dirsyncIn; rw [if_pos hd]
    clear h
    go_enter Tryz.func69, Tryz.ntmps69
    go_wp2_with (go_at_call 66; (with_reducible refine HC.out.mono ?_); rintro e w1 ⟨rfl, rfl⟩)
    go_ret
    exact ⟨0, L, ρ, n, S, rfl, HA.out, Step.refl _ _ _, rfl, e.symm, Nat.le_add_right _ _⟩
  | false =>
    have HC := Lib.hid (settleDir h hd hn)
    have e : dirsyncIn S = settleS ofDir S := by unfold dirsyncIn; rw [if_neg (by rw [hd]; simp)]
    clear h
    go_enter Tryz.func69, Tryz.ntmps69
    go_wp2_with (go_at_call 66; (with_reducible refine HC.out.mono ?_); rintro e' w1 ⟨rfl, L', ρ', hI, hS, hF⟩; have HI := Lib.hid hI; have HS := Lib.hid hS; clear hI hS hF)
    go_ret
    exact ⟨0, L', ρ', _, _, rfl, HI.out, HS.out, rfl, e.symm, Nat.le_refl _⟩
theorem dirsync_any (h : Inv L ρ n S w) (hd : S.down = false) (hfl : S.flt (S.ops + 1) = 0) (hn : n + S.pend.length + 2 ≤ 100000) :
    Calls Tryz.prog 26 #[.pointer (some ⟨L.b, 0, none⟩)] w (OutQ L ρ w (dirsyncZ S) (n + 1 + S.pend.length)) := by
  have hA := h.alloc (.cells #[.pointer (some ⟨L.b, 0, none⟩)] 25)
  have hb1 : Below w.heap.size w (w.alloc (.cells #[.pointer (some ⟨L.b, 0, none⟩)] 25)) := (Below.refl _ _).alloc (Nat.le_refl _) _
  have hx : (w.alloc (.cells #[.pointer (some ⟨L.b, 0, none⟩)] 25)).cell? ⟨w.heap.size, 0, none⟩ = some (.pointer (some ⟨L.b, 0, none⟩)) := by simp
  have hr := h.old w.heap.size (Nat.le_refl _)
  have hC := call_DirSync1 #[.pointer (some ⟨w.heap.size, 0, none⟩)] hA hd hfl (by omega) (Q := IsR (dirsyncZ S) (n + 1 + S.pend.length))
    (fun w1 hI1 hS1 _ => by
      refine (dirsync1_any w.heap.size hI1 (step_cell hS1 hr hx) (by show n + 1 + S.pend.length + 1 ≤ 100000; omega)).mono fun e w2 hq2 => ?_
      obtain ⟨x, L', ρ', n', S', he, hI, hS, rfl, rfl, hn'⟩ := hq2
      exact ⟨0, L', ρ', n', _, he, hI, hS, rfl, hn'⟩)
  have HC := Lib.hid hC; have HB1 := Lib.hid hb1
  clear hC hA hb1 hx h hd hfl hr
  go_enter Tryz.func26, Tryz.ntmps26
  go_wp2_with (go_at_call 58; (with_reducible refine HC.out.mono ?_); rintro e w1 ⟨x, L', ρ', n', S', rfl, hI, hS, hQ⟩; have HI := Lib.hid hI; have HS := Lib.hid hS; have HQ := Lib.hid hQ; clear hI hS hQ)
  go_ret
  exact out_of ⟨x, L', ρ', n', S', rfl, HI.out, (Step.below HB1.out).trans HS.out, HQ.out⟩

theorem size_any (h : Inv L ρ n S w) (p : ByteArray) (hp : p.size ≤ 1000000) :
    Calls Tryz.prog 78 #[.pointer (some ⟨L.b, 0, none⟩), .string p] w fun e w' => e = .returned (.tuple #[.int .i64 (contZ S p.data.toList).length, .bool (hasZ S p.data.toList)]) ∧ w' = w := by
  have HF := Lib.hid (find_any h p hp)
  unfold contZ hasZ
  cases hq : findL (S.dirs false) p.data.toList with
  | none =>
    rw [hq] at HF
    simp only [ptrF, Option.map_none] at HF
    clear h hq
    go_enter Tryz.func78, Tryz.ntmps78
    go_wp2_with (go_at_call 55; (with_reducible refine HF.out.mono ?_); rintro e w1 ⟨rfl, rfl⟩)
    go_ret2
    exact ⟨rfl, rfl⟩
  | some i =>
    rw [hq] at HF
    simp only [ptrF, Option.map_some] at HF
    have hi := findL_nf h (s := false) hq
    have c0 := blk_cell (h.fil i hi) 0 rfl
    obtain ⟨va, vc, hv, hvc⟩ := bys_slice (h.con false i hi)
    rw [hv] at c0
    clear h hq hi hv hvc
    simp only [Option.isSome_some]
    generalize (S.con false i).length = cl at c0 ⊢
    go_enter Tryz.func78, Tryz.ntmps78
    go_wp2_with (go_at_call 55; (with_reducible refine HF.out.mono ?_); rintro e w1 ⟨rfl, rfl⟩)
    go_ret2
    exact ⟨rfl, rfl⟩
end Go.Proofs.YthfebcfdhmihcaaGreatDoor
