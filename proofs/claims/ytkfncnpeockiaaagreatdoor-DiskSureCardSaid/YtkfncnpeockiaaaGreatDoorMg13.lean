/-
  Layer 7: a counted call at a disk that is down, and at a fault: the error, and no effect. Condition: the variable errors.errorType holds what the program's text lays there; the sizes that the invariant holds.
  Layer 7: the counted calls, whatever the disk's state: down, at a fault, at a crash; Read of any path, at any offset and length. Condition: the sizes that the invariant holds.
  Layer 7: the paths of a directory are distinct and in order, and stay so (mathematics only).
  Layer 7: Faults: the map of the faults made and filled. Condition: the sizes that the invariant holds, the numbers fit.
  Layer 7: Faults: two faults at one call: the first that is none of OK. Condition: the sizes that the invariant holds, the numbers fit.
  Layer 7: Faults as the law calls it: two faults at one call, the second ErrIO; and none. Condition: the sizes that the invariant holds, the numbers fit.
  Layer 7: survive: what a choice leaves of a change. Condition: the sizes that the invariant holds, the change is one of this disk's.
  Layer 7, a disk with one file, on the abstract state: what a write and a truncation leave; and the bytes that the statement DiskWritten asks for. No program text is walked here.
  The statement DiskWritten as a walk: it returns true for every input and changes nothing that was there.
  Layer 7, the document's side: noughts, and a file's bytes with a change. Condition: the sizes are at most a million.
-/
import Derived.Test.YtkfncnpeockiaaaGreatDoorMg11
import Derived.Test.YtkfncnpeockiaaaGreatDoorMg12
import Derived.Test.YtkfncnpeockiaaaGreatDoorMg9
namespace Go.Proofs.YtkfncnpeockiaaaGreatDoor
open Go.RowKit
variable {L : Loc} {ρ ρ' : Nat → Option Role} {n : Nat} {S : DS} {w w' : World}

def offS (S : DS) : Option (Int × DS) := if S.down = true then some (33, S) else if S.flt (S.ops + 1) = 0 then none else some (S.flt (S.ops + 1), cntS S)
theorem offS_cases {r : Int × DS} (h : offS S = some r) : (S.down = true ∧ r = (33, S)) ∨ (S.down = false ∧ S.flt (S.ops + 1) ≠ 0 ∧ r = (S.flt (S.ops + 1), cntS S)) := by
  unfold offS at h
  cases hd : S.down with
  | true => rw [hd, if_pos rfl] at h; cases h; exact .inl ⟨rfl, rfl⟩
  | false =>
    rw [hd, if_neg (by simp)] at h
    by_cases hf : S.flt (S.ops + 1) = 0
    · rw [if_pos hf] at h; cases h
    · rw [if_neg hf] at h; cases h; exact .inr ⟨rfl, hf, rfl⟩
theorem offS_none (h : offS S = none) : S.down = false ∧ S.flt (S.ops + 1) = 0 := by
  unfold offS at h
  cases hd : S.down with
  | true => rw [hd, if_pos rfl] at h; cases h
  | false =>
    rw [hd, if_neg (by simp)] at h
    by_cases hf : S.flt (S.ops + 1) = 0
    · exact ⟨rfl, hf⟩
    · rw [if_neg hf] at h; cases h
theorem offS_ne {r : Int × DS} (h : offS S = some r) : r.1 ≠ 0 := by
  rcases offS_cases h with ⟨_, rfl⟩ | ⟨_, hf, rfl⟩
  · show (33 : Int) ≠ 0
    decide
  · exact hf
theorem number_failure (g : Nat) (x y : Int) (w : World) (hg : Glob w) (hb : Blk w g 118 #[.int .i64 y, .int .i64 x]) : Calls Tryz.prog 72 #[.iface 116 (.pointer (some ⟨g, 0, none⟩))] w fun e w' => e = .returned (.int .i64 x) ∧ Below w.heap.size w w' := by
  have hgA := glob_alloc hg (.cells #[.int .i64 0] 37)
  have htA : (w.alloc (.cells #[.int .i64 0] 37)).cell? ⟨w.heap.size, 0, none⟩ = some (.int .i64 0) := by simp
  have hfA : (w.alloc (.cells #[.int .i64 0] 37)).frozen? ⟨w.heap.size, 0, none⟩ = false := by simp
  have hbA : Blk (w.alloc (.cells #[.int .i64 0] 37)) g 118 #[.int .i64 y, .int .i64 x] := (heap_alloc_old _ _ (blk_lt hb)).trans hb
  have HC := Lib.hid (as_failure g x y ⟨w.heap.size, 0, none⟩ (.int .i64 0) _ hgA hbA htA hfA)
  have hBA : Blk (w.alloc (.cells #[.int .i64 0] 37)) w.heap.size 37 #[.int .i64 0] := blk_new _ _ _
  have hB4 : ∀ a b c d : Obj, Blk (((((w.alloc (.cells #[.int .i64 0] 37)).alloc a).alloc b).alloc c).alloc d) w.heap.size 37 #[.int .i64 0] := fun a b c d => by
    unfold Blk at *
    rw [heap_alloc_old _ _ (by simp; omega), heap_alloc_old _ _ (by simp; omega), heap_alloc_old _ _ (by simp; omega), heap_alloc_old _ _ (by simp)]
    exact hBA
  have hcl := blk_cell (blk_set (hB4 (.cells #[.pointer (some ⟨w.heap.size, 0, none⟩)] 120) (.cells #[.pointer (some ⟨2, 120, none⟩), .pointer (some ⟨w.heap.size + 1, 0, none⟩), .int .u64 150] 129) (.cells #[.pointer (some ⟨2, 120, none⟩), .pointer (some ⟨w.heap.size + 1, 0, none⟩), .int .u64 150] 129) (.cells #[.int .i64 x] 37)) 0 (.int .i64 x)) 0 rfl
  obtain ⟨W, hW⟩ : ∃ W, W = ((asW (w.alloc (.cells #[.int .i64 0] 37)) ⟨w.heap.size, 0, none⟩).alloc (.cells #[.int .i64 x] 37)).setCell ⟨w.heap.size, 0, none⟩ (.int .i64 x) := ⟨_, rfl⟩
  rw [← hW] at HC
  have hcW : W.cell? ⟨w.heap.size, 0, none⟩ = some (.int .i64 x) := by
    rw [hW]; unfold asW
    have e : (w.alloc (.cells #[.int .i64 0] 37)).heap.size = w.heap.size + 1 := by simp
    rw [e]; exact hcl
  have hbW : Below w.heap.size w W := by
    rw [hW]; unfold asW
    exact (((((Below.refl _ _).alloc (Nat.le_refl _) _).alloc (by simp) _ |>.alloc (by simp; omega) _).alloc (by simp; omega) _).alloc (by simp; omega) _).setCell (p := ⟨w.heap.size, 0, none⟩) (Nat.le_refl _) _
  have HB := Lib.hid hbW
  clear hW hcl hB4 hBA hgA htA hfA hg hbW hbA hb
  go_enter Tryz.func72, Tryz.ntmps72
  go_wp2_with (go_at_call 85; with_reducible refine HC.out.mono ?_; rintro e w' ⟨rfl, rfl⟩)
  go_ret
  exact ⟨rfl, HB.out⟩
theorem glob_step (hG : Glob w) (hR : ρ 0 = none) (h : Step L ρ w L ρ' w') : Glob w' := by
  have hl : 0 < w.heap.size := World.block_lt_of_cell? w _ hG
  exact glob_block hG (h.blk 0 hl hR)
theorem out_same {r : Int × DS} {N : Nat} {e : Ending} (he : e = .returned (.int .i64 r.1)) (hI : Inv L ρ N r.2 w') (hS : Step L ρ w L ρ w') : OutQ L ρ w r N e w' := ⟨L, ρ, N, he, hI, hS, Nat.le_refl _⟩
theorem out_from {W : World} {r : Int × DS} {N : Nat} {e : Ending} (hb : Below w.heap.size w W) (h : OutQ L ρ W r N e w') : OutQ L ρ w r N e w' := by
  obtain ⟨L', ρ', n', he, hI, hS, hn⟩ := h
  exact ⟨L', ρ', n', he, hI, (Step.below hb).trans hS, hn⟩

theorem call_fault_Create1 (caps : Array Value) (h : Inv L ρ n S w) (hd : S.down = false) (hf : S.flt (S.ops + 1) ≠ 0) (hn : n + 1 ≤ 100000) (hG : Glob w) (hR : ρ 0 = none) :
    Calls Tryz.prog 43 #[.pointer (some ⟨L.b, 0, none⟩), .func (.func 53) #[] caps] w (OutQ L ρ w (S.flt (S.ops + 1), cntS S) (n + 1)) := by
  obtain ⟨x, hx⟩ : ∃ x, S.flt (S.ops + 1) = x := ⟨_, rfl⟩
  rw [hx] at hf
  have HB := Lib.hid (begin_fault h hd x hx hf hn)
  have HGR := Lib.hid (show ∀ w1, Step L ρ w L ρ w1 → Glob w1 from fun w1 hs => glob_step hG hR hs)
  rw [hx]
  clear h hd hx hf hG hR
  go_enter Tryz.func43, Tryz.ntmps43
  go_wp2_with (first
    | (go_at_call 71; (with_reducible refine HB.out.mono ?_); rintro e w1 ⟨g, rfl, hb, hg0, hI1, hS1⟩
       have HN := Lib.hid (number_failure g x _ w1 (HGR.out w1 hS1) hb)
       have HI1 := Lib.hid hI1; have HS1 := Lib.hid hS1; clear hb hg0 hI1 hS1)
    | (go_at_call 72; (with_reducible refine HN.out.mono ?_); rintro e w2 ⟨rfl, hb2⟩; have HB2 := Lib.hid hb2; clear hb2))
  go_ret
  exact out_same rfl (HI1.out.below HB2.out) (HS1.out.trans (Step.below HB2.out))
theorem call_off_Create1 (caps : Array Value) (h : Inv L ρ n S w) {r : Int × DS} (ho : offS S = some r) (hn : n + 1 ≤ 100000) (hG : Glob w) (hR : ρ 0 = none) :
    Calls Tryz.prog 43 #[.pointer (some ⟨L.b, 0, none⟩), .func (.func 53) #[] caps] w (OutQ L ρ w r (n + 1)) := by
  rcases offS_cases ho with ⟨hd, rfl⟩ | ⟨hd, hf, rfl⟩
  · exact (call_down_Create1 caps h hd hG).mono fun e w1 hq => out_same hq.1 ((h.below hq.2).mono (Nat.le_succ _) hn) (Step.below hq.2)
  · exact call_fault_Create1 caps h hd hf hn hG hR

theorem call_fault_DirSync1 (caps : Array Value) (h : Inv L ρ n S w) (hd : S.down = false) (hf : S.flt (S.ops + 1) ≠ 0) (hn : n + 1 ≤ 100000) (hG : Glob w) (hR : ρ 0 = none) :
    Calls Tryz.prog 43 #[.pointer (some ⟨L.b, 0, none⟩), .func (.func 44) #[] caps] w (OutQ L ρ w (S.flt (S.ops + 1), cntS S) (n + 1)) := by
  obtain ⟨x, hx⟩ : ∃ x, S.flt (S.ops + 1) = x := ⟨_, rfl⟩
  rw [hx] at hf
  have HB := Lib.hid (begin_fault h hd x hx hf hn)
  have HGR := Lib.hid (show ∀ w1, Step L ρ w L ρ w1 → Glob w1 from fun w1 hs => glob_step hG hR hs)
  rw [hx]
  clear h hd hx hf hG hR
  go_enter Tryz.func43, Tryz.ntmps43
  go_wp2_with (first
    | (go_at_call 71; (with_reducible refine HB.out.mono ?_); rintro e w1 ⟨g, rfl, hb, hg0, hI1, hS1⟩
       have HN := Lib.hid (number_failure g x _ w1 (HGR.out w1 hS1) hb)
       have HI1 := Lib.hid hI1; have HS1 := Lib.hid hS1; clear hb hg0 hI1 hS1)
    | (go_at_call 72; (with_reducible refine HN.out.mono ?_); rintro e w2 ⟨rfl, hb2⟩; have HB2 := Lib.hid hb2; clear hb2))
  go_ret
  exact out_same rfl (HI1.out.below HB2.out) (HS1.out.trans (Step.below HB2.out))
theorem call_off_DirSync1 (caps : Array Value) (h : Inv L ρ n S w) {r : Int × DS} (ho : offS S = some r) (hn : n + 1 ≤ 100000) (hG : Glob w) (hR : ρ 0 = none) :
    Calls Tryz.prog 43 #[.pointer (some ⟨L.b, 0, none⟩), .func (.func 44) #[] caps] w (OutQ L ρ w r (n + 1)) := by
  rcases offS_cases ho with ⟨hd, rfl⟩ | ⟨hd, hf, rfl⟩
  · exact (call_down_DirSync1 caps h hd hG).mono fun e w1 hq => out_same hq.1 ((h.below hq.2).mono (Nat.le_succ _) hn) (Step.below hq.2)
  · exact call_fault_DirSync1 caps h hd hf hn hG hR

theorem call_fault_CallOn1 (caps : Array Value) (h : Inv L ρ n S w) (hd : S.down = false) (hf : S.flt (S.ops + 1) ≠ 0) (hn : n + 1 ≤ 100000) (hG : Glob w) (hR : ρ 0 = none) :
    Calls Tryz.prog 43 #[.pointer (some ⟨L.b, 0, none⟩), .func (.func 69) #[] caps] w (OutQ L ρ w (S.flt (S.ops + 1), cntS S) (n + 1)) := by
  obtain ⟨x, hx⟩ : ∃ x, S.flt (S.ops + 1) = x := ⟨_, rfl⟩
  rw [hx] at hf
  have HB := Lib.hid (begin_fault h hd x hx hf hn)
  have HGR := Lib.hid (show ∀ w1, Step L ρ w L ρ w1 → Glob w1 from fun w1 hs => glob_step hG hR hs)
  rw [hx]
  clear h hd hx hf hG hR
  go_enter Tryz.func43, Tryz.ntmps43
  go_wp2_with (first
    | (go_at_call 71; (with_reducible refine HB.out.mono ?_); rintro e w1 ⟨g, rfl, hb, hg0, hI1, hS1⟩
       have HN := Lib.hid (number_failure g x _ w1 (HGR.out w1 hS1) hb)
       have HI1 := Lib.hid hI1; have HS1 := Lib.hid hS1; clear hb hg0 hI1 hS1)
    | (go_at_call 72; (with_reducible refine HN.out.mono ?_); rintro e w2 ⟨rfl, hb2⟩; have HB2 := Lib.hid hb2; clear hb2))
  go_ret
  exact out_same rfl (HI1.out.below HB2.out) (HS1.out.trans (Step.below HB2.out))
theorem call_off_CallOn1 (caps : Array Value) (h : Inv L ρ n S w) {r : Int × DS} (ho : offS S = some r) (hn : n + 1 ≤ 100000) (hG : Glob w) (hR : ρ 0 = none) :
    Calls Tryz.prog 43 #[.pointer (some ⟨L.b, 0, none⟩), .func (.func 69) #[] caps] w (OutQ L ρ w r (n + 1)) := by
  rcases offS_cases ho with ⟨hd, rfl⟩ | ⟨hd, hf, rfl⟩
  · exact (call_down_CallOn1 caps h hd hG).mono fun e w1 hq => out_same hq.1 ((h.below hq.2).mono (Nat.le_succ _) hn) (Step.below hq.2)
  · exact call_fault_CallOn1 caps h hd hf hn hG hR

theorem callOn_off_Delete1 (c1 c2 : Value) (p : ByteArray) (h : Inv L ρ n S w) {r : Int × DS} (ho : offS S = some r) (hn : n + 1 ≤ 100000) (hG : Glob w) (hR : ρ 0 = none) :
    Calls Tryz.prog 38 #[.pointer (some ⟨L.b, 0, none⟩), .string p, .func (.func 56) #[] #[c1, c2]] w (OutQ L ρ w r (n + 1)) := by
  have hb3 : Below w.heap.size w (((w.alloc (.cells #[.pointer (some ⟨L.b, 0, none⟩)] 25)).alloc (.cells #[.string p] 9)).alloc (.cells #[.func (.func 56) #[] #[c1, c2]] 76)) := (((Below.refl _ _).alloc (Nat.le_refl _) _).alloc (by simp) _).alloc (by simp; omega) _
  have k1 : (((w.alloc (.cells #[.pointer (some ⟨L.b, 0, none⟩)] 25)).alloc (.cells #[.string p] 9)).alloc (.cells #[.func (.func 56) #[] #[c1, c2]] 76)).cell? ⟨w.heap.size, 0, none⟩ = some (.pointer (some ⟨L.b, 0, none⟩)) := by
    rw [World.cell?_alloc_lt _ _ ⟨w.heap.size, 0, none⟩ (by simp; omega), World.cell?_alloc_lt _ _ ⟨w.heap.size, 0, none⟩ (by simp)]; simp
  have HC := Lib.hid (call_off_CallOn1 #[.pointer (some ⟨w.heap.size, 0, none⟩), .pointer (some ⟨w.heap.size + 1, 0, none⟩), .pointer (some ⟨w.heap.size + 1 + 1, 0, none⟩)] (h.below hb3) ho hn (glob_alloc (glob_alloc (glob_alloc hG _) _) _ : Glob (((w.alloc (.cells #[.pointer (some ⟨L.b, 0, none⟩)] 25)).alloc (.cells #[.string p] 9)).alloc (.cells #[.func (.func 56) #[] #[c1, c2]] 76))) hR)
  have HB3 := Lib.hid hb3
  clear hG hb3 h ho hR
  go_enter Tryz.func38, Tryz.ntmps38
  go_wp2_with (go_at_call 43; (with_reducible refine HC.out.mono ?_); rintro e w1 ⟨L', ρ', n', rfl, hI, hS, hn'⟩; have HI := Lib.hid hI; have HS := Lib.hid hS; clear hI hS)
  go_ret
  exact out_from HB3.out ⟨L', ρ', n', rfl, HI.out, HS.out, hn'⟩

theorem callOn_off_Read1 (c1 c2 c3 : Value) (p : ByteArray) (h : Inv L ρ n S w) {r : Int × DS} (ho : offS S = some r) (hn : n + 1 ≤ 100000) (hG : Glob w) (hR : ρ 0 = none) :
    Calls Tryz.prog 38 #[.pointer (some ⟨L.b, 0, none⟩), .string p, .func (.func 52) #[] #[c1, c2, c3]] w (OutQ L ρ w r (n + 1)) := by
  have hb3 : Below w.heap.size w (((w.alloc (.cells #[.pointer (some ⟨L.b, 0, none⟩)] 25)).alloc (.cells #[.string p] 9)).alloc (.cells #[.func (.func 52) #[] #[c1, c2, c3]] 76)) := (((Below.refl _ _).alloc (Nat.le_refl _) _).alloc (by simp) _).alloc (by simp; omega) _
  have k1 : (((w.alloc (.cells #[.pointer (some ⟨L.b, 0, none⟩)] 25)).alloc (.cells #[.string p] 9)).alloc (.cells #[.func (.func 52) #[] #[c1, c2, c3]] 76)).cell? ⟨w.heap.size, 0, none⟩ = some (.pointer (some ⟨L.b, 0, none⟩)) := by
    rw [World.cell?_alloc_lt _ _ ⟨w.heap.size, 0, none⟩ (by simp; omega), World.cell?_alloc_lt _ _ ⟨w.heap.size, 0, none⟩ (by simp)]; simp
  have HC := Lib.hid (call_off_CallOn1 #[.pointer (some ⟨w.heap.size, 0, none⟩), .pointer (some ⟨w.heap.size + 1, 0, none⟩), .pointer (some ⟨w.heap.size + 1 + 1, 0, none⟩)] (h.below hb3) ho hn (glob_alloc (glob_alloc (glob_alloc hG _) _) _ : Glob (((w.alloc (.cells #[.pointer (some ⟨L.b, 0, none⟩)] 25)).alloc (.cells #[.string p] 9)).alloc (.cells #[.func (.func 52) #[] #[c1, c2, c3]] 76))) hR)
  have HB3 := Lib.hid hb3
  clear hG hb3 h ho hR
  go_enter Tryz.func38, Tryz.ntmps38
  go_wp2_with (go_at_call 43; (with_reducible refine HC.out.mono ?_); rintro e w1 ⟨L', ρ', n', rfl, hI, hS, hn'⟩; have HI := Lib.hid hI; have HS := Lib.hid hS; clear hI hS)
  go_ret
  exact out_from HB3.out ⟨L', ρ', n', rfl, HI.out, HS.out, hn'⟩

theorem callOn_off_Write1 (c1 c2 c3 : Value) (p : ByteArray) (h : Inv L ρ n S w) {r : Int × DS} (ho : offS S = some r) (hn : n + 1 ≤ 100000) (hG : Glob w) (hR : ρ 0 = none) :
    Calls Tryz.prog 38 #[.pointer (some ⟨L.b, 0, none⟩), .string p, .func (.func 57) #[] #[c1, c2, c3]] w (OutQ L ρ w r (n + 1)) := by
  have hb3 : Below w.heap.size w (((w.alloc (.cells #[.pointer (some ⟨L.b, 0, none⟩)] 25)).alloc (.cells #[.string p] 9)).alloc (.cells #[.func (.func 57) #[] #[c1, c2, c3]] 76)) := (((Below.refl _ _).alloc (Nat.le_refl _) _).alloc (by simp) _).alloc (by simp; omega) _
  have k1 : (((w.alloc (.cells #[.pointer (some ⟨L.b, 0, none⟩)] 25)).alloc (.cells #[.string p] 9)).alloc (.cells #[.func (.func 57) #[] #[c1, c2, c3]] 76)).cell? ⟨w.heap.size, 0, none⟩ = some (.pointer (some ⟨L.b, 0, none⟩)) := by
    rw [World.cell?_alloc_lt _ _ ⟨w.heap.size, 0, none⟩ (by simp; omega), World.cell?_alloc_lt _ _ ⟨w.heap.size, 0, none⟩ (by simp)]; simp
  have HC := Lib.hid (call_off_CallOn1 #[.pointer (some ⟨w.heap.size, 0, none⟩), .pointer (some ⟨w.heap.size + 1, 0, none⟩), .pointer (some ⟨w.heap.size + 1 + 1, 0, none⟩)] (h.below hb3) ho hn (glob_alloc (glob_alloc (glob_alloc hG _) _) _ : Glob (((w.alloc (.cells #[.pointer (some ⟨L.b, 0, none⟩)] 25)).alloc (.cells #[.string p] 9)).alloc (.cells #[.func (.func 57) #[] #[c1, c2, c3]] 76))) hR)
  have HB3 := Lib.hid hb3
  clear hG hb3 h ho hR
  go_enter Tryz.func38, Tryz.ntmps38
  go_wp2_with (go_at_call 43; (with_reducible refine HC.out.mono ?_); rintro e w1 ⟨L', ρ', n', rfl, hI, hS, hn'⟩; have HI := Lib.hid hI; have HS := Lib.hid hS; clear hI hS)
  go_ret
  exact out_from HB3.out ⟨L', ρ', n', rfl, HI.out, HS.out, hn'⟩

theorem callOn_off_Trunc1 (c1 c2 : Value) (p : ByteArray) (h : Inv L ρ n S w) {r : Int × DS} (ho : offS S = some r) (hn : n + 1 ≤ 100000) (hG : Glob w) (hR : ρ 0 = none) :
    Calls Tryz.prog 38 #[.pointer (some ⟨L.b, 0, none⟩), .string p, .func (.func 59) #[] #[c1, c2]] w (OutQ L ρ w r (n + 1)) := by
  have hb3 : Below w.heap.size w (((w.alloc (.cells #[.pointer (some ⟨L.b, 0, none⟩)] 25)).alloc (.cells #[.string p] 9)).alloc (.cells #[.func (.func 59) #[] #[c1, c2]] 76)) := (((Below.refl _ _).alloc (Nat.le_refl _) _).alloc (by simp) _).alloc (by simp; omega) _
  have k1 : (((w.alloc (.cells #[.pointer (some ⟨L.b, 0, none⟩)] 25)).alloc (.cells #[.string p] 9)).alloc (.cells #[.func (.func 59) #[] #[c1, c2]] 76)).cell? ⟨w.heap.size, 0, none⟩ = some (.pointer (some ⟨L.b, 0, none⟩)) := by
    rw [World.cell?_alloc_lt _ _ ⟨w.heap.size, 0, none⟩ (by simp; omega), World.cell?_alloc_lt _ _ ⟨w.heap.size, 0, none⟩ (by simp)]; simp
  have HC := Lib.hid (call_off_CallOn1 #[.pointer (some ⟨w.heap.size, 0, none⟩), .pointer (some ⟨w.heap.size + 1, 0, none⟩), .pointer (some ⟨w.heap.size + 1 + 1, 0, none⟩)] (h.below hb3) ho hn (glob_alloc (glob_alloc (glob_alloc hG _) _) _ : Glob (((w.alloc (.cells #[.pointer (some ⟨L.b, 0, none⟩)] 25)).alloc (.cells #[.string p] 9)).alloc (.cells #[.func (.func 59) #[] #[c1, c2]] 76))) hR)
  have HB3 := Lib.hid hb3
  clear hG hb3 h ho hR
  go_enter Tryz.func38, Tryz.ntmps38
  go_wp2_with (go_at_call 43; (with_reducible refine HC.out.mono ?_); rintro e w1 ⟨L', ρ', n', rfl, hI, hS, hn'⟩; have HI := Lib.hid hI; have HS := Lib.hid hS; clear hI hS)
  go_ret
  exact out_from HB3.out ⟨L', ρ', n', rfl, HI.out, HS.out, hn'⟩

theorem callOn_off_Sync1 (c1 : Value) (p : ByteArray) (h : Inv L ρ n S w) {r : Int × DS} (ho : offS S = some r) (hn : n + 1 ≤ 100000) (hG : Glob w) (hR : ρ 0 = none) :
    Calls Tryz.prog 38 #[.pointer (some ⟨L.b, 0, none⟩), .string p, .func (.func 39) #[] #[c1]] w (OutQ L ρ w r (n + 1)) := by
  have hb3 : Below w.heap.size w (((w.alloc (.cells #[.pointer (some ⟨L.b, 0, none⟩)] 25)).alloc (.cells #[.string p] 9)).alloc (.cells #[.func (.func 39) #[] #[c1]] 76)) := (((Below.refl _ _).alloc (Nat.le_refl _) _).alloc (by simp) _).alloc (by simp; omega) _
  have k1 : (((w.alloc (.cells #[.pointer (some ⟨L.b, 0, none⟩)] 25)).alloc (.cells #[.string p] 9)).alloc (.cells #[.func (.func 39) #[] #[c1]] 76)).cell? ⟨w.heap.size, 0, none⟩ = some (.pointer (some ⟨L.b, 0, none⟩)) := by
    rw [World.cell?_alloc_lt _ _ ⟨w.heap.size, 0, none⟩ (by simp; omega), World.cell?_alloc_lt _ _ ⟨w.heap.size, 0, none⟩ (by simp)]; simp
  have HC := Lib.hid (call_off_CallOn1 #[.pointer (some ⟨w.heap.size, 0, none⟩), .pointer (some ⟨w.heap.size + 1, 0, none⟩), .pointer (some ⟨w.heap.size + 1 + 1, 0, none⟩)] (h.below hb3) ho hn (glob_alloc (glob_alloc (glob_alloc hG _) _) _ : Glob (((w.alloc (.cells #[.pointer (some ⟨L.b, 0, none⟩)] 25)).alloc (.cells #[.string p] 9)).alloc (.cells #[.func (.func 39) #[] #[c1]] 76))) hR)
  have HB3 := Lib.hid hb3
  clear hG hb3 h ho hR
  go_enter Tryz.func38, Tryz.ntmps38
  go_wp2_with (go_at_call 43; (with_reducible refine HC.out.mono ?_); rintro e w1 ⟨L', ρ', n', rfl, hI, hS, hn'⟩; have HI := Lib.hid hI; have HS := Lib.hid hS; clear hI hS)
  go_ret
  exact out_from HB3.out ⟨L', ρ', n', rfl, HI.out, HS.out, hn'⟩

theorem create_off (p : ByteArray) (h : Inv L ρ n S w) {r : Int × DS} (ho : offS S = some r) (hn : n + 1 ≤ 100000) (hG : Glob w) (hR : ρ 0 = none) :
    Calls Tryz.prog 22 #[.pointer (some ⟨L.b, 0, none⟩), .string p] w (OutQ L ρ w r (n + 1)) := by
  have hb1 : Below w.heap.size w ((w.alloc (.cells #[.pointer (some ⟨L.b, 0, none⟩)] 25)).alloc (.cells #[.string p] 9)) := (((Below.refl _ _).alloc (Nat.le_refl _) _).alloc (by simp) _)
  have HC := Lib.hid (call_off_Create1 #[.pointer (some ⟨w.heap.size + 1, 0, none⟩), .pointer (some ⟨w.heap.size, 0, none⟩)] ((h.alloc (.cells #[.pointer (some ⟨L.b, 0, none⟩)] 25)).alloc (.cells #[.string p] 9)) ho hn (glob_alloc (glob_alloc hG (.cells #[.pointer (some ⟨L.b, 0, none⟩)] 25)) (.cells #[.string p] 9)) hR); have HB1 := Lib.hid hb1
  clear hb1 h ho hG hR
  go_enter Tryz.func22, Tryz.ntmps22
  go_wp2_with (go_at_call 43; (with_reducible refine HC.out.mono ?_); rintro e w1 ⟨L', ρ', n', rfl, hI, hS, hn'⟩; have HI := Lib.hid hI; have HS := Lib.hid hS; clear hI hS)
  go_ret
  exact out_from HB1.out ⟨L', ρ', n', rfl, HI.out, HS.out, hn'⟩

theorem delete_off (p : ByteArray) (h : Inv L ρ n S w) {r : Int × DS} (ho : offS S = some r) (hn : n + 1 ≤ 100000) (hG : Glob w) (hR : ρ 0 = none) :
    Calls Tryz.prog 23 #[.pointer (some ⟨L.b, 0, none⟩), .string p] w (OutQ L ρ w r (n + 1)) := by
  have hb1 : Below w.heap.size w ((w.alloc (.cells #[.pointer (some ⟨L.b, 0, none⟩)] 25)).alloc (.cells #[.string p] 9)) := (((Below.refl _ _).alloc (Nat.le_refl _) _).alloc (by simp) _)
  have HC := Lib.hid (callOn_off_Delete1 (.pointer (some ⟨w.heap.size, 0, none⟩)) (.pointer (some ⟨w.heap.size + 1, 0, none⟩)) p ((h.alloc (.cells #[.pointer (some ⟨L.b, 0, none⟩)] 25)).alloc (.cells #[.string p] 9)) ho hn (glob_alloc (glob_alloc hG (.cells #[.pointer (some ⟨L.b, 0, none⟩)] 25)) (.cells #[.string p] 9)) hR); have HB1 := Lib.hid hb1
  clear hb1 h ho hG hR
  go_enter Tryz.func23, Tryz.ntmps23
  go_wp2_with (go_at_call 38; (with_reducible refine HC.out.mono ?_); rintro e w1 ⟨L', ρ', n', rfl, hI, hS, hn'⟩; have HI := Lib.hid hI; have HS := Lib.hid hS; clear hI hS)
  go_ret
  exact out_from HB1.out ⟨L', ρ', n', rfl, HI.out, HS.out, hn'⟩

theorem write_off (p : ByteArray) (o : Int) (d : ByteArray) (h : Inv L ρ n S w) {r : Int × DS} (ho : offS S = some r) (hn : n + 1 ≤ 100000) (hG : Glob w) (hR : ρ 0 = none) :
    Calls Tryz.prog 24 #[.pointer (some ⟨L.b, 0, none⟩), .string p, .int .i64 o, .string d] w (OutQ L ρ w r (n + 1)) := by
  have hb1 : Below w.heap.size w (((w.alloc (.cells #[.pointer (some ⟨L.b, 0, none⟩)] 25)).alloc (.cells #[.int .i64 o] 3)).alloc (.cells #[.string d] 9)) := ((((Below.refl _ _).alloc (Nat.le_refl _) _).alloc (by simp) _).alloc (by simp; omega) _)
  have HC := Lib.hid (callOn_off_Write1 (.pointer (some ⟨w.heap.size + 1, 0, none⟩)) (.pointer (some ⟨w.heap.size + 1 + 1, 0, none⟩)) (.pointer (some ⟨w.heap.size, 0, none⟩)) p (((h.alloc (.cells #[.pointer (some ⟨L.b, 0, none⟩)] 25)).alloc (.cells #[.int .i64 o] 3)).alloc (.cells #[.string d] 9)) ho hn (glob_alloc (glob_alloc (glob_alloc hG (.cells #[.pointer (some ⟨L.b, 0, none⟩)] 25)) (.cells #[.int .i64 o] 3)) (.cells #[.string d] 9)) hR); have HB1 := Lib.hid hb1
  clear hb1 h ho hG hR
  go_enter Tryz.func24, Tryz.ntmps24
  go_wp2_with (go_at_call 38; (with_reducible refine HC.out.mono ?_); rintro e w1 ⟨L', ρ', n', rfl, hI, hS, hn'⟩; have HI := Lib.hid hI; have HS := Lib.hid hS; clear hI hS)
  go_ret
  exact out_from HB1.out ⟨L', ρ', n', rfl, HI.out, HS.out, hn'⟩

theorem trunc_off (p : ByteArray) (z : Int) (h : Inv L ρ n S w) {r : Int × DS} (ho : offS S = some r) (hn : n + 1 ≤ 100000) (hG : Glob w) (hR : ρ 0 = none) :
    Calls Tryz.prog 25 #[.pointer (some ⟨L.b, 0, none⟩), .string p, .int .i64 z] w (OutQ L ρ w r (n + 1)) := by
  have hb1 : Below w.heap.size w ((w.alloc (.cells #[.pointer (some ⟨L.b, 0, none⟩)] 25)).alloc (.cells #[.int .i64 z] 3)) := (((Below.refl _ _).alloc (Nat.le_refl _) _).alloc (by simp) _)
  have HC := Lib.hid (callOn_off_Trunc1 (.pointer (some ⟨w.heap.size + 1, 0, none⟩)) (.pointer (some ⟨w.heap.size, 0, none⟩)) p ((h.alloc (.cells #[.pointer (some ⟨L.b, 0, none⟩)] 25)).alloc (.cells #[.int .i64 z] 3)) ho hn (glob_alloc (glob_alloc hG (.cells #[.pointer (some ⟨L.b, 0, none⟩)] 25)) (.cells #[.int .i64 z] 3)) hR); have HB1 := Lib.hid hb1
  clear hb1 h ho hG hR
  go_enter Tryz.func25, Tryz.ntmps25
  go_wp2_with (go_at_call 38; (with_reducible refine HC.out.mono ?_); rintro e w1 ⟨L', ρ', n', rfl, hI, hS, hn'⟩; have HI := Lib.hid hI; have HS := Lib.hid hS; clear hI hS)
  go_ret
  exact out_from HB1.out ⟨L', ρ', n', rfl, HI.out, HS.out, hn'⟩

theorem sync_off (p : ByteArray) (h : Inv L ρ n S w) {r : Int × DS} (ho : offS S = some r) (hn : n + 1 ≤ 100000) (hG : Glob w) (hR : ρ 0 = none) :
    Calls Tryz.prog 14 #[.pointer (some ⟨L.b, 0, none⟩), .string p] w (OutQ L ρ w r (n + 1)) := by
  have hb1 : Below w.heap.size w (w.alloc (.cells #[.pointer (some ⟨L.b, 0, none⟩)] 25)) := ((Below.refl _ _).alloc (Nat.le_refl _) _)
  have HC := Lib.hid (callOn_off_Sync1 (.pointer (some ⟨w.heap.size, 0, none⟩)) p (h.alloc (.cells #[.pointer (some ⟨L.b, 0, none⟩)] 25)) ho hn (glob_alloc hG (.cells #[.pointer (some ⟨L.b, 0, none⟩)] 25)) hR); have HB1 := Lib.hid hb1
  clear hb1 h ho hG hR
  go_enter Tryz.func14, Tryz.ntmps14
  go_wp2_with (go_at_call 38; (with_reducible refine HC.out.mono ?_); rintro e w1 ⟨L', ρ', n', rfl, hI, hS, hn'⟩; have HI := Lib.hid hI; have HS := Lib.hid hS; clear hI hS)
  go_ret
  exact out_from HB1.out ⟨L', ρ', n', rfl, HI.out, HS.out, hn'⟩

theorem dirsync_off (h : Inv L ρ n S w) {r : Int × DS} (ho : offS S = some r) (hn : n + 1 ≤ 100000) (hG : Glob w) (hR : ρ 0 = none) :
    Calls Tryz.prog 15 #[.pointer (some ⟨L.b, 0, none⟩)] w (OutQ L ρ w r (n + 1)) := by
  have hb1 : Below w.heap.size w (w.alloc (.cells #[.pointer (some ⟨L.b, 0, none⟩)] 25)) := ((Below.refl _ _).alloc (Nat.le_refl _) _)
  have HC := Lib.hid (call_off_DirSync1 #[.pointer (some ⟨w.heap.size, 0, none⟩)] (h.alloc (.cells #[.pointer (some ⟨L.b, 0, none⟩)] 25)) ho hn (glob_alloc hG (.cells #[.pointer (some ⟨L.b, 0, none⟩)] 25)) hR); have HB1 := Lib.hid hb1
  clear hb1 h ho hG hR
  go_enter Tryz.func15, Tryz.ntmps15
  go_wp2_with (go_at_call 43; (with_reducible refine HC.out.mono ?_); rintro e w1 ⟨L', ρ', n', rfl, hI, hS, hn'⟩; have HI := Lib.hid hI; have HS := Lib.hid hS; clear hI hS)
  go_ret
  exact out_from HB1.out ⟨L', ρ', n', rfl, HI.out, HS.out, hn'⟩

theorem read_off (p : ByteArray) (o m : Int) (h : Inv L ρ n S w) {r : Int × DS} (ho : offS S = some r) (hn : n + 1 ≤ 100000) (hG : Glob w) (hR : ρ 0 = none) :
    Calls Tryz.prog 20 #[.pointer (some ⟨L.b, 0, none⟩), .string p, .int .i64 o, .int .i64 m] w fun e w' => e = .returned (.tuple #[.string ⟨#[]⟩, .int .i64 r.1]) ∧ ∃ L' ρ' n', Inv L' ρ' n' r.2 w' ∧ Step L ρ w L' ρ' w' ∧ n' ≤ n + 1 := by
  have hb1 : Below w.heap.size w (((w.alloc (.cells #[.int .i64 o] 3)).alloc (.cells #[.int .i64 m] 3)).alloc (.cells #[.string ⟨#[]⟩] 9)) := (((Below.refl _ _).alloc (Nat.le_refl _) _).alloc (by simp) _).alloc (by simp; omega) _
  have HC := Lib.hid (callOn_off_Read1 (.pointer (some ⟨w.heap.size, 0, none⟩)) (.pointer (some ⟨w.heap.size + 1, 0, none⟩)) (.pointer (some ⟨w.heap.size + 1 + 1, 0, none⟩)) p (((h.alloc (.cells #[.int .i64 o] 3)).alloc (.cells #[.int .i64 m] 3)).alloc (.cells #[.string ⟨#[]⟩] 9)) ho hn (glob_alloc (glob_alloc (glob_alloc hG (.cells #[.int .i64 o] 3)) (.cells #[.int .i64 m] 3)) (.cells #[.string ⟨#[]⟩] 9)) hR); have HB1 := Lib.hid hb1
  have hne : (r.1 == 0) = false := by simpa using offS_ne ho
  obtain ⟨x, S'⟩ := r
  clear hb1 h ho hG hR
  go_enter Tryz.func20, Tryz.ntmps20
  go_wp2_with (go_at_call 38; (with_reducible refine HC.out.mono ?_); rintro e w1 ⟨L', ρ', n', rfl, hI, hS, hn'⟩; have HI := Lib.hid hI; have HS := Lib.hid hS; clear hI hS)
  go_ret2
  exact ⟨rfl, L', ρ', n', HI.out, (Step.below HB1.out).trans HS.out, hn'⟩
end Go.Proofs.YtkfncnpeockiaaaGreatDoor

namespace Go.Proofs.YtkfncnpeockiaaaGreatDoor
open Go.RowKit
variable {L : Loc} {ρ ρ' : Nat → Option Role} {n : Nat} {S : DS} {w w' : World}

theorem outQ_mono {r : Int × DS} {N N' : Nat} {e : Ending} (hN : N ≤ N') (h : OutQ L ρ w r N e w') : OutQ L ρ w r N' e w' := by
  obtain ⟨L', ρ', n', he, hI, hS, hn⟩ := h
  exact ⟨L', ρ', n', he, hI, hS, Nat.le_trans hn hN⟩
def createG (S : DS) (p : List UInt8) : Int × DS := (offS S).getD (createZ S p)
def deleteG (S : DS) (p : List UInt8) : Int × DS := (offS S).getD (deleteZ S p)
def writeG (S : DS) (p : List UInt8) (o : Int) (d : List UInt8) : Int × DS := (offS S).getD (writeZ S p o d)
def truncG (S : DS) (p : List UInt8) (z : Int) : Int × DS := (offS S).getD (truncZ S p z)
def syncG (S : DS) (p : List UInt8) : Int × DS := (offS S).getD (syncZ S p)
def dirsyncG (S : DS) : Int × DS := (offS S).getD (dirsyncZ S)

theorem create_all (p : ByteArray) (hp : p.size ≤ 1000000) (h : Inv L ρ n S w) (hG : Glob w) (hR : ρ 0 = none) (hn : n + 3 ≤ 100000) :
    Calls Tryz.prog 22 #[.pointer (some ⟨L.b, 0, none⟩), .string p] w (OutQ L ρ w (createG S p.data.toList) (n + 3)) := by
  unfold createG
  cases ho : offS S with
  | some r => exact (create_off p h ho (by omega) hG hR).mono fun _ _ hq => outQ_mono (by omega) hq
  | none => exact create_any p hp h (offS_none ho).1 (offS_none ho).2 hn
theorem delete_all (p : ByteArray) (hp : p.size ≤ 1000000) (h : Inv L ρ n S w) (hG : Glob w) (hR : ρ 0 = none) (hn : n + 3 ≤ 100000) :
    Calls Tryz.prog 23 #[.pointer (some ⟨L.b, 0, none⟩), .string p] w (OutQ L ρ w (deleteG S p.data.toList) (n + 3)) := by
  unfold deleteG
  cases ho : offS S with
  | some r => exact (delete_off p h ho (by omega) hG hR).mono fun _ _ hq => outQ_mono (by omega) hq
  | none => exact delete_any p hp h (offS_none ho).1 (offS_none ho).2 hn
theorem write_all (p : ByteArray) (hp : p.size ≤ 1000000) (o : Int) (ho1 : -9223372036854775808 ≤ o) (ho2 : o ≤ 9223372036854775807) (d : ByteArray) (hd' : d.size ≤ 4611686018427387904) (h : Inv L ρ n S w) (hG : Glob w) (hR : ρ 0 = none) (hk : ((S.dirs false).map (·.1)).Nodup) (hn : n + 3 ≤ 100000) :
    Calls Tryz.prog 24 #[.pointer (some ⟨L.b, 0, none⟩), .string p, .int .i64 o, .string d] w (OutQ L ρ w (writeG S p.data.toList o d.data.toList) (n + 3)) := by
  unfold writeG
  cases ho : offS S with
  | some r => exact (write_off p o d h ho (by omega) hG hR).mono fun _ _ hq => outQ_mono (by omega) hq
  | none => exact write_any p hp o ho1 ho2 d hd' h hk (offS_none ho).1 (offS_none ho).2 hn
theorem trunc_all (p : ByteArray) (hp : p.size ≤ 1000000) (z : Int) (h : Inv L ρ n S w) (hG : Glob w) (hR : ρ 0 = none) (hk : ((S.dirs false).map (·.1)).Nodup) (hn : n + 3 ≤ 100000) :
    Calls Tryz.prog 25 #[.pointer (some ⟨L.b, 0, none⟩), .string p, .int .i64 z] w (OutQ L ρ w (truncG S p.data.toList z) (n + 3)) := by
  unfold truncG
  cases ho : offS S with
  | some r => exact (trunc_off p z h ho (by omega) hG hR).mono fun _ _ hq => outQ_mono (by omega) hq
  | none => exact trunc_any p hp z h hk (offS_none ho).1 (offS_none ho).2 hn
theorem sync_all (p : ByteArray) (hp : p.size ≤ 1000000) (h : Inv L ρ n S w) (hG : Glob w) (hR : ρ 0 = none) (hn : n + S.pend.length + 2 ≤ 100000) :
    Calls Tryz.prog 14 #[.pointer (some ⟨L.b, 0, none⟩), .string p] w (OutQ L ρ w (syncG S p.data.toList) (n + 1 + S.pend.length)) := by
  unfold syncG
  cases ho : offS S with
  | some r => exact (sync_off p h ho (by omega) hG hR).mono fun _ _ hq => outQ_mono (by omega) hq
  | none => exact sync_any p hp h (offS_none ho).1 (offS_none ho).2 hn
theorem dirsync_all (h : Inv L ρ n S w) (hG : Glob w) (hR : ρ 0 = none) (hn : n + S.pend.length + 2 ≤ 100000) :
    Calls Tryz.prog 15 #[.pointer (some ⟨L.b, 0, none⟩)] w (OutQ L ρ w (dirsyncG S) (n + 1 + S.pend.length)) := by
  unfold dirsyncG
  cases ho : offS S with
  | some r => exact (dirsync_off h ho (by omega) hG hR).mono fun _ _ hq => outQ_mono (by omega) hq
  | none => exact dirsync_any h (offS_none ho).1 (offS_none ho).2 hn

/-! ### Read that fails -/
theorem read1_neg (fv : Value) (o m : Int) (b1 b2 b3 : Nat) (h1 : w.cell? ⟨b1, 0, none⟩ = some (.int .i64 o)) (h2 : w.cell? ⟨b2, 0, none⟩ = some (.int .i64 m)) (hneg : o < 0 ∨ m < 0) :
    Calls Tryz.prog 52 #[fv, .pointer (some ⟨b1, 0, none⟩), .pointer (some ⟨b2, 0, none⟩), .pointer (some ⟨b3, 0, none⟩)] w fun e w' => e = .returned (.int .i64 3) ∧ w' = w := by
  by_cases ho : o < 0
  · have u1 : decide (o < 0) = true := decide_eq_true ho
    clear hneg
    go_enter Tryz.func52, Tryz.ntmps52
    go_wp2
    go_ret
    exact ⟨rfl, rfl⟩
  · have hm : m < 0 := hneg.resolve_left ho
    have u1 : decide (o < 0) = false := decide_eq_false ho
    have u2 : decide (m < 0) = true := decide_eq_true hm
    clear hneg
    go_enter Tryz.func52, Tryz.ntmps52
    go_wp2
    go_ret
    exact ⟨rfl, rfl⟩
theorem read_err (p : ByteArray) (hp : p.size ≤ 1000000) (o m : Int) (X : Int) (hX : X ≠ 0) (h : Inv L ρ n S w) (hd : S.down = false) (hfl : S.flt (S.ops + 1) = 0) (hn : n + 1 ≤ 100000)
    (hN : findL (S.dirs false) p.data.toList = none → cutE (begS S) 8 = X)
    (hP : ∀ i, findL (S.dirs false) p.data.toList = some i → ((o < 0 ∨ m < 0) ∧ cutE (begS S) 3 = X) ∨ (0 ≤ o ∧ 0 ≤ m ∧ o ≤ 9223372036854775807 ∧ m ≤ 9223372036854775807 ∧ cutE (begS S) 0 = X)) :
    Calls Tryz.prog 20 #[.pointer (some ⟨L.b, 0, none⟩), .string p, .int .i64 o, .int .i64 m] w fun e w' => e = .returned (.tuple #[.string ⟨#[]⟩, .int .i64 X]) ∧ ∃ L' ρ' n', Inv L' ρ' n' (begS S) w' ∧ Step L ρ w L' ρ' w' ∧ n' ≤ n + 1 := by
  have hA := ((h.alloc (.cells #[.int .i64 o] 3)).alloc (.cells #[.int .i64 m] 3)).alloc (.cells #[.string ⟨#[]⟩] 9)
  have hb1 : Below w.heap.size w (((w.alloc (.cells #[.int .i64 o] 3)).alloc (.cells #[.int .i64 m] 3)).alloc (.cells #[.string ⟨#[]⟩] 9)) := (((Below.refl _ _).alloc (Nat.le_refl _) _).alloc (by simp) _).alloc (by simp; omega) _
  have hx : (w.alloc (.cells #[.int .i64 o] 3)).cell? ⟨w.heap.size, 0, none⟩ = some (.int .i64 o) := by simp
  have hx2 := cell_alloc (cell_alloc hx (.cells #[.int .i64 m] 3)) (.cells #[.string ⟨#[]⟩] 9)
  have hy : ((w.alloc (.cells #[.int .i64 o] 3)).alloc (.cells #[.int .i64 m] 3)).cell? ⟨w.heap.size + 1, 0, none⟩ = some (.int .i64 m) := by
    rw [World.cell?_alloc_at _ _ _ _ (by simp)]; rfl
  have hy2 := cell_alloc hy (.cells #[.string ⟨#[]⟩] 9)
  have hz : Blk (((w.alloc (.cells #[.int .i64 o] 3)).alloc (.cells #[.int .i64 m] 3)).alloc (.cells #[.string ⟨#[]⟩] 9)) (w.heap.size + 1 + 1) 9 #[.string ⟨#[]⟩] := blk_at (by simp)
  have r1 := h.old w.heap.size (Nat.le_refl _)
  have r2 := h.old (w.heap.size + 1) (Nat.le_succ _)
  have r3 := h.old (w.heap.size + 1 + 1) (by omega)
  have hlb : L.b < w.heap.size := h.lt (by rw [h.hb]; simp)
  have hI3 := inv_addbox hA (w.heap.size + 1 + 1) (blk_lt hz) r3
  have s1 : updN ρ (w.heap.size + 1 + 1) (some (.file S.nf)) w.heap.size = none := by unfold updN; rw [if_neg (by omega)]; exact r1
  have s2 : updN ρ (w.heap.size + 1 + 1) (some (.file S.nf)) (w.heap.size + 1) = none := by unfold updN; rw [if_neg (by omega)]; exact r2
  have s3 : updN ρ (w.heap.size + 1 + 1) (some (.file S.nf)) (w.heap.size + 1 + 1) = some (.file S.nf) := by simp [updN]
  have hC := callOn_Read1 (.pointer (some ⟨w.heap.size, 0, none⟩)) (.pointer (some ⟨w.heap.size + 1, 0, none⟩)) (.pointer (some ⟨w.heap.size + 1 + 1, 0, none⟩)) p hp hI3 hd hfl hn
    (Q := fun x S' n' _ => cutE S' x = X ∧ S' = begS S ∧ n' ≤ n + 1)
    (fun hq w1 _ => ⟨hN hq, rfl, Nat.le_refl _⟩)
    (fun i' hq w1 hI1 hS1 hO1 => by
      have hz1 : Blk w1 (w.heap.size + 1 + 1) 9 #[.string ⟨#[]⟩] := (hO1 _ (blk_lt hz) (by omega)).trans hz
      rcases hP i' hq with ⟨hneg, hx'⟩ | ⟨ho, hm, ho2, hm2, hx'⟩
      · refine (read1_neg _ o m w.heap.size (w.heap.size + 1) (w.heap.size + 1 + 1) (step_cell hS1 s1 hx2) (step_cell hS1 s2 hy2) hneg).mono fun e w2 hq2 => ?_
        obtain ⟨he, rfl⟩ := hq2
        exact ⟨3, _, _, _, _, he, hI1, Step.refl _ _ _, hx', rfl, Nat.le_refl _⟩
      · refine (read1_any i' o m w.heap.size (w.heap.size + 1) (w.heap.size + 1 + 1) (.string ⟨#[]⟩) hI1 (findL_nf h (s := false) hq) ho hm ho2 hm2 (step_cell hS1 s1 hx2) (step_cell hS1 s2 hy2) (blk_cell hz1 0 rfl) (blk_frozen hz1 0) s3).mono fun e w2 hq2 => ?_
        obtain ⟨x, L', ρ', n', S', he, hI, hS, rfl, rfl, rfl, hc⟩ := hq2
        exact ⟨0, L', ρ', _, _, he, hI, hS, hx', rfl, Nat.le_refl _⟩)
  have HC := Lib.hid hC; have HB1 := Lib.hid hb1; have hXb : (X == 0) = false := by simpa using hX
  have HRO := Lib.hid (show ∀ k, k < w.heap.size → updN ρ (w.heap.size + 1 + 1) (some (.file S.nf)) k = ρ k from fun k hk => by unfold updN; rw [if_neg (by omega)])
  clear hC hA hb1 hx hx2 hy hy2 hz h hd hfl hN hP r1 r2 r3 s1 s2 s3 hI3
  go_enter Tryz.func20, Tryz.ntmps20
  go_wp2_with (go_at_call 38; (with_reducible refine HC.out.mono ?_); rintro e w1 ⟨x, L', ρ', n', S', rfl, hI, hS, hx', rfl, hn'⟩; rw [hx']; clear hx'; have HI := Lib.hid hI; have HS := Lib.hid hS; clear hI hS)
  go_ret2
  refine ⟨rfl, L', ρ', n', HI.out, ⟨HS.out.os.trans HB1.out.os, HS.out.tape.trans HB1.out.tape, HS.out.output.trans HB1.out.output, Nat.le_trans HB1.out.size HS.out.size, fun k hk hr => ?_, fun k hk => ?_, HS.out.b⟩, hn'⟩
  · exact (HS.out.blk k (Nat.lt_of_lt_of_le hk HB1.out.size) (by rw [HRO.out k hk]; exact hr)).trans (HB1.out.block k hk)
  · exact (HS.out.ro k (Nat.lt_of_lt_of_le hk HB1.out.size)).trans (HRO.out k hk)

def readZ (S : DS) (p : List UInt8) (o m : Int) : (List UInt8 × Int) × DS := match findL (S.dirs false) p with
  | none => (([], cutE (begS S) 8), begS S)
  | some i => if o < 0 ∨ m < 0 then (([], cutE (begS S) 3), begS S) else if (begS S).down = true then (([], 33), begS S) else ((readL S i o m, 0), begS S)
def readG (S : DS) (p : List UInt8) (o m : Int) : (List UInt8 × Int) × DS := match offS S with
  | some r => (([], r.1), r.2)
  | none => readZ S p o m
theorem cutE_ne {x : Int} (h : x ≠ 0) : cutE S x ≠ 0 := by
  unfold cutE; split
  · decide
  · exact h
theorem bz_nil : bz [] = ⟨#[]⟩ := rfl
theorem read_all (p : ByteArray) (hp : p.size ≤ 1000000) (o m : Int) (ho2 : o ≤ 9223372036854775807) (hm2 : m ≤ 9223372036854775807) (h : Inv L ρ n S w) (hG : Glob w) (hR : ρ 0 = none) (hn : n + 1 ≤ 100000) :
    Calls Tryz.prog 20 #[.pointer (some ⟨L.b, 0, none⟩), .string p, .int .i64 o, .int .i64 m] w fun e w' => e = .returned (.tuple #[.string (bz (readG S p.data.toList o m).1.1), .int .i64 (readG S p.data.toList o m).1.2]) ∧ ∃ L' ρ' n', Inv L' ρ' n' (readG S p.data.toList o m).2 w' ∧ Step L ρ w L' ρ' w' ∧ n' ≤ n + 1 := by
  unfold readG
  cases hf : offS S with
  | some r => exact read_off p o m h hf hn hG hR
  | none =>
    obtain ⟨hd, hfl⟩ := offS_none hf
    simp only []
    unfold readZ
    cases hq : findL (S.dirs false) p.data.toList with
    | none => exact read_err p hp o m _ (cutE_ne (by decide)) h hd hfl hn (fun _ => rfl) (fun i hi => by rw [hq] at hi; cases hi)
    | some i =>
      simp only []
      by_cases hneg : o < 0 ∨ m < 0
      · rw [if_pos hneg]
        exact read_err p hp o m _ (cutE_ne (by decide)) h hd hfl hn (fun hi => by rw [hq] at hi; cases hi) (fun _ _ => .inl ⟨hneg, rfl⟩)
      · rw [if_neg hneg]
        have ho : 0 ≤ o := by omega
        have hm : 0 ≤ m := by omega
        cases hdn : (begS S).down with
        | true =>
          rw [if_pos rfl]
          exact read_err p hp o m 33 (by decide) h hd hfl hn (fun hi => by rw [hq] at hi; cases hi) (fun _ _ => .inr ⟨ho, hm, ho2, hm2, by unfold cutE; rw [if_pos hdn]⟩)
        | false =>
          rw [if_neg (by simp)]
          exact read_any p hp i o m h hq ho hm ho2 hm2 hd hdn hfl hn
end Go.Proofs.YtkfncnpeockiaaaGreatDoor

namespace Go.Proofs.YtkfncnpeockiaaaGreatDoor
open Go.RowKit

def Keys (l : List (List UInt8 × Nat)) : Prop := (l.map (·.1)).Nodup
theorem keys_del {l : List (List UInt8 × Nat)} (h : Keys l) (p : List UInt8) : Keys (delL l p) := by
  unfold Keys delL at *
  exact h.sublist (List.Sublist.map _ List.filter_sublist)
theorem insL_perm (x : List UInt8 × Nat) : ∀ l, (insL x l).Perm (x :: l)
  | [] => List.Perm.refl _
  | y :: r => by
    unfold insL
    split
    · exact List.Perm.refl _
    · exact ((insL_perm x r).cons y).trans (List.Perm.swap x y r)
theorem del_no {l : List (List UInt8 × Nat)} {p : List UInt8} : p ∉ (delL l p).map (·.1) := by
  intro h
  obtain ⟨q, hq, e⟩ := List.mem_map.1 h
  have := (List.mem_filter.1 hq).2
  simp [e] at this
theorem keys_put {l : List (List UInt8 × Nat)} (h : Keys l) (p : List UInt8) (i : Nat) : Keys (putL l p i) := by
  have hp := (insL_perm (p, i) (delL l p)).map (·.1)
  unfold Keys
  show ((putL l p i).map (·.1)).Nodup
  unfold putL
  rw [hp.nodup_iff]
  exact List.nodup_cons.2 ⟨del_no, keys_del h p⟩
def KeysS (S : DS) : Prop := ∀ s, Keys (S.dirs s)
theorem keys_apply {S : DS} (h : KeysS S) (s : Bool) (c : Chg) : KeysS (applyS s c S) := by
  cases c with
  | create nm i =>
    intro t
    show Keys (upd S.dirs s (putL (S.dirs s) nm i) t)
    unfold upd
    split
    · exact keys_put (h s) nm i
    · exact h t
  | remove nm =>
    intro t
    show Keys (upd S.dirs s (delL (S.dirs s) nm) t)
    unfold upd
    split
    · exact keys_del (h s) nm
    · exact h t
  | write _ _ _ => exact h
  | trunc _ _ => exact h
theorem keys_perf {S : DS} (h : KeysS S) (c : Chg) : KeysS (perfS c S) := fun t => keys_apply h false c t
theorem keys_beg {S : DS} (h : KeysS S) : KeysS (begS S) := h
theorem keys_cnt {S : DS} (h : KeysS S) : KeysS (cntS S) := h
theorem keys_fold {p : Chg → Bool} : ∀ (l : List Chg) {S : DS}, KeysS S → KeysS (foldP p S l)
  | [], _, h => h
  | c :: r, S, h => by
    have h1 : KeysS (stepP p S c) := by
      unfold stepP
      split
      · exact keys_apply h true c
      · exact h
    exact keys_fold r h1
theorem keys_settle {S : DS} (h : KeysS S) (p : Chg → Bool) : KeysS (settleS p S) := fun t => keys_fold S.pend h t
theorem keys_off {S : DS} (h : KeysS S) {r : Int × DS} (ho : offS S = some r) : KeysS r.2 := by
  rcases offS_cases ho with ⟨_, rfl⟩ | ⟨_, _, rfl⟩
  · exact h
  · exact h
theorem keys_new {S : DS} (h : KeysS S) : KeysS (newFile S) := h
theorem keys_createIn {S : DS} (h : KeysS S) (p : List UInt8) : KeysS (createIn S p).2 := by
  unfold createIn
  split
  · exact h
  · split
    · exact h
    · split
      · exact h
      · exact keys_perf (keys_new h) _
theorem keys_create {S : DS} (h : KeysS S) (p : List UInt8) : KeysS (createG S p).2 := by
  unfold createG
  cases ho : offS S with
  | some r => exact keys_off h ho
  | none => exact keys_createIn (keys_beg h) p
theorem keys_delete {S : DS} (h : KeysS S) (p : List UInt8) : KeysS (deleteG S p).2 := by
  unfold deleteG
  cases ho : offS S with
  | some r => exact keys_off h ho
  | none =>
    show KeysS (deleteZ S p).2
    unfold deleteZ
    split
    · exact keys_beg h
    · exact keys_perf (keys_beg h) _
theorem keys_writeIn {S : DS} (h : KeysS S) (i : Nat) (o : Int) (d : List UInt8) : KeysS (writeIn S i o d).2 := by
  unfold writeIn
  split
  · exact h
  · split
    · exact h
    · split
      · exact h
      · exact keys_perf h _
theorem keys_write {S : DS} (h : KeysS S) (p : List UInt8) (o : Int) (d : List UInt8) : KeysS (writeG S p o d).2 := by
  unfold writeG
  cases ho : offS S with
  | some r => exact keys_off h ho
  | none =>
    show KeysS (writeZ S p o d).2
    unfold writeZ
    split
    · exact keys_beg h
    · exact keys_writeIn (keys_beg h) _ _ _
theorem keys_truncIn {S : DS} (h : KeysS S) (i : Nat) (z : Int) : KeysS (truncIn S i z).2 := by
  unfold truncIn
  split
  · exact h
  · split
    · exact h
    · exact keys_perf h _
theorem keys_trunc {S : DS} (h : KeysS S) (p : List UInt8) (z : Int) : KeysS (truncG S p z).2 := by
  unfold truncG
  cases ho : offS S with
  | some r => exact keys_off h ho
  | none =>
    show KeysS (truncZ S p z).2
    unfold truncZ
    split
    · exact keys_beg h
    · exact keys_truncIn (keys_beg h) _ _
theorem keys_sync {S : DS} (h : KeysS S) (p : List UInt8) : KeysS (syncG S p).2 := by
  unfold syncG
  cases ho : offS S with
  | some r => exact keys_off h ho
  | none =>
    show KeysS (syncZ S p).2
    unfold syncZ
    split
    · exact keys_beg h
    · unfold syncIn
      split
      · exact keys_beg h
      · exact keys_settle (keys_beg h) _
theorem keys_dirsync {S : DS} (h : KeysS S) : KeysS (dirsyncG S).2 := by
  unfold dirsyncG
  cases ho : offS S with
  | some r => exact keys_off h ho
  | none =>
    show KeysS (dirsyncIn (begS S))
    unfold dirsyncIn
    split
    · exact keys_beg h
    · exact keys_settle (keys_beg h) _
theorem keys_read {S : DS} (h : KeysS S) (p : List UInt8) (o m : Int) : KeysS (readG S p o m).2 := by
  unfold readG
  cases ho : offS S with
  | some r => exact keys_off h ho
  | none =>
    show KeysS (readZ S p o m).2
    unfold readZ
    split
    · exact keys_beg h
    · split
      · exact keys_beg h
      · split
        · exact keys_beg h
        · exact keys_beg h
end Go.Proofs.YtkfncnpeockiaaaGreatDoor

namespace Go.Proofs.YtkfncnpeockiaaaGreatDoor
open Go.RowKit
variable {L : Loc} {ρ ρ' : Nat → Option Role} {n : Nat} {S : DS} {w w' : World}

/-- The faults' map, its size known. -/
def FltN (ρ : Nat → Option Role) (w : World) (g q : Nat) (f : Int → Int) : Prop :=
  ρ g = some .flt ∧ ∃ D, w.ownsMap (H := Unit) Tryz.prog 3 (plainElem Tryz.prog 37) g q D ∧ ∀ k, D.atKey (.int .i64 k) (.lit (.int .i64 0)) = .lit (.int .i64 (f k)) ∧ Maps.has D (.int .i64 k) = !(f k == 0)
theorem fltN_I {g q : Nat} {f : Int → Int} (h : FltN ρ w g q f) : FltI ρ w (some g) f := by
  obtain ⟨hg, D, ho, hf⟩ := h
  exact .inr ⟨g, q, D, rfl, hg, ho, hf⟩
theorem fltN_keep {g q : Nat} {f : Int → Int} (h : FltN ρ w g q f) (hk : w'.heap[g]? = w.heap[g]?) : FltN ρ w' g q f := by
  obtain ⟨hg, D, ⟨es, clock, hb, rest⟩, hf⟩ := h
  exact ⟨hg, D, ⟨es, clock, hk.trans hb, rest⟩, hf⟩
def putF (f : Int → Int) (k x : Int) : Int → Int := fun j => if j = k then x else f j
theorem fltN_store {g q : Nat} {f : Int → Int} (h : FltN ρ w g q f) (hq : q ≤ 1000) {k x : Int} (h0 : -9223372036854775808 ≤ k) (h1 : k ≤ 9223372036854775807) (x0 : -9223372036854775808 ≤ x) (x1 : x ≤ 9223372036854775807) (hx : x ≠ 0) :
    ∃ w', (Instr.mapUpdate 57 (.map (some g)) (.int .i64 k) (.int .i64 x)).run Tryz.prog w = .ok () w' ∧ FltN ρ w' g (q + 1) (putF f k x) ∧ w'.heap.size = w.heap.size ∧ w'.os = w.os ∧ w'.tape = w.tape ∧ w'.output = w.output ∧ ∀ j, ρ j ≠ some .flt → w'.heap[j]? = w.heap[j]? := by
  obtain ⟨hg, D, hown, hf⟩ := h
  have hD := hown.isMap
  obtain ⟨w', hrun, hown', hturn⟩ := hown.store lawInt underE (by unfold maxLen; omega) (keyInt h0 h1) (val := .int .i64 x) (d := .lit (.int .i64 x)) (ps := []) (plainElem_int underErr (WalkArith.wf_i64 ⟨x0, x1⟩))
  have hgr := hturn.grown
  have hzz : w'.heap.size = w.heap.size := by obtain ⟨es, clock, es', clock', _, rfl⟩ := hturn; exact Array.size_setIfInBounds
  refine ⟨w', hrun, ⟨hg, _, hown', fun j => ?_⟩, hzz, hgr.os, hgr.tape, hgr.output, fun j hr => ?_⟩
  · unfold putF
    by_cases e : j = k
    · subst e
      rw [if_pos rfl]
      have hkl : WideAt.IsKeyLit (Lit.int .i64 j) := trivial
      exact ⟨Maps.atKey_put_same hD hkl _ _, by rw [Maps.has_put_same hD hkl]; simpa using hx⟩
    · rw [if_neg e]
      have hne : (Lit.int .i64 j) ≠ Lit.int .i64 k := fun h => e (Lit.int.inj h).2
      rw [Maps.atKey_put_other hne, Maps.has_put_other hne]
      exact hf j
  · rcases Nat.lt_or_ge j w.heap.size with hk | hk
    · exact hgr.block j hk (fun e => by cases e; exact hr hg)
    · rw [Array.getElem?_eq_none hk, Array.getElem?_eq_none (by rw [hzz]; exact hk)]

theorem inv_newflt (h : Inv L ρ n S w) (g : Nat) (hg : ρ g = none) (hgb : w.heap[g]? = some (.map #[] 0)) :
    Inv { L with fm := some g } (updN ρ g (some .flt)) n { S with flt := fun _ => 0 } (w.setCell ⟨L.b, 5, none⟩ (.map (some g))) ∧ FltN (updN ρ g (some .flt)) (w.setCell ⟨L.b, 5, none⟩ (.map (some g))) g 0 (fun _ => 0) := by
  have hx : ∀ k r, ρ k = some r → updN ρ g (some .flt) k = some r := fun k r hk => by
    unfold updN
    rw [if_neg (fun e => by subst e; rw [hg] at hk; cases hk)]; exact hk
  have hne : g ≠ L.b := fun e => by subst e; rw [h.hb] at hg; cases hg
  have hk : ∀ k, k ≠ L.b → (w.setCell ⟨L.b, 5, none⟩ (.map (some g))).heap[k]? = w.heap[k]? := setCell_keep _ _ _ _
  have hkr : ∀ k r, ρ k = some r → r ≠ .disk → (w.setCell ⟨L.b, 5, none⟩ (.map (some g))).heap[k]? = w.heap[k]? := fun k r hr hd => hk k (fun e => by subst e; rw [h.hb] at hr; cases hr; exact hd rfl)
  have hgs : g < w.heap.size := (Array.getElem?_eq_some_iff.1 hgb).1
  have hN : FltN (updN ρ g (some .flt)) (w.setCell ⟨L.b, 5, none⟩ (.map (some g))) g 0 (fun _ => 0) := ⟨by simp [updN], .map [], ⟨#[], 0, (hk g hne).trans hgb, ⟨by simp, MapKept.stamped_empty 0, by simp⟩, Nat.le_refl _, rfl⟩, fun _ => ⟨rfl, rfl⟩⟩
  refine ⟨?_, hN⟩
  exact {
    hb := hx _ _ h.hb
    blk := blk_set h.blk 5 (.map (some g))
    mp := fun t => mapI_keep (h.mp t) (fun k hk' => hkr k _ hk' (by simp)) hx
    flt := fltN_I hN
    pnd := row_keep h.pnd (fun k hk' => hkr k _ (h.pro k hk') (by simp))
    pro := fun k hk' => hx _ _ (h.pro k hk')
    fro := fun i hi => hx _ _ (h.fro i hi)
    fil := fun i hi => (hkr _ _ (h.fro i hi) (by simp)).trans (h.fil i hi)
    con := fun t i hi => row_keep (h.con t i hi) (fun k hk' => hkr k _ (h.cro t i k hi hk') (by simp))
    cro := fun t i k hi hk' => hx _ _ (h.cro t i k hi hk')
    clen := h.clen
    dok := h.dok
    pok := h.pok
    old := fun k hk' => by
      rw [size_setCell'] at hk'
      unfold updN
      rw [if_neg (fun e => by omega)]; exact h.old k hk'
    room := h.room
    bnd := h.bnd }
/-- The faults' map turned in place. -/
theorem inv_flt (h : Inv L ρ n S w) {f : Int → Int} (hf : FltI ρ w' L.fm f) (hk : ∀ g, ρ g ≠ some .flt → w'.heap[g]? = w.heap[g]?) (hz : w.heap.size ≤ w'.heap.size) : Inv L ρ n { S with flt := f } w' where
  hb := h.hb
  blk := (hk _ (by rw [h.hb]; simp)).trans h.blk
  mp := fun t => mapI_keep (h.mp t) (fun g hg => hk g (by rw [hg]; simp)) (fun _ _ h => h)
  flt := hf
  pnd := row_keep h.pnd (fun g hg => hk g (by rw [h.pro g hg]; simp))
  pro := h.pro
  fro := h.fro
  fil := fun i hi => (hk _ (by rw [h.fro i hi]; simp)).trans (h.fil i hi)
  con := fun t i hi => row_keep (h.con t i hi) (fun g hg => hk g (by rw [h.cro t i g hi hg]; simp))
  cro := h.cro
  clen := h.clen
  dok := h.dok
  pok := h.pok
  old := fun k hk' => h.old k (Nat.le_trans hz hk')
  room := h.room
  bnd := h.bnd
end Go.Proofs.YtkfncnpeockiaaaGreatDoor

namespace Go.Proofs.YtkfncnpeockiaaaGreatDoor
open Go.RowKit
variable {L : Loc} {ρ ρ' : Nat → Option Role} {n : Nat} {S : DS} {w w' : World}

set_option maxHeartbeats 2000000 in
set_option maxRecDepth 20000 in
theorem faults_first (gl : Nat) (tA : TypeId) (a x y : Int) (h : Inv L ρ n S w) (hbl : Blk w gl tA #[.int .i64 a, .int .i64 x, .int .i64 a, .int .i64 y]) (hr : ρ gl = none)
    (a0 : -9223372036854775808 ≤ a) (a1 : a ≤ 9223372036854775807) (x0 : -9223372036854775808 ≤ x) (x1 : x ≤ 9223372036854775807) (hx : x ≠ 0) :
    Calls Tryz.prog 12 #[.pointer (some ⟨L.b, 0, none⟩), .slice (some ⟨gl, 0, none⟩) 2 2] w fun e w' => e = .returned (.tuple #[]) ∧ ∃ L' ρ', Inv L' ρ' n { S with flt := putF (fun _ => 0) a x } w' ∧ Step L ρ w L' ρ' w' := by
  have hb1 : Below w.heap.size w (w.alloc (.map #[] 0)) := (Below.refl _ _).alloc (Nat.le_refl _) _
  have hg0 := h.old w.heap.size (Nat.le_refl _)
  have hgl : gl < w.heap.size := blk_lt hbl
  have hlb : L.b < w.heap.size := h.lt (by rw [h.hb]; simp)
  have hne : gl ≠ L.b := fun e => by subst e; rw [h.hb] at hr; cases hr
  have hA1 := h.alloc (.map #[] 0)
  have B1 := hA1.blk
  have f5 := blk_frozen B1 5
  have c5 := blk_cell B1 5 (v := .map L.fm) rfl
  obtain ⟨hI2, hN2⟩ := inv_newflt hA1 w.heap.size hg0 (heap_alloc_new _ _)
  have hbl2 : Blk ((w.alloc (.map #[] 0)).setCell ⟨L.b, 5, none⟩ (.map (some w.heap.size))) gl tA #[.int .i64 a, .int .i64 x, .int .i64 a, .int .i64 y] := (setCell_keep _ _ _ _ _ hne).trans ((heap_alloc_old _ _ hgl).trans hbl)
  obtain ⟨W2, hW2⟩ : ∃ W2, W2 = (w.alloc (.map #[] 0)).setCell ⟨L.b, 5, none⟩ (.map (some w.heap.size)) := ⟨_, rfl⟩
  have hz2 : W2.heap.size = w.heap.size + 1 := by rw [hW2, size_setCell']; simp
  have hS2 : Step L ρ w { L with fm := some w.heap.size } (updN ρ w.heap.size (some .flt)) W2 := by
    rw [hW2]
    exact ⟨rfl, rfl, rfl, by rw [size_setCell']; simp, fun k hk hk' => (setCell_keep _ _ _ _ k (fun e => by subst e; rw [h.hb] at hk'; cases hk')).trans (heap_alloc_old _ _ hk), fun k hk => by unfold updN; rw [if_neg (by omega)], rfl⟩
  rw [← hW2] at hI2 hN2 hbl2
  have hrl1 : updN ρ w.heap.size (some .flt) gl = none := by unfold updN; rw [if_neg (by omega)]; exact hr
  generalize hρ1 : updN ρ w.heap.size (some .flt) = ρ1 at *
  have hmm := @run_makeMap Tryz.prog
  -- the first fault
  have hI3 := hI2.alloc (.cells #[.int .i64 a, .int .i64 x] 66)
  have hN3 : FltN ρ1 (W2.alloc (.cells #[.int .i64 a, .int .i64 x] 66)) w.heap.size 0 (fun _ => 0) := fltN_keep hN2 (heap_alloc_old _ _ (by omega))
  have hlk1 := fltI_look (w := (W2.alloc (.cells #[.int .i64 a, .int .i64 x] 66)).drew) (fltN_I (fltN_keep hN3 rfl)) a0 a1
  obtain ⟨W4, hst, hN4, hz4, e1, e2, e3, hk4⟩ := fltN_store (w := (W2.alloc (.cells #[.int .i64 a, .int .i64 x] 66)).drew.drew) (fltN_keep hN3 rfl) (by omega) a0 a1 x0 x1 hx
  have hI4 := inv_flt hI3.drew.drew (fltN_I hN4) hk4 (Nat.le_of_eq hz4.symm)
  have hbl4 : Blk W4 gl tA #[.int .i64 a, .int .i64 x, .int .i64 a, .int .i64 y] := (hk4 gl (by rw [hrl1]; simp)).trans ((heap_alloc_old _ _ (by omega)).trans hbl2)
  have hS4 : Step L ρ w { L with fm := some w.heap.size } ρ1 W4 := hS2.trans ((Step.below ((Below.refl _ _).alloc (Nat.le_refl _) _)).trans ⟨e1, e2, e3, Nat.le_of_eq hz4.symm, fun k _ hk => hk4 k (by rw [hk]; simp), fun _ _ => rfl, rfl⟩)
  have hI5 := hI4.alloc (.cells #[.int .i64 a, .int .i64 y] 66)
  have hN5 : FltN ρ1 (W4.alloc (.cells #[.int .i64 a, .int .i64 y] 66)) w.heap.size 1 (putF (fun _ => 0) a x) := fltN_keep hN4 (heap_alloc_old _ _ (by rw [hz4]; show w.heap.size < (W2.alloc _).heap.size; simp; omega))
  have hlk2 := fltI_look (w := (W4.alloc (.cells #[.int .i64 a, .int .i64 y] 66)).drew) (fltN_I (fltN_keep hN5 rfl)) a0 a1
  have hpa : putF (fun _ => 0) a x a = x := by unfold putF; rw [if_pos rfl]
  have hxb : (x == 0) = false := by simpa using hx
  rw [hpa, hxb] at hlk2
  have k0 := blk_cell hbl2 0 (v := .int .i64 a) rfl
  have k1 := blk_cell hbl2 1 (v := .int .i64 x) rfl
  have k2 := blk_cell hbl4 2 (v := .int .i64 a) rfl
  have k3 := blk_cell hbl4 3 (v := .int .i64 y) rfl
  have d5 := blk_cell hI3.blk 5 (v := .map (some w.heap.size)) rfl
  have p5 := blk_cell hI5.blk 5 (v := .map (some w.heap.size)) rfl
  have HI := Lib.hid hI5.drew
  have HS := Lib.hid (hS4.trans (Step.below ((Below.refl _ _).alloc (Nat.le_refl _) (.cells #[.int .i64 a, .int .i64 y] 66))))
  have xb : (x != 0) = true := by simpa using hx
  have HW2 := Lib.hid hW2
  clear hW2
  clear h hA1 B1 hI2 hI3 hI4 hI5 hN2 hN3 hN4 hN5 hk4 hS2 hS4 hbl hbl2 hbl4 hx hb1 hg0 hgl hlb hρ1 hr hrl1 e1 e2 e3 hz4 hz2 hpa hne
  go_enter Tryz.func12, Tryz.ntmps12
  go_wp2
  rw [← HW2.out]
  clear HW2 c5 f5
  refine wp_loop_rounds 3 ?_
  rw [rounds_succ]
  go_wp2
  go_region
  go_wp2
  go_region
  go_wp2
  rw [rounds_succ]
  go_wp2
  go_region
  go_wp2
  rw [rounds_succ]
  go_wp2
  go_returns
  exact ⟨rfl, _, _, HI.out, HS.out.trans ⟨rfl, rfl, rfl, Nat.le_refl _, fun _ _ _ => rfl, fun _ _ => rfl, rfl⟩⟩
set_option maxHeartbeats 2000000 in
set_option maxRecDepth 20000 in
theorem faults_second (gl : Nat) (tA : TypeId) (a y : Int) (h : Inv L ρ n S w) (hbl : Blk w gl tA #[.int .i64 a, .int .i64 0, .int .i64 a, .int .i64 y]) (hr : ρ gl = none)
    (a0 : -9223372036854775808 ≤ a) (a1 : a ≤ 9223372036854775807) (y0 : -9223372036854775808 ≤ y) (y1 : y ≤ 9223372036854775807) (hy : y ≠ 0) :
    Calls Tryz.prog 12 #[.pointer (some ⟨L.b, 0, none⟩), .slice (some ⟨gl, 0, none⟩) 2 2] w fun e w' => e = .returned (.tuple #[]) ∧ ∃ L' ρ', Inv L' ρ' n { S with flt := putF (fun _ => 0) a y } w' ∧ Step L ρ w L' ρ' w' := by
  have hb1 : Below w.heap.size w (w.alloc (.map #[] 0)) := (Below.refl _ _).alloc (Nat.le_refl _) _
  have hg0 := h.old w.heap.size (Nat.le_refl _)
  have hgl : gl < w.heap.size := blk_lt hbl
  have hlb : L.b < w.heap.size := h.lt (by rw [h.hb]; simp)
  have hne : gl ≠ L.b := fun e => by subst e; rw [h.hb] at hr; cases hr
  have hA1 := h.alloc (.map #[] 0)
  have B1 := hA1.blk
  have f5 := blk_frozen B1 5
  have c5 := blk_cell B1 5 (v := .map L.fm) rfl
  obtain ⟨hI2, hN2⟩ := inv_newflt hA1 w.heap.size hg0 (heap_alloc_new _ _)
  have hbl2 : Blk ((w.alloc (.map #[] 0)).setCell ⟨L.b, 5, none⟩ (.map (some w.heap.size))) gl tA #[.int .i64 a, .int .i64 0, .int .i64 a, .int .i64 y] := (setCell_keep _ _ _ _ _ hne).trans ((heap_alloc_old _ _ hgl).trans hbl)
  obtain ⟨W2, hW2⟩ : ∃ W2, W2 = (w.alloc (.map #[] 0)).setCell ⟨L.b, 5, none⟩ (.map (some w.heap.size)) := ⟨_, rfl⟩
  have hz2 : W2.heap.size = w.heap.size + 1 := by rw [hW2, size_setCell']; simp
  have hS2 : Step L ρ w { L with fm := some w.heap.size } (updN ρ w.heap.size (some .flt)) W2 := by
    rw [hW2]
    exact ⟨rfl, rfl, rfl, by rw [size_setCell']; simp, fun k hk hk' => (setCell_keep _ _ _ _ k (fun e => by subst e; rw [h.hb] at hk'; cases hk')).trans (heap_alloc_old _ _ hk), fun k hk => by unfold updN; rw [if_neg (by omega)], rfl⟩
  rw [← hW2] at hI2 hN2 hbl2
  have hrl1 : updN ρ w.heap.size (some .flt) gl = none := by unfold updN; rw [if_neg (by omega)]; exact hr
  generalize hρ1 : updN ρ w.heap.size (some .flt) = ρ1 at *
  have hmm := @run_makeMap Tryz.prog
  -- the first fault is none
  have hI3 := hI2.alloc (.cells #[.int .i64 a, .int .i64 0] 66)
  have hN3 : FltN ρ1 (W2.alloc (.cells #[.int .i64 a, .int .i64 0] 66)) w.heap.size 0 (fun _ => 0) := fltN_keep hN2 (heap_alloc_old _ _ (by omega))
  have hlk1 := fltI_look (w := (W2.alloc (.cells #[.int .i64 a, .int .i64 0] 66)).drew) (fltN_I (fltN_keep hN3 rfl)) a0 a1
  have hbl3 : Blk (W2.alloc (.cells #[.int .i64 a, .int .i64 0] 66)) gl tA #[.int .i64 a, .int .i64 0, .int .i64 a, .int .i64 y] := (heap_alloc_old _ _ (by omega)).trans hbl2
  have hI5 := hI3.alloc (.cells #[.int .i64 a, .int .i64 y] 66)
  have hN5 : FltN ρ1 ((W2.alloc (.cells #[.int .i64 a, .int .i64 0] 66)).alloc (.cells #[.int .i64 a, .int .i64 y] 66)) w.heap.size 0 (fun _ => 0) := fltN_keep hN3 (heap_alloc_old (W2.alloc (.cells #[.int .i64 a, .int .i64 0] 66)) _ (by show w.heap.size < (W2.alloc _).heap.size; simp; omega))
  have hlk2 := fltI_look (w := ((W2.alloc (.cells #[.int .i64 a, .int .i64 0] 66)).alloc (.cells #[.int .i64 a, .int .i64 y] 66)).drew.drew) (fltN_I (fltN_keep hN5 rfl)) a0 a1
  obtain ⟨W4, hst, hN4, hz4, e1, e2, e3, hk4⟩ := fltN_store (w := ((W2.alloc (.cells #[.int .i64 a, .int .i64 0] 66)).alloc (.cells #[.int .i64 a, .int .i64 y] 66)).drew.drew.drew) (fltN_keep hN5 rfl) (by omega) a0 a1 y0 y1 hy
  have hI4 := inv_flt hI5.drew.drew.drew (fltN_I hN4) hk4 (Nat.le_of_eq hz4.symm)
  have hS3 : Step L ρ w { L with fm := some w.heap.size } ρ1 (W2.alloc (.cells #[.int .i64 a, .int .i64 0] 66)) := hS2.trans (Step.below ((Below.refl _ _).alloc (Nat.le_refl _) (.cells #[.int .i64 a, .int .i64 0] 66)))
  have hS5 := hS3.trans (Step.below ((Below.refl _ _).alloc (Nat.le_refl _) (.cells #[.int .i64 a, .int .i64 y] 66)))
  have hS4 : Step L ρ w { L with fm := some w.heap.size } ρ1 W4 := hS5.trans ⟨e1, e2, e3, Nat.le_of_eq hz4.symm, fun k _ hk => hk4 k (by rw [hk]; simp), fun _ _ => rfl, rfl⟩
  have k0 := blk_cell hbl2 0 (v := .int .i64 a) rfl
  have k1 := blk_cell hbl2 1 (v := .int .i64 0) rfl
  have k2 := blk_cell hbl3 2 (v := .int .i64 a) rfl
  have k3 := blk_cell hbl3 3 (v := .int .i64 y) rfl
  have d5 := blk_cell hI3.blk 5 (v := .map (some w.heap.size)) rfl
  have p5 := blk_cell hI5.blk 5 (v := .map (some w.heap.size)) rfl
  have HI := Lib.hid hI4
  have HS := Lib.hid hS4
  have yb : (y != 0) = true := by simpa using hy
  have HW2 := Lib.hid hW2
  clear hW2
  clear h hA1 B1 hI2 hI3 hI4 hI5 hN2 hN3 hN4 hN5 hk4 hS2 hS3 hS4 hS5 hbl hbl2 hbl3 hy hb1 hg0 hgl hlb hρ1 hr hrl1 e1 e2 e3 hz4 hz2 hne
  go_enter Tryz.func12, Tryz.ntmps12
  go_wp2
  rw [← HW2.out]
  clear HW2 c5 f5
  refine wp_loop_rounds 3 ?_
  rw [rounds_succ]
  go_wp2
  go_region
  go_wp2
  rw [rounds_succ]
  go_wp2
  go_region
  go_wp2
  go_region
  go_wp2
  rw [rounds_succ]
  go_wp2
  go_returns
  exact ⟨rfl, _, _, HI.out, HS.out⟩
end Go.Proofs.YtkfncnpeockiaaaGreatDoor

namespace Go.Proofs.YtkfncnpeockiaaaGreatDoor
open Go.RowKit
variable {L : Loc} {ρ ρ' : Nat → Option Role} {n : Nat} {S : DS} {w w' : World}

def faultsS (S : DS) (a x : Int) : DS := { S with flt := putF (fun _ => 0) a (if x = 0 then 30 else x) }
theorem faults_two (gl : Nat) (tA : TypeId) (a x : Int) (h : Inv L ρ n S w) (hbl : Blk w gl tA #[.int .i64 a, .int .i64 x, .int .i64 a, .int .i64 30]) (hr : ρ gl = none)
    (a0 : -9223372036854775808 ≤ a) (a1 : a ≤ 9223372036854775807) (x0 : -9223372036854775808 ≤ x) (x1 : x ≤ 9223372036854775807) :
    Calls Tryz.prog 12 #[.pointer (some ⟨L.b, 0, none⟩), .slice (some ⟨gl, 0, none⟩) 2 2] w fun e w' => e = .returned (.tuple #[]) ∧ ∃ L' ρ', Inv L' ρ' n (faultsS S a x) w' ∧ Step L ρ w L' ρ' w' := by
  unfold faultsS
  by_cases hx : x = 0
  · subst hx
    rw [if_pos rfl]
    exact faults_second gl tA a 30 h hbl hr a0 a1 (by decide) (by decide) (by decide)
  · rw [if_neg hx]
    exact faults_first gl tA a x 30 h hbl hr a0 a1 x0 x1 hx
theorem faults_nil (h : Inv L ρ n S w) :
    Calls Tryz.prog 12 #[.pointer (some ⟨L.b, 0, none⟩), .slice none 0 0] w fun e w' => e = .returned (.tuple #[]) ∧ ∃ L' ρ', Inv L' ρ' n { S with flt := fun _ => 0 } w' ∧ Step L ρ w L' ρ' w' := by
  have hg0 := h.old w.heap.size (Nat.le_refl _)
  have hlb : L.b < w.heap.size := h.lt (by rw [h.hb]; simp)
  have hA1 := h.alloc (.map #[] 0)
  have B1 := hA1.blk
  have f5 := blk_frozen B1 5
  have c5 := blk_cell B1 5 (v := .map L.fm) rfl
  obtain ⟨hI2, _⟩ := inv_newflt hA1 w.heap.size hg0 (heap_alloc_new _ _)
  have hS2 : Step L ρ w { L with fm := some w.heap.size } (updN ρ w.heap.size (some .flt)) ((w.alloc (.map #[] 0)).setCell ⟨L.b, 5, none⟩ (.map (some w.heap.size))) :=
    ⟨rfl, rfl, rfl, by rw [size_setCell']; simp, fun k hk hk' => (setCell_keep _ _ _ _ k (fun e => by subst e; rw [h.hb] at hk'; cases hk')).trans (heap_alloc_old _ _ hk), fun k hk => by unfold updN; rw [if_neg (by omega)], rfl⟩
  have hmm := @run_makeMap Tryz.prog
  have HI := Lib.hid hI2
  have HS := Lib.hid hS2
  clear h hA1 B1 hI2 hS2 hg0 hlb
  go_enter Tryz.func12, Tryz.ntmps12
  go_wp2
  refine wp_loop_rounds 1 ?_
  rw [rounds_succ]
  go_wp2
  go_returns
  exact ⟨rfl, _, _, HI.out, HS.out⟩
end Go.Proofs.YtkfncnpeockiaaaGreatDoor

namespace Go.Proofs.YtkfncnpeockiaaaGreatDoor
open Go.RowKit
variable {L : Loc} {ρ ρ' : Nat → Option Role} {n : Nat} {S : DS} {w w' : World}

def cutC (k : Nat) : Chg → Chg
  | .write i o d => .write i o (d.take k)
  | c => c
def datL : Chg → List UInt8
  | .write _ _ d => d
  | _ => []
def survC (c : Chg) (u : Nat) : Option Chg := if u % 3 = 0 then none else if u % 3 = 2 then some (cutC (u / 3 % ((datL c).length + 1)) c) else some c
def survS (c : Chg) (u : Nat) (S : DS) : DS := match survC c u with
  | none => S
  | some c' => applyS true c' S
theorem cutC_ok {nf k : Nat} {c : Chg} (h : c.Ok nf) : (cutC k c).Ok nf := by
  cases c with
  | write i o d =>
    refine ⟨h.1, ?_⟩
    have h2 := h.2
    show o + (d.take k).length ≤ 4000000
    rw [List.length_take]
    omega
  | create _ _ => exact h
  | remove _ => exact h
  | trunc _ _ => exact h
theorem chg_cut (F : Nat → Nat) (c : Chg) : ∃ (k : Int) (nm : ByteArray) (fp : Option Addr) (o : Int), ∀ q, (cutC q c).cells F = [.int .i64 k, .string nm, .pointer fp, .int .i64 o, .string (bz ((datL c).take q))] := by
  cases c with
  | write i o d => exact ⟨_, _, _, _, fun _ => rfl⟩
  | create _ _ => exact ⟨_, _, _, _, fun q => by cases q <;> rfl⟩
  | remove _ => exact ⟨_, _, _, _, fun q => by cases q <;> rfl⟩
  | trunc _ _ => exact ⟨_, _, _, _, fun q => by cases q <;> rfl⟩
theorem cutC_all (c : Chg) : cutC (datL c).length c = c := by
  cases c with
  | write i o d => simp [cutC, datL]
  | create _ _ => rfl
  | remove _ => rfl
  | trunc _ _ => rfl
set_option maxHeartbeats 1000000 in
theorem surv_none (c : Chg) (u : Nat) (hu : u % 3 = 0) (hu2 : u < 18446744073709551616) (h : Inv L ρ n S w) :
    Calls Tryz.prog 47 #[.pointer (some ⟨L.b, 0, none⟩), .agg (c.cells L.F).toArray, .int .u64 u] w fun e w' => e = .returned (.tuple #[]) ∧ Inv L ρ n S w' ∧ Step L ρ w L ρ w' := by
  obtain ⟨k, nm, fp, o, hc⟩ := chg_cut L.F c
  have hcc := hc (datL c).length
  rw [cutC_all, List.take_length] at hcc
  rw [hcc]
  have e1 : (u : Int).tmod 3 = 0 := by rw [Int.tmod_eq_emod_of_nonneg (by omega)]; omega
  have hI := Lib.hid (h.alloc (.cells #[.int .i64 k, .string nm, .pointer fp, .int .i64 o, .string (bz (datL c))] 74))
  have hS := Lib.hid (show Step L ρ w L ρ (w.alloc (.cells #[.int .i64 k, .string nm, .pointer fp, .int .i64 o, .string (bz (datL c))] 74)) from Step.below ((Below.refl _ _).alloc (Nat.le_refl _) _))
  generalize bz (datL c) = d at *
  clear h hc hcc hu
  go_enter Tryz.func47, Tryz.ntmps47
  go_wp2
  go_returns
  exact ⟨rfl, hI.out, hS.out⟩
set_option maxHeartbeats 1000000 in
theorem surv_whole (c : Chg) (u : Nat) (hu : u % 3 = 1) (hu2 : u < 18446744073709551616) (h : Inv L ρ n S w) (hok : c.Ok S.nf) (hn : n + 1 ≤ 100000) :
    Calls Tryz.prog 47 #[.pointer (some ⟨L.b, 0, none⟩), .agg (c.cells L.F).toArray, .int .u64 u] w (AppQ L ρ (n + 1) (applyS true c S) w) := by
  obtain ⟨k, nm, fp, o, hc⟩ := chg_cut L.F c
  have hcc := hc (datL c).length
  rw [cutC_all, List.take_length] at hcc
  have e1 : (u : Int).tmod 3 = 1 := by rw [Int.tmod_eq_emod_of_nonneg (by omega)]; omega
  have hA := apply_any true c (h.alloc (.cells #[.int .i64 k, .string nm, .pointer fp, .int .i64 o, .string (bz (datL c))] 74)) hok hn
  rw [hcc] at hA
  rw [show stI true = 1 from rfl] at hA
  rw [hcc]
  have HA := Lib.hid hA
  have hS := Lib.hid (show Step L ρ w L ρ (w.alloc (.cells #[.int .i64 k, .string nm, .pointer fp, .int .i64 o, .string (bz (datL c))] 74)) from Step.below ((Below.refl _ _).alloc (Nat.le_refl _) _))
  generalize bz (datL c) = d at *
  clear h hc hcc hu hA hok
  go_enter Tryz.func47, Tryz.ntmps47
  go_wp2_with (go_at_call 70; (with_reducible refine HA.out.mono ?_); rintro e w1 ⟨rfl, L', ρ', hI1, hS1, hF1, hP1⟩; have HI1 := Lib.hid hI1; have HS1 := Lib.hid hS1; clear hI1 hS1)
  go_returns
  exact ⟨rfl, L', ρ', HI1.out, hS.out.trans HS1.out, hF1, hP1⟩
theorem bz_take (l : List UInt8) (q : Nat) : (bz l).extract 0 q = bz (l.take q) := by
  apply ByteArray.ext
  apply Array.ext'
  simp [bz]
set_option maxHeartbeats 1000000 in
theorem surv_cut (c : Chg) (u : Nat) (hu : u % 3 = 2) (hu2 : u < 18446744073709551616) (h : Inv L ρ n S w) (hok : c.Ok S.nf) (hdl : (datL c).length ≤ 4000000) (hn : n + 1 ≤ 100000) :
    Calls Tryz.prog 47 #[.pointer (some ⟨L.b, 0, none⟩), .agg (c.cells L.F).toArray, .int .u64 u] w (AppQ L ρ (n + 1) (applyS true (cutC (u / 3 % ((datL c).length + 1)) c) S) w) := by
  obtain ⟨k, nm, fp, o, hc⟩ := chg_cut L.F c
  have hcc := hc (datL c).length
  rw [cutC_all, List.take_length] at hcc
  obtain ⟨q, hq⟩ : ∃ q, u / 3 % ((datL c).length + 1) = q := ⟨_, rfl⟩
  have hql : q ≤ (datL c).length := by rw [← hq]; exact Nat.le_of_lt_succ (Nat.mod_lt _ (Nat.succ_pos _))
  rw [hq]
  have hct := hc q
  rw [← bz_take] at hct
  have e1 : (u : Int).tmod 3 = 2 := by rw [Int.tmod_eq_emod_of_nonneg (by omega)]; omega
  have hb2 : Below w.heap.size w (w.alloc (.cells #[.int .i64 k, .string nm, .pointer fp, .int .i64 o, .string ((bz (datL c)).extract 0 q)] 74)).drew := ((Below.refl _ _).alloc (Nat.le_refl _) _).drew
  have hA := apply_any true (cutC q c) (h.below hb2) (cutC_ok hok) hn
  rw [hct] at hA
  rw [show stI true = 1 from rfl] at hA
  rw [hcc]
  have HA := Lib.hid hA
  have hS := Lib.hid (show Step L ρ w L ρ _ from Step.below hb2)
  have hsz := bz_size (datL c)
  have e2 : (u : Int).tdiv 3 = ((u / 3 : Nat) : Int) := by rw [Int.tdiv_eq_ediv_of_nonneg (by omega)]; omega
  have e3 : (((u / 3 : Nat) : Int)).tmod (((datL c).length : Int) + 1) = (q : Int) := by rw [Int.tmod_eq_emod_of_nonneg (by omega), ← hq]; rfl
  have e4 : IntKind.u64.wrap ((u / 3 : Nat) : Int) = ((u / 3 : Nat) : Int) := IntWalk.u64_in _ ⟨by omega, by omega⟩
  generalize bz (datL c) = d at *
  rw [← hsz] at e3 hql hdl
  generalize u / 3 = u3 at *
  clear h hc hcc hu hA hok hct hb2 hq hsz
  go_enter Tryz.func47, Tryz.ntmps47
  go_wp2
  go_region
  go_wp2_with (go_at_call 70; (with_reducible refine HA.out.mono ?_); rintro e w1 ⟨rfl, L', ρ', hI1, hS1, hF1, hP1⟩; have HI1 := Lib.hid hI1; have HS1 := Lib.hid hS1; clear hI1 hS1)
  go_returns
  exact ⟨rfl, L', ρ', HI1.out, hS.out.trans HS1.out, hF1, hP1⟩
theorem datL_len {nf : Nat} {c : Chg} (h : c.Ok nf) : (datL c).length ≤ 4000000 := by
  cases c with
  | write i o d =>
    have h2 := h.2
    show d.length ≤ 4000000
    omega
  | create _ _ => exact Nat.zero_le _
  | remove _ => exact Nat.zero_le _
  | trunc _ _ => exact Nat.zero_le _
theorem survive_any (c : Chg) (u : Nat) (hu2 : u < 18446744073709551616) (h : Inv L ρ n S w) (hok : c.Ok S.nf) (hn : n + 1 ≤ 100000) :
    Calls Tryz.prog 47 #[.pointer (some ⟨L.b, 0, none⟩), .agg (c.cells L.F).toArray, .int .u64 u] w (AppQ L ρ (n + 1) (survS c u S) w) := by
  unfold survS survC
  by_cases h0 : u % 3 = 0
  · rw [if_pos h0]
    exact (surv_none c u h0 hu2 h).mono fun e w1 hq => ⟨hq.1, L, ρ, hq.2.1.mono (Nat.le_succ _) hn, hq.2.2, rfl, rfl⟩
  · rw [if_neg h0]
    by_cases h2 : u % 3 = 2
    · rw [if_pos h2]
      exact surv_cut c u h2 hu2 h hok (datL_len hok) hn
    · rw [if_neg h2]
      exact surv_whole c u (by omega) hu2 h hok hn
end Go.Proofs.YtkfncnpeockiaaaGreatDoor

namespace Go.Proofs.YtkfncnpeockiaaaGreatDoor
open Go.RowKit

structure One (S : DS) (c : List UInt8) : Prop where
  dirs : S.dirs false = [([97], 0)]
  con : S.con false 0 = c
  room : S.room = 4000000
  down : S.down = false
  crash : S.crash = 0
  flt : ∀ k, S.flt k = 0
variable {S : DS} {c : List UInt8}
theorem one_find (h : One S c) : findL (S.dirs false) [97] = some 0 := by rw [h.dirs]; rfl
theorem one_beg (h : One S c) : One (begS S) c := ⟨h.dirs, h.con, h.room, by show decide (((S.ops + 1 : Nat) : Int) = S.crash) = false; rw [h.crash]; exact decide_eq_false (by omega), h.crash, h.flt⟩
theorem one_used (h : One S c) : usedN S = c.length := by
  unfold usedN lenOf
  rw [h.dirs]
  simp [h.con]
theorem one_exc (h : One S c) (z : Int) (hz : z ≤ 4000000) : excB S 0 z = false := by
  unfold excB
  rw [one_used h, h.con, h.room]
  by_cases h1 : (0 : Int) < z - (c.length : Int)
  · rw [show decide (((4000000 : Nat) : Int) < (c.length : Int) + (z - (c.length : Int))) = false from decide_eq_false (by omega), Bool.and_false]
  · rw [decide_eq_false h1, Bool.false_and]
theorem one_nodup (h : One S c) : ((S.dirs false).map (·.1)).Nodup := by rw [h.dirs]; decide
theorem one_write (h : One S c) (o : Int) (d : List UInt8) (h0 : 0 ≤ o) (h1 : o + (d.length : Int) ≤ 4000000) : (writeZ S [97] o d).1 = 0 ∧ One (writeZ S [97] o d).2 (overL c o.toNat d) := by
  have hb := one_beg h
  unfold writeZ
  rw [one_find h]
  simp only
  unfold writeIn
  rw [if_neg (by omega)]
  by_cases hd : d = []
  · rw [if_pos hd]
    have e : overL c o.toNat d = c := by unfold overL; rw [if_pos hd]
    rw [e]
    exact ⟨cutE_up hb.down 0, hb⟩
  · rw [if_neg hd, if_neg (by rw [one_exc hb _ h1]; simp)]
    have hO : One (perfS (.write 0 o.toNat d) (begS S)) (overL c o.toNat d) := ⟨hb.dirs, by show upd2 (begS S).con false 0 (overL ((begS S).con false 0) o.toNat d) false 0 = _; simp only [upd2, if_true, and_self]; rw [hb.con], hb.room, hb.down, hb.crash, hb.flt⟩
    exact ⟨cutE_up hO.down 0, hO⟩
theorem one_write_neg (h : One S c) (o : Int) (d : List UInt8) (h0 : o < 0) : (writeZ S [97] o d).1 = 3 := by
  have hb := one_beg h
  unfold writeZ
  rw [one_find h]
  simp only
  unfold writeIn
  rw [if_pos (.inl h0)]
  exact cutE_up hb.down 3
theorem one_trunc (h : One S c) (z : Int) (h0 : 0 ≤ z) (h1 : z ≤ 4000000) : (truncZ S [97] z).1 = 0 ∧ One (truncZ S [97] z).2 (resizeL c z.toNat) := by
  have hb := one_beg h
  unfold truncZ
  rw [one_find h]
  simp only
  unfold truncIn
  rw [if_neg (by omega), if_neg (by rw [one_exc hb _ h1]; simp)]
  have hO : One (perfS (.trunc 0 z.toNat) (begS S)) (resizeL c z.toNat) := ⟨hb.dirs, by show upd2 (begS S).con false 0 (resizeL ((begS S).con false 0) z.toNat) false 0 = _; simp only [upd2, if_true, and_self]; rw [hb.con], hb.room, hb.down, hb.crash, hb.flt⟩
  exact ⟨cutE_up hO.down 0, hO⟩
theorem one_trunc_neg (h : One S c) (z : Int) (h0 : z < 0) : (truncZ S [97] z).1 = 3 := by
  have hb := one_beg h
  unfold truncZ
  rw [one_find h]
  simp only
  unfold truncIn
  rw [if_pos (.inl h0)]
  exact cutE_up hb.down 3
theorem one_create : (createZ (newS (-1)) [97]).1 = 0 ∧ One (createZ (newS (-1)) [97]).2 [] := ⟨rfl, rfl, rfl, rfl, rfl, rfl, fun _ => rfl⟩
theorem one_cont (h : One S c) : contZ S [97] = c := by unfold contZ; rw [one_find h]; exact h.con
theorem one_read (h : One S c) (hc : c.length ≤ 1000000) : readL S 0 0 1099511627776 = c := by
  unfold readL
  rw [h.con]
  show (c.drop 0).take _ = c
  rw [List.drop_zero, List.take_of_length_le (by omega)]

/-- The bytes that the statement asks for. -/
theorem over_want (f d : List UInt8) (a : Nat) (hd : d ≠ []) :
    overL f a d = (f ++ List.replicate (a - f.length) 0).take a ++ d ++ (if a + d.length < (f ++ List.replicate (a - f.length) 0).length then (f ++ List.replicate (a - f.length) 0).drop (a + d.length) else []) := by
  have hdp : 0 < d.length := List.length_pos_iff.2 hd
  unfold overL resizeL
  rw [if_neg hd, List.append_assoc]
  by_cases h1 : a + d.length < f.length
  · have e1 : max f.length (a + d.length) = f.length := by omega
    have e2 : a - f.length = 0 := by omega
    rw [e1, e2, if_pos (Nat.le_refl _), List.take_length, List.replicate_zero, List.append_nil, if_pos h1]
  · have e1 : max f.length (a + d.length) = a + d.length := by omega
    have hl : (f ++ List.replicate (a - f.length) (0 : UInt8)).length = max f.length a := by rw [List.length_append, List.length_replicate]; omega
    rw [e1, if_neg (show ¬ a + d.length < (f ++ List.replicate (a - f.length) (0 : UInt8)).length by rw [hl]; omega)]
    by_cases h2 : a + d.length ≤ f.length
    · have e2 : a - f.length = 0 := by omega
      have e3 : a + d.length = f.length := by omega
      rw [if_pos h2, e2, List.replicate_zero, List.append_nil, e3, List.take_length, List.drop_length, List.append_nil]
    · rw [if_neg h2]
      have e4 : (f ++ List.replicate (a + d.length - f.length) (0 : UInt8)).drop (a + d.length) = [] := List.drop_of_length_le (by rw [List.length_append, List.length_replicate]; omega)
      have e5 : (f ++ List.replicate (a + d.length - f.length) (0 : UInt8)).take a = (f ++ List.replicate (a - f.length) (0 : UInt8)).take a := by
        rw [List.take_append, List.take_append, List.take_replicate, List.take_replicate]
        congr 2
        omega
      rw [e4, e5]
theorem resize_want (f : List UInt8) (z : Nat) : resizeL f z = (f ++ List.replicate (z - f.length) 0).take z := by
  unfold resizeL
  by_cases h : z ≤ f.length
  · rw [if_pos h, show z - f.length = 0 by omega, List.replicate_zero, List.append_nil]
  · rw [if_neg h, List.take_of_length_le (by rw [List.length_append, List.length_replicate]; omega)]
end Go.Proofs.YtkfncnpeockiaaaGreatDoor

namespace Go.Proofs.YtkfncnpeockiaaaGreatDoor
open Go.RowKit

theorem zconv7 (v : World) (b n : Nat) (h : ∀ j, j < n → v.cell? ⟨b, j, none⟩ = some (.int .u8 0)) :
    (convert 79 9 (.slice (some ⟨b, 0, none⟩) n n)).run Tryz.prog v = .ok (.string ⟨(List.replicate n (0 : UInt8)).toArray⟩) v := by
  have := run_convert_bytes_back (P := Tryz.prog) v 79 9 5 ⟨b, 0, none⟩ n (List.replicate n (0 : UInt8)) (by kernel_rfl) (by kernel_rfl) (by kernel_rfl) (fun j hj => by
    rw [Addr.add_lit, Nat.zero_add, h j (by simpa using hj), List.getElem_replicate]; rfl)
  rwa [List.length_replicate] at this
/-- string(make([]byte, n)), in any world. -/
theorem zeros_run (n : Nat) (hn : n ≤ 1000000) (Z : ByteArray) (hZ : Z = ⟨(List.replicate n (0 : UInt8)).toArray⟩) :
    (∀ W, (Instr.makeSlice 79 (.int .i64 (n : Int)) (.int .i64 (n : Int))).run Tryz.prog W = .ok (.slice (some ⟨W.heap.size, 0, none⟩) n n) (W.alloc (.cells (madeCells #[.int .u8 0] n) 5))) ∧
    ∀ W : World, (convert 79 9 (.slice (some ⟨W.heap.size, 0, none⟩) n n)).run Tryz.prog (W.alloc (.cells (madeCells #[.int .u8 0] n) 5)) = .ok (.string Z) (W.alloc (.cells (madeCells #[.int .u8 0] n) 5)) := by
  refine ⟨fun W => run_make_row' (P := Tryz.prog) 79 5 (.int .u8 0) 1 (by kernel_rfl) u8_info rfl .i64 .i64 n (by omega) (by omega) W, fun W => ?_⟩
  rw [hZ]
  exact zconv7 _ W.heap.size n (fun j hj => (World.rowIs_made W (.int .u8 0) n 5).cell hj)

theorem over_nil (f : List UInt8) : overL [] 0 f = f := by
  unfold overL
  by_cases h : f = []
  · rw [if_pos h, h]
  · rw [if_neg h]
    have hl := resizeL_len [] (max 0 (0 + f.length))
    have e : (resizeL [] (max ([] : List UInt8).length (0 + f.length))).drop (0 + f.length) = [] := List.drop_of_length_le (by rw [resizeL_len]; simp)
    rw [e, List.take_zero, List.nil_append, List.append_nil]

end Go.Proofs.YtkfncnpeockiaaaGreatDoor

namespace Go.Proofs.YtkfncnpeockiaaaGreatDoor
open Go.RowKit
variable {w w' : World}

def zb (n : Nat) : ByteArray := ⟨(List.replicate n (0 : UInt8)).toArray⟩
theorem zb_list (n : Nat) : (zb n).data.toList = List.replicate n 0 := by simp [zb]
theorem zb_size (n : Nat) : (zb n).size = n := by simp [zb, ByteArray.size]
theorem qnoughts_any (z : Int) (hz : z ≤ 1000000) (hz0 : -9223372036854775808 ≤ z) :
    Calls Tryz.prog 82 #[.int .i64 z] w fun e w' => e = .returned (.string (zb z.toNat)) ∧ Below w.heap.size w w' := by
  obtain ⟨n1, hn1⟩ : ∃ n1, n1 = z.toNat := ⟨_, rfl⟩
  obtain ⟨k1, k2⟩ := zeros_run n1 (by omega) (zb n1) rfl
  have y2 : max z 0 = (n1 : Int) := by omega
  rw [← hn1]
  generalize zb n1 = Z at *
  have HB := Lib.hid (show Below w.heap.size w (w.alloc (.cells (madeCells #[.int .u8 0] n1) 5)) from (Below.refl _ _).alloc (Nat.le_refl _) _)
  clear hn1
  go_enter Tryz.func82, Tryz.ntmps82
  go_wp2
  go_ret
  exact ⟨rfl, HB.out⟩
end Go.Proofs.YtkfncnpeockiaaaGreatDoor
