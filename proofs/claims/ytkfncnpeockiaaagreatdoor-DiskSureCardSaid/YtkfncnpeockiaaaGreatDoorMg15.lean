/-
  Layer 7, the document's side: begin, which counts a call. Condition: the rows of the document's disk are as the invariant says, the count is below a hundred thousand.
-/
import Derived.Deep.Cut
import Derived.BigQuiet
import Derived.Test.YtkfncnpeockiaaaGreatDoorMg14
namespace Go.Proofs.YtkfncnpeockiaaaGreatDoor
open Go.RowKit
variable {w w' : World} {Q : QL} {R : RS}

/-- What begin answers: the error, and whether the machine goes down. -/
def qbegA (R : RS) : Int × Bool := if R.off = true then (33, false) else if tellL R.tells ((R.count + 1 : Nat) : Int) = 0 then (0, qdn (qbeg R)) else (tellL R.tells ((R.count + 1 : Nat) : Int), false)
def qbegS (R : RS) : RS := if R.off = true then R else qbeg R
theorem tellL_take {l : List (Int × Int)} {c : Int} {k : Nat} (hk : k < l.length) (h : tellL (l.take k) c = 0) :
    (l[k].1 = c → l[k].2 ≠ 0 → tellL l c = l[k].2) ∧ (l[k].1 ≠ c ∨ l[k].2 = 0 → tellL (l.take (k + 1)) c = 0) := by
  have h0 : (l.take k).find? (fun p => p.1 == c && !(p.2 == 0)) = none := by
    unfold tellL at h
    cases hf : (l.take k).find? (fun p => p.1 == c && !(p.2 == 0)) with
    | none => rfl
    | some q =>
      rw [hf] at h
      have := List.find?_some hf
      simp only [Bool.and_eq_true, Bool.not_eq_true', beq_eq_false_iff_ne] at this
      exact absurd h this.2
  constructor
  · intro e1 e2
    have e3 : l.find? (fun p => p.1 == c && !(p.2 == 0)) = some l[k] := by
      have hl : l = l.take k ++ l[k] :: l.drop (k + 1) := by rw [← List.drop_eq_getElem_cons hk, List.take_append_drop]
      refine (congrArg (List.find? fun p => p.1 == c && !(p.2 == 0)) hl).trans ?_
      rw [List.find?_append, h0, List.find?_cons_of_pos (by simp [e1, e2])]
      rfl
    unfold tellL
    rw [e3]
  · intro e
    unfold tellL
    rw [take_snoc _ _ hk, List.find?_append, h0, List.find?_cons_of_neg (by rcases e with e | e <;> simp [e])]
    rfl
theorem tell_cells (h : w.ownsRow 0 68 2 (Q.v 7) R.tells.length (R.tells.flatMap tellC)) :
    ∃ a cap, Q.v 7 = .slice a R.tells.length cap ∧ ∀ k (hk : k < R.tells.length), ∃ g, a = some ⟨g, 0, none⟩ ∧ (Q.v 7).ownBlock = some g ∧ g < w.heap.size ∧ w.cell? ⟨g, k * 2, none⟩ = some (.int .i64 R.tells[k].1) ∧ w.cell? ⟨g, k * 2 + 1, none⟩ = some (.int .i64 R.tells[k].2) := by
  obtain ⟨a, cap, e, hc⟩ := row_slice h
  refine ⟨a, cap, e, fun k hk => ?_⟩
  rcases hc with h0 | ⟨g, rfl, hg, hc⟩
  · omega
  · refine ⟨g, rfl, by rw [e]; rfl, hg, ?_, ?_⟩
    · have := hc (k * 2 + 0) _ (by rw [flat_at tellC 2 tellC_len _ k 0 hk (by decide)]; rfl)
      rwa [Nat.add_zero] at this
    · exact hc (k * 2 + 1) _ (by rw [flat_at tellC 2 tellC_len _ k 1 hk (by decide)]; rfl)

set_option maxRecDepth 100000 in
set_option maxHeartbeats 2000000 in
theorem qbegin_any (h : QInv Q R w) (hn : R.count ≤ 100000) (hl : R.tells.length ≤ 100000) :
    Calls Tryz.prog 60 #[.pointer (some ⟨Q.b, 0, none⟩)] w fun e w' => e = .returned (.tuple #[.int .i64 (qbegA R).1, .bool (qbegA R).2]) ∧ QInv Q (qbegS R) w' ∧ QStep Q w Q w' := by
  have f6 := blk_frozen h.blk 6
  have c6 := blk_cell h.blk 6 (v := .int .i64 R.count) rfl
  have c9 := blk_cell h.blk 9 (v := .bool R.off) rfl
  have e1 : ((R.count + 1 : Nat) : Int) = (R.count : Int) + 1 := by omega
  obtain ⟨A, hA⟩ : ∃ A, A = qbegA R := ⟨_, rfl⟩
  obtain ⟨T, hT⟩ : ∃ T, T = qbegS R := ⟨_, rfl⟩
  rw [← hA, ← hT]
  unfold qbegA at hA
  unfold qbegS at hT
  rw [e1] at hA
  have HA := Lib.hid hA; have HT0 := Lib.hid hT
  clear hA hT
  cases ho : R.off with
  | true =>
    rw [ho] at c9
    have HH := Lib.hid h
    clear h
    rw [ho] at HA HT0
    rw [HA.out, HT0.out]
    simp only [if_true]
    go_enter Tryz.func60, Tryz.ntmps60
    go_wp2
    go_ret2
    exact ⟨rfl, HH.out, QStep.refl _ _⟩
  | false =>
    rw [ho] at c9 HA HT0
    simp only [Bool.false_eq_true, if_false] at HA HT0
    have HC := q_cnt h
    rw [e1] at HC
    rw [HT0.out]
    obtain ⟨a, cap, hv, hcl⟩ := tell_cells (HC.1.row 7 (.inr rfl))
    have d6 := blk_cell HC.1.blk 6 (v := .int .i64 ((R.count : Int) + 1)) rfl
    have d7 := blk_cell HC.1.blk 7 (v := Q.v 7) rfl
    have d8 := blk_cell HC.1.blk 8 (v := .int .i64 R.crash) rfl
    rw [hv] at d7
    have hcl : ∀ k (hk : k < R.tells.length), ∃ g, a = some ⟨g, 0, none⟩ ∧ (Q.v 7).ownBlock = some g ∧ g < (w.setCell ⟨Q.b, 6, none⟩ (.int .i64 ((R.count : Int) + 1))).heap.size ∧ (w.setCell ⟨Q.b, 6, none⟩ (.int .i64 ((R.count : Int) + 1))).cell? ⟨g, k * 2, none⟩ = some (.int .i64 R.tells[k].1) ∧ (w.setCell ⟨Q.b, 6, none⟩ (.int .i64 ((R.count : Int) + 1))).cell? ⟨g, k * 2 + 1, none⟩ = some (.int .i64 R.tells[k].2) := hcl
    change World.cell? _ _ = some (Value.slice a R.tells.length cap) at d7
    have HK := Lib.hid HC; have HCL := Lib.hid hcl
    have hw1 : IntKind.i64.wrap ((R.count : Int) + 1) = (R.count : Int) + 1 := IntWalk.i64_in _ ⟨by omega, by omega⟩
    have D6 := Lib.hid d6; have D7 := Lib.hid d7; have D8 := Lib.hid d8
    clear h HC hcl d6 d7 d8
    go_enter Tryz.func60, Tryz.ntmps60
    go_wp2
    revert HK HCL D6 D7 D8
    generalize w.setCell ⟨Q.b, 6, none⟩ (.int .i64 ((R.count : Int) + 1)) = W
    intro HK HCL D6 D7 D8
    clear c6 c9 f6
    go_loopw [4] (fun iv wr => ∃ k : Nat, k ≤ R.tells.length ∧ iv = .int .i64 k ∧ Hid (tellL (R.tells.take k) ((R.count : Int) + 1) = 0) ∧ Hid (Same W wr)) (fun iv _ => R.tells.length - (intOf iv).toNat)
    case atStart => exact ⟨0, Nat.zero_le _, rfl, Lib.hid rfl, Lib.hid (Same.refl _)⟩
    case round =>
      obtain ⟨k, hk, rfl, hno, hM⟩ := hrel
      have d6 := hM.out.cell D6.out; have d7 := hM.out.cell D7.out; have d8 := hM.out.cell D8.out
      by_cases hlt : k < R.tells.length
      · obtain ⟨g, rfl, -, hg, q0, q1⟩ := HCL.out k hlt
        replace q0 := hM.out.cell q0; replace q1 := hM.out.cell q1
        have hkI : (k : Int) < R.tells.length := by omega
        have HT := Lib.hid (tellL_take hlt hno.out)
        have s0 : ¬ (k : Int) < 0 := by omega
        by_cases he : R.tells[k].1 = (R.count : Int) + 1
        · have t1 : (R.tells[k].1 == (R.count : Int) + 1) = true := by simpa using he
          by_cases hz : R.tells[k].2 = 0
          · have HR := Lib.hid (HT.out.2 (.inr hz))
            have t2 : (R.tells[k].2 == 0) = true := by simpa using hz
            clear he hz
            generalize R.tells[k].1 = x at *
            generalize R.tells[k].2 = y at *
            go_upto_region 7 with (fail)
            go_quiet (fail)
            go_wp2
            go_roundw
            case rel => exact ⟨k + 1, by omega, by go_num, HR, Lib.hid (hM.out.drewN _)⟩
            case measure => simp [intOf]; omega
          · have HR := Lib.hid (HT.out.1 he hz)
            have t2 : (R.tells[k].2 == 0) = false := by simpa using hz
            have HZ := Lib.hid hz
            clear he hz
            generalize R.tells[k].1 = x at *
            generalize R.tells[k].2 = y at *
            go_upto_region 7 with (fail)
            go_quiet (fail)
            go_wp2
            go_ret2
            have E : A = (y, false) := by rw [HA.out, HR.out, if_neg HZ.out]
            rw [E]
            exact ⟨rfl, HK.out.1.heap (fun _ _ => congrArg (·[_]?) hM.out.heap), HK.out.2.trans (QStep.below (hM.out.drewN _).below)⟩
        · have t1 : (R.tells[k].1 == (R.count : Int) + 1) = false := by simpa using he
          have HR := Lib.hid (HT.out.2 (.inl he))
          clear he
          generalize R.tells[k].1 = x at *
          generalize R.tells[k].2 = y at *
          go_upto_region 7 with (fail)
          go_quiet (fail)
          go_wp2
          go_roundw
          case rel => exact ⟨k + 1, by omega, by go_num, HR, Lib.hid (hM.out.drewN _)⟩
          case measure => simp [intOf]; omega
      · have hkI : ¬ (k : Int) < R.tells.length := by omega
        have HR := Lib.hid (show tellL R.tells ((R.count : Int) + 1) = 0 by have := hno.out; rwa [List.take_of_length_le (by omega)] at this)
        have HD := Lib.hid (show qdn (qbeg R) = ((R.count : Int) + 1 == R.crash) by
          unfold qdn qbeg
          show decide (((R.count + 1 : Nat) : Int) = R.crash) = _
          rw [e1]; rfl)
        go_upto_region 9 with (fail)
        go_quiet (fail)
        go_wp2
        go_ret2
        have E : A = (0, (R.count : Int) + 1 == R.crash) := by rw [HA.out, HR.out, if_pos rfl, HD.out]
        rw [E]
        exact ⟨rfl, HK.out.1.heap (fun _ _ => congrArg (·[_]?) hM.out.heap), HK.out.2.trans (QStep.below (hM.out.drewN _).below)⟩
end Go.Proofs.YtkfncnpeockiaaaGreatDoor
