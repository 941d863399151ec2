/-
  Layer 7, the document's side: all, grows and Content: the length of all files that are seen; would more bytes be too many; a file's bytes. Condition: at most ninety thousand files, each of at most forty thousand bytes.
  The small functions of layer 1 (isDigit, lower, isLetter, Letter, Digit): each returns its plain function of the byte, and leaves the world alone. Condition: the byte is from 0 to 255.
  isLetter of layer 1, and Letter and Digit of the document's answers: each returns its plain function of the byte and leaves the world alone. Condition: the byte is from 0 to 255.
  Layer 7, the document's side: path, which says whether a name is a path. Condition: the name has at most a million bytes.
  Layer 7, the document's side: Create and Delete. Condition: the rows are of at most ninety thousand entries, the path has at most a million bytes.
-/
import Derived.WalkKit
import Derived.Lib.Hide
import Derived.Deep.QuietTactic
import Derived.BigQuiet
import Derived.LoopTactic
import Derived.Laws.DeepStrings4
import Derived.Lib.Strings
import Derived.Test.YtkfncnpeockiaaaGreatDoorMg18
import Derived.Test.YtkfncnpeockiaaaGreatDoorMg4
import Derived.Test.YtkfncnpeockiaaaGreatDoorMg14
namespace Go.Proofs.YtkfncnpeockiaaaGreatDoor
open Go.RowKit
variable {w w' : World} {Q : QL} {R : RS}

theorem str_cells {v : Value} {l : List (List UInt8)} (h : w.ownsRow 0 9 1 v l.length (l.flatMap strC)) :
    ∃ a cap, v = .slice a l.length cap ∧ ∀ k (_hk : k < l.length), ∃ g, a = some ⟨g, 0, none⟩ ∧ g < w.heap.size ∧ w.cell? ⟨g, k, none⟩ = some (.string (bz (l.getD k []))) := by
  obtain ⟨a, cap, rfl, hc⟩ := row_slice h
  refine ⟨a, cap, rfl, fun k hk => ?_⟩
  rcases hc with h0 | ⟨g, rfl, hg, hc⟩
  · omega
  · exact ⟨g, rfl, hg, hc k _ (str_at l k hk)⟩
def sumQ (R : RS) (k : Nat) : Nat := ((R.seen.take k).map fun q => (R.seenB.getD q.2 []).length).sum
theorem sumQ_step (R : RS) (k : Nat) (hk : k < R.seen.length) : sumQ R (k + 1) = sumQ R k + (R.seenB.getD R.seen[k].2 []).length := by
  unfold sumQ
  rw [take_snoc _ _ hk, List.map_append, List.sum_append]
  simp
theorem getD_le {l : List (List UInt8)} {m : Nat} (h : ∀ s, s ∈ l → s.length ≤ m) (j : Nat) : (l.getD j []).length ≤ m := by
  rw [List.getD_eq_getElem?_getD]
  cases hj : l[j]? with
  | none => exact Nat.zero_le _
  | some s => exact h s (List.mem_of_getElem? hj)

set_option maxRecDepth 100000 in
set_option maxHeartbeats 2000000 in
theorem qall_any (h : QInv Q R w) (h1 : R.seen.length ≤ 90000) (_h2 : R.seenB.length ≤ 90000) (hK : ∀ p, p ∈ R.seen → p.2 < R.seenB.length) (hB : ∀ s, s ∈ R.seenB → s.length ≤ 40000) :
    Calls Tryz.prog 81 #[.pointer (some ⟨Q.b, 0, none⟩)] w fun e w' => e = .returned (.int .i64 (qall R)) ∧ ∃ q, w' = w.drewN q := by
  have c0 := blk_cell h.blk 0 (v := Q.v 0) rfl
  have c2 := blk_cell h.blk 2 (v := Q.v 2) rfl
  obtain ⟨a0, cap0, e0, hc0⟩ := ent_cells (h.row 0 (.inl (by decide)))
  obtain ⟨a2, cap2, e2, hc2⟩ := str_cells (h.row 2 (.inl (by decide)))
  change Q.v 0 = .slice a0 R.seen.length cap0 at e0
  change Q.v 2 = .slice a2 R.seenB.length cap2 at e2
  rw [e0] at c0
  rw [e2] at c2
  have HC0 := Lib.hid hc0; have HC2 := Lib.hid hc2; have HK := Lib.hid hK; have HB := Lib.hid hB
  have HA := Lib.hid (show qall R = sumQ R R.seen.length by unfold qall sumQ; rw [List.take_length])
  clear h hc0 hc2 e0 e2 hK hB
  go_enter Tryz.func81, Tryz.ntmps81
  go_wp2
  go_loopw [3, 4] (fun t3 t4 wr => ∃ k acc q : Nat, k ≤ R.seen.length ∧ t4 = .int .i64 k ∧ t3 = .int .i64 acc ∧ acc ≤ k * 40000 ∧ Hid (acc = sumQ R k) ∧ wr = w.drewN q) (fun _ t4 _ => R.seen.length - (intOf t4).toNat)
  case atStart => exact ⟨0, 0, 0, Nat.zero_le _, rfl, rfl, Nat.le_refl _, Lib.hid rfl, rfl⟩
  case round =>
    obtain ⟨k, acc, q, hk, rfl, rfl, hac, hs, rfl⟩ := hrel
    by_cases hlt : k < R.seen.length
    · obtain ⟨g0, rfl, -, hg0, q0, q1⟩ := HC0.out k hlt
      have hj := HK.out _ (List.getElem_mem hlt)
      have HS := Lib.hid (sumQ_step R k hlt)
      have hle := getD_le HB.out R.seen[k].2
      obtain ⟨j, hjj⟩ : ∃ j, j = R.seen[k].2 := ⟨_, rfl⟩
      rw [← hjj] at hj HS hle
      have q1' : w.cell? ⟨g0, k * 2 + 1, none⟩ = some (.int .i64 j) := by rw [hjj]; exact q1
      obtain ⟨g2, rfl, hg2, q2⟩ := HC2.out j hj
      obtain ⟨sv, hsv⟩ : ∃ sv, sv = R.seenB.getD j [] := ⟨_, rfl⟩
      rw [← hsv] at q2 hle HS
      have hkI : (k : Int) < R.seen.length := by omega
      have hjI : (j : Int) < R.seenB.length := by omega
      have s0 : ¬ (k : Int) < 0 := by omega
      have s1 : ¬ (j : Int) < 0 := by omega
      have hsz := bz_size sv
      have hszI : (bz sv).size ≤ 40000 := by omega
      have hadd : IntKind.i64.wrap ((acc : Int) + ((bz sv).size : Int)) = (acc : Int) + ((bz sv).size : Int) := IntWalk.i64_in _ ⟨by omega, by omega⟩
      have HSZ := Lib.hid hsz
      clear hjj q1 hsv hsz
      go_upto_region 5 with (fail)
      go_quiet (fail)
      go_wp2
      go_roundw
      case rel => exact ⟨k + 1, acc + (bz sv).size, _, by omega, by go_num, by go_num, by omega, Lib.hid (by rw [HS.out, hs.out, HSZ.out]), by first | rfl | rw [World.drewN_drewN]⟩
      case measure => simp [intOf]; omega
    · have hkI : ¬ (k : Int) < R.seen.length := by omega
      have hke : k = R.seen.length := by omega
      have HQ := Lib.hid (show (acc : Int) = (qall R : Int) by rw [HA.out, hs.out, hke])
      clear hke
      go_wp2
      go_ret
      exact ⟨by rw [← HQ.out]; rfl, q, rfl⟩
theorem qall_le (R : RS) (hB : ∀ s, s ∈ R.seenB → s.length ≤ 40000) : qall R ≤ R.seen.length * 40000 := by
  unfold qall
  generalize R.seen = l
  induction l with
  | nil => simp
  | cons p l ih =>
    have := getD_le hB p.2
    rw [List.map_cons, List.sum_cons, List.length_cons, Nat.add_mul]
    omega
set_option maxRecDepth 100000 in
set_option maxHeartbeats 2000000 in
theorem qgrows_any (h : QInv Q R w) (h1 : R.seen.length ≤ 90000) (h2 : R.seenB.length ≤ 90000) (hK : ∀ p, p ∈ R.seen → p.2 < R.seenB.length) (hB : ∀ s, s ∈ R.seenB → s.length ≤ 40000) (y : Int) (hy : y ≤ 8000000) :
    Calls Tryz.prog 65 #[.pointer (some ⟨Q.b, 0, none⟩), .int .i64 y] w fun e w' => e = .returned (.bool (qgrows R y)) ∧ ∃ q, w' = w.drewN q := by
  have c5 := blk_cell h.blk 5 (v := .int .i64 R.room) rfl
  have hA := fun n => qall_any (w := w.drewN n) (h.heap (fun _ _ => rfl)) h1 h2 hK hB
  have hle := qall_le R hB
  have HG := Lib.hid (show qgrows R y = (decide (0 < y) && decide ((R.room : Int) < (qall R : Int) + y)) from rfl)
  rw [HG.out]
  clear HG
  generalize qall R = m at *
  have hm : m ≤ 90000 * 40000 := Nat.le_trans hle (Nat.mul_le_mul_right _ h1)
  have HA := Lib.hid hA
  clear h hA hK hB hle
  by_cases hy0 : 0 < y
  · have t1 : decide (0 < y) = true := decide_eq_true hy0
    have hw : IntKind.i64.wrap ((m : Int) + y) = (m : Int) + y := IntWalk.i64_in _ ⟨by omega, by omega⟩
    obtain ⟨bb, hbb⟩ : ∃ bb, bb = decide ((R.room : Int) < (m : Int) + y) := ⟨_, rfl⟩
    rw [← hbb, t1, Bool.true_and]
    go_enter Tryz.func65, Tryz.ntmps65
    go_upto_region 1 with (fail)
    go_quiet ((go_at_call 81; with_reducible exact Calls.quiet_of (HA.out _)))
    go_wp2
    go_ret
    exact ⟨by subst hbb; rfl, _, rfl⟩
  · have t1 : decide (0 < y) = false := decide_eq_false hy0
    rw [t1, Bool.false_and]
    go_enter Tryz.func65, Tryz.ntmps65
    go_upto_region 1 with (fail)
    go_quiet (fail)
    go_wp2
    go_ret
    exact ⟨rfl, _, rfl⟩
/-- What Content says. -/
def qcont (R : RS) (p : List UInt8) : List UInt8 × Bool := match findL R.seen p with
  | none => ([], false)
  | some i => (R.seenB.getD i [], true)
theorem findL_in {l : List (List UInt8 × Nat)} {p : List UInt8} {i : Nat} (h : findL l p = some i) : ∃ q, q ∈ l ∧ q.2 = i := ⟨_, findL_mem h, rfl⟩
set_option maxRecDepth 100000 in
theorem qcontent_any (h : QInv Q R w) (h1 : R.seen.length ≤ 90000) (_h2 : R.seenB.length ≤ 90000) (hK : ∀ p, p ∈ R.seen → p.2 < R.seenB.length) (p : ByteArray) :
    Calls Tryz.prog 37 #[.pointer (some ⟨Q.b, 0, none⟩), .string p] w fun e w' => e = .returned (.tuple #[.string (bz (qcont R p.data.toList).1), .bool (qcont R p.data.toList).2]) ∧ Same w w' := by
  have c0 := blk_cell h.blk 0 (v := Q.v 0) rfl
  have c2 := blk_cell h.blk 2 (v := Q.v 2) rfl
  have HF := Lib.hid (qfind_any (h.row 0 (.inl (by decide))) (by show R.seen.length ≤ _; omega) p)
  change Hid (Calls _ _ _ _ fun e w' => e = .returned (.int .i64 (fiI (findL R.seen p.data.toList))) ∧ w = w') at HF
  obtain ⟨a2, cap2, e2, hc2⟩ := str_cells (h.row 2 (.inl (by decide)))
  change Q.v 2 = .slice a2 R.seenB.length cap2 at e2
  rw [e2] at c2
  unfold qcont
  cases hq : findL R.seen p.data.toList with
  | none =>
    rw [hq] at HF
    clear h hc2 e2 hq hK
    go_enter Tryz.func37, Tryz.ntmps37
    go_wp2_with (go_at_call 63; (with_reducible refine HF.out.mono ?_); rintro e w1 ⟨rfl, rfl⟩; rw [show fiI none = -1 from rfl])
    go_ret2
    exact ⟨rfl, Same.refl _⟩
  | some i =>
    rw [hq] at HF
    obtain ⟨q, hqm, hqi⟩ := findL_in hq
    have hi : i < R.seenB.length := by rw [← hqi]; exact hK q hqm
    obtain ⟨g2, rfl, hg2, q2⟩ := hc2 i hi
    obtain ⟨sv, hsv⟩ : ∃ sv, sv = R.seenB.getD i [] := ⟨_, rfl⟩
    simp only
    rw [← hsv] at q2 ⊢
    have hiI : (i : Int) < R.seenB.length := by omega
    have s0 : ¬ (i : Int) < 0 := by omega
    have s1 : (0 : Int) ≤ i := by omega
    clear h hc2 e2 hq hK hsv hqm hqi
    go_enter Tryz.func37, Tryz.ntmps37
    go_wp2_with (go_at_call 63; (with_reducible refine HF.out.mono ?_); rintro e w1 ⟨rfl, rfl⟩; rw [show fiI (some i) = (i : Int) from rfl])
    all_goals first
      | (go_ret2; exact ⟨rfl, Same.refl _⟩)
      | (go_quiet (fail); go_wp2; go_ret2; exact ⟨rfl, (Same.refl _).drewN _⟩)
end Go.Proofs.YtkfncnpeockiaaaGreatDoor

namespace Go.Proofs.YtkfncnpeockiaaaGreatDoor
open Go.RowKit

def isDigB (c : Int) : Bool := decide (48 ≤ c ∧ c ≤ 57)
def lowI (c : Int) : Int := if 65 ≤ c ∧ c ≤ 90 then c + 32 else c
def isLetB (c : Int) : Bool := decide (c = 95 ∨ (97 ≤ lowI c ∧ lowI c ≤ 122))

set_option maxHeartbeats 400000
theorem ret_bool {a b : Bool} (h : a = b) : Ending.returned (.bool a) = .returned (.bool b) := by rw [h]
theorem ret_int {k : IntKind} {a b : Int} (h : a = b) : Ending.returned (.int k a) = .returned (.int k b) := by rw [h]

end Go.Proofs.YtkfncnpeockiaaaGreatDoor

namespace Go.Proofs.YtkfncnpeockiaaaGreatDoor
open Go.RowKit
set_option maxHeartbeats 400000

def letB (c : Int) : Bool := decide ((97 ≤ c ∧ c ≤ 122) ∨ (65 ≤ c ∧ c ≤ 90) ∨ c = 95)
theorem low_hi {c : Int} (h : 65 ≤ c ∧ c ≤ 90) : lowI c = c + 32 := by simp [lowI, h]
theorem low_eq {c : Int} (h : ¬ (65 ≤ c ∧ c ≤ 90)) : lowI c = c := by simp only [lowI, if_neg h]
theorem low_bd (c : Int) (hc : 0 ≤ c ∧ c ≤ 255) : 0 ≤ lowI c ∧ lowI c ≤ 255 := by unfold lowI; split <;> omega

theorem digit_any (c : Int) (w : World) : Calls Tryz.prog 80 #[.int .u8 c] w fun e w' => e = .returned (.bool (isDigB c)) ∧ w = w' := by
  by_cases h1 : 48 ≤ c
  · by_cases h2 : c ≤ 57
    · have E := Lib.hid (show isDigB c = true by simp [isDigB, h1, h2])
      go_enter Tryz.func80, Tryz.ntmps80
      go_wp2
      go_ret
      exact ⟨ret_bool E.out.symm, rfl⟩
    · have E := Lib.hid (show isDigB c = false by simp [isDigB]; omega)
      go_enter Tryz.func80, Tryz.ntmps80
      go_wp2
      go_ret
      exact ⟨ret_bool E.out.symm, rfl⟩
  · have E := Lib.hid (show isDigB c = false by simp [isDigB]; omega)
    go_enter Tryz.func80, Tryz.ntmps80
    go_wp2
    go_ret
    exact ⟨ret_bool E.out.symm, rfl⟩

theorem letter_any (c : Int) (w : World) : Calls Tryz.prog 79 #[.int .u8 c] w fun e w' => e = .returned (.bool (letB c)) ∧ w = w' := by
  by_cases h1 : 97 ≤ c
  · have n1 : ¬ c ≤ 90 := by omega
    have t0 : (c == 95) = false := by simp; omega
    have g1 : 65 ≤ c := by omega
    by_cases h2 : c ≤ 122
    · have E := Lib.hid (show letB c = true by simp [letB]; omega)
      go_enter Tryz.func79, Tryz.ntmps79
      go_wp2
      go_ret
      exact ⟨ret_bool E.out.symm, rfl⟩
    · have E := Lib.hid (show letB c = false by simp [letB]; omega)
      go_enter Tryz.func79, Tryz.ntmps79
      go_wp2
      go_ret
      exact ⟨ret_bool E.out.symm, rfl⟩
  · by_cases h2 : 65 ≤ c
    · by_cases h3 : c ≤ 90
      · have E := Lib.hid (show letB c = true by simp [letB]; omega)
        go_enter Tryz.func79, Tryz.ntmps79
        go_wp2
        go_ret
        exact ⟨ret_bool E.out.symm, rfl⟩
      · have E := Lib.hid (show letB c = (c == 95) by
          by_cases h : c = 95
          · subst h; rfl
          · have : (c == 95) = false := by simpa using h
            rw [this]; simp [letB]; omega)
        go_enter Tryz.func79, Tryz.ntmps79
        go_wp2
        go_ret
        exact ⟨ret_bool E.out.symm, rfl⟩
    · have t0 : (c == 95) = false := by simp; omega
      have E := Lib.hid (show letB c = false by simp [letB]; omega)
      go_enter Tryz.func79, Tryz.ntmps79
      go_wp2
      go_ret
      exact ⟨ret_bool E.out.symm, rfl⟩
end Go.Proofs.YtkfncnpeockiaaaGreatDoor

namespace Go.Proofs.YtkfncnpeockiaaaGreatDoor
open Go.RowKit

theorem in_of (c : UInt8) : inPathB c = (letB c.toNat || (isDigB c.toNat || (c.toNat == 46 || (c.toNat == 45 || c.toNat == 47)))) := by
  rw [Bool.eq_iff_iff]
  simp only [inPathB, letB, isDigB, Bool.or_eq_true, Bool.and_eq_true, decide_eq_true_eq, beq_iff_eq]
  omega
theorem all_snocP (s : ByteArray) (k : Nat) (h : k < s.size) (p : UInt8 → Bool) : (s.data.toList.take (k + 1)).all p = ((s.data.toList.take k).all p && p s[k]) := by
  have : s.data.toList.take (k + 1) = s.data.toList.take k ++ [s[k]] := by rw [take_snoc _ _ (by simpa using h)]; rfl
  rw [this]; simp
def qallP (l : List UInt8) : Bool := l.all inPathB

set_option maxRecDepth 100000 in
set_option maxHeartbeats 4000000 in
theorem qpath_any (s : ByteArray) (hs : s.size ≤ 1000000) (w : World) :
    Calls Tryz.prog 61 #[.string s] w fun e w' => e = .returned (.bool (pathB s.data.toList)) ∧ w = w' := by
  have hlen : s.data.toList.length = s.size := by simp
  have HP := Lib.hid (show pathB s.data.toList = (decide (1 ≤ s.size) && (decide (s.size ≤ 40) && qallP s.data.toList)) by
    unfold pathB qallP
    rw [hlen, Bool.and_assoc]
    congr 1
    rw [Bool.eq_iff_iff, decide_eq_true_iff, decide_eq_true_iff]
    rw [← hlen]
    cases s.data.toList <;> simp)
  rw [HP.out]
  go_enter Tryz.func61, Tryz.ntmps61
  go_wp2
  go_loop [3] (fun i => ∃ k : Nat, k ≤ s.size ∧ i = .int .i64 k ∧ Hid (qallP (s.data.toList.take k) = true)) (fun i => s.size - (intOf i).toNat)
  case atStart => exact ⟨0, Nat.zero_le _, rfl, Lib.hid (by simp [qallP])⟩
  case round =>
    obtain ⟨k, hk, rfl, hall⟩ := hrel
    by_cases hlt : k < s.size
    · have HS := Lib.hid (all_snocP s k hlt inPathB)
      have HI := Lib.hid (in_of s[k])
      have hkI : (k : Int) < s.size := by omega
      cases hl : letB (s[k]).toNat
      · cases hdg : isDigB (s[k]).toNat
        · have HL := Lib.hid hl; have HG := Lib.hid hdg; clear hl hdg
          by_cases c1 : ((s[k]).toNat : Int) = 46
          · have m1 : (((s[k]).toNat : Int) != 46) = false := by simpa using c1
            have HK := Lib.hid (show inPathB s[k] = true by rw [HI.out]; have : (s[k]).toNat = 46 := by omega
                                                            simp [this])
            go_wp2_with (first
              | (go_at_call 79; refine (letter_any _ _).mono ?_; rintro e w' ⟨rfl, rfl⟩; first | rw [HL.out] | rw [show letB 46 = false by decide] | rw [show letB 45 = false by decide] | rw [show letB 47 = false by decide])
              | (go_at_call 80; refine (digit_any _ _).mono ?_; rintro e w' ⟨rfl, rfl⟩; first | rw [HG.out] | rw [show isDigB 46 = false by decide] | rw [show isDigB 45 = false by decide] | rw [show isDigB 47 = false by decide]))
            go_round
            case rel => exact ⟨k + 1, by omega, by go_num, Lib.hid (by unfold qallP at *; rw [HS.out, hall.out, HK.out]; rfl)⟩
            case measure => simp [intOf]; omega
          have t1 : (((s[k]).toNat : Int) == 46) = false := by simpa using c1
          have n1 : (((s[k]).toNat : Int) != 46) = true := by simpa using c1
          by_cases c2 : ((s[k]).toNat : Int) = 45
          · have m2 : (((s[k]).toNat : Int) != 45) = false := by simpa using c2
            have HK := Lib.hid (show inPathB s[k] = true by rw [HI.out]; have : (s[k]).toNat = 45 := by omega
                                                            simp [this])
            go_wp2_with (first
              | (go_at_call 79; refine (letter_any _ _).mono ?_; rintro e w' ⟨rfl, rfl⟩; first | rw [HL.out] | rw [show letB 46 = false by decide] | rw [show letB 45 = false by decide] | rw [show letB 47 = false by decide])
              | (go_at_call 80; refine (digit_any _ _).mono ?_; rintro e w' ⟨rfl, rfl⟩; first | rw [HG.out] | rw [show isDigB 46 = false by decide] | rw [show isDigB 45 = false by decide] | rw [show isDigB 47 = false by decide]))
            go_round
            case rel => exact ⟨k + 1, by omega, by go_num, Lib.hid (by unfold qallP at *; rw [HS.out, hall.out, HK.out]; rfl)⟩
            case measure => simp [intOf]; omega
          have t2 : (((s[k]).toNat : Int) == 45) = false := by simpa using c2
          have n2 : (((s[k]).toNat : Int) != 45) = true := by simpa using c2
          by_cases c3 : ((s[k]).toNat : Int) = 47
          · have m3 : (((s[k]).toNat : Int) != 47) = false := by simpa using c3
            have HK := Lib.hid (show inPathB s[k] = true by rw [HI.out]; have : (s[k]).toNat = 47 := by omega
                                                            simp [this])
            go_wp2_with (first
              | (go_at_call 79; refine (letter_any _ _).mono ?_; rintro e w' ⟨rfl, rfl⟩; first | rw [HL.out] | rw [show letB 46 = false by decide] | rw [show letB 45 = false by decide] | rw [show letB 47 = false by decide])
              | (go_at_call 80; refine (digit_any _ _).mono ?_; rintro e w' ⟨rfl, rfl⟩; first | rw [HG.out] | rw [show isDigB 46 = false by decide] | rw [show isDigB 45 = false by decide] | rw [show isDigB 47 = false by decide]))
            go_round
            case rel => exact ⟨k + 1, by omega, by go_num, Lib.hid (by unfold qallP at *; rw [HS.out, hall.out, HK.out]; rfl)⟩
            case measure => simp [intOf]; omega
          have t3 : (((s[k]).toNat : Int) == 47) = false := by simpa using c3
          have n3 : (((s[k]).toNat : Int) != 47) = true := by simpa using c3
          have HF := Lib.hid (show (decide (1 ≤ s.size) && (decide (s.size ≤ 40) && qallP s.data.toList)) = false by
            have h1 : inPathB s[k] = false := by
              rw [HI.out, HL.out, HG.out]
              have a1 : ¬ (s[k]).toNat = 46 := by omega
              have a2 : ¬ (s[k]).toNat = 45 := by omega
              have a3 : ¬ (s[k]).toNat = 47 := by omega
              simp [a1, a2, a3]
            have : qallP s.data.toList = false := by
              unfold qallP
              rw [← List.take_append_drop (k + 1) s.data.toList, List.all_append, HS.out, h1]; simp
            rw [this]; simp)
          go_wp2_with (first
            | (go_at_call 79; refine (letter_any _ _).mono ?_; rintro e w' ⟨rfl, rfl⟩; first | rw [HL.out] | rw [show letB 46 = false by decide] | rw [show letB 45 = false by decide] | rw [show letB 47 = false by decide])
            | (go_at_call 80; refine (digit_any _ _).mono ?_; rintro e w' ⟨rfl, rfl⟩; first | rw [HG.out] | rw [show isDigB 46 = false by decide] | rw [show isDigB 45 = false by decide] | rw [show isDigB 47 = false by decide]))
          go_ret
          exact ⟨ret_bool HF.out.symm, rfl⟩
        · have HK := Lib.hid (show inPathB s[k] = true by rw [HI.out, hdg]; simp)
          have HL := Lib.hid hl; have HG := Lib.hid hdg; clear hl hdg
          go_wp2_with (first
            | (go_at_call 79; refine (letter_any _ _).mono ?_; rintro e w' ⟨rfl, rfl⟩; first | rw [HL.out] | rw [show letB 46 = false by decide] | rw [show letB 45 = false by decide] | rw [show letB 47 = false by decide])
            | (go_at_call 80; refine (digit_any _ _).mono ?_; rintro e w' ⟨rfl, rfl⟩; first | rw [HG.out] | rw [show isDigB 46 = false by decide] | rw [show isDigB 45 = false by decide] | rw [show isDigB 47 = false by decide]))
          go_round
          case rel => exact ⟨k + 1, by omega, by go_num, Lib.hid (by unfold qallP at *; rw [HS.out, hall.out, HK.out]; rfl)⟩
          case measure => simp [intOf]; omega
      · have HK := Lib.hid (show inPathB s[k] = true by rw [HI.out, hl]; simp)
        have HL := Lib.hid hl; clear hl
        go_wp2_with (go_at_call 79; refine (letter_any _ _).mono ?_; rintro e w' ⟨rfl, rfl⟩; first | rw [HL.out] | rw [show letB 46 = false by decide] | rw [show letB 45 = false by decide] | rw [show letB 47 = false by decide])
        go_round
        case rel => exact ⟨k + 1, by omega, by go_num, Lib.hid (by unfold qallP at *; rw [HS.out, hall.out, HK.out]; rfl)⟩
        case measure => simp [intOf]; omega
    · have HQ := Lib.hid (show qallP s.data.toList = true by rw [← hall.out, List.take_of_length_le (by simp; omega)])
      have hkI : ¬ (k : Int) < s.size := by omega
      go_wp2
      all_goals go_ret
      all_goals exact ⟨ret_bool (by
        rw [HQ.out, Bool.and_true, Bool.eq_iff_iff, Bool.and_eq_true, decide_eq_true_iff, decide_eq_true_iff]
        simp only [decide_eq_true_iff, Bool.false_eq_true, false_iff]
        omega), rfl⟩
end Go.Proofs.YtkfncnpeockiaaaGreatDoor

namespace Go.Proofs.YtkfncnpeockiaaaGreatDoor
open Go.RowKit
variable {w w' : World} {Q : QL} {R : RS}

theorem qoff_some {r : Int × RS} (h : qoff R = some r) : qbegA R = (r.1, false) ∧ r.1 ≠ 0 ∧ qbegS R = r.2 := by
  unfold qoff at h
  unfold qbegA qbegS
  by_cases ho : R.off = true
  · rw [if_pos ho] at h ⊢
    rw [if_pos ho]
    cases h
    exact ⟨rfl, (show (33 : Int) ≠ 0 by decide), rfl⟩
  · rw [if_neg ho] at h ⊢
    rw [if_neg ho]
    by_cases ht : tellL R.tells ((R.count + 1 : Nat) : Int) = 0
    · rw [if_pos ht] at h; cases h
    · rw [if_neg ht] at h ⊢
      cases h
      exact ⟨rfl, ht, rfl⟩
theorem qoff_none (h : qoff R = none) : qbegA R = (0, qdn (qbeg R)) ∧ qbegS R = qbeg R := by
  unfold qoff at h
  unfold qbegA qbegS
  by_cases ho : R.off = true
  · rw [if_pos ho] at h; cases h
  · rw [if_neg ho] at h ⊢
    rw [if_neg ho]
    by_cases ht : tellL R.tells ((R.count + 1 : Nat) : Int) = 0
    · rw [if_pos ht]
      exact ⟨rfl, rfl⟩
    · rw [if_neg ht] at h; cases h
/-- begin, where the call is not to be done. -/
theorem beg_some (h : QInv Q R w) (hn : R.count ≤ 100000) (hl : R.tells.length ≤ 100000) {r : Int × RS} (ho : qoff R = some r) :
    r.1 ≠ 0 ∧ Calls Tryz.prog 60 #[.pointer (some ⟨Q.b, 0, none⟩)] w fun e w' => e = .returned (.tuple #[.int .i64 r.1, .bool false]) ∧ QInv Q r.2 w' ∧ QStep Q w Q w' := by
  obtain ⟨h1, h2, h3⟩ := qoff_some ho
  have := qbegin_any h hn hl
  rw [h1, h3] at this
  exact ⟨h2, this⟩
theorem beg_none (h : QInv Q R w) (hn : R.count ≤ 100000) (hl : R.tells.length ≤ 100000) (ho : qoff R = none) :
    Calls Tryz.prog 60 #[.pointer (some ⟨Q.b, 0, none⟩)] w fun e w' => e = .returned (.tuple #[.int .i64 0, .bool (qdn (qbeg R))]) ∧ QInv Q (qbeg R) w' ∧ QStep Q w Q w' := by
  obtain ⟨h1, h3⟩ := qoff_none ho
  have := qbegin_any h hn hl
  rw [h1, h3] at this
  exact this
/-- The rows' bounds. -/
structure QBd (R : RS) : Prop where
  cnt : R.count ≤ 90000
  tel : R.tells.length ≤ 90000
  wts : R.waits.length ≤ 90000
  sen : R.seen.length ≤ 90000
  sur : R.sure.length ≤ 90000
  sB : R.seenB.length ≤ 80000
  lenB : R.sureB.length = R.seenB.length
  seenK : ∀ p, p ∈ R.seen → p.2 < R.seenB.length
  sureK : ∀ p, p ∈ R.sure → p.2 < R.seenB.length
  wK : ∀ c, c ∈ R.waits → c.QOk R.seenB.length
  bK : ∀ s, s ∈ R.seenB → s.length ≤ 40000
  cK : ∀ s, s ∈ R.sureB → s.length ≤ 40000
theorem find_any2 (h : QInv Q R w) (hb : R.seen.length ≤ 90000) (p : ByteArray) : ∀ {r}, findL R.seen p.data.toList = r →
    Calls Tryz.prog 63 #[Q.v 0, .string p] w fun e w' => e = .returned (.int .i64 (fiI r)) ∧ w = w' := fun hr => by
  have := qfind_any (h.row 0 (.inl (by decide))) (show R.seen.length ≤ 100000 by omega) p
  change Calls _ _ _ _ fun e w' => e = .returned (.int .i64 (fiI (findL R.seen p.data.toList))) ∧ w = w' at this
  rw [hr] at this
  exact this

set_option maxRecDepth 100000 in
set_option maxHeartbeats 2000000 in
theorem qdelete_any (p : ByteArray) (hp : p.size ≤ 1000000) (h : QInv Q R w) (hd : QBd R) :
    Calls Tryz.prog 28 #[.pointer (some ⟨Q.b, 0, none⟩), .string p] w (QOut Q w (qcall (qdelIn p.data.toList) R)) := by
  unfold qcall
  cases ho : qoff R with
  | some r =>
    obtain ⟨hr, hb⟩ := beg_some h (by have := hd.cnt; omega) (by have := hd.tel; omega) ho
    have HB := Lib.hid hb
    have t1 : (r.1 == 0) = false := by simpa using hr
    clear h hb hd ho
    rw [Option.getD_some]
    obtain ⟨x, T⟩ := r
    simp only at hr t1 HB
    go_enter Tryz.func28, Tryz.ntmps28
    go_wp2_with (go_at_call 60; (with_reducible refine HB.out.mono ?_); rintro e w1 ⟨rfl, hI, hS⟩; have HI := Lib.hid hI; have HS := Lib.hid hS; clear hI hS)
    go_ret
    exact ⟨Q, rfl, HI.out, HS.out⟩
  | none =>
    have HB := Lib.hid (beg_none h (by have := hd.cnt; omega) (by have := hd.tel; omega) ho)
    rw [Option.getD_none]
    have hsen : (qbeg R).seen.length ≤ 90000 := hd.sen
    obtain ⟨dn, hdn⟩ : ∃ dn, dn = qdn (qbeg R) := ⟨_, rfl⟩
    rw [← hdn] at HB ⊢
    have HD := Lib.hid hd
    clear h hd ho hdn
    unfold qdelIn
    cases hq : findL (qbeg R).seen p.data.toList with
    | none =>
      have HQ := Lib.hid hq
      clear hq
      go_enter Tryz.func28, Tryz.ntmps28
      go_wp2_with (first
        | (go_at_call 60; (with_reducible refine HB.out.mono ?_); rintro e w1 ⟨rfl, hI, hS⟩; have HI := Lib.hid hI; have HS := Lib.hid hS; have c0 := blk_cell hI.blk 0 (v := Q.v 0) rfl; clear hI hS)
        | (go_at_call 63; (with_reducible refine (find_any2 HI.out hsen p HQ.out).mono ?_); rintro e w2 ⟨rfl, rfl⟩; rw [show fiI none = -1 from rfl])
        | (go_at_call 62; refine (qend_any HI.out 8 dn).mono ?_; rintro e w3 ⟨Q3, rfl, hI3, hS3⟩))
      go_ret
      exact ⟨Q3, rfl, hI3, HS.out.trans hS3⟩
    | some i =>
      have HQ := Lib.hid hq
      have hC : ∀ w1, QInv Q (qbeg R) w1 → Calls Tryz.prog 64 #[.pointer (some ⟨Q.b, 0, none⟩), .agg #[.int .i64 2, .string p, .int .i64 0, .int .i64 0, .string ⟨#[]⟩]] w1 fun e w' => e = .returned (.tuple #[]) ∧ ∃ Q', QInv Q' (qchange (.remove p.data.toList) (qbeg R)) w' ∧ QStep Q w1 Q' w' := fun w1 hI =>
        qchange_any (.remove p.data.toList) hI (by show p.data.toList.length ≤ 1000000; simpa using hp) HD.out.wts HD.out.sen (by have := HD.out.sB; show R.seenB.length ≤ _; omega) HD.out.bK
      have HC := Lib.hid hC
      have s0 : ¬ (i : Int) < 0 := by omega
      clear hq hC
      go_enter Tryz.func28, Tryz.ntmps28
      go_wp2_with (first
        | (go_at_call 60; (with_reducible refine HB.out.mono ?_); rintro e w1 ⟨rfl, hI, hS⟩; have HI := Lib.hid hI; have HS := Lib.hid hS; have c0 := blk_cell hI.blk 0 (v := Q.v 0) rfl; clear hI hS)
        | (go_at_call 63; (with_reducible refine (find_any2 HI.out hsen p HQ.out).mono ?_); rintro e w2 ⟨rfl, rfl⟩; rw [show fiI (some i) = (i : Int) from rfl])
        | (go_at_call 64; (with_reducible refine (HC.out _ HI.out).mono ?_); rintro e w2 ⟨rfl, Q2, hI2, hS2⟩; have HI2 := Lib.hid hI2; have HS2 := Lib.hid hS2; have HQ2 := Lib.hid hS2.b; clear hI2 hS2)
        | (go_at_call 62; rw [← HQ2.out]; refine (qend_any HI2.out 0 dn).mono ?_; rintro e w3 ⟨Q3, rfl, hI3, hS3⟩))
      go_ret
      exact ⟨Q3, rfl, hI3, HS.out.trans (HS2.out.trans hS3)⟩
end Go.Proofs.YtkfncnpeockiaaaGreatDoor
