/-
  Layer 7: isPath: is a name a path. Condition: the name has at most 2^63 - 1 bytes.
-/
import Derived.Test.YtcpkbklnlnoonaaDoorShelf
import Derived.Test.YtcpkbklnlnoonaaDoorDskRow
namespace Go.Proofs.YtcpkbklnlnoonaaDoor
open Go.RowKit

def inPathB (c : UInt8) : Bool := (97 ≤ c.toNat && c.toNat ≤ 122) || (65 ≤ c.toNat && c.toNat ≤ 90) || (48 ≤ c.toNat && c.toNat ≤ 57) || c.toNat == 46 || c.toNat == 95 || c.toNat == 45 || c.toNat == 47
def pathB (l : List UInt8) : Bool := decide (l ≠ []) && decide (l.length ≤ 40) && l.all inPathB
theorem idx_in (c : UInt8) : decide ((0 : Int) ≤ Lib.indexByte [46, 95, 45, 47] c) = (c.toNat == 46 || c.toNat == 95 || c.toNat == 45 || c.toNat == 47) := by
  have h : ∀ n : Fin 256, decide ((0 : Int) ≤ Lib.indexByte [46, 95, 45, 47] (n.val.toUInt8)) = ((n.val == 46) || (n.val == 95) || (n.val == 45) || (n.val == 47)) := by decide +kernel
  have := h ⟨c.toNat, c.toNat_lt⟩
  simpa using this

set_option maxHeartbeats 1000000 in
theorem isin_any (c : UInt8) (w : World) : Calls Tryd.prog 33 #[.int .u8 (c.toNat : Int)] w fun e w' => e = .returned (.bool (inPathB c)) ∧ w = w' := by
  have hI := idx_in c
  have hS := fun w => Tryd.strings_IndexByte ⟨#[46, 95, 45, 47]⟩ (c.toNat : Int) w
  rw [show ((c.toNat : Int)).toNat.toUInt8 = c by simp, show (⟨#[46, 95, 45, 47]⟩ : ByteArray).data.toList = [46, 95, 45, 47] from rfl] at hS
  obtain ⟨r, hr⟩ : ∃ r, r = inPathB c := ⟨_, rfl⟩
  rw [← hr]
  unfold inPathB at hr
  generalize Lib.indexByte [46, 95, 45, 47] c = ix at hI hS
  rw [Bool.or_assoc, Bool.or_assoc, Bool.or_assoc, ← Bool.or_assoc (c.toNat == 46), ← Bool.or_assoc (c.toNat == 46 || c.toNat == 95), ← hI] at hr
  have HR := Lib.hid hr
  have hc := c.toNat_lt
  generalize c.toNat = m at *
  clear hr hI
  have HR' := HR.out
  by_cases a1 : 97 ≤ m ∧ m ≤ 122
  · have HT := Lib.hid (show r = true by rw [HR.out]; simp [a1.1, a1.2])
    have x1 : (97 : Int) ≤ m := by omega
    have x2 : (m : Int) ≤ 122 := by omega
    clear HR HR' a1
    go_enter Tryd.func33, Tryd.ntmps33
    go_wp2
    all_goals go_ret
    all_goals exact ⟨by rw [HT.out]; rfl, rfl⟩
  · have q1 : (decide (97 ≤ m) && decide (m ≤ 122)) = false := by simp; omega
    by_cases a2 : 65 ≤ m ∧ m ≤ 90
    · have HT := Lib.hid (show r = true by rw [HR.out]; simp [a2.1, a2.2])
      have x0 : ¬ (97 : Int) ≤ m := by omega
      have x0' : (m : Int) < 97 := by omega
      have x1 : (65 : Int) ≤ m := by omega
      have x2 : (m : Int) ≤ 90 := by omega
      clear HR HR' a1 a2 q1
      go_enter Tryd.func33, Tryd.ntmps33
      go_wp2
      all_goals go_ret
      all_goals exact ⟨by rw [HT.out]; rfl, rfl⟩
    · have q2 : (decide (65 ≤ m) && decide (m ≤ 90)) = false := by simp; omega
      by_cases a3 : 48 ≤ m ∧ m ≤ 57
      · have HT := Lib.hid (show r = true by rw [HR.out]; simp [a3.1, a3.2])
        have x0 : (m : Int) < 97 := by omega
        have x1 : (m : Int) < 65 := by omega
        have x2 : (48 : Int) ≤ m := by omega
        have x3 : (m : Int) ≤ 57 := by omega
        clear HR HR' a1 a2 a3 q1 q2
        go_enter Tryd.func33, Tryd.ntmps33
        go_wp2
        all_goals go_ret
        all_goals exact ⟨by rw [HT.out]; rfl, rfl⟩
      · have q3 : (decide (48 ≤ m) && decide (m ≤ 57)) = false := by simp; omega
        have HT := Lib.hid (show r = decide (0 ≤ ix) by rw [HR.out, q1, q2, q3]; simp)
        have a1' : ¬ ((97 : Int) ≤ m ∧ (m : Int) ≤ 122) := by omega
        have a2' : ¬ ((65 : Int) ≤ m ∧ (m : Int) ≤ 90) := by omega
        have a3' : ¬ ((48 : Int) ≤ m ∧ (m : Int) ≤ 57) := by omega
        clear HR HR' a1 a2 a3 q1 q2 q3
        go_enter Tryd.func33, Tryd.ntmps33
        go_wp2_with (go_at_call 39; (with_reducible refine (hS _).mono ?_); rintro e w' ⟨rfl, rfl⟩)
        all_goals first
          | (exfalso; omega)
          | (go_ret; exact ⟨by rw [HT.out]; rfl, rfl⟩)

theorem path_false {l : List UInt8} {k : Nat} (h : k < l.length) (hb : inPathB l[k] = false) : pathB l = false := by
  have : l.all inPathB = false := by
    rw [List.all_eq_false]
    exact ⟨l[k], List.getElem_mem h, by simp [hb]⟩
  unfold pathB
  rw [this, Bool.and_false]
theorem getElem_list (s : ByteArray) (k : Nat) (h : k < s.size) : s[k] = s.data.toList[k]'(by simpa using h) := by simp; rfl
set_option maxHeartbeats 1000000 in
theorem ispath_any (s : ByteArray) (hs : s.size ≤ 9223372036854775807) (w : World) : Calls Tryd.prog 16 #[.string s] w fun e w' => e = .returned (.bool (pathB s.data.toList)) ∧ w = w' := by
  have hl : s.data.toList.length = s.size := by simp
  by_cases h0 : s.size = 0
  · have hn : s.data.toList = [] := List.eq_nil_of_length_eq_zero (by omega)
    have HT := Lib.hid (show pathB s.data.toList = false by rw [hn]; rfl)
    have t1 : (s.toList == []) = true := beq_iff_eq.2 (by rw [ByteArray.toList_eq]; exact hn)
    clear hl h0 hn
    go_enter Tryd.func16, Tryd.ntmps16
    go_wp2
    all_goals go_ret
    all_goals exact ⟨by rw [HT.out]; rfl, rfl⟩
  have hne : s.data.toList ≠ [] := fun e => h0 (by rw [← hl, e]; rfl)
  have t1 : (s.toList == []) = false := beq_eq_false_iff_ne.2 (by rw [ByteArray.toList_eq]; exact hne)
  by_cases h40 : 40 < s.size
  · have HT := Lib.hid (show pathB s.data.toList = false by unfold pathB; rw [show decide (s.data.toList.length ≤ 40) = false by rw [hl]; simp; omega]; simp)
    have t2 : decide ((40 : Int) < (s.size : Int)) = true := decide_eq_true (by omega)
    clear hl h0 hne
    go_enter Tryd.func16, Tryd.ntmps16
    go_wp2
    all_goals go_ret
    all_goals exact ⟨by rw [HT.out]; rfl, rfl⟩
  have t2 : decide ((40 : Int) < (s.size : Int)) = false := decide_eq_false (by omega)
  have HT := Lib.hid (show s.data.toList.all inPathB = true → pathB s.data.toList = true by intro h; unfold pathB; rw [h, hl]; simp only [Bool.and_true, Bool.and_eq_true, decide_eq_true_eq]; exact ⟨hne, by omega⟩)
  have HL := Lib.hid hl
  obtain ⟨r, hr⟩ : ∃ r, r = pathB s.data.toList := ⟨_, rfl⟩
  have HR := Lib.hid hr
  rw [← hr]
  clear hr hl hne h0
  go_enter Tryd.func16, Tryd.ntmps16
  go_wp2
  go_loop [13] (fun iv => ∃ k : Nat, k ≤ s.size ∧ iv = .int .i64 k ∧ Hid ((s.data.toList.take k).all inPathB = true)) (fun iv => s.size - (intOf iv).toNat)
  case atStart => exact ⟨0, by omega, rfl, Lib.hid rfl⟩
  case round =>
    obtain ⟨k, hk, rfl, hI⟩ := hrel
    by_cases hlt : k < s.size
    · have HK := Lib.hid (fun w => isin_any s[k] w)
      have hkl : k < s.data.toList.length := by rw [HL.out]; exact hlt
      cases hb : inPathB s[k] with
      | false =>
        rw [hb] at HK
        have HF := Lib.hid (show pathB s.data.toList = false from path_false hkl (by rw [← getElem_list s k hlt]; exact hb))
        clear hb
        go_wp2_with (go_at_call 33; (with_reducible refine (HK.out _).mono ?_); rintro e w' ⟨rfl, rfl⟩)
        go_ret
        exact ⟨by rw [HR.out, HF.out]; rfl, rfl⟩
      | true =>
        rw [hb] at HK
        have HA := Lib.hid (show (s.data.toList.take (k + 1)).all inPathB = true by
          rw [List.take_add_one, List.getElem?_eq_getElem hkl, List.all_append, hI.out, ← getElem_list s k hlt]
          simp [hb])
        clear hb
        go_wp2_with (go_at_call 33; (with_reducible refine (HK.out _).mono ?_); rintro e w' ⟨rfl, rfl⟩)
        go_round
        case rel => exact ⟨k + 1, by omega, by go_num, HA⟩
        case measure => simp [intOf]; omega
    · have HF := Lib.hid (show pathB s.data.toList = true from HT.out (by
        have := hI.out
        rwa [List.take_of_length_le (by rw [HL.out]; omega)] at this))
      go_wp2
      go_ret
      exact ⟨by rw [HR.out, HF.out]; rfl, rfl⟩
end Go.Proofs.YtcpkbklnlnoonaaDoor
