/-
  The document's answers Name, Quote, Read and Fold of layer 1: each returns its plain function of the bytes and changes nothing that was there. Condition: the string has at most 3000 bytes.
-/
import Derived.Test.YtoeohliniecniaaDoorFigMath
import Derived.LoopTactic
import Derived.Laws.DeepStrings4
import Derived.Lib.Strings
namespace Go.Proofs.YtoeohliniecniaaDoor
open Go.RowKit

theorem nameB_ref {l : List UInt8} (h0 : l ≠ []) (h1 : l.length ≤ 16) : nameB l = (letB (l.headD 0).toNat && l.all okChar) := by
  cases l with
  | nil => exact absurd rfl h0
  | cons a t =>
    simp only [List.length_cons] at h1
    simp only [nameB, List.isEmpty_cons, List.length_cons, List.headD_cons, List.all_cons, okChar, decide_eq_true h1, Bool.not_false, Bool.true_and]
    have : ∀ c : Int, (letB c = true → isDigB c = false) := by
      intro c h
      have := of_decide_eq_true h
      exact decide_eq_false (by omega)
    cases hl : letB a.toNat
    · cases hd : isDigB a.toNat <;> simp
    · rw [this _ hl]; simp

set_option maxRecDepth 100000 in
set_option maxHeartbeats 1000000 in
theorem rname_early (s : ByteArray) (w : World) (h : s.size = 0 ∨ 16 < s.size ∧ s.size ≤ 3000 ∨ (∃ h0 : 0 < s.size, s.size ≤ 16 ∧ letB (s[0]).toNat = false)) :
    Calls Tryd.prog 16 #[.string s] w fun e w' => e = .returned (.bool false) ∧ w = w' := by
  rcases h with h | ⟨h, h3⟩ | ⟨h0, h1, h2⟩
  · obtain ⟨te, te'⟩ := empty_yes h
    clear h
    go_enter Tryd.func16, Tryd.ntmps16
    go_wp2
    go_ret
    exact ⟨rfl, rfl⟩
  · obtain ⟨te, te'⟩ := empty_no (s := s) (by omega)
    have t16 : decide (16 < (s.size : Int)) = true := by simp; omega
    clear h
    go_enter Tryd.func16, Tryd.ntmps16
    go_wp2
    go_ret
    exact ⟨rfl, rfl⟩
  · obtain ⟨te, te'⟩ := empty_no h0
    have t16 : decide (16 < (s.size : Int)) = false := by simp; omega
    have H2 := Lib.hid h2; clear h2
    go_enter Tryd.func16, Tryd.ntmps16
    go_wp2_with (go_at_call 31; refine (letter_any _ _).mono ?_; rintro e w' ⟨rfl, rfl⟩; rw [H2.out])
    go_ret
    exact ⟨rfl, rfl⟩

def allOk (l : List UInt8) : Bool := l.all okChar
theorem all_snoc (s : ByteArray) (k : Nat) (h : k < s.size) (p : UInt8 → Bool) : (s.data.toList.take (k + 1)).all p = ((s.data.toList.take k).all p && p s[k]) := by
  rw [take_snoc s k h]; simp

set_option maxRecDepth 100000 in
set_option maxHeartbeats 2000000 in
theorem rname_loop (s : ByteArray) (w : World) (te : s.toList.isEmpty = false) (te' : ¬ s.toList = []) (t16 : decide (16 < (s.size : Int)) = false) (h0 : 0 < s.size) (h16 : s.size ≤ 16) (hd : Hid (letB (s[0]).toNat = true)) :
    Calls Tryd.prog 16 #[.string s] w fun e w' => e = .returned (.bool (allOk s.data.toList)) ∧ w = w' := by
  go_enter Tryd.func16, Tryd.ntmps16
  go_wp2_with (go_at_call 31; refine (letter_any _ _).mono ?_; rintro e w' ⟨rfl, rfl⟩; rw [hd.out])
  go_loop [3] (fun i => ∃ k : Nat, k ≤ s.size ∧ i = .int .i64 k ∧ Hid ((s.data.toList.take k).all okChar = true)) (fun i => s.size - (intOf i).toNat)
  case atStart => exact ⟨0, Nat.zero_le _, rfl, Lib.hid (by simp)⟩
  case round =>
    obtain ⟨k, hk, rfl, hall⟩ := hrel
    by_cases hlt : k < s.size
    · have HS := Lib.hid (all_snoc s k hlt okChar)
      cases hl : letB (s[k]).toNat
      · cases hdg : isDigB (s[k]).toNat
        · have HF := Lib.hid (show allOk s.data.toList = false by
            unfold allOk
            have h1 : okChar s[k] = false := by simp [okChar, hl, hdg]
            rw [← List.take_append_drop (k + 1) s.data.toList, List.all_append, HS.out, h1]; simp)
          have HL := Lib.hid hl; have HG := Lib.hid hdg; clear hl hdg
          go_wp2_with (first
            | (go_at_call 31; refine (letter_any _ _).mono ?_; rintro e w' ⟨rfl, rfl⟩; rw [HL.out])
            | (go_at_call 32; refine (digit_any _ _).mono ?_; rintro e w' ⟨rfl, rfl⟩; rw [HG.out]))
          go_ret
          exact ⟨ret_bool HF.out.symm, rfl⟩
        · have HK := Lib.hid (show okChar s[k] = true by simp [okChar, hdg])
          have HL := Lib.hid hl; have HG := Lib.hid hdg; clear hl hdg
          go_wp2_with (first
            | (go_at_call 31; refine (letter_any _ _).mono ?_; rintro e w' ⟨rfl, rfl⟩; rw [HL.out])
            | (go_at_call 32; refine (digit_any _ _).mono ?_; rintro e w' ⟨rfl, rfl⟩; rw [HG.out]))
          go_round
          case rel => exact ⟨k + 1, by omega, by go_num, Lib.hid (by rw [HS.out, hall.out, HK.out]; rfl)⟩
          case measure => simp [intOf]; omega
      · have HK := Lib.hid (show okChar s[k] = true by simp [okChar, hl])
        have HL := Lib.hid hl; clear hl
        go_wp2_with (go_at_call 31; refine (letter_any _ _).mono ?_; rintro e w' ⟨rfl, rfl⟩; rw [HL.out])
        go_round
        case rel => exact ⟨k + 1, by omega, by go_num, Lib.hid (by rw [HS.out, hall.out, HK.out]; rfl)⟩
        case measure => simp [intOf]; omega
    · go_wp2
      go_ret
      exact ⟨ret_bool (by rw [← hall.out, List.take_of_length_le (by simp; omega)]; rfl), rfl⟩

theorem rname_any (s : ByteArray) (w : World) (hs : s.size ≤ 3000) :
    Calls Tryd.prog 16 #[.string s] w fun e w' => e = .returned (.bool (nameB s.data.toList)) ∧ w = w' := by
  have hlen : s.data.toList.length = s.size := by simp
  by_cases h0 : 0 < s.size
  · have hne : s.data.toList ≠ [] := by intro e; rw [e] at hlen; simp at hlen; omega
    by_cases h1 : s.size ≤ 16
    · cases h2 : letB (s[0]).toNat
      · refine (rname_early s w (.inr (.inr ⟨h0, h1, h2⟩))).mono fun e w' ⟨he, hb⟩ => ⟨?_, hb⟩
        rw [he, nameB_ref hne (by omega), head_zero h0, h2]; rfl
      · obtain ⟨te, te'⟩ := empty_no h0
        refine (rname_loop s w te te' (by simp; omega) h0 h1 (Lib.hid h2)).mono fun e w' ⟨he, hb⟩ => ⟨?_, hb⟩
        rw [he, nameB_ref hne (by omega), head_zero h0, h2]; rfl
    · refine (rname_early s w (.inr (.inl ⟨by omega, hs⟩))).mono fun e w' ⟨he, hb⟩ => ⟨?_, hb⟩
      rw [he, name_no (.inr (.inl (by omega)))]
  · refine (rname_early s w (.inl (by omega))).mono fun e w' ⟨he, hb⟩ => ⟨?_, hb⟩
    rw [he, name_no (.inl (List.eq_nil_of_length_eq_zero (by omega)))]
end Go.Proofs.YtoeohliniecniaaDoor
