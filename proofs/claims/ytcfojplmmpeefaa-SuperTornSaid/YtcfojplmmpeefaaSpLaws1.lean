/-
  Layer 10, the statements' helpers great, same and works, and the walk of SuperReads: it returns true for every string of at most 2^63 - 1 bytes and changes nothing that was there.
-/
import Derived.Test.YtcfojplmmpeefaaSpDec3
namespace Go.Proofs.Ytcfojplmmpeefaa
open Go.RowKit

set_option maxHeartbeats 1000000 in
theorem s10great_any (a : Option Addr) (cap : Nat) (L : List (List UInt8)) (w : World) (hl : L.length ≤ 9223372036854775807) (hz : ∀ p ∈ L, p.length ≤ 4611686018427387904) (ha : Strs w a L) :
    Calls Try.prog 7 #[.slice a L.length cap] w fun e w' => ∃ g : Bool, e = .returned (.bool g) ∧ (g = false → L.length ≤ 21 ∧ ∀ p ∈ L, p.length ≤ 3000) ∧ w = w' := by
  obtain ⟨n, hn⟩ : ∃ n, n = L.length := ⟨_, rfl⟩
  have HN := Lib.hid hn
  have HA := Lib.hid ha
  have HZ := Lib.hid hz
  have HG := Lib.hid (show ∀ g : Bool, (g = false → L.length ≤ 21 ∧ ∀ p ∈ L, p.length ≤ 3000) → (g = false → L.length ≤ 21 ∧ ∀ p ∈ L, p.length ≤ 3000) from fun _ h => h)
  obtain ⟨R, hR⟩ : ∃ R : Prop, R = (L.length ≤ 21 ∧ ∀ p ∈ L, p.length ≤ 3000) := ⟨_, rfl⟩
  rw [← hR]
  have HR := Lib.hid hR
  rw [← hn] at hl ⊢
  clear hn ha hz hR HG
  go_enter Try.func7, Try.ntmps7
  go_wp2
  go_loopw [3, 4] (fun m i wr => ∃ (k t : Nat), k ≤ n ∧ k ≤ 21 ∧ t ≤ 3000 ∧ i = .int .i64 k ∧ m = .int .i64 t ∧ Hid (∀ p ∈ L.take k, p.length ≤ 3000) ∧ w = wr) (fun _ i _ => n - (intOf i).toNat)
  case atStart => exact ⟨0, 0, by omega, by omega, by omega, rfl, rfl, Lib.hid (fun p hp => absurd hp (by simp)), rfl⟩
  case round =>
    obtain ⟨k, t, hk, hk21, ht, rfl, rfl, hok, rfl⟩ := hrel
    by_cases hlt : k < n
    · have hlt' : k < L.length := by rw [← HN.out]; exact hlt
      obtain ⟨b, off, rfl, hbw, c0⟩ := HA.out k hlt'
      have hzk := HZ.out _ (List.getElem_mem hlt')
      obtain ⟨p, hp⟩ : ∃ p, p = L[k]'hlt' := ⟨_, rfl⟩
      have HP := Lib.hid hp
      have HS := Lib.hid (show L.take (k + 1) = L.take k ++ [p] by rw [hp, List.take_succ_eq_append_getElem hlt'])
      rw [← hp] at c0 hzk
      have hpz := ba_size p
      obtain ⟨l, hl'⟩ : ∃ l, l = p.length := ⟨_, rfl⟩
      have HL := Lib.hid hl'
      rw [← hl'] at hzk hpz
      clear hp hl'
      by_cases hbig : k > 20 ∨ t + l > 3000
      · by_cases h20 : 20 < k
        · have t1 : decide ((20 : Int) < k) = true := decide_eq_true (by omega)
          go_wp2
          go_ret
          exact ⟨true, rfl, fun h => absurd h (by decide), rfl⟩
        · have t1 : decide ((20 : Int) < k) = false := decide_eq_false (by omega)
          have t2 : decide ((3000 : Int) < t + l) = true := decide_eq_true (by omega)
          go_wp2
          go_ret
          exact ⟨true, rfl, fun h => absurd h (by decide), rfl⟩
      · have t1 : decide ((20 : Int) < k) = false := decide_eq_false (by omega)
        have t2 : decide ((3000 : Int) < t + l) = false := decide_eq_false (by omega)
        go_wp2
        go_roundw
        case rel => exact ⟨k + 1, t + l, by omega, by omega, by omega, by go_num, by go_num, Lib.hid (by
          rw [HS.out]
          intro q hq
          rcases List.mem_append.1 hq with hq | hq
          · exact hok.out q hq
          · rw [List.mem_singleton] at hq; rw [hq]; have := HL.out; omega), trivial⟩
        case measure => simp [intOf]; omega
    · have HE := Lib.hid (show R by
        rw [HR.out]
        have := HN.out
        refine ⟨by omega, fun p hp => hok.out p ?_⟩
        rw [List.take_of_length_le (by omega)]; exact hp)
      go_wp2
      go_ret
      exact ⟨false, rfl, fun _ => HE.out, rfl⟩

set_option maxHeartbeats 1000000 in
theorem s10same_any (a a2 : Option Addr) (cap cap2 : Nat) (A B : List (List UInt8)) (w : World) (hl : A.length ≤ 4611686018427387904) (hl2 : B.length ≤ 4611686018427387904) (ha : Strs w a A) (hb : Strs w a2 B) :
    Calls Try.prog 14 #[.slice a A.length cap, .slice a2 B.length cap2] w fun e w' => e = .returned (.bool (decide (A = B))) ∧ Below w.heap.size w w' := by
  obtain ⟨r, hr⟩ : ∃ r, r = decide (A = B) := ⟨_, rfl⟩
  rw [← hr]
  have HR := Lib.hid hr
  obtain ⟨n, hn⟩ : ∃ n, n = A.length := ⟨_, rfl⟩
  obtain ⟨m, hm⟩ : ∃ m, m = B.length := ⟨_, rfl⟩
  have HN := Lib.hid hn
  have HM := Lib.hid hm
  have HA := Lib.hid ha
  have HB := Lib.hid hb
  rw [← hn] at hl ⊢
  rw [← hm] at hl2 ⊢
  clear hn hm ha hb hr
  by_cases hnm : n = m
  case neg =>
    have HE := Lib.hid (show r = false by rw [HR.out]; exact decide_eq_false fun e => hnm (by rw [HN.out, HM.out, e]))
    have t1 : ((n : Int) == m) = false := beq_eq_false_iff_ne.2 (by omega)
    have t2 : ((n : Int) != m) = true := by simpa using (show ¬ (n : Int) = m by omega)
    have t3 : ¬ (n : Int) = m := by omega
    clear hnm
    go_enter Try.func14, Try.ntmps14
    go_wp2
    go_ret
    exact ⟨ret_bool HE.out.symm, Below.refl _ _⟩
  subst hnm
  go_enter Try.func14, Try.ntmps14
  go_wp2
  go_loopw [5] (fun i wr => ∃ k : Nat, k ≤ n ∧ i = .int .i64 k ∧ Hid (A.take k = B.take k) ∧ Hid (Below w.heap.size w wr)) (fun i _ => n - (intOf i).toNat)
  case atStart => exact ⟨0, by omega, rfl, Lib.hid (by simp), Lib.hid (Below.refl _ _)⟩
  case round =>
    obtain ⟨k, hk, rfl, hok, hBl⟩ := hrel
    by_cases hlt : k < n
    · have h1 : k < A.length := by rw [← HN.out]; exact hlt
      have h2 : k < B.length := by rw [← HM.out]; exact hlt
      obtain ⟨b, off, rfl, hbw, c0⟩ := HA.out k h1
      obtain ⟨b2, off2, rfl, hbw2, d0⟩ := HB.out k h2
      rw [← hBl.out.cell hbw] at c0
      rw [← hBl.out.cell hbw2] at d0
      have HS := Lib.hid (show A.take (k + 1) = A.take k ++ [A[k]'h1] by rw [List.take_succ_eq_append_getElem h1])
      have HS2 := Lib.hid (show B.take (k + 1) = B.take k ++ [B[k]'h2] by rw [List.take_succ_eq_append_getElem h2])
      have HX := Lib.hid (show A[k]'h1 ≠ B[k]'h2 → A ≠ B from fun h e => h (by subst e; rfl))
      generalize A[k]'h1 = p at c0 HS HX
      generalize B[k]'h2 = q at d0 HS2 HX
      have hqq := ba_eqb p q
      clear h1 h2
      by_cases hpq : p = q
      · rw [decide_eq_true hpq] at hqq
        have HPQ := Lib.hid hpq
        clear hpq
        go_upto_region 6 with (fail)
        go_quiet (fail)
        all_goals go_wp2
        all_goals go_roundw
        all_goals first
          | exact ⟨k + 1, by omega, by go_num, Lib.hid (by rw [HS.out, HS2.out, hok.out, HPQ.out]), Lib.hid (hBl.out.trans ⟨rfl, rfl, rfl, Nat.le_refl _, fun _ _ => rfl⟩)⟩
          | (simp [intOf]; omega)
      · rw [decide_eq_false hpq] at hqq
        have HE := Lib.hid (show r = false by rw [HR.out]; exact decide_eq_false (HX.out hpq))
        clear hpq
        go_upto_region 6 with (fail)
        go_quiet (fail)
        all_goals go_wp2
        all_goals go_ret
        all_goals exact ⟨ret_bool HE.out.symm, hBl.out.trans ⟨rfl, rfl, rfl, Nat.le_refl _, fun _ _ => rfl⟩⟩
    · have HE := Lib.hid (show r = true by
        rw [HR.out]
        have h := hok.out
        have h1 := HN.out; have h2 := HM.out
        rw [List.take_of_length_le (by omega), List.take_of_length_le (by omega)] at h
        exact decide_eq_true h)
      go_wp2
      go_ret
      exact ⟨ret_bool HE.out.symm, hBl.out⟩
end Go.Proofs.Ytcfojplmmpeefaa
