/-
  Layer 10, the program's check: it returns what is wrong with the files of a super-journal ('ckS') and changes nothing. Condition: none beyond the memory's own.
-/
import Derived.Test.YtcfojplmmpeefaaSpFiles
import Derived.Lib.SlicesS
namespace Go.Proofs.Ytcfojplmmpeefaa
open Go.RowKit

theorem ck_18 {L : List (List UInt8)} (h : L.length < 2 ∨ 12 < L.length) : ckS L = 18 := by rw [ckS, if_pos h]
theorem ck_13 {L : List (List UInt8)} (h2 : 2 ≤ L.length) (h12 : L.length ≤ 12) {k : Nat} (hk : k < L.length) (h : okS L[k] = false) : ckS L = 13 := by
  rw [ckS, if_neg (by omega), if_pos]
  rw [List.all_eq_false]
  exact ⟨L[k], List.getElem_mem hk, by rw [h]; decide⟩
theorem ck_9 {L : List (List UInt8)} (h2 : 2 ≤ L.length) (h12 : L.length ≤ 12) (ha : ∀ p ∈ L, okS p = true) (h : ¬ L.Nodup) : ckS L = 9 := by
  rw [ckS, if_neg (by omega), if_neg, if_neg h]
  have : L.all okS = true := List.all_eq_true.2 ha
  rw [this]; decide
theorem not_nodup {L : List (List UInt8)} {k : Nat} (hk : k < L.length) (h : L[k] ∈ L.take k) : ¬ L.Nodup := by
  intro hn
  rw [← List.take_append_drop k L, List.nodup_append] at hn
  refine hn.2.2 _ h _ ?_ rfl
  rw [List.drop_eq_getElem_cons hk]
  exact List.mem_cons_self ..
theorem nodup_snoc {L : List (List UInt8)} {k : Nat} (hk : k < L.length) (h : L[k] ∉ L.take k) (hn : (L.take k).Nodup) : (L.take (k + 1)).Nodup := by
  rw [List.take_succ_eq_append_getElem hk, List.nodup_append]
  refine ⟨hn, by simp, ?_⟩
  intro x hx y hy e
  rw [List.mem_singleton] at hy
  subst hy e
  exact h hx
theorem ok_snoc {L : List (List UInt8)} {k : Nat} (hk : k < L.length) (h : okS L[k] = true) (hn : ∀ p ∈ L.take k, okS p = true) : ∀ p ∈ L.take (k + 1), okS p = true := by
  rw [List.take_succ_eq_append_getElem hk]
  intro p hp
  rcases List.mem_append.1 hp with hp | hp
  · exact hn p hp
  · rw [List.mem_singleton] at hp; rw [hp]; exact h
theorem cont_ba {l : List (List UInt8)} {x : List UInt8} : Lib.containsS (l.map ba) (ba x) = decide (x ∈ l) := by
  rw [Bool.eq_iff_iff, Lib.containsS_iff, decide_eq_true_iff, List.mem_map]
  constructor
  · rintro ⟨y, hy, e⟩
    rw [ba_inj.1 e] at hy
    exact hy
  · exact fun h => ⟨x, h, rfl⟩

set_option maxRecDepth 100000 in
set_option maxHeartbeats 1000000 in
theorem spcheck_any (a : Option Addr) (cap : Nat) (L : List (List UInt8)) (w : World) (hl : L.length ≤ 9223372036854775807) (ha : Strs w a L) (hcap : L.length ≤ cap) :
    Calls Try.prog 19 #[.slice a L.length cap] w fun e w' => e = .returned (.int .i64 (ckS L)) ∧ w = w' := by
  obtain ⟨r, hr⟩ : ∃ r, r = ckS L := ⟨_, rfl⟩
  rw [← hr]
  have HR := Lib.hid hr; clear hr
  obtain ⟨n, hn⟩ : ∃ n, n = L.length := ⟨_, rfl⟩
  rw [← hn] at hl hcap ⊢
  have HN := Lib.hid hn
  have HA := Lib.hid ha
  clear ha
  by_cases h18 : n < 2 ∨ 12 < n
  · have HE := Lib.hid (show r = 18 by rw [HR.out, ck_18 (by omega)])
    clear hn
    by_cases h2 : n < 2
    · have t1 : decide ((n : Int) < 2) = true := decide_eq_true (by omega)
      go_enter Try.func19, Try.ntmps19
      go_wp2
      go_ret
      exact ⟨ret_int HE.out.symm, rfl⟩
    · have t1 : decide ((n : Int) < 2) = false := decide_eq_false (by omega)
      have t2 : decide (12 < (n : Int)) = true := decide_eq_true (by omega)
      go_enter Try.func19, Try.ntmps19
      go_wp2
      go_ret
      exact ⟨ret_int HE.out.symm, rfl⟩
  have g2 : 2 ≤ n := by omega
  have g12 : n ≤ 12 := by omega
  have t1 : decide ((n : Int) < 2) = false := decide_eq_false (by omega)
  have t2 : decide (12 < (n : Int)) = false := decide_eq_false (by omega)
  clear h18 hn hl
  go_enter Try.func19, Try.ntmps19
  go_wp2
  go_loopw [17] (fun i wr => ∃ k : Nat, k ≤ n ∧ i = .int .i64 k ∧ Hid (∀ p ∈ L.take k, okS p = true) ∧ w = wr) (fun i _ => n - (intOf i).toNat)
  case atStart => exact ⟨0, by omega, rfl, Lib.hid (fun p hp => absurd hp (by simp)), rfl⟩
  case round =>
    obtain ⟨k, hk, rfl, hok, rfl⟩ := hrel
    by_cases hlt : k < n
    · have hlt' : k < L.length := by rw [← HN.out]; exact hlt
      obtain ⟨b, off, rfl, hbw, c0⟩ := HA.out k hlt'
      have HL := Lib.hid hlt'
      obtain ⟨p, hp⟩ : ∃ p, p = L[k]'hlt' := ⟨_, rfl⟩
      have HP := Lib.hid hp
      rw [← hp] at c0
      clear hp
      have kv := fun w => spvalid_any (ba p) w
      rw [ba_list] at kv
      obtain ⟨o, ho⟩ : ∃ o, o = okS p := ⟨_, rfl⟩
      rw [← ho] at kv
      have HO := Lib.hid ho
      clear ho
      cases o
      · go_wp2_with (go_at_call 29; refine (kv _).mono ?_; rintro e w1 ⟨rfl, rfl⟩)
        go_ret
        exact ⟨ret_int (by rw [HR.out]; exact (ck_13 (by rw [← HN.out]; exact g2) (by rw [← HN.out]; exact g12) HL.out (by rw [← HP.out]; exact HO.out.symm)).symm), rfl⟩
      · go_wp2_with (go_at_call 29; refine (kv _).mono ?_; rintro e w1 ⟨rfl, rfl⟩)
        go_roundw
        case rel => exact ⟨k + 1, by omega, by go_num, Lib.hid (ok_snoc HL.out (by rw [← HP.out]; exact HO.out.symm) hok.out), trivial⟩
        case measure => simp [intOf]; omega
    · have HOK := Lib.hid (show ∀ p ∈ L, okS p = true from fun p hp => hok.out p (by rw [List.take_of_length_le (by have := HN.out; omega)]; exact hp))
      clear hok
      go_wp2
      go_loopw [27] (fun i wr => ∃ k : Nat, k ≤ n ∧ i = .int .i64 k ∧ Hid ((L.take k).Nodup) ∧ w = wr) (fun i _ => n - (intOf i).toNat)
      case atStart => exact ⟨0, by omega, rfl, Lib.hid (by simp), rfl⟩
      case round =>
        obtain ⟨k, hk, rfl, hnd, rfl⟩ := hrel
        by_cases hlt : k < n
        · have hlt' : k < L.length := by rw [← HN.out]; exact hlt
          obtain ⟨b, off, rfl, hbw, c0⟩ := HA.out k hlt'
          have HL := Lib.hid hlt'
          obtain ⟨p, hp⟩ : ∃ p, p = L[k]'hlt' := ⟨_, rfl⟩
          have HP := Lib.hid hp
          rw [← hp] at c0
          have kc := Try.slices_Contains_string b off k cap (L.map ba) (ba p) w (by rw [List.length_map]; omega) (by omega) (fun j hj => by
            rw [List.length_map] at hj
            obtain ⟨b', off', e, -, c⟩ := HA.out j hj
            injection e with e
            injection e with e1 e2
            subst e1 e2
            rw [c]
            simp [List.getD, List.getElem?_eq_getElem hj])
          rw [← List.map_take, cont_ba] at kc
          clear hp
          obtain ⟨o, ho⟩ : ∃ o, o = decide (p ∈ L.take k) := ⟨_, rfl⟩
          rw [← ho] at kc
          have HO := Lib.hid ho
          clear ho
          have i1 : k ≤ cap := by omega
          have i2 : (k : Int) ≤ cap := by omega
          cases o
          · go_wp2_with (go_at_call 34; refine kc.mono ?_; rintro e w1 ⟨rfl, rfl⟩)
            go_roundw
            case rel => exact ⟨k + 1, by omega, by go_num, Lib.hid (nodup_snoc HL.out (by rw [← HP.out]; exact of_decide_eq_false HO.out.symm) hnd.out), trivial⟩
            case measure => simp [intOf]; omega
          · go_wp2_with (go_at_call 34; refine kc.mono ?_; rintro e w1 ⟨rfl, rfl⟩)
            go_ret
            exact ⟨ret_int (by rw [HR.out]; exact (ck_9 (by rw [← HN.out]; exact g2) (by rw [← HN.out]; exact g12) HOK.out (not_nodup HL.out (by rw [← HP.out]; exact of_decide_eq_true HO.out.symm))).symm), rfl⟩
        · go_wp2
          go_ret
          refine ⟨ret_int ?_, rfl⟩
          rw [HR.out]
          have := HN.out
          refine (ckS_ok.2 ⟨by omega, by omega, HOK.out, ?_⟩).symm
          have h := hnd.out
          rw [List.take_of_length_le (by omega)] at h
          exact h
end Go.Proofs.Ytcfojplmmpeefaa
