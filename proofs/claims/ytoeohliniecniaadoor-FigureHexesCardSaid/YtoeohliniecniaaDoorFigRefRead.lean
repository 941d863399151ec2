/-
  The document's answer Read of layer 1: it returns the number or the error ('readR') and changes nothing that was there. Condition: the string has at most 3000 bytes.
-/
import Derived.Test.YtoeohliniecniaaDoorFigRefQuote
namespace Go.Proofs.YtoeohliniecniaaDoor
open Go.RowKit

def digs (l : List UInt8) : Bool := l.all fun x => isDigB x.toNat
theorem digs_take (s : ByteArray) (k : Nat) (h : k < s.size) : digs (s.data.toList.take (k + 1)) = (digs (s.data.toList.take k) && isDigB (s[k]).toNat) := by
  simp only [digs]; rw [take_snoc s k h, List.all_append]; simp
theorem read_nodig (l : List UInt8) : ∀ n o, digs l = false → l.foldl readS (some (n, o)) = none := by
  induction l with
  | nil => intro n o h; simp [digs] at h
  | cons a t ih =>
    intro n o h
    rw [List.foldl_cons]
    cases hd : isDigB a.toNat with
    | false => rw [show readS (some (n, o)) a = none by simp [readS, hd], readS_none]
    | true =>
      have ht : digs t = false := by simp only [digs, List.all_cons, hd, Bool.true_and] at h; exact h
      by_cases ho : o = true ∨ (maxI - ((a.toNat : Int) - 48)) / 10 < n
      · rw [show readS (some (n, o)) a = some (n, true) by simp only [readS, if_pos hd, if_pos ho]]; exact ih _ _ ht
      · rw [show readS (some (n, o)) a = some (n * 10 + ((a.toNat : Int) - 48), false) by simp only [readS, if_pos hd, if_neg ho]]; exact ih _ _ ht
theorem read_over (l : List UInt8) : ∀ n, digs l = true → l.foldl readS (some (n, true)) = some (n, true) := by
  induction l with
  | nil => intro n _; rfl
  | cons a t ih =>
    intro n h
    simp only [digs, List.all_cons, Bool.and_eq_true] at h
    rw [List.foldl_cons, show readS (some (n, true)) a = some (n, true) by simp [readS, h.1]]
    exact ih n h.2
theorem readF_over {l a b : List UInt8} {n : Int} (hl : l = a ++ b) (h : readF a = some (n, true)) (hd : digs b = true) : readF l = some (n, true) := by
  rw [hl, readF, List.foldl_append, show a.foldl readS (some (0, false)) = _ from h, read_over b n hd]
theorem readF_take (s : ByteArray) (k : Nat) (h : k < s.size) : readF (s.data.toList.take (k + 1)) = readS (readF (s.data.toList.take k)) s[k] := by
  rw [take_snoc s k h, readF_snoc]
theorem ret_ii {a b c d : Int} (h : (a, c) = (b, d)) : Ending.returned (.tuple #[.int .i64 a, .int .i64 c]) = .returned (.tuple #[.int .i64 b, .int .i64 d]) := by
  cases h; rfl

set_option maxRecDepth 100000 in
set_option maxHeartbeats 4000000 in
theorem rread_loop (s : ByteArray) (w : World) (hs : s.size ≤ 3000) (te : s.toList.isEmpty = false) (te' : ¬ s.toList = []) (hne : Hid (s.data.toList ≠ [])) (m e0 : Int) (hr : Hid (readR s.data.toList = (m, e0))) :
    Calls Tryd.prog 11 #[.string s] w fun e w' => e = .returned (.tuple #[.int .i64 m, .int .i64 e0]) ∧ w = w' := by
  go_enter Tryd.func11, Tryd.ntmps11
  go_wp2
  go_loop [4] (fun i => ∃ k : Nat, k ≤ s.size ∧ i = .int .i64 k ∧ Hid (digs (s.data.toList.take k) = true)) (fun i => s.size - (intOf i).toNat)
  case atStart => exact ⟨0, Nat.zero_le _, rfl, Lib.hid (by simp [digs])⟩
  case round =>
    obtain ⟨k, hk, rfl, hall⟩ := hrel
    by_cases hlt : k < s.size
    · have HS := Lib.hid (digs_take s k hlt)
      have bad : isDigB (s[k]).toNat = false → readR s.data.toList = (0, 4) := by
        intro h
        have h1 : digs s.data.toList = false := by
          have e : digs s.data.toList = (digs (s.data.toList.take (k + 1)) && digs (s.data.toList.drop (k + 1))) := by
            simp only [digs]; rw [← List.all_append, List.take_append_drop]
          rw [e, HS.out, h]; simp
        rw [readR, if_neg hne.out, readF, read_nodig _ _ _ h1]
      have BAD := Lib.hid bad; clear bad
      by_cases h1 : ((s[k]).toNat : Int) < 48
      · have t1 : decide (((s[k]).toNat : Int) < 48) = true := by simpa using h1
        have HB := Lib.hid (BAD.out (decide_eq_false (by omega)))
        go_wp2
        go_ret2
        exact ⟨ret_ii (HB.out.symm.trans hr.out), rfl⟩
      · have t1 : decide (((s[k]).toNat : Int) < 48) = false := by simpa using h1
        by_cases h2 : 57 < ((s[k]).toNat : Int)
        · have t2 : decide (57 < ((s[k]).toNat : Int)) = true := by simpa using h2
          have HB := Lib.hid (BAD.out (decide_eq_false (by omega)))
          go_wp2
          go_ret2
          exact ⟨ret_ii (HB.out.symm.trans hr.out), rfl⟩
        · have t2 : decide (57 < ((s[k]).toNat : Int)) = false := by simpa using h2
          have HD := Lib.hid (show isDigB (s[k]).toNat = true from decide_eq_true (by omega))
          go_wp2
          go_round
          case rel => exact ⟨k + 1, by omega, by go_num, Lib.hid (by rw [HS.out, hall.out, HD.out]; rfl)⟩
          case measure => simp [intOf]; omega
    · have hdd : digs s.data.toList = true := by rw [← hall.out, List.take_of_length_le (by simp; omega)]
      have HDD := Lib.hid hdd; clear hdd hall
      go_wp2
      go_loop [5, 6] (fun o i => ∃ (k : Nat) (n : Int), k ≤ s.size ∧ i = .int .i64 k ∧ o = .int .i64 n ∧ Hid (readF (s.data.toList.take k) = some (n, false)) ∧ 0 ≤ n ∧ n ≤ 9223372036854775807) (fun _ i => s.size - (intOf i).toNat)
      case atStart => exact ⟨0, 0, Nat.zero_le _, rfl, rfl, Lib.hid (by simp [readF]), by omega, by omega⟩
      case round =>
        obtain ⟨j, n, hj, rfl, rfl, hn, hn0, hn1⟩ := hrel
        by_cases hlj : j < s.size
        · have hdj : isDigB (s[j]).toNat = true := by
            have h := HDD.out
            simp only [digs, List.all_eq_true] at h
            exact h _ (by
              obtain ⟨⟨l⟩⟩ := s
              exact List.getElem_mem (show j < l.length from hlj))
          have hb := isDig_bd hdj
          have HDJ := Lib.hid hdj; clear hdj
          have HT := Lib.hid (readF_take s j hlj)
          obtain ⟨hb0, hb1⟩ := hb
          by_cases ho : (9223372036854775807 - (((s[j]).toNat : Int) - 48)) / 10 < n
          · have HO := Lib.hid (show readF s.data.toList = some (n, true) from
              readF_over (a := s.data.toList.take (j + 1)) (b := s.data.toList.drop (j + 1)) (List.take_append_drop _ _).symm
                (by rw [HT.out, hn.out]; simp only [readS]; rw [if_pos HDJ.out, if_pos (.inr ho)])
                (by
                  have h := HDD.out
                  simp only [digs, List.all_eq_true] at h ⊢
                  exact fun x hx => h x (List.mem_of_mem_drop hx)))
            have to : decide ((9223372036854775807 - (((s[j]).toNat : Int) - 48)) / 10 < n) = true := by simpa using ho
            go_wp2
            go_ret2
            exact ⟨ret_ii (by rw [← hr.out, readR, if_neg hne.out, HO.out]), rfl⟩
          · have HO := Lib.hid (show readF (s.data.toList.take (j + 1)) = some (n * 10 + (((s[j]).toNat : Int) - 48), false) by
              rw [HT.out, hn.out]; simp only [readS]; rw [if_pos HDJ.out, if_neg (fun h => h.elim (fun e => by cases e) ho)])
            have to : decide ((9223372036854775807 - (((s[j]).toNat : Int) - 48)) / 10 < n) = false := by simpa using ho
            go_wp2
            go_round
            case rel => exact ⟨j + 1, 10 * n + (((s[j]).toNat : Int) - 48), by omega, by go_num, rfl, Lib.hid (by rw [HO.out, Int.mul_comm]), by omega, by omega⟩
            case measure => simp [intOf]; omega
        · go_wp2
          go_ret2
          exact ⟨ret_ii (by
            rw [← hr.out, readR, if_neg hne.out, ← List.take_of_length_le (l := s.data.toList) (i := j) (by simp; omega), hn.out]), rfl⟩

theorem rread_empty (s : ByteArray) (w : World) (te : s.toList.isEmpty = true) (te' : s.toList = []) :
    Calls Tryd.prog 11 #[.string s] w fun e w' => e = .returned (.tuple #[.int .i64 0, .int .i64 1]) ∧ w = w' := by
  go_enter Tryd.func11, Tryd.ntmps11
  go_wp2
  go_ret2
  exact ⟨rfl, rfl⟩
theorem rread_any (s : ByteArray) (w : World) (hs : s.size ≤ 3000) :
    Calls Tryd.prog 11 #[.string s] w fun e w' => e = .returned (.tuple #[.int .i64 (readR s.data.toList).1, .int .i64 (readR s.data.toList).2]) ∧ w = w' := by
  by_cases h0 : s.size = 0
  · obtain ⟨te, te'⟩ := empty_yes h0
    refine (rread_empty s w te te').mono fun e w' ⟨he, hb⟩ => ⟨?_, hb⟩
    rw [ByteArray.toList_eq] at te'
    rw [he, readR, if_pos te']
  · obtain ⟨te, te'⟩ := empty_no (s := s) (by omega)
    have te2 := te'
    rw [ByteArray.toList_eq] at te2
    exact rread_loop s w hs te te' (Lib.hid te2) _ _ (Lib.hid rfl)
end Go.Proofs.YtoeohliniecniaaDoor
