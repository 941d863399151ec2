/-
  The document's answers worth and Unhex of layer 1: each returns its plain function of the bytes ('hv', 'unhR') and changes nothing that was there. Condition: the string has at most 3000 bytes.
-/
import Derived.Test.YtoeohliniecniaaDoorFigRefHex
namespace Go.Proofs.YtoeohliniecniaaDoor
open Go.RowKit

def worthI (c : Int) : Int := if 48 ≤ c ∧ c ≤ 57 then c - 48 else if 97 ≤ c ∧ c ≤ 102 then c - 87 else if 65 ≤ c ∧ c ≤ 70 then c - 55 else -1
theorem worth_hv : ∀ x : UInt8, worthI x.toNat = hv x := of256 (by decide +kernel)

set_option maxHeartbeats 1000000 in
theorem worth_int (c : Int) (h0 : 0 ≤ c) (h255 : c ≤ 255) (w : World) : Calls Tryd.prog 39 #[.int .u8 c] w fun e w' => e = .returned (.int .i64 (worthI c)) ∧ w' = w := by
  by_cases hd : 48 ≤ c ∧ c ≤ 57
  · have HW := Lib.hid (show worthI c = c - 48 by rw [worthI, if_pos hd])
    have HD := Lib.hid (show isDigB c = true from decide_eq_true hd)
    obtain ⟨d0, d1⟩ := hd
    go_enter Tryd.func39, Tryd.ntmps39
    go_wp2_with (go_at_call 32; refine (digit_any _ _).mono ?_; rintro e w' ⟨rfl, rfl⟩; rw [HD.out])
    go_ret
    exact ⟨ret_int HW.out.symm, rfl⟩
  · have HD := Lib.hid (show isDigB c = false from decide_eq_false hd)
    by_cases h1 : 97 ≤ c
    · by_cases h2 : c ≤ 102
      · have HW := Lib.hid (show worthI c = c - 87 by rw [worthI, if_neg hd, if_pos ⟨h1, h2⟩])
        clear hd
        go_enter Tryd.func39, Tryd.ntmps39
        go_wp2_with (go_at_call 32; refine (digit_any _ _).mono ?_; rintro e w' ⟨rfl, rfl⟩; rw [HD.out])
        go_ret
        exact ⟨ret_int HW.out.symm, rfl⟩
      · have HW := Lib.hid (show worthI c = -1 by rw [worthI, if_neg hd, if_neg (by omega), if_neg (by omega)])
        have g1 : 65 ≤ c := by omega
        have g2 : ¬ c ≤ 70 := by omega
        clear hd
        go_enter Tryd.func39, Tryd.ntmps39
        go_wp2_with (go_at_call 32; refine (digit_any _ _).mono ?_; rintro e w' ⟨rfl, rfl⟩; rw [HD.out])
        go_ret
        exact ⟨ret_int HW.out.symm, rfl⟩
    · by_cases h3 : 65 ≤ c
      · by_cases h4 : c ≤ 70
        · have HW := Lib.hid (show worthI c = c - 55 by rw [worthI, if_neg hd, if_neg (by omega), if_pos ⟨h3, h4⟩])
          clear hd
          go_enter Tryd.func39, Tryd.ntmps39
          go_wp2_with (go_at_call 32; refine (digit_any _ _).mono ?_; rintro e w' ⟨rfl, rfl⟩; rw [HD.out])
          go_ret
          exact ⟨ret_int HW.out.symm, rfl⟩
        · have HW := Lib.hid (show worthI c = -1 by rw [worthI, if_neg hd, if_neg (by omega), if_neg (by omega)])
          clear hd
          go_enter Tryd.func39, Tryd.ntmps39
          go_wp2_with (go_at_call 32; refine (digit_any _ _).mono ?_; rintro e w' ⟨rfl, rfl⟩; rw [HD.out])
          go_ret
          exact ⟨ret_int HW.out.symm, rfl⟩
      · have HW := Lib.hid (show worthI c = -1 by rw [worthI, if_neg hd, if_neg (by omega), if_neg (by omega)])
        clear hd
        go_enter Tryd.func39, Tryd.ntmps39
        go_wp2_with (go_at_call 32; refine (digit_any _ _).mono ?_; rintro e w' ⟨rfl, rfl⟩; rw [HD.out])
        go_ret
        exact ⟨ret_int HW.out.symm, rfl⟩
theorem worth_any (x : UInt8) (w : World) : Calls Tryd.prog 39 #[.int .u8 x.toNat] w fun e w' => e = .returned (.int .i64 (hv x)) ∧ w' = w :=
  (worth_int x.toNat (byte_bd x).1 (byte_bd x).2 w).mono fun e w' ⟨he, hw⟩ => ⟨by rw [he, worth_hv], hw⟩

theorem unh_take (s : ByteArray) (k : Nat) (h : k < s.size) : unhF (s.data.toList.take (k + 1)) = unhS (unhF (s.data.toList.take k)) s[k] := by
  rw [take_snoc s k h, unhF_snoc]
theorem unh_bad {l : List UInt8} {r : ByteArray} {e0 : Int} (hr : unhR l = (r.data.toList, e0)) (h2 : l.length % 2 = 0) (h : unhF l = none) : r = ⟨#[]⟩ ∧ e0 = 4 := by
  rw [unhR, if_pos h2, h] at hr
  exact ⟨WideShapes.bytes_inj (congrArg Prod.fst hr).symm, (congrArg Prod.snd hr).symm⟩
theorem unh_good {l : List UInt8} {r out : ByteArray} {e0 : Int} (hr : unhR l = (r.data.toList, e0)) (h2 : l.length % 2 = 0) (h : ∃ a, unhF l = some (a, false, out.data.toList)) : r = out ∧ e0 = 0 := by
  obtain ⟨a, h⟩ := h
  rw [unhR, if_pos h2, h] at hr
  exact ⟨WideShapes.bytes_inj (congrArg Prod.fst hr).symm, (congrArg Prod.snd hr).symm⟩

set_option maxRecDepth 100000 in
set_option maxHeartbeats 4000000 in
theorem runh_loop (s : ByteArray) (w : World) (hs : s.size ≤ 3000) (h2 : s.size % 2 = 0) (te : (((s.size : Int) % 2) == 1) = false) (r : ByteArray) (e0 : Int) (hr : Hid (unhR s.data.toList = (r.data.toList, e0))) :
    Calls Tryd.prog 24 #[.string s] w fun e w' => e = .returned (.tuple #[.string r, .int .i64 e0]) ∧ Below w.heap.size w w' := by
  have HL2 := Lib.hid (show s.data.toList.length % 2 = 0 by simpa using h2)
  have H2 := Lib.hid h2; clear h2
  go_enter Tryd.func24, Tryd.ntmps24
  go_wp2
  go_loopw [4, 5] (fun o i wr => ∃ (j : Nat) (out : ByteArray), 2 * j ≤ s.size ∧ i = .int .i64 ((2 * j : Nat) : Int) ∧ o = .string out ∧ Hid (∃ a, unhF (s.data.toList.take (2 * j)) = some (a, false, out.data.toList)) ∧ out.size ≤ j ∧ Below w.heap.size w wr) (fun _ i _ => s.size - (intOf i).toNat)
  case atStart => exact ⟨0, ⟨#[]⟩, Nat.zero_le _, rfl, rfl, Lib.hid ⟨0, by simp [unhF]⟩, by decide, Below.refl _ _⟩
  case round =>
    obtain ⟨j, out, hk, rfl, rfl, hout, hle, hB⟩ := hrel
    obtain ⟨k, hkk⟩ : ∃ k, k = 2 * j := ⟨_, rfl⟩
    rw [← hkk] at hk hout ⊢
    have HKK := Lib.hid hkk; clear hkk
    have hj3 : j ≤ 3000 := by have := HKK.out; omega
    by_cases hlt : k < s.size
    · have hl1 : k + 1 < s.size := by have := HKK.out; have := H2.out; omega
      obtain ⟨a, ea⟩ : ∃ a : Int, hv s[k] = a := ⟨_, rfl⟩
      obtain ⟨b, eb⟩ : ∃ b : Int, hv s[k + 1] = b := ⟨_, rfl⟩
      have hab := hv_bd s[k]; have hbb := hv_bd s[k + 1]
      rw [ea] at hab; rw [eb] at hbb
      obtain ⟨a0, a1⟩ := hab
      obtain ⟨b0, b1⟩ := hbb
      have HEA := Lib.hid ea; have HEB := Lib.hid eb; clear ea eb
      have HA := Lib.hid (unh_take s k hlt); have HB := Lib.hid (unh_take s (k + 1) hl1)
      have e1 : IntKind.i64.wrap ((k : Int) + 1) = (k : Int) + 1 := IntWalk.i64_in _ (by omega)
      have e2 : 0 ≤ (k : Int) + 1 := by omega
      have e3 : ((k : Int) + 1).toNat = k + 1 := by omega
      have e4 : (k : Int) + 1 < (s.size : Int) := by omega
      have cA : ∀ W, Calls Tryd.prog 39 #[.int .u8 (s[k]).toNat] W fun e w' => e = .returned (.int .i64 a) ∧ w' = W := fun W => (worth_any s[k] W).mono fun e w' ⟨he, hw⟩ => ⟨by rw [he, HEA.out], hw⟩
      have cB : ∀ W, Calls Tryd.prog 39 #[.int .u8 (s[k + 1]).toNat] W fun e w' => e = .returned (.int .i64 b) ∧ w' = W := fun W => (worth_any s[k + 1] W).mono fun e w' ⟨he, hw⟩ => ⟨by rw [he, HEB.out], hw⟩
      have CA := Lib.hid cA; have CB := Lib.hid cB; clear cA cB
      go_wp2
      go_quiet (first
        | ((go_at_call 39; with_reducible exact Calls.quiet_of_same (CA.out _)))
        | ((go_at_call 39; with_reducible exact Calls.quiet_of_same (CB.out _))))
      clear CA CB
      try clear e1
      try clear e3
      generalize hWq : wr.drewN _ = W2
      have hB2 : Below w.heap.size w W2 := by rw [← hWq]; exact below_drewN hB _
      clear hWq
      have ods : ∃ a0, unhF (s.data.toList.take k) = some (a0, false, out.data.toList) := hout.out
      have HODS := Lib.hid ods; clear ods
      by_cases ha : a < 0
      · have HN := Lib.hid (show unhF s.data.toList = none by
          obtain ⟨q, hq⟩ := HODS.out
          exact unhF_prefix (List.take_prefix (k + 1) _) (by rw [HA.out, hq]; simp only [unhS]; rw [if_pos (by rw [HEA.out]; exact ha)]))
        have ta : decide (a < 0) = true := by simpa using ha
        go_wp2
        go_ret2
        exact ⟨ret_two (unh_bad hr.out HL2.out HN.out), hB2⟩
      · have ta : decide (a < 0) = false := by simpa using ha
        by_cases hb : b < 0
        · have HN := Lib.hid (show unhF s.data.toList = none by
            obtain ⟨q, hq⟩ := HODS.out
            exact unhF_prefix (List.take_prefix (k + 1 + 1) _) (by rw [HB.out, HA.out, hq]; simp only [unhS]; rw [if_neg (by rw [HEA.out]; exact ha)]; simp only [unhS]; rw [if_pos (by rw [HEB.out]; exact hb)]))
          have tb : decide (b < 0) = true := by simpa using hb
          go_wp2
          go_ret2
          exact ⟨ret_two (unh_bad hr.out HL2.out HN.out), hB2⟩
        · have tb : decide (b < 0) = false := by simpa using hb
          obtain ⟨x, hx⟩ : ∃ x : UInt8, x = (16 * a + b).toNat.toUInt8 := ⟨_, rfl⟩
          have HX := Lib.hid hx
          have hc := one_str W2 (16 * a + b) x (by rw [hx]; simp; omega)
          clear hx
          have HG := Lib.hid (show unhF (s.data.toList.take (k + 1 + 1)) = some (b, false, out.data.toList ++ [x]) by
            rw [HX.out]
            obtain ⟨q, hq⟩ := HODS.out
            rw [HB.out, HA.out, hq]
            simp only [unhS]
            rw [if_neg (by rw [HEA.out]; exact ha)]
            simp only [unhS]
            rw [if_neg (by rw [HEB.out]; exact hb), HEA.out, HEB.out, Int.mul_comm a 16]
            rfl)
          go_wp2
          go_roundw
          case rel => exact ⟨j + 1, out ++ ⟨#[x]⟩, by have := HKK.out; omega, by rw [HKK.out]; go_num, rfl, Lib.hid ⟨b, by rw [show 2 * (j + 1) = k + 1 + 1 by have := HKK.out; omega, HG.out, app_data]⟩, by rw [app_size, one_size]; omega, hB2.alloc (by have := hB2.size; omega) _⟩
          case measure => simp [intOf]; omega
    · go_wp2
      go_ret2
      exact ⟨ret_two (unh_good hr.out HL2.out (by
        obtain ⟨q, hq⟩ := hout.out
        exact ⟨q, by rw [← List.take_of_length_le (l := s.data.toList) (i := k) (by simp; omega)]; exact hq⟩)), hB⟩

theorem runh_odd (s : ByteArray) (w : World) (hs : s.size ≤ 3000) (te : (((s.size : Int) % 2) == 1) = true) :
    Calls Tryd.prog 24 #[.string s] w fun e w' => e = .returned (.tuple #[.string ⟨#[]⟩, .int .i64 1]) ∧ w = w' := by
  go_enter Tryd.func24, Tryd.ntmps24
  go_wp2
  go_ret2
  exact ⟨rfl, rfl⟩
theorem runh_any (s : ByteArray) (w : World) (hs : s.size ≤ 3000) :
    Calls Tryd.prog 24 #[.string s] w fun e w' => e = .returned (.tuple #[.string ⟨(unhR s.data.toList).1.toArray⟩, .int .i64 (unhR s.data.toList).2]) ∧ Below w.heap.size w w' := by
  have hlen : s.data.toList.length = s.size := by simp
  by_cases h2 : s.size % 2 = 0
  · exact runh_loop s w hs h2 (by simp; omega) _ _ (Lib.hid rfl)
  · refine (runh_odd s w hs (by simp; omega)).mono fun e w' ⟨he, hb⟩ => ⟨?_, hb ▸ Below.refl _ _⟩
    rw [he, unhR, if_neg (by omega)]
end Go.Proofs.YtoeohliniecniaaDoor
