/-
  The document's answer Text of layer 1: it returns the number in decimal ('Lib.itoa') and changes nothing that was there. Condition: the number is an int.
-/
import Derived.Test.YtembcmmoicmkeaaDoorFigRefHex
namespace Go.Proofs.YtembcmmoicmkeaaDoor
open Go.RowKit

/-- u's digits that are still to come stand before what has come out. -/
def TextI (u m : Nat) (out : List UInt8) : Prop := if m = 0 then Lib.decDigits u = out else Lib.decDigits u = Lib.decDigits m ++ out
theorem textI_step {u m : Nat} {out : List UInt8} (h : TextI u m out) (hm : m ≠ 0) : TextI u (m / 10) (UInt8.ofNat (48 + m % 10) :: out) := by
  unfold TextI at h ⊢
  rw [if_neg hm] at h
  by_cases h10 : m < 10
  · rw [if_pos (by omega), h, Lib.decDigits_one h10, show m % 10 = m by omega]; rfl
  · rw [if_neg (by omega), h, Lib.decDigits, dif_neg h10]; simp
theorem textI_start (u : Nat) (h : u ≠ 0) : TextI u u [] := by unfold TextI; rw [if_neg h]; simp
theorem textI_end {u : Nat} {out : List UInt8} (h : TextI u 0 out) : Lib.decDigits u = out := by unfold TextI at h; rwa [if_pos rfl] at h
theorem dig_byte (k : Nat) (h : k < 10) : ((UInt8.ofNat (48 + k)).toNat : Int) = 48 + (k : Int) := by
  have := dig_val k h; omega

theorem textI_len {u m : Nat} {out : List UInt8} (h : TextI u m out) : out.length ≤ (Lib.decDigits u).length := by
  unfold TextI at h
  split at h
  · rw [h]; omega
  · rw [h]; simp
theorem dec_len (u : Nat) (h : u ≤ 9223372036854775808) : (Lib.decDigits u).length ≤ 21 := by
  by_cases h0 : u = 9223372036854775808
  · have := Lib.itoa_length_le (-(u : Int)) (by omega) (by omega)
    rw [Lib.itoa_neg u (by omega)] at this
    simp at this; omega
  · have := Lib.itoa_length_le (u : Int) (by omega) (by omega)
    rwa [Lib.itoa_nonneg] at this

set_option maxRecDepth 100000 in
set_option maxHeartbeats 4000000 in
theorem rtext_pos (u : Nat) (h0 : 0 < u) (h1 : (u : Int) ≤ 9223372036854775807) (w : World) :
    Calls Tryd.prog 26 #[.int .i64 (u : Int)] w fun e w' => e = .returned (.string ⟨(Lib.itoa (u : Int)).toArray⟩) ∧ Below w.heap.size w w' := by
  obtain ⟨r, hr⟩ : ∃ r : ByteArray, r = ⟨(Lib.itoa (u : Int)).toArray⟩ := ⟨_, rfl⟩
  rw [← hr]
  have HR := Lib.hid (show r.data.toList = Lib.decDigits u by rw [hr, Lib.itoa_nonneg])
  clear hr
  have t0 : ((u : Int) == 0) = false := by simp; omega
  have t1 : decide ((u : Int) < 0) = false := by simp
  go_enter Tryd.func26, Tryd.ntmps26
  go_wp2
  go_loopw [3, 4] (fun o l wr => ∃ (m : Nat) (out : ByteArray), m ≤ u ∧ l = .int .i64 (m : Int) ∧ o = .string out ∧ Hid (TextI u m out.data.toList) ∧ out.size ≤ 21 ∧ Below w.heap.size w wr) (fun _ l _ => (intOf l).toNat)
  case atStart => exact ⟨u, ⟨#[]⟩, Nat.le_refl _, rfl, rfl, Lib.hid (textI_start u (by omega)), by decide, Below.refl _ _⟩
  case round =>
    obtain ⟨m, out, hm, rfl, rfl, hI, hle, hB⟩ := hrel
    by_cases hz : m = 0
    · have t2 : ((m : Int) != 0) = false := by subst hz; rfl
      have HE := Lib.hid (show r = out by
        subst hz
        exact WideShapes.bytes_inj (by rw [HR.out, textI_end hI.out]))
      clear hz
      go_wp2
      go_ret
      exact ⟨ret_str HE.out.symm, hB⟩
    · have t2 : ((m : Int) != 0) = true := by simp; omega
      have HI2 := Lib.hid (textI_step hI.out hz)
      obtain ⟨x, hx⟩ : ∃ x : UInt8, x = UInt8.ofNat (48 + m % 10) := ⟨_, rfl⟩
      have hc := one_str wr (48 + (m : Int) % 10) x (by rw [hx, dig_byte _ (by omega)]; omega)
      have HX := Lib.hid hx; clear hx
      have t3 : decide ((m : Int) % 10 < 0) = false := by simp; omega
      have HL := Lib.hid (textI_len HI2.out)
      have HD := Lib.hid (dec_len u (by omega))
      go_wp2
      go_roundw
      case rel => exact ⟨m / 10, ⟨#[x]⟩ ++ out, by omega, by go_num, rfl, Lib.hid (by rw [app_data, HX.out]; exact HI2.out), by
        have h1 := HL.out
        have h2 := HD.out
        have h3 : out.data.toList.length = out.size := by simp
        rw [app_size, one_size]
        simp only [List.length_cons] at h1
        omega, hB.alloc hB.size _⟩
      case measure => simp [intOf]; omega

set_option maxRecDepth 100000 in
set_option maxHeartbeats 4000000 in
theorem rtext_neg (u : Nat) (h0 : 0 < u) (h1 : (u : Int) ≤ 9223372036854775808) (w : World) :
    Calls Tryd.prog 26 #[.int .i64 (-(u : Int))] w fun e w' => e = .returned (.string ⟨(Lib.itoa (-(u : Int))).toArray⟩) ∧ Below w.heap.size w w' := by
  obtain ⟨r, hr⟩ : ∃ r : ByteArray, r = ⟨(Lib.itoa (-(u : Int))).toArray⟩ := ⟨_, rfl⟩
  rw [← hr]
  have HR := Lib.hid (show r.data.toList = 45 :: Lib.decDigits u by rw [hr, Lib.itoa_neg u (by omega)])
  clear hr
  obtain ⟨n, hn⟩ : ∃ n : Int, n = -(u : Int) := ⟨_, rfl⟩
  rw [← hn]
  have t0 : (n == 0) = false := by simp; omega
  have t1 : decide (n < 0) = true := by simp; omega
  have hn0 : -9223372036854775808 ≤ n := by omega
  have hn1 : n < 0 := by omega
  have HN := Lib.hid hn; clear hn
  go_enter Tryd.func26, Tryd.ntmps26
  go_wp2
  go_loopw [3, 4] (fun o l wr => ∃ (m : Nat) (l0 : Int) (out : ByteArray), m ≤ u ∧ l = .int .i64 l0 ∧ Hid (l0 = -(m : Int)) ∧ l0 ≤ 0 ∧ -9223372036854775808 ≤ l0 ∧ o = .string out ∧ Hid (TextI u m out.data.toList) ∧ out.size ≤ 21 ∧ Below w.heap.size w wr) (fun _ l _ => (-(intOf l)).toNat)
  case atStart => exact ⟨u, n, ⟨#[]⟩, Nat.le_refl _, rfl, HN, by omega, hn0, rfl, Lib.hid (textI_start u (by omega)), by decide, Below.refl _ _⟩
  case round =>
    obtain ⟨m, l0, out, hm, rfl, hl0, hl1, hl2, rfl, hI, hle, hB⟩ := hrel
    by_cases hz : m = 0
    · have t2 : (l0 != 0) = false := by rw [hl0.out, hz]; rfl
      have HE := Lib.hid (show r = ⟨#[45]⟩ ++ out by
        subst hz
        exact WideShapes.bytes_inj (by rw [HR.out, textI_end hI.out, app_data]; rfl))
      clear hz
      go_wp2
      go_ret
      exact ⟨ret_str HE.out.symm, hB⟩
    · have t2 : (l0 != 0) = true := by rw [bne_iff_ne]; have := hl0.out; omega
      have HI2 := Lib.hid (textI_step hI.out hz)
      obtain ⟨x, hx⟩ : ∃ x : UInt8, x = UInt8.ofNat (48 + m % 10) := ⟨_, rfl⟩
      obtain ⟨d, hd⟩ : ∃ d : Int, l0.tmod 10 = d := ⟨_, rfl⟩
      obtain ⟨q, hq⟩ : ∃ q : Int, l0.tdiv 10 = q := ⟨_, rfl⟩
      have hd' : d = -((m % 10 : Nat) : Int) := by rw [← hd, hl0.out, Int.neg_tmod, Int.tmod_eq_emod_of_nonneg (by omega)]; omega
      have hq' : q = -((m / 10 : Nat) : Int) := by rw [← hq, hl0.out, Int.neg_tdiv, Int.tdiv_eq_ediv_of_nonneg (by omega)]; omega
      have hd1 : d ≤ 0 := by omega
      have hd2 : -10 < d := by omega
      have hq1 : q ≤ 0 := by omega
      have hq2 : -9223372036854775808 ≤ q := by omega
      have HQ := Lib.hid hq'
      have hc := one_str wr (48 + -d) x (by rw [hx, dig_byte _ (by omega)]; omega)
      have HX := Lib.hid hx; clear hx
      have HL := Lib.hid (textI_len HI2.out)
      have HD := Lib.hid (dec_len u (by omega))
      have HLT := Lib.hid (show (-q).toNat < (-l0).toNat by have := hl0.out; omega)
      by_cases hdz : d < 0
      · have t3 : decide (d < 0) = true := by simpa using hdz
        clear hd' hq' hz
        go_wp2
        go_roundw
        case rel => exact ⟨m / 10, q, ⟨#[x]⟩ ++ out, by omega, rfl, HQ, hq1, hq2, rfl, Lib.hid (by rw [app_data, HX.out]; exact HI2.out), by
          have h1 := HL.out
          have h2 := HD.out
          have h3 : out.data.toList.length = out.size := by simp
          rw [app_size, one_size]
          simp only [List.length_cons] at h1
          omega, hB.alloc hB.size _⟩
        case measure => simp only [intOf]; exact HLT.out
      · have hd0 : d = 0 := by omega
        have hc' : (convert 49 9 (.slice (some ⟨wr.heap.size, 0, none⟩) 1 1)).run Tryd.prog (wr.alloc (.cells #[.int .u8 (48 + d)] 5)) = .ok (.string ⟨#[x]⟩) (wr.alloc (.cells #[.int .u8 (48 + d)] 5)) := one_str wr (48 + d) x (by rw [HX.out, dig_byte _ (by omega)]; omega)
        have t3 : decide (d < 0) = false := by simpa using hdz
        clear hd' hq' hz hc hd0
        go_wp2
        go_roundw
        case rel => exact ⟨m / 10, q, ⟨#[x]⟩ ++ out, by omega, rfl, HQ, hq1, hq2, rfl, Lib.hid (by rw [app_data, HX.out]; exact HI2.out), by
          have h1 := HL.out
          have h2 := HD.out
          have h3 : out.data.toList.length = out.size := by simp
          rw [app_size, one_size]
          simp only [List.length_cons] at h1
          omega, hB.alloc hB.size _⟩
        case measure => simp only [intOf]; exact HLT.out

theorem rtext_zero (w : World) : Calls Tryd.prog 26 #[.int .i64 0] w fun e w' => e = .returned (.string ⟨#[48]⟩) ∧ w = w' := by
  go_enter Tryd.func26, Tryd.ntmps26
  go_wp2
  go_ret
  exact ⟨rfl, rfl⟩
theorem rtext_any (n : Int) (h0 : -9223372036854775808 ≤ n) (h1 : n ≤ 9223372036854775807) (w : World) :
    Calls Tryd.prog 26 #[.int .i64 n] w fun e w' => e = .returned (.string ⟨(Lib.itoa n).toArray⟩) ∧ Below w.heap.size w w' := by
  by_cases hz : n = 0
  · subst hz
    refine (rtext_zero w).mono fun e w' ⟨he, hw⟩ => ⟨?_, hw ▸ Below.refl _ _⟩
    rw [he, show Lib.itoa 0 = [48] by rw [show (0 : Int) = ((0 : Nat) : Int) from rfl, Lib.itoa_nonneg, Lib.decDigits_one (by omega)]; rfl]
  · by_cases hp : 0 < n
    · obtain ⟨u, rfl⟩ := Int.eq_ofNat_of_zero_le (Int.le_of_lt hp)
      exact rtext_pos u (by omega) h1 w
    · obtain ⟨u, hu⟩ := Int.eq_ofNat_of_zero_le (show 0 ≤ -n by omega)
      obtain rfl : n = -(u : Int) := by omega
      exact rtext_neg u (by omega) (by omega) w
end Go.Proofs.YtembcmmoicmkeaaDoor
