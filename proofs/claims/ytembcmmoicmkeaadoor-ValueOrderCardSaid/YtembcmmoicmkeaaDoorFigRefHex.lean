/-
  The document's answers sign, worth, Hex and Unhex of layer 1: each returns its plain function of the bytes and changes nothing that was there. Condition: the string has at most 30000 bytes.
-/
import Derived.Test.YtembcmmoicmkeaaDoorFigRefRead
import Derived.Deep.RegionWith
import Derived.IntWalk
namespace Go.Proofs.YtembcmmoicmkeaaDoor
open Go.RowKit

theorem one_str (w : World) (c : Int) (x : UInt8) (hx : (x.toNat : Int) = c) :
    (convert 49 9 (.slice (some ⟨w.heap.size, 0, none⟩) 1 1)).run Tryd.prog (w.alloc (.cells #[.int .u8 c] 5)) = .ok (.string ⟨#[x]⟩) (w.alloc (.cells #[.int .u8 c] 5)) := by
  have := run_convert_bytes_back (P := Tryd.prog) (w.alloc (.cells #[.int .u8 c] 5)) 49 9 5 ⟨w.heap.size, 0, none⟩ 1 [x] Tryd.underlying49 Tryd.underlying5 Tryd.underlying9 (fun j hj => by
    obtain rfl : j = 0 := by simp at hj; omega
    rw [Addr.add_lit, (new1 w (.int .u8 c) 5).1]
    simp [hx])
  exact this
theorem hexD_lo (d : Int) (h0 : 0 ≤ d) (h1 : d < 10) : ((hexD d.toNat).toNat : Int) = 48 + d := by
  have : ∀ k : Fin 10, ((hexD k.val).toNat : Int) = 48 + (k.val : Int) := by decide
  have := this ⟨d.toNat, by omega⟩
  rw [this]; simp; omega
theorem hexD_hi (d : Int) (h0 : 10 ≤ d) (h1 : d < 16) : ((hexD d.toNat).toNat : Int) = 87 + d := by
  have : ∀ k : Fin 16, 10 ≤ k.val → ((hexD k.val).toNat : Int) = 87 + (k.val : Int) := by decide
  have := this ⟨d.toNat, by omega⟩ (by simp; omega)
  rw [this]; simp; omega

theorem sign_any (d : Int) (h0 : 0 ≤ d) (h1 : d < 16) (w : World) : Calls Tryd.prog 39 #[.int .i64 d] w fun e w' => e = .returned (.string ⟨#[hexD d.toNat]⟩) ∧ Below w.heap.size w w' := by
  by_cases h : d < 10
  · have t : decide (d < 10) = true := by simpa using h
    have hc := one_str w (48 + d) (hexD d.toNat) (hexD_lo d h0 h)
    go_enter Tryd.func39, Tryd.ntmps39
    go_wp2
    go_ret
    exact ⟨rfl, (Below.refl _ _).alloc (Nat.le_refl _) _⟩
  · have t : decide (d < 10) = false := by simpa using h
    have hc := one_str w (87 + d) (hexD d.toNat) (hexD_hi d (by omega) h1)
    go_enter Tryd.func39, Tryd.ntmps39
    go_wp2
    go_ret
    exact ⟨rfl, (Below.refl _ _).alloc (Nat.le_refl _) _⟩

theorem hex_take (s : ByteArray) (k : Nat) (h : k < s.size) : hexL (s.data.toList.take (k + 1)) = (hexL (s.data.toList.take k) ++ [hexD ((s[k]).toNat / 16)]) ++ [hexD ((s[k]).toNat % 16)] := by
  rw [take_snoc s k h, hexL_snoc]

set_option maxRecDepth 100000 in
set_option maxHeartbeats 4000000 in
theorem rhex_any (s : ByteArray) (w : World) (hs : s.size ≤ 30000) :
    Calls Tryd.prog 28 #[.string s] w fun e w' => e = .returned (.string ⟨(hexL s.data.toList).toArray⟩) ∧ Below w.heap.size w w' := by
  obtain ⟨r, hr⟩ : ∃ r : ByteArray, r = ⟨(hexL s.data.toList).toArray⟩ := ⟨_, rfl⟩
  rw [← hr]
  have HR := Lib.hid hr; clear hr
  go_enter Tryd.func28, Tryd.ntmps28
  go_wp2
  go_loopw [3, 4] (fun o i wr => ∃ (k : Nat) (out : ByteArray), k ≤ s.size ∧ i = .int .i64 k ∧ o = .string out ∧ Hid (out.data.toList = hexL (s.data.toList.take k)) ∧ out.size ≤ 2 * k ∧ Below w.heap.size w wr) (fun _ i _ => s.size - (intOf i).toNat)
  case atStart => exact ⟨0, ⟨#[]⟩, Nat.zero_le _, rfl, rfl, Lib.hid (by simp [hexL]), by decide, Below.refl _ _⟩
  case round =>
    obtain ⟨k, out, hk, rfl, rfl, hout, hle, hB⟩ := hrel
    by_cases hlt : k < s.size
    · have hxb := byte_bd s[k]
      obtain ⟨hx0, hx1⟩ := hxb
      have HS := Lib.hid (hex_take s k hlt)
      obtain ⟨hi, ehi⟩ : ∃ hi : Int, ((s[k]).toNat : Int).tdiv 16 = hi := ⟨_, rfl⟩
      obtain ⟨lo, elo⟩ : ∃ lo : Int, ((s[k]).toNat : Int).tmod 16 = lo := ⟨_, rfl⟩
      have HHI := Lib.hid (show hi.toNat = (s[k]).toNat / 16 by rw [← ehi, Int.tdiv_eq_ediv_of_nonneg (by omega)]; omega)
      have HLO := Lib.hid (show lo.toNat = (s[k]).toNat % 16 by rw [← elo, Int.tmod_eq_emod_of_nonneg (by omega)]; omega)
      have hhi : 0 ≤ hi ∧ hi < 16 := by rw [← ehi, Int.tdiv_eq_ediv_of_nonneg (by omega)]; omega
      have hlo : 0 ≤ lo ∧ lo < 16 := by rw [← elo, Int.tmod_eq_emod_of_nonneg (by omega)]; omega
      obtain ⟨hhi0, hhi1⟩ := hhi
      obtain ⟨hlo0, hlo1⟩ := hlo
      have e1 : IntKind.i64.wrap ((s[k]).toNat : Int) = ((s[k]).toNat : Int) := IntWalk.i64_in _ (by omega)
      have e2 : IntKind.i64.wrap hi = hi := IntWalk.i64_in _ (by omega)
      have e3 : IntKind.i64.wrap lo = lo := IntWalk.i64_in _ (by omega)
      go_wp2
      go_region_with (go_at_call 39; refine (sign_any _ (by assumption) (by assumption) _).mono ?_; rintro e w1 ⟨rfl, b1⟩; (first | replace hB := hB.drew.trans (b1.mono hB.size) | replace hB := hB.trans (b1.mono hB.size)); clear b1)
      all_goals go_wp2
      all_goals
        go_roundw
        case rel => exact ⟨k + 1, _, by omega, by go_num, rfl, Lib.hid (by rw [HS.out, app_data, app_data, hout.out, HHI.out, HLO.out]), by rw [app_size, app_size, one_size, one_size]; omega, by first | exact hB | exact hB.drew⟩
        case measure => simp [intOf]; omega
    · go_wp2
      go_ret
      exact ⟨ret_str (by
        rw [HR.out]
        apply WideShapes.bytes_inj
        rw [hout.out, List.take_of_length_le (by simp; omega)]), hB⟩
end Go.Proofs.YtembcmmoicmkeaaDoor
