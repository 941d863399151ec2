/-
  The document's answers Quote and Unquote of layer 1: each returns its plain function of the bytes ('quoteL', 'unqR') and changes nothing that was there. Condition: the string has at most 30000 bytes.
-/
import Derived.Test.YtembcmmoicmkeaaDoorFigRefFold
namespace Go.Proofs.YtembcmmoicmkeaaDoor
open Go.RowKit

theorem app_data (a b : ByteArray) : (a ++ b).data.toList = a.data.toList ++ b.data.toList := by simp
theorem app_size (a b : ByteArray) : (a ++ b).size = a.size + b.size := by simp
theorem one_size (x : UInt8) : (⟨#[x]⟩ : ByteArray).size = 1 := rfl
theorem ext_one (s : ByteArray) (k : Nat) (h : k < s.size) : s.extract k (k + 1) = ⟨#[s[k]]⟩ := by
  apply WideShapes.bytes_inj
  rw [Lib.extract_data]
  obtain ⟨⟨l⟩⟩ := s
  have h' : k < l.length := h
  show (l.drop k).take (k + 1 - k) = [l[k]]
  rw [List.drop_eq_getElem_cons h', show k + 1 - k = 1 by omega]
  rfl

set_option maxRecDepth 100000 in
set_option maxHeartbeats 2000000 in
theorem rquote_any (s : ByteArray) (w : World) (hs : s.size ≤ 30000) :
    Calls Tryd.prog 27 #[.string s] w fun e w' => e = .returned (.string ⟨(quoteL s.data.toList).toArray⟩) ∧ w = w' := by
  obtain ⟨r, hr⟩ : ∃ r : ByteArray, r = ⟨(quoteL s.data.toList).toArray⟩ := ⟨_, rfl⟩
  rw [← hr]
  have HR := Lib.hid hr; clear hr
  go_enter Tryd.func27, Tryd.ntmps27
  go_wp2
  go_loop [3, 4] (fun o i => ∃ (k : Nat) (out : ByteArray), k ≤ s.size ∧ i = .int .i64 k ∧ o = .string out ∧ Hid (out.data.toList = quoteM (s.data.toList.take k)) ∧ out.size ≤ 1 + 2 * k) (fun _ i => s.size - (intOf i).toNat)
  case atStart => exact ⟨0, ⟨#[39]⟩, Nat.zero_le _, rfl, rfl, Lib.hid (by simp [quoteM]), by decide⟩
  case round =>
    obtain ⟨k, out, hk, rfl, rfl, hout, hle⟩ := hrel
    by_cases hlt : k < s.size
    · have he := ext_one s k hlt
      have HS := Lib.hid (show quoteM (s.data.toList.take (k + 1)) = _ by rw [take_snoc s k hlt, quoteM_snoc])
      by_cases hx : s[k] = 39
      · have t1 : (((s[k]).toNat : Int) == 39) = true := by rw [hx]; rfl
        have HX := Lib.hid hx; clear hx
        go_wp2
        go_round
        case rel => exact ⟨k + 1, _, by omega, by go_num, rfl, Lib.hid (by rw [HS.out, if_pos HX.out, app_data, app_data, hout.out, HX.out]), by rw [app_size, app_size, one_size, one_size]; omega⟩
        case measure => simp [intOf]; omega
      · have t1 : (((s[k]).toNat : Int) == 39) = false := beq_eq_false_iff_ne.2 fun e => hx (UInt8.toNat_inj.1 (Int.ofNat.inj e))
        have HX := Lib.hid hx; clear hx
        go_wp2
        go_round
        case rel => exact ⟨k + 1, _, by omega, by go_num, rfl, Lib.hid (by rw [HS.out, if_neg HX.out, app_data, hout.out]), by rw [app_size]; rw [one_size]; omega⟩
        case measure => simp [intOf]; omega
    · go_wp2
      go_ret
      exact ⟨ret_str (by
        rw [HR.out]
        apply WideShapes.bytes_inj
        rw [app_data, hout.out, List.take_of_length_le (by simp; omega)]
        rfl), rfl⟩

theorem und_at {l : List UInt8} {k : Nat} {c : UInt8} (h : l[k]? = some c) : undF (l.take (k + 1)) = undS (undF (l.take k)) c := by
  rw [List.take_add_one, h, Option.toList_some, undF_snoc]
theorem und_bad {l : List UInt8} {r : ByteArray} {e0 : Int} (hr : undR l = (r.data.toList, e0)) (h : undF l = none ∨ ∃ out, undF l = some (true, out)) : r = ⟨#[]⟩ ∧ e0 = 4 := by
  have : undR l = ([], 4) := by
    rcases h with h | ⟨out, h⟩ <;> simp [undR, h]
  rw [this] at hr
  have h1 := congrArg Prod.fst hr
  have h2 := congrArg Prod.snd hr
  exact ⟨WideShapes.bytes_inj h1.symm, h2.symm⟩
theorem und_good {l : List UInt8} {r out : ByteArray} {e0 : Int} (hr : undR l = (r.data.toList, e0)) (h : undF l = some (false, out.data.toList)) : r = out ∧ e0 = 0 := by
  rw [undR, h] at hr
  have h1 := congrArg Prod.fst hr
  have h2 := congrArg Prod.snd hr
  exact ⟨WideShapes.bytes_inj h1.symm, h2.symm⟩
theorem ret_two {a b : ByteArray} {c d : Int} (h : a = b ∧ c = d) : Ending.returned (.tuple #[.string b, .int .i64 d]) = .returned (.tuple #[.string a, .int .i64 c]) := by rw [h.1, h.2]

end Go.Proofs.YtembcmmoicmkeaaDoor
