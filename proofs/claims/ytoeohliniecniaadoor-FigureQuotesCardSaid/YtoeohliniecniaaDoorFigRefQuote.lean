/-
  The document's answers Quote and Unquote of layer 1: each returns its plain function of the bytes ('quoteL', 'unqR') and changes nothing that was there. Condition: the string has at most 3000 bytes.
-/
import Derived.Test.YtoeohliniecniaaDoorFigRefFold
namespace Go.Proofs.YtoeohliniecniaaDoor
open Go.RowKit

theorem app_data (a b : ByteArray) : (a ++ b).data.toList = a.data.toList ++ b.data.toList := by simp
theorem app_size (a b : ByteArray) : (a ++ b).size = a.size + b.size := by simp
theorem one_size (x : UInt8) : (⟨#[x]⟩ : ByteArray).size = 1 := rfl
theorem ext_one (s : ByteArray) (k : Nat) (h : k < s.size) : s.extract k (k + 1) = ⟨#[s[k]]⟩ := by
  apply WideShapes.bytes_inj
  rw [Lib.extract_data]
  obtain ⟨⟨l⟩⟩ := s
  have h' : k < l.length := h
  show (l.drop k).take (k + 1 - k) = [l[k]]
  rw [List.drop_eq_getElem_cons h', show k + 1 - k = 1 by omega]
  rfl

set_option maxRecDepth 100000 in
set_option maxHeartbeats 2000000 in
theorem rquote_any (s : ByteArray) (w : World) (hs : s.size ≤ 3000) :
    Calls Tryd.prog 22 #[.string s] w fun e w' => e = .returned (.string ⟨(quoteL s.data.toList).toArray⟩) ∧ w = w' := by
  obtain ⟨r, hr⟩ : ∃ r : ByteArray, r = ⟨(quoteL s.data.toList).toArray⟩ := ⟨_, rfl⟩
  rw [← hr]
  have HR := Lib.hid hr; clear hr
  go_enter Tryd.func22, Tryd.ntmps22
  go_wp2
  go_loop [3, 4] (fun o i => ∃ (k : Nat) (out : ByteArray), k ≤ s.size ∧ i = .int .i64 k ∧ o = .string out ∧ Hid (out.data.toList = quoteM (s.data.toList.take k)) ∧ out.size ≤ 1 + 2 * k) (fun _ i => s.size - (intOf i).toNat)
  case atStart => exact ⟨0, ⟨#[39]⟩, Nat.zero_le _, rfl, rfl, Lib.hid (by simp [quoteM]), by decide⟩
  case round =>
    obtain ⟨k, out, hk, rfl, rfl, hout, hle⟩ := hrel
    by_cases hlt : k < s.size
    · have he := ext_one s k hlt
      have HS := Lib.hid (show quoteM (s.data.toList.take (k + 1)) = _ by rw [take_snoc s k hlt, quoteM_snoc])
      by_cases hx : s[k] = 39
      · have t1 : (((s[k]).toNat : Int) == 39) = true := by rw [hx]; rfl
        have HX := Lib.hid hx; clear hx
        go_wp2
        go_round
        case rel => exact ⟨k + 1, _, by omega, by go_num, rfl, Lib.hid (by rw [HS.out, if_pos HX.out, app_data, app_data, hout.out, HX.out]), by rw [app_size, app_size, one_size, one_size]; omega⟩
        case measure => simp [intOf]; omega
      · have t1 : (((s[k]).toNat : Int) == 39) = false := beq_eq_false_iff_ne.2 fun e => hx (UInt8.toNat_inj.1 (Int.ofNat.inj e))
        have HX := Lib.hid hx; clear hx
        go_wp2
        go_round
        case rel => exact ⟨k + 1, _, by omega, by go_num, rfl, Lib.hid (by rw [HS.out, if_neg HX.out, app_data, hout.out]), by rw [app_size]; rw [one_size]; omega⟩
        case measure => simp [intOf]; omega
    · go_wp2
      go_ret
      exact ⟨ret_str (by
        rw [HR.out]
        apply WideShapes.bytes_inj
        rw [app_data, hout.out, List.take_of_length_le (by simp; omega)]
        rfl), rfl⟩

theorem und_at {l : List UInt8} {k : Nat} {c : UInt8} (h : l[k]? = some c) : undF (l.take (k + 1)) = undS (undF (l.take k)) c := by
  rw [List.take_add_one, h, Option.toList_some, undF_snoc]
theorem und_bad {l : List UInt8} {r : ByteArray} {e0 : Int} (hr : undR l = (r.data.toList, e0)) (h : undF l = none ∨ ∃ out, undF l = some (true, out)) : r = ⟨#[]⟩ ∧ e0 = 4 := by
  have : undR l = ([], 4) := by
    rcases h with h | ⟨out, h⟩ <;> simp [undR, h]
  rw [this] at hr
  have h1 := congrArg Prod.fst hr
  have h2 := congrArg Prod.snd hr
  exact ⟨WideShapes.bytes_inj h1.symm, h2.symm⟩
theorem und_good {l : List UInt8} {r out : ByteArray} {e0 : Int} (hr : undR l = (r.data.toList, e0)) (h : undF l = some (false, out.data.toList)) : r = out ∧ e0 = 0 := by
  rw [undR, h] at hr
  have h1 := congrArg Prod.fst hr
  have h2 := congrArg Prod.snd hr
  exact ⟨WideShapes.bytes_inj h1.symm, h2.symm⟩
theorem ret_two {a b : ByteArray} {c d : Int} (h : a = b ∧ c = d) : Ending.returned (.tuple #[.string b, .int .i64 d]) = .returned (.tuple #[.string a, .int .i64 c]) := by rw [h.1, h.2]

set_option maxRecDepth 100000 in
set_option maxHeartbeats 4000000 in
theorem runq_yes (s : ByteArray) (w : World) (hs : s.size ≤ 3000) (h2 : 2 ≤ s.size) (t1 : (((s[0]'(by omega)).toNat : Int) != 39) = false) (t2 : (((s[s.size - 1]'(by omega)).toNat : Int) != 39) = false) (r : ByteArray) (e0 : Int) (hr : Hid (undR (mid s.data.toList) = (r.data.toList, e0))) :
    Calls Tryd.prog 20 #[.string s] w fun e w' => e = .returned (.tuple #[.string r, .int .i64 e0]) ∧ w = w' := by
  have hml : (mid s.data.toList).length = s.size - 2 := by simp [mid]; omega
  have hmi : ∀ k (h : k + 1 < s.size - 1), (mid s.data.toList)[k]? = some (s[k + 1]'(by omega)) := by
    intro k h
    obtain ⟨⟨l⟩⟩ := s
    have h' : k + 1 < l.length := by have : (⟨⟨l⟩⟩ : ByteArray).size = l.length := rfl; omega
    show ((l.drop 1).take (l.length - 2))[k]? = some l[k + 1]
    rw [List.getElem?_take, if_pos (by have : (⟨⟨l⟩⟩ : ByteArray).size = l.length := rfl; omega), List.getElem?_drop, Nat.add_comm 1 k, List.getElem?_eq_getElem h']
  have HML := Lib.hid hml; have HMI := Lib.hid hmi; clear hml hmi
  go_enter Tryd.func20, Tryd.ntmps20
  go_wp2
  go_loop [5, 6] (fun o i => ∃ (k : Nat) (out : ByteArray), k + 1 ≤ s.size - 1 ∧ i = .int .i64 ((k + 1 : Nat) : Int) ∧ o = .string out ∧ Hid (undF ((mid s.data.toList).take k) = some (false, out.data.toList)) ∧ out.size ≤ k) (fun _ i => s.size - (intOf i).toNat)
  case atStart => exact ⟨0, ⟨#[]⟩, by omega, rfl, rfl, Lib.hid (by simp [undF]), by decide⟩
  case round =>
    obtain ⟨k, out, hk, rfl, rfl, hout, hle⟩ := hrel
    by_cases hlt : k + 1 < s.size - 1
    · have HA := Lib.hid (HMI.out k hlt)
      have he := ext_one s (k + 1) (by omega)
      by_cases hx : s[k + 1] = 39
      · have t3 : (((s[k + 1]).toNat : Int) == 39) = true := by rw [hx]; rfl
        have HX := Lib.hid hx; clear hx
        by_cases hl2 : k + 1 + 1 < s.size - 1
        · have HA2 := Lib.hid (HMI.out (k + 1) hl2)
          have he2 := ext_one s (k + 1 + 1) (by omega)
          by_cases hy : s[k + 1 + 1] = 39
          · have t4 : (((s[k + 1 + 1]).toNat : Int) != 39) = false := by rw [hy]; rfl
            have HY := Lib.hid hy; clear hy
            go_wp2
            go_round
            case rel => exact ⟨k + 2, _, by omega, by go_num, rfl, Lib.hid (by rw [und_at HA2.out, und_at HA.out, hout.out, HX.out, HY.out, app_data]; rfl), by rw [app_size, one_size]; omega⟩
            case measure => simp [intOf]; omega
          · have t4 : (((s[k + 1 + 1]).toNat : Int) != 39) = true := ne39' hy
            have HY := Lib.hid hy; clear hy
            go_wp2
            go_ret2
            exact ⟨ret_two (und_bad hr.out (.inl (undF_prefix (List.take_prefix (k + 1 + 1) _) (by rw [und_at HA2.out, und_at HA.out, hout.out, HX.out]; simp [undS, HY.out])))), rfl⟩
        · go_wp2
          go_ret2
          exact ⟨ret_two (und_bad hr.out (.inr ⟨out.data.toList, by rw [← List.take_of_length_le (l := mid s.data.toList) (i := k + 1) (by rw [HML.out]; omega), und_at HA.out, hout.out, HX.out]; rfl⟩)), rfl⟩
      · have t3 : (((s[k + 1]).toNat : Int) == 39) = false := beq_eq_false_iff_ne.2 fun e => hx (UInt8.toNat_inj.1 (Int.ofNat.inj e))
        have HX := Lib.hid hx; clear hx
        go_wp2
        go_round
        case rel => exact ⟨k + 1, _, by omega, by go_num, rfl, Lib.hid (by rw [und_at HA.out, hout.out, app_data]; simp [undS, HX.out]), by rw [app_size, one_size]; omega⟩
        case measure => simp [intOf]; omega
    · go_wp2
      go_ret2
      exact ⟨ret_two (und_good hr.out (by rw [← List.take_of_length_le (l := mid s.data.toList) (i := k) (by rw [HML.out]; omega)]; exact hout.out)), rfl⟩

set_option maxHeartbeats 1000000 in
theorem runq_no (s : ByteArray) (w : World) (hs : s.size ≤ 3000) (h2 : 2 ≤ s.size) (h : (((s[0]'(by omega)).toNat : Int) != 39) = true ∨ ((((s[0]'(by omega)).toNat : Int) != 39) = false ∧ (((s[s.size - 1]'(by omega)).toNat : Int) != 39) = true)) :
    Calls Tryd.prog 20 #[.string s] w fun e w' => e = .returned (.tuple #[.string ⟨#[]⟩, .int .i64 4]) ∧ w = w' := by
  rcases h with t1 | ⟨t1, t2⟩
  · go_enter Tryd.func20, Tryd.ntmps20
    go_wp2
    go_ret2
    exact ⟨rfl, rfl⟩
  · go_enter Tryd.func20, Tryd.ntmps20
    go_wp2
    go_ret2
    exact ⟨rfl, rfl⟩

theorem runq_short (s : ByteArray) (w : World) (h2 : s.size < 2) :
    Calls Tryd.prog 20 #[.string s] w fun e w' => e = .returned (.tuple #[.string ⟨#[]⟩, .int .i64 1]) ∧ w = w' := by
  go_enter Tryd.func20, Tryd.ntmps20
  go_wp2
  go_ret2
  exact ⟨rfl, rfl⟩

theorem runq_any (s : ByteArray) (w : World) (hs : s.size ≤ 3000) :
    Calls Tryd.prog 20 #[.string s] w fun e w' => e = .returned (.tuple #[.string ⟨(unqR s.data.toList).1.toArray⟩, .int .i64 (unqR s.data.toList).2]) ∧ w = w' := by
  have hlen : s.data.toList.length = s.size := by simp
  by_cases h2 : s.size < 2
  · refine (runq_short s w h2).mono fun e w' ⟨he, hw⟩ => ⟨?_, hw⟩
    rw [he, unqR, if_pos (by omega)]
  · have h0 : 0 < s.size := by omega
    by_cases h : s.data.toList.headD 0 = 39 ∧ s.data.toList.getLastD 0 = 39
    · have h' := h
      rw [head_at h0, last_at h0] at h'
      refine (runq_yes s w hs (by omega) (ne39 h'.1) (ne39 h'.2) ⟨(undR (mid s.data.toList)).1.toArray⟩ (undR (mid s.data.toList)).2 (Lib.hid rfl)).mono fun e w' ⟨he, hw⟩ => ⟨?_, hw⟩
      rw [he, unqR, if_neg (by omega), if_pos h]
    · have h' := h
      rw [head_at h0, last_at h0] at h'
      refine (runq_no s w hs (by omega) ?_).mono fun e w' ⟨he, hw⟩ => ⟨?_, hw⟩
      · by_cases k : s[0] = 39
        · exact .inr ⟨ne39 k, ne39' fun k' => h' ⟨k, k'⟩⟩
        · exact .inl (ne39' k)
      · rw [he, unqR, if_neg (by omega), if_neg h]
end Go.Proofs.YtoeohliniecniaaDoor
