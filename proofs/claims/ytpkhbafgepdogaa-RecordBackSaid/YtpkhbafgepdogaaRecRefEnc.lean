/-
  Layer 5, the document's Encode (annexeref05): it returns the row's encoding, or what is wrong with the row ('encR'), and changes nothing that was there. Condition: none beyond the memory's own (strings of at most 2^47 - 4096 bytes).
-/
import Derived.Test.YtpkhbafgepdogaaRecEnc
import Derived.Test.YtpkhbafgepdogaaVarRef
namespace Go.Proofs.Ytpkhbafgepdogaa
open Go.RowKit

theorem ba_app (a b : List UInt8) : (⟨a.toArray⟩ : ByteArray) ++ ⟨b.toArray⟩ = ⟨(a ++ b).toArray⟩ := by
  apply ByteArray.ext; simp

theorem box3 {W : World} {B : Nat} {x y z : Value} {t : TypeId} (h : W.heap[B]? = some (.cells #[x, y, z] t (0, 0))) : W.cell? ⟨B, 0, none⟩ = some x ∧ W.cell? ⟨B, 1, none⟩ = some y ∧ W.cell? ⟨B, 2, none⟩ = some z := by
  refine ⟨?_, ?_, ?_⟩ <;> simp [World.cell?, h]
theorem new3 (W : World) (x y z : Value) (t : TypeId) : (W.alloc (.cells #[x, y, z] t)).cell? ⟨W.heap.size, 0, none⟩ = some x ∧ (W.alloc (.cells #[x, y, z] t)).cell? ⟨W.heap.size, 1, none⟩ = some y ∧ (W.alloc (.cells #[x, y, z] t)).cell? ⟨W.heap.size, 2, none⟩ = some z :=
  box3 (Deep.blk_alloc_new _ _)
theorem new3_next {W W' : World} {x y z : Value} {t : TypeId} (h : Below (W.alloc (.cells #[x, y, z] t)).heap.size (W.alloc (.cells #[x, y, z] t)) W') : W'.cell? ⟨W.heap.size, 0, none⟩ = some x ∧ W'.cell? ⟨W.heap.size, 1, none⟩ = some y ∧ W'.cell? ⟨W.heap.size, 2, none⟩ = some z := by
  obtain ⟨d0, d1, d2⟩ := new3 W x y z t
  exact ⟨(h.cell (by simp)).trans d0, (h.cell (by simp)).trans d1, (h.cell (by simp)).trans d2⟩
theorem put_ba (m : Nat) (hm : m < 18446744073709551616) : ∃ pm : ByteArray, pm.size ≤ 9 ∧ Hid (pm = ⟨(putL m).toArray⟩) ∧ ∀ w, Calls Try.prog 22 #[.int .u64 (m : Int)] w fun e w' => e = .returned (.string pm) ∧ Below w.heap.size w w' := by
  refine ⟨⟨(putL m).toArray⟩, ?_, rfl, fun w => rput_any (m : Int) (by omega) (by omega) w⟩
  rw [← size_list]; simp only; rw [putL_length]; exact lenN_le m

set_option maxRecDepth 100000 in
set_option maxHeartbeats 2000000 in
theorem rencode_any (a : Option Addr) (cap : Nat) (l : List Val) (w : World) (hl : l.length ≤ 9223372036854775807) (ha : Vals w a l) :
    Calls Try.prog 9 #[.slice a l.length cap] w fun e w' => e = .returned (.tuple #[.string ⟨(encR l).1.toArray⟩, .int .i64 (encR l).2]) ∧ Below w.heap.size w w' := by
  obtain ⟨r, hr⟩ : ∃ r, r = encR l := ⟨_, rfl⟩
  rw [← hr]
  obtain ⟨len, hlen⟩ : ∃ len, len = l.length := ⟨_, rfl⟩
  by_cases h16 : 16 < len
  · have e : r = ([], 18) := by rw [hr, encR, show errE l = 18 by rw [errE, if_pos (by omega)]]; rfl
    rw [← hlen] at hl ⊢
    subst e
    clear hr
    go_enter Try.func9, Try.ntmps9
    go_wp2
    go_ret2
    exact ⟨rfl, Below.refl _ _⟩
  have hr' : r = if checks (l.drop 0) = 0 then (encL l, 0) else ([], checks (l.drop 0)) := by rw [hr, encR, show errE l = checks l by rw [errE, if_neg (by omega)]]; rfl
  clear hr
  rw [← hlen] at hl ⊢
  have w1 : IntKind.u64.wrap (len : Int) = len := by rw [IntKind.wrap_u64]; omega
  have HA := Lib.hid ha; clear ha
  have HL := Lib.hid hlen; clear hlen
  have HR := Lib.hid hr'; clear hr'
  have hp : ∀ w, Calls Try.prog 22 #[.int .u64 len] w fun e w' => e = .returned (.string ⟨(putL len).toArray⟩) ∧ Below w.heap.size w w' := fun w => rput_any (len : Int) (by omega) (by omega) w
  obtain ⟨p0, hp0⟩ : ∃ p0 : ByteArray, p0 = ⟨(putL len).toArray⟩ := ⟨_, rfl⟩
  rw [← hp0] at hp
  have hps : p0.size ≤ 9 := by rw [hp0, ← size_list]; simp only; rw [putL_length]; exact lenN_le len
  have HP0 := Lib.hid hp0; clear hp0
  go_enter Try.func9, Try.ntmps9
  go_wp2_with (go_at_call 22; refine (hp _).mono ?_; rintro e w0 ⟨rfl, b0⟩)
  have HB0 := Lib.hid b0
  clear hp b0
  go_loopw [4, 5, 6] (fun h b i wr => ∃ (k : Nat) (hd bd : ByteArray), k ≤ len ∧ hd.size ≤ 9 + 9 * k ∧ bd.size ≤ 1000 * k ∧ h = .string hd ∧ b = .string bd ∧ i = .int .i64 k ∧ Hid (hd = ⟨(putL len ++ encM (l.take k)).toArray⟩ ∧ bd = ⟨(encD (l.take k)).toArray⟩) ∧ Hid (r = if checks (l.drop k) = 0 then (encL l, 0) else ([], checks (l.drop k))) ∧ Hid (Below w.heap.size w wr)) (fun _ _ i _ => len - (intOf i).toNat)
  case atStart => exact ⟨0, p0, ⟨#[]⟩, by omega, by omega, by decide, rfl, rfl, rfl, ⟨by rw [HP0.out]; simp [encM], by simp [encD]⟩, HR, HB0⟩
  case round =>
    obtain ⟨k, hd, bd, hk, hhd, hbd, rfl, rfl, rfl, he, hz, hB⟩ := hrel
    clear HR HB0 HP0 hps
    by_cases hlt : k < len
    · have hlt' : k < l.length := by have := HL.out; omega
      obtain ⟨hs, hn, b, off, rfl, hbw, c0, c1, c2⟩ := vals_next HA.out hB.out k hlt'
      have hz' := hz.out
      rw [checks_one hlt'] at hz'
      have HM := Lib.hid (encM_snoc hlt')
      have HD := Lib.hid (encD_snoc hlt')
      obtain ⟨v, hv⟩ : ∃ v, v = l[k] := ⟨_, rfl⟩
      rw [← hv] at hz' hs c0 c1 c2 hn HM HD
      clear hv hz hlt'
      have hc := fun w => qcheck_any v.k v.n v.s w (by omega)
      obtain ⟨x, hx⟩ : ∃ x, x = checkZ v.k v.n v.s := ⟨_, rfl⟩
      rw [← hx] at hz' hc
      by_cases h0 : x = 0
      · rw [if_pos h0] at hz'
        have hok := check_ok (hx.symm.trans h0)
        have HZ := Lib.hid hz'; clear hz' hx
        subst h0
        obtain ⟨k1, n1, s1⟩ := v
        simp only at hs c0 c1 c2 hc hok hn
        obtain ⟨o1, o2, o3, o4, o5⟩ := hok
        by_cases e0 : k1 = 0
        · subst e0
          obtain ⟨pm, hpm, HPM, hput⟩ := put_ba 0 (by omega)
          have HD' : Hid (encD (l.take (k + 1)) = encD (l.take k)) := by
            have e : s1 = ⟨#[]⟩ := size_nil (o4 (by omega))
            rw [HD.out, e]
            show _ ++ [] = _
            rw [List.append_nil]
          clear HD o3 o4 hn
          simp only [Int.natCast_zero] at hput
          go_wp2_with (first
            | (go_at_call 23; refine (hc _).mono ?_; rintro e w4 ⟨rfl, b4⟩; obtain ⟨d0, d1, d2⟩ := new3_next b4)
            | (go_at_call 22; with_reducible refine (hput _).mono ?_; rintro e w5 ⟨rfl, b5⟩))
          have HB5 := Lib.hid (((hB.out.alloc hB.out.size _).trans (b4.mono (by simp; have := hB.out.size; omega))).trans (b5.mono (by have := hB.out.size; have h4 := b4.size; simp only [World.size_alloc] at h4; omega)))
          clear b4 b5 d0 d1 d2
          go_roundw
          case rel => exact ⟨k + 1, hd ++ pm, bd, by omega, by rw [app_size]; omega, by omega, rfl, rfl, by go_num, ⟨by rw [he.out.1, HPM.out, ba_app, HM.out]; simp [markN], by rw [HD'.out]; exact he.out.2⟩, HZ, HB5⟩
          case measure => simp [intOf]; omega
        by_cases e1 : k1 = 1
        · subst e1
          obtain ⟨pm, hpm, HPM, hput⟩ := put_ba 1 (by omega)
          have hfb := fold_bd hn
          have hf := fun w => rvfold_any n1 hn.1 hn.2 w
          obtain ⟨z, hz⟩ : ∃ z : Nat, z = (foldZ n1).toNat := ⟨_, rfl⟩
          have hz2 : foldZ n1 = (z : Int) := by omega
          obtain ⟨pn, hpn, HPN, hput2⟩ := put_ba z (by omega)
          have HD' : Hid (encD (l.take (k + 1)) = encD (l.take k) ++ putL z) := by
            rw [HD.out]
            show _ ++ putL (foldZ n1).toNat = _
            rw [← hz]
          rw [hz2] at hf
          clear HD o3 o4 hn hfb hz hz2
          simp only [Int.natCast_one] at hput
          go_wp2_with (first
            | (go_at_call 23; refine (hc _).mono ?_; rintro e w4 ⟨rfl, b4⟩; obtain ⟨d0, d1, d2⟩ := new3_next b4)
            | (go_at_call 22; with_reducible refine (hput _).mono ?_; rintro e w5 ⟨rfl, b5⟩; replace d0 := (b5.cell (p := ⟨wr.heap.size, 0, none⟩) (by have h4 := b4.size; simp only [World.size_alloc] at h4; simp only; omega)).trans d0; replace d1 := (b5.cell (p := ⟨wr.heap.size, 1, none⟩) (by have h4 := b4.size; simp only [World.size_alloc] at h4; simp only; omega)).trans d1)
            | (go_at_call 24; refine (hf _).mono ?_; rintro e w6 ⟨rfl, rfl⟩)
            | (go_at_call 22; with_reducible refine (hput2 _).mono ?_; rintro e w7 ⟨rfl, b7⟩))
          have h4 := b4.size; have h5 := b5.size
          simp only [World.size_alloc] at h4
          have HB5 := Lib.hid ((((hB.out.alloc hB.out.size _).trans (b4.mono (by simp; have := hB.out.size; omega))).trans (b5.mono (by have := hB.out.size; omega))).trans (b7.mono (by have := hB.out.size; omega)))
          clear b4 b5 d0 d1 d2 b7
          go_roundw
          case rel => exact ⟨k + 1, hd ++ pm, bd ++ pn, by omega, by rw [app_size]; omega, by rw [app_size]; omega, rfl, rfl, by go_num, ⟨by rw [he.out.1, HPM.out, ba_app, HM.out]; simp [markN], by rw [he.out.2, HPN.out, ba_app, HD'.out]⟩, HZ, HB5⟩
          case measure => simp [intOf]; omega
        · have HD' : Hid (encD (l.take (k + 1)) = encD (l.take k) ++ s1.data.toList) := by
            rw [HD.out, dataL, if_neg e1]; exact rfl
          have hmk : markN ⟨k1, n1, s1⟩ = k1.toNat + 2 * s1.size := by
            unfold markN
            simp only
            rcases (show k1 = 2 ∨ k1 = 3 by omega) with rfl | rfl <;> simp
          rw [hmk] at HM
          obtain ⟨pm, hpm, HPM, hput⟩ := put_ba (k1.toNat + 2 * s1.size) (by omega)
          have ez : (((k1.toNat + 2 * s1.size : Nat)) : Int) = k1 + 2 * (s1.size : Int) := by omega
          rw [ez] at hput
          have w2 : IntKind.u64.wrap (k1 + 2 * (s1.size : Int)) = k1 + 2 * (s1.size : Int) := by rw [IntKind.wrap_u64]; omega
          have t0 : (k1 == 0) = false := by simpa using e0
          have t1 : (k1 == 1) = false := by simpa using e1
          clear HD o3 o4 hn hmk e0 e1 ez
          go_wp2_with (first
            | (go_at_call 23; refine (hc _).mono ?_; rintro e w4 ⟨rfl, b4⟩; obtain ⟨d0, d1, d2⟩ := new3_next b4)
            | (go_at_call 22; with_reducible refine (hput _).mono ?_; rintro e w5 ⟨rfl, b5⟩; replace d2 := (b5.cell (p := ⟨wr.heap.size, 2, none⟩) (by have h4 := b4.size; simp only [World.size_alloc] at h4; simp only; omega)).trans d2))
          have h4 := b4.size
          simp only [World.size_alloc] at h4
          have HB5 := Lib.hid (((hB.out.alloc hB.out.size _).trans (b4.mono (by simp; have := hB.out.size; omega))).trans (b5.mono (by have := hB.out.size; omega)))
          clear b4 b5 d0 d1 d2
          go_roundw
          case rel => exact ⟨k + 1, hd ++ pm, bd ++ s1, by omega, by rw [app_size]; omega, by rw [app_size]; omega, rfl, rfl, by go_num, ⟨by rw [he.out.1, HPM.out, ba_app, HM.out, List.append_assoc], by rw [he.out.2, HD'.out, ← ba_app]⟩, HZ, HB5⟩
          case measure => simp [intOf]; omega
      · rw [if_neg h0, if_neg h0] at hz'
        subst hz'
        have t1 : (x != 0) = true := by simpa using h0
        clear hx h0 HM HD he hn
        obtain ⟨k1, n1, s1⟩ := v
        simp only at hs c0 c1 c2 hc
        go_wp2_with (go_at_call 23; refine (hc _).mono ?_; rintro e w' ⟨rfl, hb⟩)
        go_ret2
        exact ⟨rfl, (hB.out.alloc hB.out.size _).trans (hb.mono (by simp; have := hB.out.size; omega))⟩
    · have hz' := hz.out
      rw [List.drop_eq_nil_of_le (by have := HL.out; omega), checks, if_pos rfl] at hz'
      have HE : Hid (hd ++ bd = ⟨(encL l).toArray⟩) := by
        have hkl : l.take k = l := List.take_of_length_le (by have := HL.out; omega)
        rw [hkl] at he
        rw [he.out.1, he.out.2, ba_app, encL, HL.out, List.append_assoc]
        exact rfl
      subst hz'
      clear hz he
      go_wp2
      go_ret2
      exact ⟨ret_se HE.out rfl, hB.out⟩
end Go.Proofs.Ytpkhbafgepdogaa
