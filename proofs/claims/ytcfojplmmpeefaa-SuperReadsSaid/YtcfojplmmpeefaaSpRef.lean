/-
  Layer 10, the document's Encode and Trailer: they return the same encodings and change nothing that was there. Condition: none beyond the memory's own.
-/
import Derived.Test.YtcfojplmmpeefaaSpEnc
namespace Go.Proofs.Ytcfojplmmpeefaa
open Go.RowKit

theorem twice_not {L : List (List UInt8)} {i k : Nat} (hk : k < i) (hi : i < L.length) (h : L[i] = L[k]) : ¬ L.Nodup := by
  refine not_nodup hi ?_
  rw [h]
  have : L[k] = (L.take i)[k]'(by rw [List.length_take]; omega) := by rw [List.getElem_take]
  rw [this]
  exact List.getElem_mem _
theorem not_take {L : List (List UInt8)} {i : Nat} (hi : i < L.length) (h : ∀ j, (hj : j < i) → L[i] ≠ L[j]) : L[i] ∉ L.take i := by
  intro hm
  obtain ⟨j, hj, e⟩ := List.getElem_of_mem hm
  rw [List.length_take] at hj
  rw [List.getElem_take] at e
  exact h j (by omega) e.symm
theorem ba_eqb (p q : List UInt8) : ((ba p).toList == (ba q).toList) = decide (p = q) := by
  rw [Bool.eq_iff_iff, beq_iff_eq, decide_eq_true_iff, ByteArray.toList_eq, ByteArray.toList_eq, ba_list, ba_list]

set_option maxRecDepth 100000 in
set_option maxHeartbeats 2000000 in
theorem r10encode_any (a : Option Addr) (cap : Nat) (L : List (List UInt8)) (w : World) (hl : L.length ≤ 9223372036854775807) (ha : Strs w a L) :
    Calls Try.prog 9 #[.slice a L.length cap] w fun e w' => e = .returned (.tuple #[.string (ba (encS L).1), .int .i64 (encS L).2]) ∧ Below w.heap.size w w' := by
  obtain ⟨r, hr⟩ : ∃ r, r = encS L := ⟨_, rfl⟩
  rw [← hr]
  have HR := Lib.hid hr; clear hr
  obtain ⟨n, hn⟩ : ∃ n, n = L.length := ⟨_, rfl⟩
  rw [← hn] at hl ⊢
  have HN := Lib.hid hn
  have HA := Lib.hid ha
  clear ha
  have HF := Lib.hid (show ∀ x, ckS L = x → x ≠ 0 → r = ([], x) from fun x h h0 => by rw [HR.out, encS, if_neg (by rw [h]; exact h0), h])
  by_cases h18 : n < 2 ∨ 12 < n
  · have HE := Lib.hid (HF.out 18 (ck_18 (by omega)) (by decide))
    clear hn
    by_cases h2 : n < 2
    · have t1 : decide ((n : Int) < 2) = true := decide_eq_true (by omega)
      go_enter Try.func9, Try.ntmps9
      go_wp2
      go_ret2
      exact ⟨by rw [HE.out]; rfl, Below.refl _ _⟩
    · have t1 : decide ((n : Int) < 2) = false := decide_eq_false (by omega)
      have t2 : decide (12 < (n : Int)) = true := decide_eq_true (by omega)
      go_enter Try.func9, Try.ntmps9
      go_wp2
      go_ret2
      exact ⟨by rw [HE.out]; rfl, Below.refl _ _⟩
  have g2 : 2 ≤ n := by omega
  have g12 : n ≤ 12 := by omega
  have t1 : decide ((n : Int) < 2) = false := decide_eq_false (by omega)
  have t2 : decide (12 < (n : Int)) = false := decide_eq_false (by omega)
  clear h18 hn
  have kf := fun w => sfour_any (n : Int) (by omega) (by omega) w
  rw [Int.toNat_natCast] at kf
  have hb4 : (ba (fourL n)).size = 4 := rfl
  have HX0 := Lib.hid (show (⟨#[97, 110, 110, 120, 115, 117, 112, 114]⟩ : ByteArray) ++ ba (fourL n) = ba (sjF ++ fourL n ++ bdS (L.take 0)) by
    rw [List.take_zero, bdS, List.append_nil, ← ba_app]; rfl)
  have HBL := Lib.hid (show ∀ k, k ≤ n → (∀ p ∈ L.take k, okS p = true) → (sjF ++ fourL n ++ bdS (L.take k)).length ≤ 600 from fun k hk hok => by
    have h3 := bdS_len (L.take k) fun p hp => (okS_iff.1 (hok p hp)).2
    rw [List.length_take] at h3
    rw [List.length_append, List.length_append, four_len, show sjF.length = 8 from rfl]; omega)
  have kt := fun p (hp : okS p = true) w => r10text_any (ba p) (by rw [ba_size]; exact (okS_iff.1 hp).2) w
  go_enter Try.func9, Try.ntmps9
  go_wp2_with (go_at_call 25; refine (kf _).mono ?_; rintro e w1 ⟨rfl, b1⟩)
  rw [HX0.out]
  have HB1 := Lib.hid b1
  clear kf b1 hb4
  go_loopw [4, 5] (fun s i wr => ∃ k : Nat, k ≤ n ∧ i = .int .i64 k ∧ s = .string (ba (sjF ++ fourL n ++ bdS (L.take k))) ∧ Hid (∀ p ∈ L.take k, okS p = true) ∧ Hid (Below w.heap.size w wr)) (fun _ i _ => n - (intOf i).toNat)
  case atStart => exact ⟨0, by omega, rfl, rfl, Lib.hid (fun p hp => absurd hp (by simp)), HB1⟩
  case round =>
    obtain ⟨k, hk, rfl, rfl, hok, hB⟩ := hrel
    clear HB1 HX0
    by_cases hlt : k < n
    · have hlt' : k < L.length := by rw [← HN.out]; exact hlt
      obtain ⟨b, off, rfl, hbw, c0⟩ := HA.out k hlt'
      rw [← hB.out.cell hbw] at c0
      have HL := Lib.hid hlt'
      have HS := Lib.hid (bd_snoc hlt')
      have hlen := HBL.out k hk hok.out
      obtain ⟨p, hp⟩ : ∃ p, p = L[k]'hlt' := ⟨_, rfl⟩
      have HP := Lib.hid hp
      rw [← hp] at c0 HS
      clear hp
      have kv := fun w => r10path_any (ba p) w
      rw [ba_list] at kv
      obtain ⟨o, ho⟩ : ∃ o, o = okS p := ⟨_, rfl⟩
      rw [← ho] at kv
      cases o
      · have HE := Lib.hid (HF.out 13 (ck_13 (by rw [← HN.out]; exact g2) (by rw [← HN.out]; exact g12) hlt' (by rw [← HP.out]; exact ho.symm)) (by decide))
        clear ho kt
        go_wp2_with (go_at_call 26; refine (kv _).mono ?_; rintro e w2 ⟨rfl, rfl⟩)
        go_ret2
        exact ⟨by rw [HE.out]; rfl, hB.out⟩
      · have kp := fun w => kt p ho.symm w
        rw [ba_list] at kp
        have hz := ba_size (txS p)
        have hpl : (txS p).length ≤ 44 := by have := okS_iff.1 ho.symm; rw [txS_len]; omega
        have hsz := ba_size (sjF ++ fourL n ++ bdS (L.take k))
        have HOk := Lib.hid (ok_snoc hlt' (by rw [← HP.out]; exact ho.symm) hok.out)
        have HAp := Lib.hid (show ba (sjF ++ fourL n ++ bdS (L.take k)) ++ ba (txS p) = ba (sjF ++ fourL n ++ bdS (L.take (k + 1))) by rw [ba_app, HS.out, List.append_assoc])
        generalize ba (txS p) = y at kp hz HAp
        generalize ba (sjF ++ fourL n ++ bdS (L.take k)) = x at hsz HAp ⊢
        generalize (sjF ++ fourL n ++ bdS (L.take k)).length = m at hlen hsz
        clear ho kt
        go_wp2_with (first
          | (go_at_call 26; refine (kv _).mono ?_; rintro e w2 ⟨rfl, rfl⟩)
          | (go_at_call 27; refine (kp _).mono ?_; rintro e w3 ⟨rfl, b3⟩))
        refine ⟨?_, ?measure⟩
        repeat apply Exists.intro
        refine ⟨?rel, rfl⟩
        case rel => exact ⟨k + 1, by omega, by go_num, by rw [HAp.out], HOk, Lib.hid (hB.out.trans (b3.mono hB.out.size))⟩
        case measure => simp [intOf]; omega
    · have hkn : k = n := by omega
      subst hkn
      have hkl : L.take k = L := List.take_of_length_le (by have := HN.out; omega)
      have hlen := HBL.out k (Nat.le_refl _) hok.out
      rw [hkl] at hok hlen ⊢
      have HOK := hok
      have HZ := Lib.hid (show sjF ++ fourL k ++ bdS L = hdS L by rw [hdS, HN.out])
      rw [HZ.out] at hlen ⊢
      clear hkl kt hok HBL hk hlt
      obtain ⟨z, hz⟩ : ∃ z, z = hdS L := ⟨_, rfl⟩
      rw [← hz] at hlen ⊢
      have HZZ := Lib.hid hz
      clear hz HZ
      go_wp2
      go_loopw [6] (fun i wr => ∃ j : Nat, j ≤ k ∧ i = .int .i64 j ∧ Hid ((L.take j).Nodup) ∧ Hid (Below w.heap.size w wr)) (fun i _ => k - (intOf i).toNat)
      case atStart => exact ⟨0, by omega, rfl, Lib.hid (by simp), hB⟩
      case round =>
        clear hB
        obtain ⟨j, hj, rfl, hnd, hB⟩ := hrel
        by_cases hlt : j < k
        · have hlt' : j < L.length := by rw [← HN.out]; exact hlt
          obtain ⟨b, off, rfl, hbw, c0⟩ := HA.out j hlt'
          have HL := Lib.hid hlt'
          have HC := Lib.hid (show ∀ q, (hq : q < L.length) → w.cell? ⟨b, off + q, none⟩ = some (.string (ba L[q])) from fun q hq => by
            obtain ⟨b', off', e, -, c⟩ := HA.out q hq
            injection e with e
            injection e with e1 e2
            subst e1 e2
            exact c)
          obtain ⟨p, hp⟩ : ∃ p, p = L[j]'hlt' := ⟨_, rfl⟩
          have HP := Lib.hid hp
          rw [← hp] at c0
          clear hp
          go_wp2
          go_loopw [7] (fun i wr => ∃ q : Nat, q ≤ j ∧ i = .int .i64 q ∧ Hid (∀ x, (hx : x < q) → ∀ hx' : x < L.length, p ≠ L[x]) ∧ Hid (Below w.heap.size w wr)) (fun i _ => j - (intOf i).toNat)
          case atStart => exact ⟨0, by omega, rfl, Lib.hid (fun x hx => absurd hx (by omega)), hB⟩
          case round =>
            clear hB
            obtain ⟨q, hq, rfl, hne, hB⟩ := hrel
            by_cases hql : q < j
            · have hq' : q < L.length := by have := HL.out; omega
              have c1 := HC.out q hq'
              have c0' := c0
              rw [← hB.out.cell hbw] at c1 c0'
              obtain ⟨p2, hp2⟩ : ∃ p2, p2 = L[q]'hq' := ⟨_, rfl⟩
              have HP2 := Lib.hid hp2
              rw [← hp2] at c1
              have hqq := ba_eqb p p2
              have i1 : (q : Int) < k := by omega
              have i2 : (j : Int) < k := by omega
              by_cases hpe : p = p2
              · rw [decide_eq_true hpe] at hqq
                have HE := Lib.hid (HF.out 9 (ck_9 (by rw [← HN.out]; exact g2) (by rw [← HN.out]; exact g12) HOK.out (twice_not hql HL.out (by rw [← HP.out, ← HP2.out]; exact hpe))) (by decide))
                clear hp2 hpe c0
                go_upto_region 16 with (fail)
                go_quiet (fail)
                all_goals go_wp2
                all_goals go_ret2
                all_goals exact ⟨by rw [HE.out]; rfl, hB.out.trans ⟨rfl, rfl, rfl, Nat.le_refl _, fun _ _ => rfl⟩⟩
              · rw [decide_eq_false hpe] at hqq
                have HNE := Lib.hid (show ∀ x, (hx : x < q + 1) → ∀ hx' : x < L.length, p ≠ L[x] from fun x hx hx' => by
                  by_cases e : x = q
                  · subst e; rw [← hp2]; exact hpe
                  · exact hne.out x (by omega) hx')
                clear hp2 hpe c0
                go_upto_region 16 with (fail)
                go_quiet (fail)
                all_goals go_wp2
                all_goals go_roundw
                all_goals first
                  | exact ⟨q + 1, by omega, by go_num, HNE, Lib.hid (hB.out.trans ⟨rfl, rfl, rfl, Nat.le_refl _, fun _ _ => rfl⟩)⟩
                  | (simp [intOf]; omega)
            · obtain rfl : q = j := by omega
              go_wp2
              go_roundw
              case rel => exact ⟨q + 1, by omega, by go_num, Lib.hid (nodup_snoc HL.out (not_take HL.out fun x hx => by rw [← HP.out]; exact hne.out x hx _) hnd.out), hB⟩
              case measure => simp [intOf]; omega
        · have HK0 := Lib.hid (show ckS L = 0 from by
            have := HN.out
            refine ckS_ok.2 ⟨by omega, by omega, HOK.out, ?_⟩
            have h := hnd.out
            rw [List.take_of_length_le (by omega)] at h
            exact h)
          have HE := Lib.hid (show r = (seS z 11 sjL, 0) by rw [HR.out, encS, if_pos HK0.out, HZZ.out])
          have k1 := fun w => rsum_any 11 (by decide) (by decide) (ba z) (by rw [ba_size]; omega) w
          rw [ba_list] at k1
          have hbd := sumZ_bd 11 z
          obtain ⟨g, hg⟩ : ∃ g, g = sumZ 11 z := ⟨_, rfl⟩
          rw [← hg] at k1 hbd
          have HG := Lib.hid hg
          have k2 := fun w => sfour_any g hbd.1 hbd.2 w
          have hy : (ba (fourL g.toNat)).size = 4 := rfl
          have hzs := ba_size z
          clear hg
          have e1 := app_size (ba z) (ba (fourL g.toNat))
          have e2 := app_size (ba z ++ ba (fourL g.toNat)) ⟨#[114, 112, 117, 115, 120, 110, 110, 97]⟩
          have HAp := Lib.hid (show ba z ++ ba (fourL g.toNat) ++ ⟨#[114, 112, 117, 115, 120, 110, 110, 97]⟩ = ba (seS z 11 sjL) by rw [seS, ← ba_app, ← ba_app, HG.out]; rfl)
          generalize ba (fourL g.toNat) = y at k2 hy e1 e2 HAp
          generalize ba z = x at k1 hzs e1 e2 HAp ⊢
          go_wp2_with (first
            | (go_at_call 28; refine (k1 _).mono ?_; rintro e w2 ⟨rfl, rfl⟩)
            | (go_at_call 25; refine (k2 _).mono ?_; rintro e w3 ⟨rfl, b3⟩))
          go_ret2
          exact ⟨by rw [HE.out]; exact ret_sbe HAp.out, hB.out.trans (b3.mono hB.out.size)⟩
end Go.Proofs.Ytcfojplmmpeefaa
