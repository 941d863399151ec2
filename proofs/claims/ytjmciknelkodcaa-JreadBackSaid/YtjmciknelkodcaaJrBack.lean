/-
  The statement JreadBack as a walk: it returns true for every input and changes nothing that was there. Condition: numbers are ints.
-/
import Derived.Test.YtjmciknelkodcaaJrWorks
import Derived.Test.YtjmciknelkodcaaJrBackM
import Derived.Test.YtjmciknelkodcaaJrRow
namespace Go.Proofs.Ytjmciknelkodcaa
open Go.RowKit

theorem recss_next {w w' : World} {a : Option Addr} {L : List (List R11)} (h : Recss w a L) (hb : Below w.heap.size w w') : Recss w' a L := by
  intro j hj
  obtain ⟨b, off, a', cap', e, h1, h2, h3, h4, h5⟩ := h j hj
  exact ⟨b, off, a', cap', e, Nat.lt_of_lt_of_le h1 hb.size, (hb.cell (p := ⟨b, off + j, none⟩) h1).trans h2, h3, h4, recs_next h5 hb⟩
theorem bkblk4_of {v : World} {g : Nat} {t : TypeId} {x y z u : Value} (h : Blk v g t #[x, y, z, u]) : v.cell? ⟨g, 0, none⟩ = some x ∧ v.cell? ⟨g, 1, none⟩ = some y ∧ v.cell? ⟨g, 2, none⟩ = some z ∧ v.cell? ⟨g, 3, none⟩ = some u := ⟨blk_cell h 0 rfl, blk_cell h 1 rfl, blk_cell h 2 rfl, blk_cell h 3 rfl⟩
theorem tr_two (p : List UInt8) : (∃ s, trS p = (s, 0)) ∨ trS p = ([], 13) := by
  by_cases h : okS p = true
  · exact .inl ⟨_, by rw [trS, if_pos h]⟩
  · exact .inr (by rw [trS, if_neg h])

/-- What holds between the calls: a journal of our own with q parts. -/
def BkI (w : World) (g : Nat) (q : Nat) (v : World) : Prop :=
  Below w.heap.size w v ∧ w.heap.size ≤ g ∧ Blk v g 29 #[.int .i64 q, .int .i64 0, .slice none 0 0, .string ⟨#[]⟩]
theorem bki_next {w : World} {g : Nat} {q : Nat} {v v' : World} (h : BkI w g q v) (hb : Below v.heap.size v v') : BkI w g q v' :=
  ⟨h.1.trans (hb.mono h.1.size), h.2.1, blk_below h.2.2 hb⟩
theorem bki_set {w : World} {g : Nat} {q : Nat} {v : World} (h : BkI w g q v) : BkI w g (q + 1) (v.setCell ⟨g, 0, none⟩ (.int .i64 ((q + 1 : Nat) : Int))) :=
  ⟨blw_set h.1 h.2.1 _ _, h.2.1, blk_set h.2.2 0 _⟩

set_option maxRecDepth 100000 in
set_option maxHeartbeats 4000000 in
theorem back_any (a : Option Addr) (cap : Nat) (L : List (List R11)) (p : Int) (nm : ByteArray) (c : Int) (w : World) (hl : L.length ≤ 140737488351232) (ha : Recss w a L) (p1 : -9223372036854775808 ≤ p) (p2 : p ≤ 9223372036854775807) (hn : nm.size ≤ 9223372036854775807) (c1 : -9223372036854775808 ≤ c) (c2 : c ≤ 9223372036854775807) :
    Calls Try.prog 5 #[.slice a L.length cap, .int .i64 p, .string nm, .int .i64 c] w fun e w' => e = .returned (.bool true) ∧ Below w.heap.size w w' := by
  obtain ⟨len, hlen⟩ : ∃ len, len = L.length := ⟨_, rfl⟩
  have HL := Lib.hid hlen
  have HA := Lib.hid ha
  rw [← hlen] at hl ⊢
  clear hlen ha
  by_cases hskip : 5 < len ∨ p < 0 ∨ 2000 < p
  · have hcs : (5 : Int) < len ∨ (¬ (5 : Int) < len ∧ p < 0) ∨ (¬ (5 : Int) < len ∧ ¬ p < 0 ∧ 2000 < p) := by omega
    clear hskip
    rcases hcs with h | ⟨h, h1⟩ | ⟨h, h1, h2⟩
    all_goals (
      go_enter Try.func5, Try.ntmps5
      go_wp2_with (go_at_call 10; (with_reducible refine (works11_any _).mono ?_); rintro e w1 ⟨rfl, b1⟩)
      go_ret
      exact ⟨rfl, b1⟩)
  have h5 : len ≤ 5 := by omega
  have h5i : ¬ (5 : Int) < len := by omega
  have hp0 : 0 ≤ p := by omega
  have hp1 : p ≤ 2000 := by omega
  clear hskip hl
  go_enter Try.func5, Try.ntmps5
  go_upto_region 7 with (go_at_call 10; (with_reducible refine (works11_any _).mono ?_); rintro e w1 ⟨rfl, b1⟩)
  have HK := Lib.hid (show BkI w w1.heap.size 0 (w1.alloc (.cells #[.int .i64 0, .int .i64 0, .slice none 0 0, .string ⟨#[]⟩] 29)) from
    ⟨b1.trans ((blw1 w1 _).mono b1.size), b1.size, blk_new w1 _ _⟩)
  clear b1
  revert HK
  generalize w1.alloc (.cells #[.int .i64 0, .int .i64 0, .slice none 0 0, .string ⟨#[]⟩] 29) = W2
  generalize w1.heap.size = g
  intro HK
  go_wp2
  go_loopw [9, 11] (fun s i wr => ∃ (q : Nat) (S : ByteArray), q ≤ len ∧ i = .int .i64 q ∧ s = .string S ∧ S.size ≤ 20000 * q ∧ Hid (S = ba (segB p 0 (L.take q)) ∧ segOk p 0 (L.take q) ∧ ∀ x ∈ L.take q, x.length ≤ 31) ∧ Hid (BkI w g 0 wr)) (fun _ i _ => len - (intOf i).toNat)
  case atStart => exact ⟨0, ⟨#[]⟩, by omega, rfl, rfl, by decide, Lib.hid ⟨rfl, trivial, fun x hx => absurd hx (by simp)⟩, HK⟩
  case round =>
    clear HK
    obtain ⟨q, S, hq, rfl, rfl, hz, hS, hB⟩ := hrel
    by_cases hlt : q < len
    case pos =>
      have hlt' : q < L.length := by have := HL.out; omega
      obtain ⟨b, off, a1, cap1, rfl, hbw, c0, hl1, hi1, hr1⟩ := recss_next HA.out hB.out.1 q hlt'
      have HLT := Lib.hid hlt'
      obtain ⟨x, hx⟩ : ∃ x, x = L[q]'HLT.out := ⟨_, rfl⟩
      rw [← hx] at c0 hl1 hi1 hr1
      have HX := Lib.hid hx
      have kg := great11_any a1 cap1 x wr (by omega) hr1 (fun r hr => (hi1 r hr).2)
      have ko := fun (h : x.length ≤ 31) => own11_any a1 cap1 x wr (by omega) hr1
      have kp := fun (h : x.length ≤ 31) (a' : Option Addr) (cap' : Nat) (V : World) (h' : Recs V a' x) => jpart_any a' cap' x p q p1 p2 (by omega) (by omega) V (by omega) h' hi1
      have t1 : (q : Int) < len := by omega
      obtain ⟨gr, hgr⟩ : ∃ gr, gr = greatQ x 0 := ⟨_, rfl⟩
      rw [← hgr] at kg
      obtain ⟨xl, hxl⟩ : ∃ xl, xl = x.length := ⟨_, rfl⟩
      have HXL := Lib.hid hxl
      rw [← hxl] at kg ko kp c0
      clear hx hlt' hl1 hi1 hr1 hxl
      cases gr
      case true =>
        clear ko kp hgr
        go_wp2_with (go_at_call 11; refine kg.mono ?_; rintro e w2 ⟨rfl, rfl⟩)
        go_ret
        exact ⟨rfl, hB.out.1⟩
      have hx31 : xl ≤ 31 := by
        have := (greatQ_false x 0 hgr.symm).1
        rw [HXL.out]
        rcases this with h | h
        · rw [h]; simp
        · omega
      have ko := ko hx31
      have kp := kp hx31
      clear hgr
      obtain ⟨E, hE⟩ : ∃ E, E = ba (ptR x p q).1 := ⟨_, rfl⟩
      obtain ⟨f, hf⟩ : ∃ f, f = (ptR x p q).2 := ⟨_, rfl⟩
      rw [← hE, ← hf] at kp
      have hEz : E.size ≤ 16152 := by rw [hE, ba_size]; have := ptR_len x p q; have := HXL.out; omega
      have HE := Lib.hid hE; have HF := Lib.hid hf
      clear hE hf
      by_cases hf0 : f = 0
      case neg =>
        have e1 : (f != 0) = true := by simp [hf0]
        go_wp2_with (first | (go_at_call 11; refine kg.mono ?_; rintro e w2 ⟨rfl, rfl⟩) | (go_at_call 13; refine ko.mono ?_; rintro e w3 ⟨b3, a', cap', rfl, hrec⟩) | (go_at_call 12; refine (kp _ _ _ hrec).mono ?_; rintro e w4 ⟨rfl, b4⟩))
        go_ret
        exact ⟨rfl, hB.out.1.trans ((b3.trans (b4.mono b3.size)).mono hB.out.1.size)⟩
      have e1 : (f != 0) = false := by simp [hf0]
      have HS := Lib.hid (show S ++ E = ba (segB p 0 (L.take (q + 1))) ∧ segOk p 0 (L.take (q + 1)) ∧ ∀ x ∈ L.take (q + 1), x.length ≤ 31 by
        have h1 : (ptR (L[q]'HLT.out) p q).2 = 0 := by rw [← HX.out, ← HF.out]; exact hf0
        refine ⟨?_, segOk_snoc HLT.out hS.out.2.1 h1, fun y hy => ?_⟩
        · rw [segB_snoc p HLT.out, hS.out.1, HE.out, HX.out, ba_app]
        · rw [List.take_succ_eq_append_getElem HLT.out, List.mem_append] at hy
          rcases hy with hy | hy
          · exact hS.out.2.2 y hy
          · rw [List.mem_singleton] at hy
            rw [hy, ← HX.out, ← HXL.out]; exact hx31)
      have hz1 : S.size ≤ 100000 := by omega
      have hz2 : (S ++ E).size ≤ 20000 * (q + 1) := by rw [ByteArray.size_append]; omega
      clear hf0
      go_wp2_with (first | (go_at_call 11; refine kg.mono ?_; rintro e w2 ⟨rfl, rfl⟩) | (go_at_call 13; refine ko.mono ?_; rintro e w3 ⟨b3, a', cap', rfl, hrec⟩) | (go_at_call 12; refine (kp _ _ _ hrec).mono ?_; rintro e w4 ⟨rfl, b4⟩))
      go_roundw
      case rel => exact ⟨q + 1, S ++ E, by omega, by go_num, rfl, hz2, HS, Lib.hid (bki_next hB.out (b3.trans (b4.mono b3.size)))⟩
      case measure => simp [intOf]; omega
    have hql : L.take q = L := List.take_of_length_le (by have := HL.out; omega)
    rw [hql] at hS
    have hz1 : S.size ≤ 100000 := by omega
    have t1 : ¬ (q : Int) < len := by omega
    have kt := fun w => r10trailer_any nm w
    obtain ⟨M, hM⟩ : ∃ M, M = nm.data.toList := ⟨_, rfl⟩
    rw [← hM] at kt
    obtain ⟨T0, hT0⟩ : ∃ T0, T0 = ba (trS M).1 := ⟨_, rfl⟩
    obtain ⟨f0, hf0⟩ : ∃ f0, f0 = (trS M).2 := ⟨_, rfl⟩
    rw [← hT0, ← hf0] at kt
    have hft : (f0 = 0 ∧ tailOk M (trS M).1) ∨ ¬ f0 = 0 := by
      rcases tr_two M with ⟨s, h⟩ | h
      · exact .inl ⟨by rw [hf0, h], .inl (by rw [h])⟩
      · exact .inr (by rw [hf0, h]; decide)
    have HM := Lib.hid hM
    have HT0 := Lib.hid hT0
    clear hql hM hT0 hf0
    go_upto_if 67 with (go_at_call 19; refine (kt _).mono ?_; rintro e w2 ⟨rfl, b2⟩)
    have HB2 := Lib.hid (bki_next hB.out b2)
    clear hB b2
    go_cut [14] from 16 (fun t wx => ∃ (T : ByteArray) (t' : List UInt8), t = .string T ∧ Hid (T = ba t' ∧ tailOk M t') ∧ wx = w2)
    case first =>
      rcases hft with ⟨hf0, ht⟩ | hf0
      · have e1 : (f0 != 0) = false := by simp [hf0]
        have HT := Lib.hid ht
        clear hf0 ht
        go_wp2_with fail
        go_meet
        exact ⟨_, _, rfl, Lib.hid ⟨HT0.out, HT.out⟩, rfl⟩
      · have e1 : (f0 != 0) = true := by simp [hf0]
        clear hf0
        go_wp2_with fail
        go_meet
        exact ⟨_, [], rfl, Lib.hid ⟨rfl, .inr rfl⟩, rfl⟩
    case rest =>
      obtain ⟨T, t, rfl, hT, rfl⟩ := hcut
      have hTz : T.size ≤ 64 := by
        rw [hT.out.1, ba_size]
        rcases hT.out.2 with h | h
        · have := tr_form h; omega
        · rw [h]; simp
      obtain ⟨J, hJ⟩ : ∃ J, J = segB p 0 L ++ t := ⟨_, rfl⟩
      have HC := Lib.hid (show S ++ T = ba J by rw [hS.out.1, hT.out.1, ba_app, hJ])
      have hJl : J.length = S.size + T.size := by rw [← ba_size, ← HC.out, ByteArray.size_append]
      obtain ⟨p', L', X, hrd, hX⟩ := back_whole hT.out.2 hS.out.2.1
      rw [← hJ] at hrd
      have kr := fun w => jread11_any J (by omega) w
      rw [hrd, ← HC.out, ← HL.out] at kr
      simp only at kr
      obtain ⟨Y, hY⟩ : ∃ Y, Y = ba X := ⟨_, rfl⟩
      rw [← hY] at kr
      have hbool : ∃ x y z : Bool, (Y.toList == nm.toList) = x ∧ (T.toList != []) = y ∧ (nm.toList != []) = z ∧ (z = true → (x = true ↔ 0 < len ∧ y = true)) := by
        refine ⟨_, _, _, rfl, rfl, rfl, fun hz => ?_⟩
        have hnm : nm.toList = M := by rw [ByteArray.toList_eq, ← HM.out]
        have hYl : Y.toList = X := by rw [ByteArray.toList_eq, hY, ba_list]
        have hTl : T.toList = t := by rw [ByteArray.toList_eq, hT.out.1, ba_list]
        rw [hnm] at hz ⊢
        rw [hYl, hTl, HL.out]
        have := hX (by simpa using hz)
        simpa using this
      obtain ⟨x, y, z, bX, bT, bN, hxyz⟩ := hbool
      have bE : nm.toList.isEmpty = !z := by rw [← bN]; cases nm.toList <;> rfl
      have bF : T.toList.isEmpty = !y := by rw [← bT]; cases T.toList <;> rfl
      have HJ := Lib.hid hJ
      clear hX hY hrd hJ
      go_upto_region 20 with (go_at_call 8; refine (kr _).mono ?_; rintro e w3 ⟨b3, a3, cap3, rfl, -⟩)
      have HB3 := Lib.hid (bki_next (bki_next HB2.out b3) (blw1 w3 (.cells #[.int .i64 len, .int .i64 p', .slice a3 L'.length cap3, .string Y] 25)))
      obtain ⟨j0, j1, j2, j3⟩ := bkblk4_of (blk_new w3 25 #[.int .i64 len, .int .i64 p', .slice a3 L'.length cap3, .string Y])
      clear HB2 b3 kr
      revert HB3 j0 j1 j2 j3
      generalize w3.alloc (.cells #[.int .i64 len, .int .i64 p', .slice a3 L'.length cap3, .string Y] 25) = W3
      generalize w3.heap.size = g3
      intro HB3 j0 j1 j2 j3
      go_cut [94] from 72 (fun v wx => v = .bool false ∧ wx = W3)
      case first =>
        have e1 : ((len : Int) != (len : Int)) = false := by simp
        by_cases h0 : 0 < len
        · have t2 : decide ((0 : Int) < len) = true := decide_eq_true (by omega)
          clear HC HJ HM hT hS HT0 hJl hTz hz hq
          cases z <;> cases x <;> cases y
          all_goals first
            | (exfalso; revert hxyz; simp [h0]; done)
            | (clear hxyz; go_wp2_with fail; go_meet; exact ⟨by first | rfl | (rw [bE]; rfl), rfl⟩)
        · have t2 : decide ((0 : Int) < len) = false := decide_eq_false (by omega)
          clear HC HJ HM hT hS HT0 hJl hTz hz hq
          cases z <;> cases x <;> cases y
          all_goals first
            | (exfalso; revert hxyz; simp [h0]; done)
            | (clear hxyz; go_wp2_with fail; go_meet; exact ⟨by first | rfl | (rw [bE]; rfl), rfl⟩)
      case rest =>
        obtain ⟨rfl, rfl⟩ := hcut
        clear bX bT bN bE bF hxyz j0 j1 j2 j3
        have hk0 : (0 : Int) < (S.size : Int) + (T.size : Int) ∨ (¬ (0 : Int) < (S.size : Int) + (T.size : Int) ∧ J.length = 0) := by omega
        go_upto_if 99 with fail
        go_cut [17] from 100 (fun v wx => ∃ k : Nat, v = .int .i64 k ∧ k ≤ J.length ∧ Hid (k < J.length ∨ J.length = 0) ∧ wx = wc)
        case first =>
          rcases hk0 with hk0 | ⟨hk0, hJ0⟩
          · obtain ⟨u, hu⟩ : ∃ u, IntKind.u64.wrap c = u := ⟨_, rfl⟩
            have hu0 : 0 ≤ u ∧ u ≤ 18446744073709551615 := by rw [← hu, IntKind.wrap_u64]; omega
            obtain ⟨hu0, hu1⟩ := hu0
            have hw1 : IntKind.u64.wrap ((S.size : Int) + (T.size : Int)) = (S.size : Int) + (T.size : Int) := IntWalk.u64_in _ ⟨by omega, by omega⟩
            obtain ⟨i, hi⟩ : ∃ i : Nat, u % ((S.size : Int) + (T.size : Int)) = (i : Int) := ⟨(u % ((S.size : Int) + (T.size : Int))).toNat, by have := Int.emod_nonneg u (show ((S.size : Int) + (T.size : Int)) ≠ 0 by omega); omega⟩
            have hj : (i : Int) < (S.size : Int) + (T.size : Int) := by have := Int.emod_lt_of_pos u hk0; omega
            have hw2 : IntKind.i64.wrap (i : Int) = (i : Int) := IntWalk.i64_in _ ⟨by omega, by omega⟩
            have HR := Lib.hid (show i < J.length by omega)
            have ht2 : Int.tmod u ((S.size : Int) + (T.size : Int)) = (i : Int) := by rw [Int.tmod_eq_emod_of_nonneg hu0]; exact hi
            go_wp2_with fail
            go_meet
            exact ⟨i, rfl, by omega, Lib.hid (.inl HR.out), rfl⟩
          · go_wp2_with fail
            go_meet
            exact ⟨0, rfl, by omega, Lib.hid (.inr hJ0), rfl⟩
        case rest =>
          obtain ⟨k, rfl, hkl, hK, rfl⟩ := hcut
          have hk5 : k ≤ 100064 := by omega
          have hkz : (k : Int) ≤ (S.size : Int) + (T.size : Int) := by omega
          clear hk0
          go_wp2
          go_loopw [18, 19] (fun v i wr => ∃ q e : Nat, q ≤ len ∧ i = .int .i64 q ∧ v = .int .i64 e ∧ e ≤ k ∧ Hid (e = (segB p 0 (L.take q)).length) ∧ Hid (BkI w g q wr)) (fun _ i _ => len - (intOf i).toNat)
          case atStart => exact ⟨0, 0, by omega, rfl, rfl, by omega, Lib.hid rfl, HB3⟩
          case round =>
            clear HB3
            obtain ⟨q, e, hq, rfl, rfl, he, hE, hB⟩ := hrel
            by_cases hlt : q < len
            case pos =>
              have hlt' : q < L.length := by have := HL.out; omega
              obtain ⟨b, off, a1, cap1, rfl, hbw, c0, -, -, -⟩ := recss_next HA.out hB.out.1 q hlt'
              have HLT := Lib.hid hlt'
              obtain ⟨x, hx⟩ : ∃ x, x = L[q]'HLT.out := ⟨_, rfl⟩
              have hx31 : x.length ≤ 31 := by rw [hx]; exact hS.out.2.2 _ (List.getElem_mem _)
              have hsl := segB_len p hS.out.2.1 HLT.out
              have HX := Lib.hid hx
              rw [← hx] at c0 hsl
              obtain ⟨xl, hxl⟩ : ∃ xl, xl = x.length := ⟨_, rfl⟩
              have HXL := Lib.hid hxl
              rw [← hxl] at c0 hx31 hsl
              rw [← hE.out] at hsl
              have t1 : (q : Int) < len := by omega
              clear hxl hx hlt'
              have hw1 : IntKind.i64.wrap ((e : Int) + 32) = (e : Int) + 32 := aw64 (by omega) (by omega)
              have hw2 : IntKind.i64.wrap (520 * (xl : Int)) = 520 * (xl : Int) := aw64 (by omega) (by omega)
              have hw3 : IntKind.i64.wrap ((e : Int) + 32 + 520 * (xl : Int)) = (e : Int) + 32 + 520 * (xl : Int) := aw64 (by omega) (by omega)
              by_cases hle : e + 32 + 520 * xl ≤ k
              case pos =>
                have t2 : (e : Int) + 32 + 520 * (xl : Int) ≤ k := by omega
                have HE := Lib.hid (show e + 32 + 520 * xl = (segB p 0 (L.take (q + 1))).length by omega)
                have z0 : wr.cell? ⟨g, 0, none⟩ = some (.int .i64 q) := blk_cell hB.out.2.2 0 rfl
                have zf := blk_frozen hB.out.2.2 0
                have HBN := Lib.hid (bki_set hB.out)
                have hwq : IntKind.i64.wrap ((q : Int) + 1) = ((q + 1 : Nat) : Int) := by rw [aw64 (by omega) (by omega)]; omega
                clear hsl
                go_wp2
                go_roundw
                case rel => exact ⟨q + 1, e + 32 + 520 * xl, by omega, by go_num, by go_num, hle, HE, HBN⟩
                case measure => simp [intOf]; omega
              have t2 : ¬ (e : Int) + 32 + 520 * (xl : Int) ≤ k := by omega
              have HQ := Lib.hid (show q ≤ L.length ∧ (segB p 0 (L.take q)).length ≤ k ∧ ∀ hq' : q < L.length, k < (segB p 0 (L.take q)).length + 32 + 520 * L[q].length from
                ⟨by have := HLT.out; omega, by rw [← hE.out]; exact he, fun _ => by rw [← hE.out, ← HX.out, ← HXL.out]; omega⟩)
              clear hsl
              obtain ⟨p3, M3, hr3⟩ := back_end hT.out.2 hS.out.2.1 HQ.out (by rw [← HJ.out]; exact hK.out)
              rw [← HJ.out] at hr3
              have kr := fun w => jread11_any (J.take k) (by rw [List.length_take]; omega) w
              rw [hr3, show ba (J.take k) = (S ++ T).extract 0 k by rw [HC.out, sext_take]] at kr
              simp only at kr
              obtain ⟨Y3, hY3⟩ : ∃ Y3, Y3 = ba [] := ⟨_, rfl⟩
              have e2 : ((q : Int) == (q : Int)) = true := by simp
              have e3 : (Y3.toList == []) = true := by rw [ByteArray.toList_eq, hY3]; rfl
              rw [← hY3] at kr
              clear hY3 hr3
              go_upto_region 32 with (go_at_call 8; refine (kr _).mono ?_; rintro e w5 ⟨b5, a5, cap5, rfl, -⟩)
              have HB5 := Lib.hid (bki_next (bki_next hB.out b5) (blw1 w5 (.cells #[.int .i64 q, .int .i64 p3, .slice a5 M3.length cap5, .string Y3] 25)))
              have z0 : (w5.alloc (.cells #[.int .i64 q, .int .i64 p3, .slice a5 M3.length cap5, .string Y3] 25)).cell? ⟨g, 0, none⟩ = some (.int .i64 q) := blk_cell HB5.out.2.2 0 rfl
              clear kr b5 hB
              go_wp2
              go_ret
              exact ⟨rfl, HB5.out.1⟩
            have HQ := Lib.hid (show q ≤ L.length ∧ (segB p 0 (L.take q)).length ≤ k ∧ ∀ hq' : q < L.length, k < (segB p 0 (L.take q)).length + 32 + 520 * L[q].length from
                ⟨by have := HL.out; omega, by rw [← hE.out]; exact he, fun h => absurd h (by have := HL.out; omega)⟩)
            have t1 : ¬ (q : Int) < len := by omega
            obtain ⟨p3, M3, hr3⟩ := back_end hT.out.2 hS.out.2.1 HQ.out (by rw [← HJ.out]; exact hK.out)
            rw [← HJ.out] at hr3
            have kr := fun w => jread11_any (J.take k) (by rw [List.length_take]; omega) w
            rw [hr3, show ba (J.take k) = (S ++ T).extract 0 k by rw [HC.out, sext_take]] at kr
            simp only at kr
            obtain ⟨Y3, hY3⟩ : ∃ Y3, Y3 = ba [] := ⟨_, rfl⟩
            have e2 : ((q : Int) == (q : Int)) = true := by simp
            have e3 : (Y3.toList == []) = true := by rw [ByteArray.toList_eq, hY3]; rfl
            rw [← hY3] at kr
            clear hY3 hr3
            go_upto_region 32 with (go_at_call 8; refine (kr _).mono ?_; rintro e w5 ⟨b5, a5, cap5, rfl, -⟩)
            have HB5 := Lib.hid (bki_next (bki_next hB.out b5) (blw1 w5 (.cells #[.int .i64 q, .int .i64 p3, .slice a5 M3.length cap5, .string Y3] 25)))
            have z0 : (w5.alloc (.cells #[.int .i64 q, .int .i64 p3, .slice a5 M3.length cap5, .string Y3] 25)).cell? ⟨g, 0, none⟩ = some (.int .i64 q) := blk_cell HB5.out.2.2 0 rfl
            clear kr b5 hB
            go_wp2
            go_ret
            exact ⟨rfl, HB5.out.1⟩
end Go.Proofs.Ytjmciknelkodcaa
