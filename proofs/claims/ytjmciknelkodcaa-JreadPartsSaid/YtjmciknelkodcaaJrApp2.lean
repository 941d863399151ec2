/-
  Layer 11, the document's Apply (annexeref11): the same bytes ('apD' = 'apL'); it changes nothing that was there. Condition: numbers are ints, at most 4096 pages in the journal, strings of at most 2^40 bytes.
-/
import Derived.Test.YtjmciknelkodcaaJrApp
namespace Go.Proofs.Ytjmciknelkodcaa
open Go.RowKit

theorem stD_len (s : List UInt8) (r : R11) : (stD s r).length ≤ max s.length 1024000 := by
  unfold stD
  split
  · rename_i h
    have h1 := atA_le h
    have h2 := (okA_iff.1 h).2.2
    rw [putD_len (by rw [List.length_append, List.length_replicate]; omega), List.length_append, List.length_replicate]
    omega
  · omega
theorem foldD_len (L : List R11) : ∀ s : List UInt8, (L.foldl stD s).length ≤ max s.length 1024000 := by
  induction L with
  | nil => intro s; show s.length ≤ _; omega
  | cons r t ih =>
    intro s
    have h1 := ih (stD s r)
    have h2 := stD_len s r
    rw [List.foldl_cons]; omega

set_option maxRecDepth 100000 in
theorem noughts_any (n : Int) (h1 : -9223372036854775808 ≤ n) (h2 : n ≤ 281474976710656) (w : World) :
    Calls Try.prog 31 #[.int .i64 n] w fun e w' => e = .returned (.string (ba (List.replicate n.toNat 0))) ∧ Below w.heap.size w w' := by
  obtain ⟨m, hm⟩ : ∃ m : Nat, m = n.toNat := ⟨_, rfl⟩
  rw [← hm]
  have hmm : max n 0 = (m : Int) := by omega
  have hmk := fun W => run_make_row' (P := Try.prog) 63 5 (.int .u8 0) 1 Try.underlying63 infoU8 rfl .i64 .i64 m (by omega) (by omega) W
  have hcv := conv_bytes (made_bytes w m) (n := m) (List.length_replicate ..)
  have HB := Lib.hid (blw1 w (.cells (madeCells #[.int .u8 0] m) 5))
  clear hm
  go_enter Try.func31, Try.ntmps31
  go_wp2
  go_ret
  exact ⟨rfl, HB.out⟩
theorem sext_take' (l : List UInt8) (k : Nat) : (ba l).extract 0 k = ba (l.take k) := by
  apply ByteArray.ext
  simp [ba, ByteArray.data_extract]
theorem sext_drop' (l : List UInt8) (k : Nat) : (ba l).extract k (ba l).size = ba (l.drop k) := by
  apply ByteArray.ext
  simp [ba, ByteArray.data_extract, ByteArray.size]
  exact List.take_of_length_le (by simp)
theorem ext_put (T : List UInt8) (o : Nat) (d : ByteArray) (hd : d.data.toList.length = 512) (ho : o + 512 ≤ T.length) : (ba T).extract 0 o ++ d ++ (ba T).extract (o + 512) (ba T).size = ba (putD T o d.data.toList) := by
  rw [sext_take', sext_drop']
  conv => lhs; rw [← ba_back d]
  rw [ba_app, ba_app, putD, hd, List.append_assoc]

set_option maxRecDepth 100000 in
set_option maxHeartbeats 4000000 in
theorem qapply_any (k p : Int) (a : Option Addr) (cap : Nat) (l : List R11) (sp : ByteArray) (s : List UInt8) (p1 : -9223372036854775808 ≤ p) (p2 : p ≤ 9223372036854775807) (w : World) (hs : s.length ≤ 1099511627776) (hl : l.length ≤ 4096) (ha : Recs w a l) :
    Calls Try.prog 18 #[.agg #[.int .i64 k, .int .i64 p, .slice a l.length cap, .string sp], .string (ba s)] w fun e w' => e = .returned (.string (ba (apD p l s))) ∧ Below w.heap.size w w' := by
  obtain ⟨N, hN⟩ : ∃ N, N = clN p := ⟨_, rfl⟩
  have hN2 : N ≤ 2000 := by rw [hN]; exact clN_le p
  have hmm : max 0 (min p 2000) = (N : Int) := by rw [hN]; unfold clN; omega
  obtain ⟨M, hM⟩ : ∃ M, M = N * 512 := ⟨_, rfl⟩
  have hwM : IntKind.i64.wrap ((N : Int) * 512) = (M : Int) := by rw [aw64 (by omega) (by omega)]; omega
  have hM2 : M ≤ 1024000 := by omega
  have HRES := Lib.hid (show apD p l s = fitL M (l.foldl stD s) by rw [hM, hN]; rfl)
  obtain ⟨R, hR⟩ : ∃ R, R = apD p l s := ⟨_, rfl⟩
  rw [← hR] at HRES ⊢
  have HK := Lib.hid (blk_new w 29 #[.int .i64 k, .int .i64 p, .slice a l.length cap, .string sp])
  have HB0 := Lib.hid (blw1 w (.cells #[.int .i64 k, .int .i64 p, .slice a l.length cap, .string sp] 29))
  obtain ⟨len, hlen⟩ : ∃ len, len = l.length := ⟨_, rfl⟩
  have HL := Lib.hid hlen
  have HA := Lib.hid ha
  rw [← hlen] at hl HK HB0 ⊢
  have HS0 := Lib.hid (show ba s = ba ((l.take 0).foldl stD s) from rfl)
  clear hR hN hM hlen ha
  go_enter Try.func18, Try.ntmps18
  go_wp2
  revert HK HB0
  generalize w.alloc (.cells #[.int .i64 k, .int .i64 p, .slice a len cap, .string sp] 29) = W0
  intro HB0 HK
  go_loopw [1, 5] (fun t i wr => ∃ (q : Nat) (S : ByteArray), q ≤ len ∧ i = .int .i64 q ∧ t = .string S ∧ Hid (S = ba ((l.take q).foldl stD s)) ∧ Hid (Blk wr w.heap.size 29 #[.int .i64 k, .int .i64 p, .slice a len cap, .string sp]) ∧ Hid (Below w.heap.size w wr)) (fun _ i _ => len - (intOf i).toNat)
  case atStart => exact ⟨0, _, by omega, rfl, rfl, HS0, HK, HB0⟩
  case round =>
    clear HS0 HK HB0
    obtain ⟨q, S, hq, rfl, rfl, hS, hK, hB⟩ := hrel
    have j1 := blk_cell hK.out 1 rfl
    have j2 := blk_cell hK.out 2 rfl
    have hSz : S.size ≤ 1099512651776 := by
      have := foldD_len (l.take q) s
      rw [hS.out, ba_size]; omega
    by_cases hlt : q < len
    case neg =>
      have hql : l.take q = l := List.take_of_length_le (by have := HL.out; omega)
      rw [hql] at hS
      have kn := fun w => noughts_any ((M : Int) - S.size) (by omega) (by omega) w
      obtain ⟨Z, hZ⟩ : ∃ Z : ByteArray, Z = ba (List.replicate ((M : Int) - S.size).toNat 0) := ⟨_, rfl⟩
      rw [← hZ] at kn
      have hZz : Z.size = M - S.size := by rw [hZ, ba_size, List.length_replicate]; omega
      have hZb : Z.size ≤ 1024000 := by omega
      have e1 := app_size S Z
      have hTz : M ≤ S.size + Z.size := by omega
      have hTi : (M : Int) ≤ (S.size : Int) + Z.size := by omega
      have HFIN := Lib.hid (show (S ++ Z).extract 0 M = ba R by
        have hsl : S.size = (l.foldl stD s).length := by rw [hS.out, ba_size]
        have hz : ((M : Int) - S.size).toNat = M - (l.foldl stD s).length := by omega
        rw [HRES.out, hZ, hz, hS.out, ba_app, sext_take', fitL])
      have hwm : IntKind.i64.wrap ((M : Int) - S.size) = (M : Int) - S.size := IntWalk.i64_in _ ⟨by omega, by omega⟩
      clear hZ hql e1 hZz
      go_wp2_with (go_at_call 31; (refine (kn _).mono ?_); rintro e w2 ⟨rfl, b2⟩)
      go_ret
      rw [HFIN.out]
      exact ⟨rfl, hB.out.trans (b2.mono hB.out.size)⟩
    have hlt' : q < l.length := by have := HL.out; omega
    obtain ⟨b, off, rfl, hbw, c0, c1⟩ := recs_next HA.out hB.out q hlt'
    have HS := Lib.hid (apD_snoc (s := s) hlt')
    obtain ⟨x, hx⟩ : ∃ x, x = l[q] := ⟨_, rfl⟩
    rw [← hx] at c0 c1 HS
    obtain ⟨n, hn⟩ : ∃ n, n = x.n := ⟨_, rfl⟩
    obtain ⟨d, hd⟩ : ∃ d, d = ba x.d := ⟨_, rfl⟩
    have hdz : d.size = x.d.length := by rw [hd, ba_size]
    rw [← hn] at c0
    rw [← hd] at c1
    have hok := okA_iff (N := 2000) (r := x)
    rw [← hn, ← hdz] at hok
    have HN := Lib.hid hn; have HD := Lib.hid hd
    obtain ⟨Q, hQ⟩ : ∃ Q, Q = (l.take q).foldl stD s := ⟨_, rfl⟩
    rw [← hQ] at hS HS
    have HBN := Lib.hid (fun (o : Obj) => hB.out.alloc hB.out.size o)
    have HKN := Lib.hid (fun (o : Obj) => blk_alloc hK.out o)
    clear hx hn hd hlt' hQ hdz
    by_cases hc : okA 2000 x = true
    case neg =>
      have HS1 := Lib.hid (show S = ba ((l.take (q + 1)).foldl stD s) by rw [HS.out, stD, if_neg hc]; exact hS.out)
      have hcs : decide (n < 1) = true ∨ (decide (n < 1) = false ∧ decide (2000 < n) = true) ∨ (decide (n < 1) = false ∧ decide (2000 < n) = false ∧ ((d.size : Int) != 512) = true) := by
        by_cases h1 : 1 ≤ n
        · by_cases h2 : n ≤ 2000
          · refine .inr (.inr ⟨decide_eq_false (by omega), decide_eq_false (by omega), ?_⟩)
            simp only [bne_iff_ne, ne_eq]
            exact fun h3 => hc (hok.2 ⟨h1, h2, by omega⟩)
          · exact .inr (.inl ⟨decide_eq_false (by omega), decide_eq_true (by omega)⟩)
        · exact .inl (decide_eq_true (by omega))
      clear hok hc
      rcases hcs with h1 | ⟨h1, h2⟩ | ⟨h1, h2, h3⟩
      all_goals (
        go_wp2
        go_roundw
        case rel => exact ⟨q + 1, S, by omega, by go_num, rfl, HS1, Lib.hid (HKN.out _), Lib.hid (HBN.out _)⟩
        case measure => simp [intOf]; omega)
    obtain ⟨h1, h2, h3⟩ := hok.1 hc
    have hat := atA_le hc
    have hat2 : ((atA x : Nat) : Int) = (n - 1) * 512 := by unfold atA; rw [← HN.out]; omega
    obtain ⟨o, ho⟩ : ∃ o, o = atA x := ⟨_, rfl⟩
    rw [← ho] at hat hat2
    have h3' : (d.size : Int) = 512 := by omega
    have ho5 : o + 512 ≤ 1024000 := by omega
    have hw8 : (n - 1) * 512 = (o : Int) := by omega
    obtain ⟨o5, ho6⟩ : ∃ o5 : Nat, o5 = o + 512 := ⟨_, rfl⟩
    have hw9 : IntKind.i64.wrap ((o : Int) + 512) = (o5 : Int) := by rw [aw64 (by omega) (by omega)]; omega
    have kn := fun w => noughts_any ((o5 : Int) - S.size) (by omega) (by omega) w
    obtain ⟨Z, hZ⟩ : ∃ Z : ByteArray, Z = ba (List.replicate ((o5 : Int) - S.size).toNat 0) := ⟨_, rfl⟩
    rw [← hZ] at kn
    have hZz : Z.size = o5 - S.size := by rw [hZ, ba_size, List.length_replicate]; omega
    have hZb : Z.size ≤ 1024000 := by omega
    have e1 := app_size S Z
    obtain ⟨T, hT⟩ : ∃ T : ByteArray, T = S ++ Z := ⟨_, rfl⟩
    have hTz : o5 ≤ T.size := by rw [hT]; omega
    have hTb : T.size ≤ 1099513675776 := by rw [hT]; omega
    have hTo : o ≤ T.size := by omega
    have hTi : (o5 : Int) ≤ T.size := by omega
    have hToi : (o : Int) ≤ T.size := by omega
    have HFIN := Lib.hid (show T.extract 0 o ++ d ++ T.extract o5 T.size = ba ((l.take (q + 1)).foldl stD s) by
      have hsl : S.size = Q.length := by rw [hS.out, ba_size]
      have hTe : T = ba (Q ++ List.replicate (o + 512 - Q.length) 0) := by
        rw [hT, hZ, hS.out, ba_app, ba_size]
        congr 3
        omega
      have hx5 := (okA_iff.1 hc).2.2
      have hdl : d.data.toList = x.d := by rw [HD.out, ba_list]
      rw [hTe, ho6, ext_put _ _ _ (by rw [hdl]; exact hx5) (by rw [List.length_append, List.length_replicate]; omega), hdl, HS.out, stD, if_pos hc, ← ho])
    have HT := Lib.hid hT
    clear hok hc ho hat hat2 ho6 hZ hZz hT e1
    have hoi : (o : Int) ≤ 1023488 := by omega
    have f1 : decide (n < 1) = false := decide_eq_false (by omega)
    have f2 : decide (2000 < n) = false := decide_eq_false (by omega)
    have f3 : ((d.size : Int) != 512) = false := by simp [h3']
    go_upto_region 8 with (go_at_call 31; (refine (kn _).mono ?_); rintro e w2 ⟨rfl, b2⟩)
    rw [← HT.out]
    clear f1 f2 f3 hw8
    have c1' := blk_cell (blk_below (blk_new wr 43 #[.int .i64 n, .string d]) b2) 1 rfl
    go_quiet (fail)
    rw [HFIN.out]
    have hk2 := blk_below (HKN.out (.cells #[.int .i64 n, .string d] 43)) b2
    have HK2 := Lib.hid (show Blk (w2.drewN nq) w.heap.size 29 #[.int .i64 k, .int .i64 p, .slice (some ⟨b, off, none⟩) len cap, .string sp] from hk2)
    clear hk2
    have hb := (HBN.out (.cells #[.int .i64 n, .string d] 43)).trans (b2.mono (HBN.out (.cells #[.int .i64 n, .string d] 43)).size)
    have HB2 := Lib.hid (show Below w.heap.size w (w2.drewN nq) from ⟨hb.os, hb.tape, hb.output, hb.size, hb.block⟩)
    have HE := Lib.hid (show ba ((l.take (q + 1)).foldl stD s) = ba ((l.take (q + 1)).foldl stD s) from rfl)
    clear hb b2 c0 c1 c1' kn hw9
    obtain ⟨S2, hS2⟩ : ∃ S2, S2 = ba ((l.take (q + 1)).foldl stD s) := ⟨_, rfl⟩
    rw [← hS2]
    have HS2 := Lib.hid hS2
    clear hS2
    go_wp2
    go_roundw
    case rel => exact ⟨q + 1, S2, by omega, by go_num, rfl, HS2, HK2, HB2⟩
    case measure => simp [intOf]; omega
end Go.Proofs.Ytjmciknelkodcaa
