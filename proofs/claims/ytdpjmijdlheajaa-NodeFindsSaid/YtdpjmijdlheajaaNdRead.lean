/-
  Layer 16, the document's Read (annexeref16): the node of any bytes, or that there is none; it changes nothing that was there. Condition: at most 100000 bytes.
-/
import Derived.Test.YtdpjmijdlheajaaNdReadM
import Derived.Deep.DeepMust
namespace Go.Proofs.Ytdpjmijdlheajaa
open Go.RowKit

theorem src_int (W : World) (t : TypeId) (x : Int) : SrcL (W.alloc (.cells #[.int .i64 x] t)) 1 (.slice (some ⟨W.heap.size, 0, none⟩) 1 1) 1 (kidsC [x]) := by
  refine .inr ⟨_, _, rfl, rfl, fun j u hj => ?_⟩
  rw [nadd_plain, Nat.zero_add]
  match j, hj with
  | 0, hj => rw [← Option.some.inj hj]; exact blk_cell (blk_new W t #[.int .i64 x]) 0 rfl
theorem src_gen (W : World) (tc : TypeId) (c : Cel) (KX LX : ByteArray) (nx ox : Int) (h : KX = nb c.key ∧ LX = nb c.loc ∧ nx = c.len ∧ ox = c.ov) : SrcL (W.alloc (.cells #[.string KX, .int .i64 nx, .string LX, .int .i64 ox] tc)) 4 (.slice (some ⟨W.heap.size, 0, none⟩) 1 1) 1 (celsC [c]) := by
  obtain ⟨rfl, rfl, rfl, rfl⟩ := h
  exact src_one W tc c
set_option maxRecDepth 100000 in
set_option maxHeartbeats 8000000 in
theorem rread_any (s : List UInt8) (w : World) (_hs : s.length ≤ 100000) :
    Calls Try.prog 16 #[.string (nb s)] w (RdQ (rdN s) w) := by
  by_cases h512 : s.length = 512
  · obtain ⟨S, hS⟩ : ∃ S, S = nb s := ⟨_, rfl⟩
    have hsz : S.size = 512 := by rw [hS, nb_size, h512]
    have hdat : S.data.toList = s := by rw [hS]; rfl
    rw [← hS]
    have n0 : 0 < S.size := by omega
    have n1 : 1 < S.size := by omega
    have n2 : 2 < S.size := by omega
    have b0 := byte_bd (S[0]'(by omega))
    have b1 := byte_bd (S[1]'(by omega))
    have b2 := byte_bd (S[2]'(by omega))
    obtain ⟨m, hm⟩ : ∃ m, m = manyP s := ⟨_, rfl⟩
    have hm2 : ((S[1]'(by omega)).toNat : Int) * (256 : Int) + ((S[2]'(by omega)).toNat : Int) = (m : Int) := by
      rw [hm]
      unfold manyP
      rw [← hdat, getD_at S 1 (by omega), getD_at S 2 (by omega)]
      push_cast
      rfl
    obtain ⟨leaf, hlf⟩ : ∃ b, b = leafP s := ⟨_, rfl⟩
    have hl2 : (((S[0]'(by omega)).toNat : Int) == 1) = leaf := by
      rw [hlf]
      unfold leafP
      rw [← hdat, getD_at S 0 (by omega)]
      have h1 : ((S[0]'(by omega)).toNat : Int) = 1 ↔ (S[0]'(by omega)) = 1 := by
        constructor
        · intro h
          have h4 : (S[0]'(by omega)).toNat = 1 := by omega
          exact UInt8.toNat_inj.1 h4
        · intro h; rw [h]; rfl
      by_cases h2 : (S[0]'(by omega)) = 1
      · rw [h1.2 h2, h2]; rfl
      · have h3 : ¬ ((S[0]'(by omega)).toNat : Int) = 1 := fun h => h2 (h1.1 h)
        rw [beq_eq_false_iff_ne.2 h3, beq_eq_false_iff_ne.2 h2]
    obtain ⟨P, hP⟩ : ∃ P, P = parN s := ⟨_, rfl⟩
    obtain ⟨RR, hRR⟩ : ∃ R, R = rdN s := ⟨_, rfl⟩
    rw [← hRR]
    have HRR := Lib.hid (hRR.trans (rd_par s))
    clear hRR
    have hmb : m ≤ 65535 := by omega
    have HHS := Lib.hid hS; have HD := Lib.hid hdat; have HM := Lib.hid hm; have HLF := Lib.hid hlf; have HP := Lib.hid hP; have H512 := Lib.hid h512
    clear hm hlf hP h512 hdat _hs
    have w1 : IntKind.i64.wrap ((S[1]'(by omega)).toNat : Int) = ((S[1]'(by omega)).toNat : Int) := IntWalk.i64_in _ ⟨by omega, by omega⟩
    have w2 : IntKind.i64.wrap ((S[2]'(by omega)).toNat : Int) = ((S[2]'(by omega)).toNat : Int) := IntWalk.i64_in _ ⟨by omega, by omega⟩
    have w3 : IntKind.i64.wrap (((S[1]'(by omega)).toNat : Int) * (256 : Int)) = ((S[1]'(by omega)).toNat : Int) * (256 : Int) := IntWalk.i64_in _ ⟨by omega, by omega⟩
    have w4 : IntKind.i64.wrap (((S[1]'(by omega)).toNat : Int) * (256 : Int) + ((S[2]'(by omega)).toNat : Int)) = (m : Int) := by rw [hm2]; exact IntWalk.i64_in _ ⟨by omega, by omega⟩
    have p0 : (0 : Int) < S.size := by omega
    have p1 : (1 : Int) < S.size := by omega
    have p2 : (2 : Int) < S.size := by omega
    clear hS
    go_enter Try.func16, Try.ntmps16
    go_upto_region 4 with (fail)
    have HNJ := Lib.hid (show NJ w (w.heap.size + 1) w.heap.size (w.heap.size + 2) 25 45 leaf (.slice none 0 0) (.slice none 0 0) [] [] ((w.alloc (.cells #[.bool false, .slice none 0 0, .slice none 0 0] 25)).alloc (.cells #[.bool leaf, .slice none 0 0, .slice none 0 0] 25)) from
      ⟨blk_at (w := w.alloc (.cells #[.bool false, .slice none 0 0, .slice none 0 0] 25)) (by simp), blk_alloc (blk_new w 25 #[.bool false, .slice none 0 0, .slice none 0 0]) _, World.ownsRow_nil _ _ _ _, World.ownsRow_nil _ _ _ _, .inl rfl, by omega, by omega, by omega, by omega, by omega, blw2 w _ _, by simp⟩)
    generalize (w.alloc (.cells #[.bool false, .slice none 0 0, .slice none 0 0] 25)).alloc (.cells #[.bool leaf, .slice none 0 0, .slice none 0 0] 25) = W2 at *
    obtain ⟨gx, hgx⟩ : ∃ g, g = w.heap.size + 1 := ⟨_, rfl⟩
    obtain ⟨gr, hgr⟩ : ∃ g, g = w.heap.size := ⟨_, rfl⟩
    obtain ⟨base, hbase⟩ : ∃ g, g = w.heap.size + 2 := ⟨_, rfl⟩
    have HNJ2 := Lib.hid (show NJ w gx gr base 25 45 leaf (.slice none 0 0) (.slice none 0 0) [] [] W2 from by rw [hgx, hgr, hbase]; exact HNJ.out)
    rw [← hgx, ← hgr]
    obtain ⟨ok0, hok0⟩ : ∃ b, b = decide ((m : Int) ≤ 512) := ⟨_, rfl⟩
    have hok1 : decide ((m : Int) ≤ 512) = ok0 := hok0.symm
    clear HNJ hgx hgr hbase hok0
    go_quiet (fail)
    generalize hwq : W2.drewN _ = W3
    have HNJ3 := Lib.hid (show NJ w gx gr base 25 45 leaf (.slice none 0 0) (.slice none 0 0) [] [] W3 from by rw [← hwq]; exact HNJ2.out.below ⟨rfl, rfl, rfl, Nat.le_refl _, fun _ _ => rfl⟩)
    clear hwq HNJ2
    go_upto_region 7 with fail
    have HOK := Lib.hid hok1
    go_cut [6, 7, 8] from 9 (fun s6 s7 s8 wx => s6 = .int .i64 3 ∧ s7 = .bool ok0 ∧ s8 = .int .i64 0 ∧ wx = W3)
    case first =>
      go_wp2
      go_meet
      exact ⟨rfl, rfl, rfl, rfl⟩
    case rest =>
      obtain ⟨rfl, rfl, rfl, rfl⟩ := hcut
      clear w1 w2 w3 w4 b0 b1 b2 p0 p1 p2 hl2 hm2 hok1
      go_upto_block 0 with fail
      go_cut [6, 7] from 8 (fun s6 s7 wx => ∃ (A : Int) (ok : Bool) (K : List Int) (kv : Value), s6 = .int .i64 A ∧ s7 = .bool ok ∧ K.length ≤ 514 ∧ Hid (NJ w gx gr base 25 45 leaf (.slice none 0 0) kv [] K wx) ∧ Hid (ok = true → m ≤ 512 ∧ ∃ a : Nat, A = a ∧ a ≤ 512 ∧ P = (celsP leaf m (s.drop a)).map (fun l => ⟨leaf, l, K⟩)) ∧ Hid (ok = false → P = none))
      case first =>
        obtain ⟨i2, hi2, hz2, hs2, hb2⟩ := ninfo_parts infoI64
        go_wp2_with fail
        go_loopw [6, 7, 8] (fun s6 s7 s8 wr => ∃ (a i : Nat) (ok : Bool) (K : List Int) (ka : Option Addr) (kn kc : Nat), s6 = .int .i64 a ∧ s7 = .bool ok ∧ s8 = .int .i64 i ∧ i ≤ m + 1 ∧ a ≤ 3 + 4 * i ∧ Hid (K.length = i) ∧ Hid (ok = true → m ≤ 512) ∧ Hid (i = 0 ∨ (leaf = false ∧ m ≤ 512)) ∧ Hid (ok = true → a = 3 + 4 * i ∧ a ≤ 512) ∧ Hid (NJ w gx gr base 25 45 leaf (.slice none 0 0) (.slice ka kn kc) [] K wr) ∧ Hid (ok = true → leaf = false → kidsP (m + 1) (s.drop 3) = (kidsP (m + 1 - i) (s.drop a)).map (K ++ ·)) ∧ Hid (ok = false → P = none)) (fun _ _ s8 _ => m + 2 - (intOf s8).toNat)
        case atStart =>
          refine ⟨3, 0, ok0, [], none, 0, 0, rfl, by first | rfl | rw [HOK.out], rfl, by omega, by omega, Lib.hid rfl, Lib.hid (fun h => ?_), Lib.hid (.inl rfl), Lib.hid (fun _ => ⟨rfl, by decide⟩), HNJ3, Lib.hid (fun _ _ => ?_), Lib.hid (fun h => ?_)⟩
          · have := HOK.out; rw [h] at this; have := of_decide_eq_true this; omega
          · rw [Nat.sub_zero]; cases kidsP (m + 1) (s.drop 3) <;> simp
          · have h2 := HOK.out; rw [h] at h2; have h3 := of_decide_eq_false h2
            rw [HP.out]; exact par_many (by rw [← HM.out]; omega)
        case round =>
          clear HNJ3
          obtain ⟨a, i, ok, K, ka, kn, kc, rfl, rfl, rfl, hi, ha, hK, hm5, hi0, hak, hN, hkp, hno⟩ := hrel
          have x0 := blk_cell hN.out.hx 0 rfl
          have HEX := Lib.hid (fun (hex : ¬ (ok = true ∧ leaf = false ∧ i ≤ m)) => show (ok = true → m ≤ 512 ∧ ∃ a' : Nat, (a : Int) = a' ∧ a' ≤ 512 ∧ P = (celsP leaf m (s.drop a')).map (fun l => ⟨leaf, l, K⟩)) from fun hok => by
            have h5 := hm5.out hok
            obtain ⟨h6, h7⟩ := hak.out hok
            refine ⟨h5, a, rfl, h7, ?_⟩
            cases hlf : leaf with
            | true =>
              have h8 : i = 0 := by rcases hi0.out with h | h; exact h; rw [hlf] at h; exact nomatch h.1
              subst h8
              have h9 : K = [] := List.eq_nil_of_length_eq_zero hK.out
              subst h9
              rw [HP.out, par_leaf H512.out (by rw [← HM.out]; exact h5) (by rw [← HLF.out]; exact hlf), ← HM.out, h6]
            | false =>
              have h8 : i = m + 1 := by
                by_cases h : i ≤ m
                · exact absurd ⟨hok, hlf, h⟩ hex
                · omega
              have h9 := hkp.out hok hlf
              rw [h8, Nat.sub_self, kidsP] at h9
              simp only [Option.map_some, List.append_nil] at h9
              rw [HP.out, par_inner H512.out (by rw [← HM.out]; exact h5) (by rw [← HLF.out]; exact hlf), ← HM.out, h9, h6, h8])
          have HKL := Lib.hid (show K.length ≤ 514 from by
            rw [hK.out]
            rcases hi0.out with h | h
            · omega
            · have := h.2; omega)
          rcases Bool.eq_false_or_eq_true ok with hok | hok
          · subst hok
            rcases Bool.eq_false_or_eq_true leaf with hlf | hlf
            · have HE2 := Lib.hid (HEX.out (fun h => by rw [hlf] at h; exact nomatch h.2.1))
              go_wp2
              go_meet
              exact ⟨(a : Int), true, K, _, rfl, rfl, HKL.out, hN, Lib.hid (fun _ => by first | exact HE2.out trivial | exact HE2.out rfl), Lib.hid (fun h => nomatch h)⟩
            · by_cases him : i ≤ m
              · have t1 : (i : Int) ≤ m := by omega
                have h5 := hm5.out rfl
                obtain ⟨h6, h7⟩ := hak.out rfl
                have h8 := hkp.out rfl hlf
                have hmin : min (a : Int) 512 = (a : Int) := by omega
                have q0 : (a : Int) ≤ 512 := by omega
                have hT := nb_drop S a
                rw [HD.out, hsz] at hT
                obtain ⟨E, hE⟩ : ∃ E, E = S.extract a 512 := ⟨_, rfl⟩
                have hE' : S.extract a 512 = E := hE.symm
                rw [hE'] at hT
                have hes : E.size ≤ 9223372036854775807 := by
                  have : E.data.toList.length = E.size := by simp
                  rw [← this, hT, List.length_drop, H512.out]; omega
                have kn' := fun W => rnumber_any E hes W
                rw [hT] at kn'
                have hst := fun h0 => num_ok (l := s.drop a) h0
                have hstep := fun h0 => kids_step (m := m - i) (r := s.drop a) h0 K
                have hfail := fun h0 => kids_fail (m := m - i) (r := s.drop a) h0
                rw [show m - i + 1 = m + 1 - i by omega] at hstep hfail
                obtain ⟨x, er, hxe⟩ : ∃ x er, numR (s.drop a) = (x, er) := ⟨_, _, rfl⟩
                rw [hxe] at kn' hst hstep hfail
                simp only at kn' hst hstep hfail
                have HH8 := Lib.hid h8; have HST := Lib.hid hst; have HSTEP := Lib.hid hstep; have HFAIL := Lib.hid hfail
                have wa : IntKind.i64.wrap ((a : Int) + 4) = (a : Int) + 4 := IntWalk.i64_in _ ⟨by omega, by omega⟩
                have HH6 := Lib.hid h6
                clear hxe hT hes hst hstep hfail h8 HEX hE h6
                have x2 := blk_cell hN.out.hx 2 rfl
                go_upto_region 11 with (go_at_call 27; (with_reducible refine (kn' _).mono ?_); rintro e w5 ⟨rfl, hb5⟩; have HN5 := Lib.hid (hN.out.below hb5); have x2 := blk_cell HN5.out.hx 2 rfl; clear hb5)
                have HNA := Lib.hid (HN5.out.alloc (.cells #[.int .i64 x] 3))
                have y2 := blk_cell HNA.out.hx 2 rfl
                go_wp2_with (at_builtin; go_must (refine wpList_append_any _ rfl _ _ 23 rfl base 3 i2 _ 1 8 Try.underlying23 hi2 hz2 hs2 hb2 rfl (by decide) _ _ _ rfl HNA.out.kr _ 1 (kidsC [x]) rfl (src_int w5 3 x) (kids_ones _) (by unfold maxLen; have := HKL.out; omega) (by have := HKL.out; omega) HNA.out.bs ?_; intro v7 U7 ho hg hv; obtain ⟨p7, m7, q7, e7⟩ := nj_kv (HNA.out.kids ho hg hv); subst e7; have HN7 := Lib.hid (HNA.out.kids ho hg hv); have hxx := blk_grownBy HNA.out.hx hg (row_far (W' := U7) HNA.out.kr HNA.out.lx); have y3 := blk_cell hxx 2 rfl; have y4 := blk_frozen hxx 2; clear ho hg hv hxx))
                go_roundw
                case rel =>
                  refine ⟨a + 4, i + 1, decide (er = 0), K ++ [x], p7, m7, q7, by go_num, ?_, by go_num, by omega, by omega, Lib.hid (by rw [List.length_append, hK.out]; rfl), Lib.hid (fun _ => h5), Lib.hid (.inr ⟨hlf, h5⟩), Lib.hid (fun h => ?_), HN7, Lib.hid (fun h _ => ?_), Lib.hid (fun h => ?_)⟩
                  · rw [show (er == 0) = decide (er = 0) from by by_cases h : er = 0 <;> simp [h]]
                  · have h9 := HST.out (of_decide_eq_true h)
                    rw [List.length_drop, H512.out] at h9
                    have := HH6.out
                    omega
                  · rw [HH8.out, HSTEP.out (of_decide_eq_true h), List.drop_drop, show m + 1 - (i + 1) = m - i by omega]
                  · rw [HP.out, par_inner H512.out (by rw [← HM.out]; exact h5) (by rw [← HLF.out]; exact hlf), ← HM.out, HH8.out, HFAIL.out (of_decide_eq_false h)]
                    rfl
                case measure => simp only [intOf]; omega
              · have t1 : ¬ (i : Int) ≤ m := by omega
                have HE2 := Lib.hid (HEX.out (fun h => him h.2.2))
                go_wp2
                go_meet
                exact ⟨(a : Int), true, K, _, rfl, rfl, HKL.out, hN, Lib.hid (fun _ => by first | exact HE2.out trivial | exact HE2.out rfl), Lib.hid (fun h => nomatch h)⟩
          · subst hok
            have HE2 := Lib.hid (HEX.out (fun h => nomatch h.1))
            go_wp2
            go_meet
            exact ⟨(a : Int), false, K, _, rfl, rfl, HKL.out, hN, Lib.hid (fun h => nomatch h), Lib.hid (fun _ => by first | exact hno.out trivial | exact hno.out rfl)⟩
      case rest =>
        obtain ⟨A0, ok1, K, kv, rfl, rfl, hKL, hN0, hyes0, hno0⟩ := hcut
        obtain ⟨i1, hi1, hz1, hs1, hb1⟩ := ninfo_parts infoC16
        clear HNJ3
        go_upto_block 2 with fail
        go_cut [6, 7] from 8 (fun s6 s7 wx => ∃ (A : Int) (ok : Bool) (L : List Cel) (cv : Value), s6 = .int .i64 A ∧ s7 = .bool ok ∧ Hid (NJ w gx gr base 25 45 leaf cv kv L K wx) ∧ Hid (ok = true → P = some ⟨leaf, L, K⟩) ∧ Hid (ok = false → P = none))
        case first =>
          go_wp2_with fail
          go_loopw [6, 7, 11] (fun s6 s7 s11 wr => ∃ (A : Int) (i : Nat) (ok : Bool) (L : List Cel) (ca : Option Addr) (cn cc : Nat), s6 = .int .i64 A ∧ s7 = .bool ok ∧ s11 = .int .i64 i ∧ i ≤ m ∧ Hid (L.length = i) ∧ Hid (NJ w gx gr base 25 45 leaf (.slice ca cn cc) kv L K wr) ∧ Hid (ok = true → ∃ a : Nat, A = a ∧ a ≤ 512 ∧ P = (celsP leaf (m - i) (s.drop a)).map (fun l => ⟨leaf, L ++ l, K⟩)) ∧ Hid (ok = false → P = none)) (fun _ _ s11 _ => m + 1 - (intOf s11).toNat)
          case atStart =>
            exact ⟨A0, 0, ok1, [], none, 0, 0, rfl, rfl, rfl, by omega, Lib.hid rfl, hN0, Lib.hid (fun h => by obtain ⟨-, a, h1, h2, h3⟩ := hyes0.out h; exact ⟨a, h1, h2, by rw [h3]; rfl⟩), hno0⟩
          case round =>
            clear hN0 hyes0 hno0
            obtain ⟨A, i, ok, L, ca, cn, cc, rfl, rfl, rfl, hi, hL, hN, hyes, hno⟩ := hrel
            rcases Bool.eq_false_or_eq_true ok with hok | hok
            · subst hok
              obtain ⟨a, rfl, ha, hPa⟩ := hyes.out rfl
              by_cases him : i < m
              · have t1 : (i : Int) < m := by omega
                rw [show m - i = (m - (i + 1)) + 1 by omega] at hPa
                have HPA := Lib.hid hPa
                have kt := fun W => rtext_any S a 100 W (by omega) (by omega) (by omega)
                rw [HD.out, show ((100 : Nat) : Int) = 100 from rfl] at kt
                clear hPa hyes hno
                go_upto_region 18 with (fail)
                have HNC := Lib.hid (nc_start hN.out #[.string ⟨#[]⟩, .int .i64 0, .string ⟨#[]⟩, .int .i64 0])
                obtain ⟨W8, hW8⟩ : ∃ W, W = wr.alloc (.cells #[.string ⟨#[]⟩, .int .i64 0, .string ⟨#[]⟩, .int .i64 0] 45) := ⟨_, rfl⟩
                obtain ⟨g12, hg12⟩ : ∃ W, W = wr.heap.size := ⟨_, rfl⟩
                rw [← hW8, ← hg12]
                rw [← hW8, ← hg12] at HNC
                clear hW8 hg12 hN
                cases htx : txtP (s.drop a) 100 with
                | none =>
                  rw [htx] at kt
                  unfold TxtV at kt
                  have HF9 := Lib.hid (show false = false → P = none from fun _ => by rw [HPA.out, cels_fail (cel_text htx)]; rfl)
                  have HY9 := Lib.hid (show false = true → ∃ a' : Nat, (a : Int) = a' ∧ a' ≤ 512 ∧ P = (celsP leaf (m - (i + 1)) (s.drop a')).map (fun l => ⟨leaf, (L ++ [⟨[], 0, [], 0⟩]) ++ l, K⟩) from fun h => nomatch h)
                  obtain ⟨x, hx⟩ : ∃ x : Cel, x = ⟨[], 0, [], 0⟩ := ⟨_, rfl⟩
                  rw [← hx] at HY9
                  have HQX := Lib.hid (show (⟨#[]⟩ : ByteArray) = nb x.key ∧ (⟨#[]⟩ : ByteArray) = nb x.loc ∧ (0 : Int) = x.len ∧ (0 : Int) = x.ov from by rw [hx]; exact ⟨rfl, rfl, rfl, rfl⟩)
                  clear hx htx
                  go_upto_region 21 with (go_at_call 28; (with_reducible refine (kt _).mono ?_); rintro e w5 ⟨rfl, hb5⟩; have HNB := Lib.hid (HNC.out.below hb5); have z0 := blk_cell HNB.out.bc 0 rfl; have f0 := blk_frozen HNB.out.bc 0; clear hb5)
                  have HNC9 := Lib.hid (HNB.out.set 0 (.string ⟨#[]⟩))
                  obtain ⟨W9, hW9⟩ : ∃ W, W = w5.setCell ⟨g12, 0, none⟩ (.string ⟨#[]⟩) := ⟨_, rfl⟩
                  rw [← hW9]
                  rw [← hW9] at HNC9
                  clear hW9
                  have c0 := blk_cell HNC9.out.bc 0 rfl; have c1 := blk_cell HNC9.out.bc 1 rfl; have c2 := blk_cell HNC9.out.bc 2 rfl; have c3 := blk_cell HNC9.out.bc 3 rfl
                  have x1 := blk_cell HNC9.out.nj.hx 1 rfl
                  have HNA := Lib.hid (HNC9.out.nj.alloc (.cells #[.string ⟨#[]⟩, .int .i64 0, .string ⟨#[]⟩, .int .i64 0] 45))
                  have y2 := blk_cell HNA.out.hx 1 rfl
                  go_wp2_with (at_builtin; go_must (refine wpList_append_any _ rfl _ _ 22 rfl base 45 i1 _ 4 48 Try.underlying22 hi1 hz1 hs1 hb1 rfl (by decide) _ _ _ rfl HNA.out.cr _ 1 (celsC [x]) rfl (src_gen W9 45 x ⟨#[]⟩ ⟨#[]⟩ 0 0 (by first | exact HQX.out | exact ⟨HQX.out.1, HQX.out.2.1, rfl, rfl⟩)) (cels_ones _) (by unfold maxLen; have := hL.out; omega) (by have := hL.out; omega) HNA.out.bs ?_; intro v7 U7 ho hg hv; obtain ⟨p7, m7, q7, e7⟩ := nj_cv (HNA.out.cells ho hg hv); subst e7; have HN7 := Lib.hid (HNA.out.cells ho hg hv); have hxx := blk_grownBy HNA.out.hx hg (row_far (W' := U7) HNA.out.cr HNA.out.lx); have y3 := blk_cell hxx 1 rfl; have y4 := blk_frozen hxx 1; clear ho hg hv hxx))
                  go_roundw
                  case rel => exact ⟨_, i + 1, _, L ++ [x], p7, m7, q7, rfl, rfl, by go_num, by omega, Lib.hid (by rw [List.length_append, hL.out]; rfl), HN7, (by first | exact HY9 | exact Lib.hid (fun _ => HY9.out trivial) | exact Lib.hid (fun h => nomatch h)), (by first | exact HF9 | exact Lib.hid (fun _ => HF9.out trivial) | exact Lib.hid (fun h => nomatch h))⟩
                  case measure => simp only [intOf]; omega
                | some kt2 =>
                  obtain ⟨k, t⟩ := kt2
                  rw [htx] at kt
                  unfold TxtV at kt
                  simp only at kt
                  obtain ⟨hk1, hk2⟩ := txt_some htx
                  rw [List.length_drop, H512.out] at hk1
                  obtain ⟨KX, hKX⟩ : ∃ K, K = nb t := ⟨_, rfl⟩
                  rw [← hKX] at kt
                  obtain ⟨b, hb⟩ : ∃ b, b = a + k := ⟨_, rfl⟩
                  rw [← hb] at kt
                  have hb512 : b ≤ 512 := by omega
                  have HTX := Lib.hid htx; have HB := Lib.hid hb; have HKT := Lib.hid hKX
                  clear htx hKX hb hk1 hk2
                  rcases Bool.eq_false_or_eq_true leaf with hlf | hlf
                  · have kv2 := fun W => rvalue_any S KX b W (by omega) (by omega)
                    rw [HD.out, show KX.data.toList = t from by rw [HKT.out]; rfl] at kv2
                    go_upto_region 20 with (go_at_call 28; (with_reducible refine (kt _).mono ?_); rintro e w5 ⟨rfl, hb5⟩; have HNB := Lib.hid (HNC.out.below hb5); have z0 := blk_cell HNB.out.bc 0 rfl; have f0 := blk_frozen HNB.out.bc 0; have HNX := Lib.hid (HNB.out.set 0 (.string KX)); have v0 := blk_cell HNX.out.bc 0 rfl; have v1 := blk_cell HNX.out.nj.hx 0 rfl; clear hb5)
                    clear z0 f0
                    obtain ⟨W6, hW6⟩ : ∃ W, W = w5.setCell ⟨g12, 0, none⟩ (.string KX) := ⟨_, rfl⟩
                    rw [← hW6]
                    rw [← hW6] at HNX
                    rw [← hW6] at v0
                    clear hW6 v1
                    cases hva : valP (s.drop b) t with
                    | none =>
                      rw [hva] at kv2
                      unfold ValQ celZ at kv2
                      simp only at kv2
                      have HF9 := Lib.hid (show false = false → P = none from fun _ => by rw [HPA.out, hlf, cels_fail (cel_leaf_no HTX.out (by rw [List.drop_drop, ← HB.out]; exact hva))]; rfl)
                      have HY9 := Lib.hid (show ∀ A' : Int, false = true → ∃ a' : Nat, A' = a' ∧ a' ≤ 512 ∧ P = (celsP leaf (m - (i + 1)) (s.drop a')).map (fun l => ⟨leaf, (L ++ [⟨[], 0, [], 0⟩]) ++ l, K⟩) from fun _ h => nomatch h)
                      obtain ⟨x, hx⟩ : ∃ x : Cel, x = ⟨[], 0, [], 0⟩ := ⟨_, rfl⟩
                      rw [← hx] at HY9
                      have HQX := Lib.hid (show (⟨#[]⟩ : ByteArray) = nb x.key ∧ (⟨#[]⟩ : ByteArray) = nb x.loc ∧ (0 : Int) = x.len ∧ (0 : Int) = x.ov from by rw [hx]; exact ⟨rfl, rfl, rfl, rfl⟩)
                      clear hx hva
                      go_upto_region 21 with (go_at_call 29; (with_reducible refine (kv2 _).mono ?_); rintro e w7 ⟨A9, rfl, hb7⟩; have HNZ := Lib.hid (HNX.out.below hb7); have z0 := blk_cell HNZ.out.bc 0 rfl; have f0 := blk_frozen HNZ.out.bc 0; have z1 := blk_cell HNZ.out.bc 1 rfl; have f1 := blk_frozen HNZ.out.bc 1; have z2 := blk_cell HNZ.out.bc 2 rfl; have f2 := blk_frozen HNZ.out.bc 2; have z3 := blk_cell HNZ.out.bc 3 rfl; have f3 := blk_frozen HNZ.out.bc 3; clear hb7)
                      have HNC9 := Lib.hid ((((HNZ.out.set 0 (.string ⟨#[]⟩)).set 1 (.int .i64 0)).set 2 (.string ⟨#[]⟩)).set 3 (.int .i64 0))
                      obtain ⟨W9, hW9⟩ : ∃ W, W = (((w7.setCell ⟨g12, 0, none⟩ (.string ⟨#[]⟩)).setCell ⟨g12, 1, none⟩ (.int .i64 0)).setCell ⟨g12, 2, none⟩ (.string ⟨#[]⟩)).setCell ⟨g12, 3, none⟩ (.int .i64 0) := ⟨_, rfl⟩
                      rw [← hW9]
                      rw [← hW9] at HNC9
                      clear hW9
                      have c0 := blk_cell HNC9.out.bc 0 rfl; have c1 := blk_cell HNC9.out.bc 1 rfl; have c2 := blk_cell HNC9.out.bc 2 rfl; have c3 := blk_cell HNC9.out.bc 3 rfl
                      have x1 := blk_cell HNC9.out.nj.hx 1 rfl
                      have HNA := Lib.hid (HNC9.out.nj.alloc (.cells #[.string ⟨#[]⟩, .int .i64 0, .string ⟨#[]⟩, .int .i64 0] 45))
                      have y2 := blk_cell HNA.out.hx 1 rfl
                      go_wp2_with (at_builtin; go_must (refine wpList_append_any _ rfl _ _ 22 rfl base 45 i1 _ 4 48 Try.underlying22 hi1 hz1 hs1 hb1 rfl (by decide) _ _ _ rfl HNA.out.cr _ 1 (celsC [x]) rfl (src_gen W9 45 x ⟨#[]⟩ ⟨#[]⟩ 0 0 (by first | exact HQX.out | exact ⟨HQX.out.1, HQX.out.2.1, rfl, rfl⟩)) (cels_ones _) (by unfold maxLen; have := hL.out; omega) (by have := hL.out; omega) HNA.out.bs ?_; intro v7 U7 ho hg hv; obtain ⟨p7, m7, q7, e7⟩ := nj_cv (HNA.out.cells ho hg hv); subst e7; have HN7 := Lib.hid (HNA.out.cells ho hg hv); have hxx := blk_grownBy HNA.out.hx hg (row_far (W' := U7) HNA.out.cr HNA.out.lx); have y3 := blk_cell hxx 1 rfl; have y4 := blk_frozen hxx 1; clear ho hg hv hxx))
                      go_roundw
                      case rel => exact ⟨_, i + 1, _, L ++ [x], p7, m7, q7, rfl, rfl, by go_num, by omega, Lib.hid (by rw [List.length_append, hL.out]; rfl), HN7, Lib.hid (fun h => nomatch h), (by first | exact HF9 | exact Lib.hid (fun _ => HF9.out trivial))⟩
                      case measure => simp only [intOf]; omega
                    | some mc =>
                      obtain ⟨q, x⟩ := mc
                      rw [hva] at kv2
                      unfold ValQ celV at kv2
                      simp only at kv2
                      have hq := val_some hva
                      rw [List.length_drop, H512.out] at hq
                      have HF9 := Lib.hid (show true = false → P = none from fun h => nomatch h)
                      have HY9 := Lib.hid (show true = true → ∃ a' : Nat, (((b + q : Nat) : Int)) = a' ∧ a' ≤ 512 ∧ P = (celsP leaf (m - (i + 1)) (s.drop a')).map (fun l => ⟨leaf, (L ++ [x]) ++ l, K⟩) from fun _ => ⟨b + q, rfl, by omega, by
                        rw [HPA.out, hlf, cels_step (cel_leaf HTX.out (by rw [List.drop_drop, ← HB.out]; exact hva)), List.drop_drop, HB.out, Nat.add_assoc]⟩)
                      obtain ⟨KY, hKY⟩ : ∃ K, K = nb x.key := ⟨_, rfl⟩
                      obtain ⟨LY, hLY⟩ : ∃ K, K = nb x.loc := ⟨_, rfl⟩
                      have HQX := Lib.hid (show KY = nb x.key ∧ LY = nb x.loc ∧ x.len = x.len ∧ x.ov = x.ov from ⟨hKY, hLY, rfl, rfl⟩)
                      rw [← hKY, ← hLY] at kv2
                      clear hKY hLY hva hq
                      go_upto_region 21 with (go_at_call 29; (with_reducible refine (kv2 _).mono ?_); rintro e w7 ⟨rfl, hb7⟩; have HNZ := Lib.hid (HNX.out.below hb7); have z0 := blk_cell HNZ.out.bc 0 rfl; have f0 := blk_frozen HNZ.out.bc 0; have z1 := blk_cell HNZ.out.bc 1 rfl; have f1 := blk_frozen HNZ.out.bc 1; have z2 := blk_cell HNZ.out.bc 2 rfl; have f2 := blk_frozen HNZ.out.bc 2; have z3 := blk_cell HNZ.out.bc 3 rfl; have f3 := blk_frozen HNZ.out.bc 3; clear hb7)
                      have HNC9 := Lib.hid ((((HNZ.out.set 0 (.string KY)).set 1 (.int .i64 x.len)).set 2 (.string LY)).set 3 (.int .i64 x.ov))
                      obtain ⟨W9, hW9⟩ : ∃ W, W = (((w7.setCell ⟨g12, 0, none⟩ (.string KY)).setCell ⟨g12, 1, none⟩ (.int .i64 x.len)).setCell ⟨g12, 2, none⟩ (.string LY)).setCell ⟨g12, 3, none⟩ (.int .i64 x.ov) := ⟨_, rfl⟩
                      rw [← hW9]
                      rw [← hW9] at HNC9
                      clear hW9
                      have c0 := blk_cell HNC9.out.bc 0 rfl; have c1 := blk_cell HNC9.out.bc 1 rfl; have c2 := blk_cell HNC9.out.bc 2 rfl; have c3 := blk_cell HNC9.out.bc 3 rfl
                      have x1 := blk_cell HNC9.out.nj.hx 1 rfl
                      have HNA := Lib.hid (HNC9.out.nj.alloc (.cells #[.string KY, .int .i64 x.len, .string LY, .int .i64 x.ov] 45))
                      have y2 := blk_cell HNA.out.hx 1 rfl
                      go_wp2_with (at_builtin; go_must (refine wpList_append_any _ rfl _ _ 22 rfl base 45 i1 _ 4 48 Try.underlying22 hi1 hz1 hs1 hb1 rfl (by decide) _ _ _ rfl HNA.out.cr _ 1 (celsC [x]) rfl (src_gen W9 45 x KY LY x.len x.ov (by first | exact HQX.out | exact ⟨HQX.out.1, HQX.out.2.1, rfl, rfl⟩)) (cels_ones _) (by unfold maxLen; have := hL.out; omega) (by have := hL.out; omega) HNA.out.bs ?_; intro v7 U7 ho hg hv; obtain ⟨p7, m7, q7, e7⟩ := nj_cv (HNA.out.cells ho hg hv); subst e7; have HN7 := Lib.hid (HNA.out.cells ho hg hv); have hxx := blk_grownBy HNA.out.hx hg (row_far (W' := U7) HNA.out.cr HNA.out.lx); have y3 := blk_cell hxx 1 rfl; have y4 := blk_frozen hxx 1; clear ho hg hv hxx))
                      go_roundw
                      case rel => exact ⟨_, i + 1, _, L ++ [x], p7, m7, q7, rfl, rfl, by go_num, by omega, Lib.hid (by rw [List.length_append, hL.out]; rfl), HN7, (by first | exact HY9 | exact Lib.hid (fun _ => HY9.out trivial) | exact Lib.hid (fun h => nomatch h)), (by first | exact HF9 | exact Lib.hid (fun _ => HF9.out trivial) | exact Lib.hid (fun h => nomatch h))⟩
                      case measure => simp only [intOf]; omega
                  · have HF9 := Lib.hid (show true = false → P = none from fun h => nomatch h)
                    have HY9 := Lib.hid (show true = true → ∃ a' : Nat, (b : Int) = a' ∧ a' ≤ 512 ∧ P = (celsP leaf (m - (i + 1)) (s.drop a')).map (fun l => ⟨leaf, (L ++ [⟨t, 0, [], 0⟩]) ++ l, K⟩) from fun _ => ⟨b, rfl, hb512, by
                      rw [HPA.out, hlf, cels_step (cel_inner HTX.out), List.drop_drop, HB.out]⟩)
                    obtain ⟨x, hx⟩ : ∃ x : Cel, x = ⟨t, 0, [], 0⟩ := ⟨_, rfl⟩
                    rw [← hx] at HY9
                    have HQX := Lib.hid (show KX = nb x.key ∧ (⟨#[]⟩ : ByteArray) = nb x.loc ∧ (0 : Int) = x.len ∧ (0 : Int) = x.ov from by rw [hx]; exact ⟨HKT.out, rfl, rfl, rfl⟩)
                    clear hx
                    go_upto_region 21 with (go_at_call 28; (with_reducible refine (kt _).mono ?_); rintro e w5 ⟨rfl, hb5⟩; have HNB := Lib.hid (HNC.out.below hb5); have z0 := blk_cell HNB.out.bc 0 rfl; have f0 := blk_frozen HNB.out.bc 0; have v1 := blk_cell (HNB.out.set 0 (.string KX)).nj.hx 0 rfl; clear hb5)
                    clear hlf
                    have HNC9 := Lib.hid (HNB.out.set 0 (.string KX))
                    obtain ⟨W9, hW9⟩ : ∃ W, W = w5.setCell ⟨g12, 0, none⟩ (.string KX) := ⟨_, rfl⟩
                    rw [← hW9]
                    rw [← hW9] at HNC9
                    clear hW9
                    have c0 := blk_cell HNC9.out.bc 0 rfl; have c1 := blk_cell HNC9.out.bc 1 rfl; have c2 := blk_cell HNC9.out.bc 2 rfl; have c3 := blk_cell HNC9.out.bc 3 rfl
                    have x1 := blk_cell HNC9.out.nj.hx 1 rfl
                    have HNA := Lib.hid (HNC9.out.nj.alloc (.cells #[.string KX, .int .i64 0, .string ⟨#[]⟩, .int .i64 0] 45))
                    have y2 := blk_cell HNA.out.hx 1 rfl
                    go_wp2_with (at_builtin; go_must (refine wpList_append_any _ rfl _ _ 22 rfl base 45 i1 _ 4 48 Try.underlying22 hi1 hz1 hs1 hb1 rfl (by decide) _ _ _ rfl HNA.out.cr _ 1 (celsC [x]) rfl (src_gen W9 45 x KX ⟨#[]⟩ 0 0 (by first | exact HQX.out | exact ⟨HQX.out.1, HQX.out.2.1, rfl, rfl⟩)) (cels_ones _) (by unfold maxLen; have := hL.out; omega) (by have := hL.out; omega) HNA.out.bs ?_; intro v7 U7 ho hg hv; obtain ⟨p7, m7, q7, e7⟩ := nj_cv (HNA.out.cells ho hg hv); subst e7; have HN7 := Lib.hid (HNA.out.cells ho hg hv); have hxx := blk_grownBy HNA.out.hx hg (row_far (W' := U7) HNA.out.cr HNA.out.lx); have y3 := blk_cell hxx 1 rfl; have y4 := blk_frozen hxx 1; clear ho hg hv hxx))
                    go_roundw
                    case rel => exact ⟨_, i + 1, _, L ++ [x], p7, m7, q7, rfl, rfl, by go_num, by omega, Lib.hid (by rw [List.length_append, hL.out]; rfl), HN7, (by first | exact HY9 | exact Lib.hid (fun _ => HY9.out trivial) | exact Lib.hid (fun h => nomatch h)), (by first | exact HF9 | exact Lib.hid (fun _ => HF9.out trivial) | exact Lib.hid (fun h => nomatch h))⟩
                    case measure => simp only [intOf]; omega
              · obtain rfl : i = m := by omega
                have t1 : ¬ (i : Int) < i := by omega
                have HPA := Lib.hid (show P = some ⟨leaf, L, K⟩ from by rw [hPa, Nat.sub_self, celsP]; simp)
                clear hPa hyes hno
                go_wp2
                go_meet
                exact ⟨_, true, L, _, rfl, rfl, hN, Lib.hid (fun _ => HPA.out), Lib.hid (fun h => nomatch h)⟩
            · subst hok
              have HNO := Lib.hid (show P = none from hno.out rfl)
              clear hyes hno
              go_wp2
              go_meet
              exact ⟨_, false, L, _, rfl, rfl, hN, Lib.hid (fun h => nomatch h), Lib.hid (fun _ => HNO.out)⟩
        case rest =>
          obtain ⟨A9, ok9, L, cv, rfl, rfl, hN, hyes, hno⟩ := hcut
          rcases Bool.eq_false_or_eq_true ok9 with hok | hok
          · subst hok
            have hP := hyes.out rfl
            have HRJ := Lib.hid (show RR = if wriN ⟨leaf, L, K⟩ = (s, 0) then some ⟨leaf, L, K⟩ else none from by
              rw [HRR.out, ← HP.out, hP])
            have HSZ := Lib.hid (par_sz (HP.out.symm.trans hP))
            clear hyes hno hP
            obtain ⟨ca, cc, rfl, hca, hcl⟩ := cls_row hN.out.cr
            obtain ⟨ka, kc, rfl, hka, hkl⟩ := kds_row hN.out.kr
            obtain ⟨p, er, hpe⟩ : ∃ p er, wriN ⟨leaf, L, K⟩ = (p, er) := ⟨_, _, rfl⟩
            have kw := rwrite_any ⟨leaf, L, K⟩ ca ka cc kc wc HSZ.out hcl hkl
            rw [hpe] at kw
            simp only at kw
            have HNQ := Lib.hid (⟨hca, hka⟩ : (ca = none → cc = 0) ∧ (ka = none → kc = 0))
            have HCL := Lib.hid hcl; have HKL := Lib.hid hkl
            have x0 := blk_cell hN.out.hx 0 rfl; have x1 := blk_cell hN.out.hx 1 rfl; have x2 := blk_cell hN.out.hx 2 rfl
            have hq := nb_eq p s
            rw [← HHS.out] at hq
            obtain ⟨T, hT⟩ : ∃ T, T = nb p := ⟨_, rfl⟩
            rw [← hT] at hq kw
            obtain ⟨nl, hnl⟩ : ∃ n, n = L.length := ⟨_, rfl⟩
            obtain ⟨nk, hnk⟩ : ∃ n, n = K.length := ⟨_, rfl⟩
            have HNL := Lib.hid hnl; have HNK := Lib.hid hnk
            rw [← hnl] at kw x1
            rw [← hnk] at kw x2
            by_cases hgood : er = 0 ∧ p = s
            · obtain ⟨rfl, rfl⟩ := hgood
              have HRK := Lib.hid (show RR = some ⟨leaf, L, K⟩ from by rw [HRJ.out, if_pos hpe])
              rw [decide_eq_true rfl] at hq
              clear hpe hT hca hka hcl hkl hnl hnk HRJ
              go_upto_region 24 with (fail)
              go_upto_region 25 with (go_at_call 10; (with_reducible refine kw.mono ?_); rintro e w5 ⟨rfl, hb5⟩; have HB5 := Lib.hid hb5; clear hb5)
              have HN5 := Lib.hid (hN.out.below HB5.out)
              have HC5 := Lib.hid (cls_next HCL.out HB5.out)
              have HK5 := Lib.hid (kds_next HKL.out HB5.out)
              clear x0 x1 x2 kw
              have x0 := blk_cell HN5.out.hx 0 rfl; have x1 := blk_cell HN5.out.hx 1 rfl; have x2 := blk_cell HN5.out.hx 2 rfl
              rw [← HNL.out] at x1
              rw [← HNK.out] at x2
              have z0 := blk_cell HN5.out.hr 0 rfl; have z1 := blk_cell HN5.out.hr 1 rfl; have z2 := blk_cell HN5.out.hr 2 rfl
              have y0 := blk_frozen HN5.out.hr 0; have y1 := blk_frozen HN5.out.hr 1; have y2 := blk_frozen HN5.out.hr 2
              go_upto_region 27 with (fail)
              repeat go_step
              obtain ⟨W2, hW2, q1, q2, q3⟩ := node_put (n := ⟨leaf, L, K⟩) (cc := cc) (kc := kc) HN5.out.hr HC5.out HK5.out
              simp only at hW2 q1
              rw [← HNL.out, ← HNK.out] at hW2 q1
              rw [← hW2]
              refine bodyPost_ret (nresults_pair rfl _ _ gr _ _ _ rfl q1 Try.underlying25 rfl (by kernel_rfl)) rfl ?_
              rw [HRK.out]
              refine ⟨ca, cc, ka, kc, by rw [HNL.out, HNK.out]; rfl, HNQ.out, q2, q3, ?_⟩
              rw [hW2]
              exact set3 HN5.out.bw HN5.out.wr _ _ _
            · have HRK := Lib.hid (show RR = none from by rw [HRJ.out, if_neg (fun h => hgood (by rw [hpe] at h; have := Prod.ext_iff.1 h; exact ⟨this.2, this.1⟩))])
              have HG := Lib.hid hgood
              clear hpe hT hca hka hcl hkl hgood hnl hnk
              by_cases her : er = 0
              · subst her
                have hps : ¬ p = s := fun h => HG.out ⟨rfl, h⟩
                rw [decide_eq_false hps] at hq
                have hq' : ¬ T.toList = S.toList := by simpa using hq
                clear hps
                go_upto_region 24 with (fail)
                go_upto_region 25 with (go_at_call 10; (with_reducible refine kw.mono ?_); rintro e w5 ⟨rfl, hb5⟩; have HB5 := Lib.hid hb5; clear hb5)
                have HN5 := Lib.hid (hN.out.below HB5.out)
                have z0 := blk_cell HN5.out.hr 0 rfl; have z1 := blk_cell HN5.out.hr 1 rfl; have z2 := blk_cell HN5.out.hr 2 rfl
                have y0 := blk_frozen HN5.out.hr 0; have y1 := blk_frozen HN5.out.hr 1; have y2 := blk_frozen HN5.out.hr 2
                go_upto_region 26 with (fail)
                repeat go_step
                refine bodyPost_ret (nresults_pair rfl _ _ gr _ _ _ rfl (blk_set (blk_set (blk_set HN5.out.hr 0 _) 1 _) 2 _) Try.underlying25 rfl (by kernel_rfl)) rfl ?_
                rw [HRK.out]
                exact ⟨rfl, set3 HN5.out.bw HN5.out.wr _ _ _⟩
              · have t1 : (er != 0) = true := by simpa using her
                clear her hq
                go_upto_region 24 with (fail)
                go_upto_region 25 with (go_at_call 10; (with_reducible refine kw.mono ?_); rintro e w5 ⟨rfl, hb5⟩; have HB5 := Lib.hid hb5; clear hb5)
                have HN5 := Lib.hid (hN.out.below HB5.out)
                have z0 := blk_cell HN5.out.hr 0 rfl; have z1 := blk_cell HN5.out.hr 1 rfl; have z2 := blk_cell HN5.out.hr 2 rfl
                have y0 := blk_frozen HN5.out.hr 0; have y1 := blk_frozen HN5.out.hr 1; have y2 := blk_frozen HN5.out.hr 2
                go_upto_region 26 with (fail)
                repeat go_step
                refine bodyPost_ret (nresults_pair rfl _ _ gr _ _ _ rfl (blk_set (blk_set (blk_set HN5.out.hr 0 _) 1 _) 2 _) Try.underlying25 rfl (by kernel_rfl)) rfl ?_
                rw [HRK.out]
                exact ⟨rfl, set3 HN5.out.bw HN5.out.wr _ _ _⟩
          · subst hok
            have HRK := Lib.hid (show RR = none from by rw [HRR.out, ← HP.out, hno.out rfl])
            clear hyes hno
            have z0 := blk_cell hN.out.hr 0 rfl; have z1 := blk_cell hN.out.hr 1 rfl; have z2 := blk_cell hN.out.hr 2 rfl
            have y0 := blk_frozen hN.out.hr 0; have y1 := blk_frozen hN.out.hr 1; have y2 := blk_frozen hN.out.hr 2
            go_upto_region 23 with (fail)
            repeat go_step
            refine bodyPost_ret (nresults_pair rfl _ _ gr _ _ _ rfl (blk_set (blk_set (blk_set hN.out.hr 0 _) 1 _) 2 _) Try.underlying25 rfl (by kernel_rfl)) rfl ?_
            rw [HRK.out]
            exact ⟨rfl, set3 hN.out.bw hN.out.wr _ _ _⟩
  · rw [rd_other h512]
    unfold RdQ
    simp only
    have hsz : ¬ ((nb s).size : Int) = 512 := by rw [nb_size]; omega
    have hsz' : (((nb s).size : Int) == 512) = false := by simpa using hsz
    have hb := blk_new w 25 #[.bool false, .slice none 0 0, .slice none 0 0]
    have hw := blw1 w (.cells #[.bool false, .slice none 0 0, .slice none 0 0] 25)
    generalize nb s = S at *
    clear h512 _hs
    go_enter Try.func16, Try.ntmps16
    go_upto_region 1 with (fail)
    generalize w.alloc (.cells #[.bool false, .slice none 0 0, .slice none 0 0] 25) = w1 at *
    have z0 := blk_cell hb 0 rfl; have z1 := blk_cell hb 1 rfl; have z2 := blk_cell hb 2 rfl
    have y0 := blk_frozen hb 0; have y1 := blk_frozen hb 1; have y2 := blk_frozen hb 2
    go_upto_region 2 with (fail)
    repeat go_step
    refine bodyPost_ret (nresults_pair rfl _ _ w.heap.size _ _ _ rfl (blk_set (blk_set (blk_set hb 0 _) 1 _) 2 _) Try.underlying25 rfl (by kernel_rfl)) rfl ?_
    exact ⟨rfl, set3 hw (Nat.le_refl _) _ _ _⟩
end Go.Proofs.Ytdpjmijdlheajaa
