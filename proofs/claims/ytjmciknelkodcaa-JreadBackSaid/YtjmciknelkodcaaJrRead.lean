/-
  Layer 11, Read: the contents of a string as a journal; it changes nothing that was there. Condition: at most 2^20 bytes.
-/
import Derived.Test.YtjmciknelkodcaaJrReadI
namespace Go.Proofs.Ytjmciknelkodcaa
open Go.RowKit
attribute [local go_sem] Oper.semAt_some

set_option maxHeartbeats 4000000 in
set_option maxRecDepth 100000 in
theorem read_in (s : List UInt8) (hs : s.length ≤ 1048576) (w : World) :
    CallsIn Fence.wide 9 Try.prog 8 #[.string (ba s)] w fun e w' => Below w.heap.size w w' ∧ ∃ a cap, e = .returned (.agg #[.int .i64 (rdJ s).k, .int .i64 (rdJ s).p, .slice a (rdJ s).L.length cap, .string (ba (rdJ s).s)]) ∧ Recs w' a (rdJ s).L := by
  have hz := fun w => (zero_of_info (P := Try.prog) infoSeen).1 w
  obtain ⟨X, hX⟩ : ∃ X, X = rdG (s.length + 1) s ⟨0, 0, []⟩ := ⟨_, rfl⟩
  have HRJ := Lib.hid (show rdJ s = endJ X by rw [hX]; rfl)
  obtain ⟨N, hN⟩ : ∃ N, N = w.heap.size := ⟨_, rfl⟩
  refine callsIn_of_wp_marks Try.func8 rfl trivial ?_ rfl
  simp only [Try.ntmps8, List.size_toArray, List.length_cons, List.length_nil, Nat.reduceAdd, Nat.reduceSub, Array.replicate_succ, Array.replicate_zero, List.push_toArray, List.append_toArray, List.nil_append, List.cons_append]
  gi_wp2_with (refine ⟨trivial, ?_⟩; gi_at_call 20; refine (segs_in _ _ _).mono ?_; rintro e w' ⟨rfl, rfl⟩)
  simp only [Nat.add_assoc, Nat.reduceAdd]
  obtain ⟨W0, hW0⟩ : ∃ W0, ((((w.alloc (.cells #[.int .i64 0, .int .i64 0, .slice none 0 0, .string ⟨#[]⟩] 25)).alloc (.cells #[.int .i64 0, .int .i64 0, .slice none 0 0, .string ⟨#[]⟩] 25)).alloc (.cells falses 53)).alloc (.cells #[.string (ba s)] 9)).alloc (.cells #[.string (ba s)] 9) = W0 := ⟨_, rfl⟩
  have hsz : W0.heap.size = N + 5 := by rw [← hW0, hN]; simp
  have hbox : Blk W0 (N + 4) 9 #[.string (ba s)] := by rw [← hW0]; exact blk_at (by rw [hN]; simp)
  have hI0 : ∀ W, Below W0.heap.size W0 W → W0.heap.size + 1 < W.heap.size → IJ N w X (fun _ => False) s W := by
    intro W hb hlt
    have e0 : Blk W0 N 25 zJour := by rw [← hW0]; exact blk_alloc (blk_alloc (blk_alloc (blk_alloc (blk_at hN) _) _) _) _
    have e1 : Blk W0 (N + 1) 25 zJour := by rw [← hW0]; exact blk_alloc (blk_alloc (blk_alloc (blk_at (by rw [hN]; simp)) _) _) _
    have e2 : W0.rowIs (N + 2) 53 2001 (seenF []) := by
      rw [← hW0]
      have := World.rowIs_alloc ((w.alloc (.cells #[.int .i64 0, .int .i64 0, .slice none 0 0, .string ⟨#[]⟩] 25)).alloc (.cells #[.int .i64 0, .int .i64 0, .slice none 0 0, .string ⟨#[]⟩] 25)) falses 53 (seenF []) (fun i hi => by
        unfold falses at hi ⊢
        rw [Array.size_replicate] at hi
        rw [Array.getElem?_replicate, if_pos hi]; rfl)
      simp only [World.size_alloc] at this
      rw [show N + 2 = w.heap.size + 1 + 1 by rw [hN]]
      have e : falses.size = 2001 := by unfold falses; exact Array.size_replicate
      rw [e] at this
      exact (this.alloc _).alloc _
    have e3 : Blk W0 (N + 3) 9 #[.string (ba s)] := by rw [← hW0]; exact blk_alloc (blk_at (by rw [hN]; simp)) _
    have eb : Below N w W0 := by
      rw [← hW0, hN]
      exact (((((Below.refl _ w).alloc (Nat.le_refl _) _).alloc (by simp) _).alloc (by simp; omega) _).alloc (by simp; omega) _).alloc (by simp; omega) _
    refine ⟨0, 0, [], .slice none 0 0, ⟨eb.trans (hb.mono (by omega)), blk_below e0 hb, blk_below e1 hb, World.ownsRow_nil _ _ _ _, e2.of_block (hb.block _ (by omega)), blk_below e3 hb, by omega⟩, ⟨⟨_, hX.symm, by omega⟩, by omega, by simp; omega⟩, (fun g e => by cases e), (fun j h => h.elim)⟩
  rw [hW0, ← hN]
  have HI0 := Lib.hid hI0
  have HBX := Lib.hid hbox
  have HN := Lib.hid hN
  clear hW0 hI0 hbox hz hN
  refine wpIn_segs (n := 9) (q := 6) (by omega) (N + 4) s hs rfl HBX.out (IJ N w X) (fun c W => c = .exit 0 ∧ EJ N w X W)
    (fun F r A B row h hg hr => ij_kept h hg (by rw [hsz] at hr; exact hr))
    (fun F F' r A h hs hF => ij_foreign h (by rw [hsz] at hs; exact hs) hF)
    (fun c A B row h hg hr => ⟨h.1, ej_kept h.2 hg (by rw [hsz] at hr; exact hr)⟩)
    HI0.out ?assign ?body ?done ?stop
  case assign =>
    intro l x z a1 len cap W K hK
    simp only [List.setIfInBounds_toArray, List.set_cons_succ, List.set_cons_zero] at hK ⊢
    gi_wp2
    exact hK
  case body =>
    rintro l G Y F r g a1 cap W hF6 hFG hFY hYl ⟨k, p, L, v, hJ, hP, hv, hFN⟩ hfs hrl hrec ha1 hY
    rw [hsz] at hF6 ⊢
    simp only [List.setIfInBounds_toArray, List.set_cons_succ, List.set_cons_zero]
    obtain ⟨⟨f, hf, hrf⟩, hk1, hL1⟩ := hP
    obtain ⟨⟨gp0, gp1⟩, hgl, hgok, hgt, hglen⟩ := fsS_ok hfs
    have hGY := hFY G hFG
    have hG6 := hF6 G hFG
    have j0 := blk_cell hJ.jour 0 rfl
    have j1 := blk_cell hJ.jour 1 rfl
    have f0 := blk_frozen hJ.jour 0
    have f1 := blk_frozen hJ.jour 1
    have y0 := blk_cell hY 0 rfl
    have y1 := blk_cell hY 1 rfl
    have y2 := blk_cell hY 2 rfl
    by_cases hbr : 0 < k ∧ g.p ≠ p
    · have t1 : (0 : Int) < (k : Int) := by omega
      have t2 : (g.p != p) = true := by simpa using hbr.2
      have HX := Lib.hid (show X = (⟨k, p, L⟩, r) by rw [← hf, rdG_stop (j := ⟨k, p, L⟩) hfs hbr])
      have HJ := Lib.hid hJ
      have HV := Lib.hid (fun g e => (hv g e).2)
      clear hf hrf hgl hgok hgt hglen hbr hJ hfs hrec ha1 hv
      gi_wp2
      exact ⟨⟨rfl, rfl⟩, rfl, k, p, L, v, r, HJ.out, HV.out, HX.out, hk1⟩
    have hlt := fsS_lt hfs
    obtain ⟨f', hf', hstep⟩ := rdG_step (j := ⟨k, p, L⟩) hfs hbr hrf
    rw [hstep] at hf
    have HST := Lib.hid (show (∃ f, rdG f g.t ⟨k + 1, g.p, addR L g.L⟩ = X ∧ g.t.length < f) from ⟨f', hf, hf'⟩)
    have hgl2 : g.t.length = r.length - (32 + 520 * g.L.length) := by rw [hgt, List.length_drop]
    have HGL2 := Lib.hid hgl2
    have hadl := addR_len g.L L
    have HADL := Lib.hid hadl
    have HGLEN := Lib.hid hglen
    have HOK := Lib.hid hgok
    obtain ⟨P, hPd⟩ : ∃ P : Nat → Prop, P = fun j => F j ∨ j = N + 5 ∨ j = N + 6 ∨ j = Y := ⟨_, rfl⟩
    have HP := Lib.hid (show ∀ j, P j → N + 4 < j ∧ j < W.heap.size by
      intro j hj
      rw [hPd] at hj
      rcases hj with h | h | h | h
      · have := hFY j h; have := hFN j h; omega
      all_goals omega)
    have HPY := Lib.hid (show P Y by rw [hPd]; exact .inr (.inr (.inr rfl)))
    have HPF := Lib.hid (show ∀ j, F j → P j by intro j h; rw [hPd]; exact .inl h)
    have HP5 := Lib.hid (show P (N + 5) ∧ P (N + 6) ∧ P G by rw [hPd]; exact ⟨.inr (.inl rfl), .inr (.inr (.inl rfl)), .inl hFG⟩)
    have HV := Lib.hid (show ∀ j, v.ownBlock = some j → ¬ P j by
      intro j e h
      rw [hPd] at h
      rcases h with h | h | h | h
      · exact (hv j e).1 h
      · exact (hv j e).2.1 h
      · exact (hv j e).2.2 h
      · subst h; exact own_not hJ.own hY segNeRec e)
    have HREC := Lib.hid hrec
    have HA1 := Lib.hid (show ∀ b off, a1 = some ⟨b, off, none⟩ → P b by intro b off e; rw [hPd]; exact .inl (ha1 b off e))
    have HK := Lib.hid (kp_set (kp_set (kp_refl P W) (fun j h => (HP.out j h).2) (b := N + 1) (fun h => by have := (HP.out _ h).1; omega) 0 (.int .i64 ((k + 1 : Nat) : Int))) (fun j h => (HP.out j h).2) (b := N + 1) (fun h => by have := (HP.out _ h).1; omega) 1 (.int .i64 g.p))
    have HJ := Lib.hid (rj_p (rj_k hJ (k + 1)) g.p)
    have HY := Lib.hid hY
    have hkk : k ≤ 1048575 := by omega
    have hLL : L.length + g.L.length ≤ 1048576 := by omega
    have hbr' : k = 0 ∨ g.p = p := by
      by_cases h : k = 0
      · exact .inl h
      · refine .inr ?_
        by_cases h2 : g.p = p
        · exact h2
        · exact absurd ⟨by omega, h2⟩ hbr
    clear hv hrec ha1 hJ hY hbr hgt hglen hgok hstep hf hrf hgl2 hadl hPd hlt hf' hfs hFY
    obtain ⟨k', hk'⟩ : ∃ k' : Nat, k' = k + 1 := ⟨_, rfl⟩
    have HKE := Lib.hid hk'
    have HKI := Lib.hid (show IntKind.i64.wrap ((k : Int) + 1) = (k' : Int) by rw [IntKind.wrap_i64]; omega)
    rw [← hk'] at HJ HK HST
    have wk : (k : Int) + 1 = (k' : Int) := by omega
    obtain ⟨len, hlen⟩ : ∃ len, len = g.L.length := ⟨_, rfl⟩
    have HLEN := Lib.hid hlen
    rw [← hlen] at y1 hgl hLL ⊢
    obtain ⟨gp, hgp⟩ : ∃ gp, gp = g.p := ⟨_, rfl⟩
    rw [← hgp] at HK HJ HST y0 hbr' gp0 gp1 ⊢
    clear hk' hlen hgp HY
    have hc : ¬ 0 < k ∨ (0 < k ∧ (gp != p) = false) := by
      by_cases h0 : 0 < k
      · exact .inr ⟨h0, by rcases hbr' with h | h; omega; simp [h]⟩
      · exact .inl h0
    clear hbr'
    obtain ⟨i1, hi1, hz1, hs1, hb1⟩ := info_parts infoJR
    clear hX
    have HM0 := Lib.hid (show L = addR L (g.L.take 0) by rw [List.take_zero]; rfl)
    rcases hc with hc | ⟨hc, hc2⟩
    all_goals (
      gi_wp2
      clear j0 j1 f0 f1 y0 y1 hc
      gi_loopw [33] (fun i wr => ∃ (q : Nat) (M : List R11) (v' : Value), q ≤ len ∧ i = .int .i64 q ∧ Hid (M = addR L (g.L.take q)) ∧ Hid (RJ N w k' gp M M v' r wr) ∧ Hid (KP P W wr) ∧ Hid (∀ j, v'.ownBlock = some j → ¬ P j)) (fun i _ => len - (intOf i).toNat)
      case atStart => exact ⟨0, L, v, by omega, rfl, HM0, HJ, HK, HV⟩
      case round =>
        clear HJ HK HV HM0
        obtain ⟨q, M, v', hq, rfl, hM, hJ, hK, hV⟩ := hrel
        by_cases hlt : q < len
        case neg =>
          obtain rfl : q = len := by omega
          have y2' := kp_cell hK.out HPY.out y2
          have r0 := blk_cell hJ.out.rest 0 rfl
          have r1 := blk_frozen hJ.out.rest 0
          clear y2
          gi_wp2
          have HK3 := kp_set hK.out (fun j h => (HP.out j h).2) (b := N + 3) (fun h => by have := (HP.out _ h).1; omega) 0 (.string (ba g.t))
          have hMe : M = addR L g.L := by rw [hM.out, addR_all L (by have := HLEN.out; omega)]
          refine ⟨⟨HK3.1 _ HP5.out.1, HK3.1 _ HP5.out.2.1, HK3.1 _ HP5.out.2.2, HK3.2⟩, k', gp, M, v', rj_r hJ.out g.t, ⟨by rw [hMe]; exact HST.out, ?_, ?_⟩, (fun j e => ⟨fun h => hV.out j e (HPF.out j h), fun h => hV.out j e (by rw [h]; exact HP5.out.1), fun h => hV.out j e (by rw [h]; exact HP5.out.2.1)⟩), hFN⟩
          · have h1 := HGL2.out; have h2 := HGLEN.out; have h3 := HKE.out; omega
          · have h1 := HGL2.out; have h2 := HGLEN.out; have h3 := HADL.out; rw [hMe]; omega
        have hlt' : q < g.L.length := by have := HLEN.out; omega
        have hok := HOK.out _ (List.getElem_mem hlt')
        obtain ⟨b, off, rfl, hbw, c0, c1⟩ := HREC.out q hlt'
        have hbP := HA1.out b off rfl
        replace c0 := kp_cell hK.out hbP c0
        replace c1 := kp_cell hK.out hbP c1
        have HMS := Lib.hid (addR_snoc L hlt')
        obtain ⟨x, hx⟩ : ∃ x, x = g.L[q] := ⟨_, rfl⟩
        rw [← hx] at c0 c1 HMS hok
        obtain ⟨m, hm⟩ : ∃ m : Nat, x.n = m := ⟨x.n.toNat, by have := hok.1; omega⟩
        obtain ⟨d, hd⟩ : ∃ d, d = ba x.d := ⟨_, rfl⟩
        rw [hm] at c0
        rw [← hd] at c1
        have hm1 : m < 2001 := by have := hok.2.1; omega
        have hm2 : (m : Int) < 2001 := by omega
        have HX := Lib.hid (show recC x = [.int .i64 m, .string d] by rw [hd, ← hm]; rfl)
        have HXM := Lib.hid hm
        clear hx hd hok hm hlt' hbw
        obtain ⟨ob, hob⟩ : ∃ ob, ob = Obj.cells #[.int .i64 m, .string d] 52 := ⟨_, rfl⟩
        have HJ1 := Lib.hid (rj_alloc hJ.out ob)
        have HK1 := Lib.hid (kp_alloc hK.out (fun j h => (HP.out j h).2) ob)
        have hsc := HJ1.out.seen.cell (i := m) hm1
        have hsf := HJ1.out.seen.frozen m
        have hjc := blk_cell HJ1.out.jour 2 rfl
        have hjf := blk_frozen HJ1.out.jour 2
        rw [hob] at hsc hsf hjc hjf HJ1 HK1
        clear hob
        by_cases hh : hasR M (m : Int) = true
        · have hsc' : ((wr.alloc (.cells #[.int .i64 m, .string d] 52)).cell? ⟨N + 2, m, none⟩) = some (.bool true) := by rw [hsc]; unfold seenF; rw [hh]
          clear hsc
          have HMN := Lib.hid (show M = addR L (g.L.take (q + 1)) by rw [HMS.out, ← hM.out, putR, HXM.out, if_pos hh])
          clear hh
          gi_wp2
          go_roundw
          case rel => exact ⟨q + 1, M, v', by omega, by go_num, HMN, HJ1, HK1, hV⟩
          case measure => simp [intOf]; omega
        · have hsc' : ((wr.alloc (.cells #[.int .i64 m, .string d] 52)).cell? ⟨N + 2, m, none⟩) = some (.bool false) := by rw [hsc]; unfold seenF; rw [Bool.not_eq_true] at hh; rw [hh]
          clear hsc
          have HMN := Lib.hid (show M ++ [x] = addR L (g.L.take (q + 1)) by rw [HMS.out, ← hM.out, putR, HXM.out, if_neg hh])
          have hML : M.length ≤ 1048575 := by
            have h1 := addR_len (g.L.take q) L
            rw [← hM.out, List.length_take] at h1
            omega
          clear hh
          have HJ2 := Lib.hid (rj_seen HJ1.out HXM.out)
          have HK2 := Lib.hid (kp_set HK1.out (fun j h => (HP.out j h).2) (b := N + 2) (fun h => by have := (HP.out _ h).1; omega) m (.bool true))
          have hbig := hJ.out.big
          gi_wp2_with (gi_at_builtin; refine wpListIn_append_lies _ rfl _ _ 23 rfl N 52 i1 _ 2 24 Try.underlying23 hi1 hz1 hs1 hb1 rfl (by omega) v' M.length (recsC M) rfl (HJ2.out.own.alloc _) ⟨wr.heap.size + 1, 0, none⟩ 1 1 [.int .i64 m, .string d] rfl rfl (World.news_of_block (blk_at (cs := #[.int .i64 m, .string d]) (by simp [World.setCell]))) (by simp [Value.oneCell']) (by omega) (by unfold maxLen; omega) (by omega) (by simp [World.setCell]; omega) (wr.heap.size + 2) (by simp [World.setCell]) ?_; intro g3 cap3 w3 hown3 hgrow3 hat3 hlt3; have HB3 := Lib.hid (blk_own (blk_alloc HJ2.out.jour _) (HJ2.out.own.alloc _) jourNeRec hgrow3); have y5 := blk_cell HB3.out 2 rfl; have y6 := blk_frozen HB3.out 2; clear hjc hjf hsf hsc')
          have HJ3 := Lib.hid (rj_app HJ2.out _ hgrow3 (L' := M ++ [x]) (v' := .slice (some ⟨g3, 0, none⟩) (M.length + 1) cap3) (by rw [List.length_append, recsC_snoc, HX.out]; exact hown3))
          have HK3 := Lib.hid (kp_set (kp_grown (kp_alloc HK2.out (fun j h => (HP.out j h).2) _) (fun j h => (HP.out j h).2) hgrow3 (fun j e => hV.out j e)) (fun j h => (HP.out j h).2) (b := N + 1) (fun h => by have := (HP.out _ h).1; omega) 2 (.slice (some ⟨g3, 0, none⟩) (M.length + 1) cap3))
          have HV3 := Lib.hid (show ∀ j, (Value.slice (some ⟨g3, 0, none⟩) (M.length + 1) cap3).ownBlock = some j → ¬ P j by
            intro j e hp
            obtain rfl : g3 = j := Option.some.inj e
            rcases hat3 with h | h
            · exact hV.out _ h hp
            · have h1 := (HP.out _ hp).2
              have h2 := hK.out.2
              omega)
          clear hown3 hgrow3 hat3 HJ2 HK2 hJ hK hV hM
          go_roundw
          case rel => exact ⟨q + 1, M ++ [x], _, by omega, by go_num, HMN, HJ3, HK3, HV3⟩
          case measure => simp [intOf]; omega)
  case done =>
    rintro F r W hno ⟨k, p, L, v, hJ, ⟨⟨f, hf, hrf⟩, hk1, hL1⟩, hv, -⟩ hD
    rw [hsz] at hD ⊢
    have HX := Lib.hid (show X = (⟨k, p, L⟩, r) by rw [← hf, rdG_none hno])
    have HV := Lib.hid (fun g e => (hv g e).2)
    clear hf hrf hno hv hL1
    obtain ⟨a, cap, rfl, -, -, -⟩ := recs_of_own hJ.own
    have HJ := Lib.hid hJ
    have HD := Lib.hid hD
    clear hD hJ
    by_cases h0 : 0 < k
    · have HRE := Lib.hid (show rdJ s = ⟨k, p, L, (namS r).1⟩ by rw [HRJ.out, HX.out, endJ]; simp only [if_pos h0])
      have hr0 := blk_cell HJ.out.rest 0 rfl
      have hrz := ba_size r
      have k1 := fun w => spnamed_any (ba r) (by omega) w
      rw [ba_list] at k1
      have j0 := blk_cell HJ.out.jour 0 rfl
      clear hrz
      gi_wp2_with (refine ⟨trivial, ?_⟩; gi_at_call 21; refine (callsIn_wide.2 (k1 _)).mono ?_; rintro e w2 ⟨rfl, b2⟩; have HJ2 := Lib.hid (rj_kept HJ.out (below_grown (row := none) b2 rfl) (fun j e => by cases e)); have HD2 := Lib.hid ((b2.block _ (Array.getElem?_eq_some_iff.1 HD.out).1).trans HD.out); clear b2 j0 hr0; have j0 := blk_cell HJ2.out.jour 0 rfl; have j1 := blk_cell HJ2.out.jour 1 rfl; have j2 := blk_cell HJ2.out.jour 2 rfl; have j3 := blk_cell HJ2.out.jour 3 rfl; have j4 := blk_frozen HJ2.out.jour 3; have z0 := blk_cell HJ2.out.res 0 rfl; have z1 := blk_cell HJ2.out.res 1 rfl; have z2 := blk_cell HJ2.out.res 2 rfl; have z3 := blk_cell HJ2.out.res 3 rfl; have f0 := blk_frozen HJ2.out.res 0; have f1 := blk_frozen HJ2.out.res 1; have f2 := blk_frozen HJ2.out.res 2; have f3 := blk_frozen HJ2.out.res 3)
      obtain ⟨e1, e2, e3, e4⟩ := read_end (k := k) (p := p) (ba (namS r).1) HN.out (HJ2.out.below.setCell (p := ⟨N + 1, 3, none⟩) (by show N ≤ N + 1; omega) (.string (ba (namS r).1))) (blk_other HJ2.out.res (by omega) 3 (.string (ba (namS r).1))) (own_set HJ2.out.own HJ2.out.jour jourNeRec 3 (.string (ba (namS r).1))) ((Below.heap_setCell _ _ _ _ (by show N + 5 ≠ N + 1; omega)).trans HD2.out)
      refine ⟨by simp, .inl ⟨_, _, rfl, run_takeDeferred e1, ?_⟩⟩
      refine ⟨_, results_cell_row rfl _ _ N _ _ (0, 0) _ rfl e2 Try.underlying25 rfl (by kernel_rfl), e3, a, cap, ?_, ?_⟩
      · rw [HRE.out]
      · rw [HRE.out]; exact e4
    · have HRE := Lib.hid (show rdJ s = ⟨k, p, L, []⟩ by rw [HRJ.out, HX.out, endJ]; simp only [if_neg h0])
      have j0 := blk_cell HJ.out.jour 0 rfl
      have j1 := blk_cell HJ.out.jour 1 rfl
      have j2 := blk_cell HJ.out.jour 2 rfl
      have j3 := blk_cell HJ.out.jour 3 rfl
      have z0 := blk_cell HJ.out.res 0 rfl
      have z1 := blk_cell HJ.out.res 1 rfl
      have z2 := blk_cell HJ.out.res 2 rfl
      have z3 := blk_cell HJ.out.res 3 rfl
      have f0 := blk_frozen HJ.out.res 0
      have f1 := blk_frozen HJ.out.res 1
      have f2 := blk_frozen HJ.out.res 2
      have f3 := blk_frozen HJ.out.res 3
      gi_wp2
      obtain ⟨e1, e2, e3, e4⟩ := read_end (k := k) (p := p) ⟨#[]⟩ HN.out HJ.out.below HJ.out.res HJ.out.own HD.out
      refine ⟨by simp, .inl ⟨_, _, rfl, run_takeDeferred e1, ?_⟩⟩
      refine ⟨_, results_cell_row rfl _ _ N _ _ (0, 0) _ rfl e2 Try.underlying25 rfl (by kernel_rfl), e3, a, cap, ?_, ?_⟩
      · rw [HRE.out]; rfl
      · rw [HRE.out]; exact e4
  case stop =>
    rintro c W ⟨rfl, k, p, L, v, r, hJ, hv, hX, hk1⟩ hD
    rw [hsz] at hD ⊢
    have HX := Lib.hid hX
    have HV := Lib.hid (fun g e => hv g e)
    clear hv hX
    obtain ⟨a, cap, rfl, -, -, -⟩ := recs_of_own hJ.own
    have HJ := Lib.hid hJ
    have HD := Lib.hid hD
    clear hD hJ
    by_cases h0 : 0 < k
    · have HRE := Lib.hid (show rdJ s = ⟨k, p, L, (namS r).1⟩ by rw [HRJ.out, HX.out, endJ]; simp only [if_pos h0])
      have hr0 := blk_cell HJ.out.rest 0 rfl
      have hrz := ba_size r
      have k1 := fun w => spnamed_any (ba r) (by omega) w
      rw [ba_list] at k1
      have j0 := blk_cell HJ.out.jour 0 rfl
      clear hrz
      gi_wp2_with (refine ⟨trivial, ?_⟩; gi_at_call 21; refine (callsIn_wide.2 (k1 _)).mono ?_; rintro e w2 ⟨rfl, b2⟩; have HJ2 := Lib.hid (rj_kept HJ.out (below_grown (row := none) b2 rfl) (fun j e => by cases e)); have HD2 := Lib.hid ((b2.block _ (Array.getElem?_eq_some_iff.1 HD.out).1).trans HD.out); clear b2 j0 hr0; have j0 := blk_cell HJ2.out.jour 0 rfl; have j1 := blk_cell HJ2.out.jour 1 rfl; have j2 := blk_cell HJ2.out.jour 2 rfl; have j3 := blk_cell HJ2.out.jour 3 rfl; have j4 := blk_frozen HJ2.out.jour 3; have z0 := blk_cell HJ2.out.res 0 rfl; have z1 := blk_cell HJ2.out.res 1 rfl; have z2 := blk_cell HJ2.out.res 2 rfl; have z3 := blk_cell HJ2.out.res 3 rfl; have f0 := blk_frozen HJ2.out.res 0; have f1 := blk_frozen HJ2.out.res 1; have f2 := blk_frozen HJ2.out.res 2; have f3 := blk_frozen HJ2.out.res 3)
      obtain ⟨e1, e2, e3, e4⟩ := read_end (k := k) (p := p) (ba (namS r).1) HN.out (HJ2.out.below.setCell (p := ⟨N + 1, 3, none⟩) (by show N ≤ N + 1; omega) (.string (ba (namS r).1))) (blk_other HJ2.out.res (by omega) 3 (.string (ba (namS r).1))) (own_set HJ2.out.own HJ2.out.jour jourNeRec 3 (.string (ba (namS r).1))) ((Below.heap_setCell _ _ _ _ (by show N + 5 ≠ N + 1; omega)).trans HD2.out)
      refine ⟨by simp, .inl ⟨_, _, rfl, run_takeDeferred e1, ?_⟩⟩
      refine ⟨_, results_cell_row rfl _ _ N _ _ (0, 0) _ rfl e2 Try.underlying25 rfl (by kernel_rfl), e3, a, cap, ?_, ?_⟩
      · rw [HRE.out]
      · rw [HRE.out]; exact e4
    · have HRE := Lib.hid (show rdJ s = ⟨k, p, L, []⟩ by rw [HRJ.out, HX.out, endJ]; simp only [if_neg h0])
      have j0 := blk_cell HJ.out.jour 0 rfl
      have j1 := blk_cell HJ.out.jour 1 rfl
      have j2 := blk_cell HJ.out.jour 2 rfl
      have j3 := blk_cell HJ.out.jour 3 rfl
      have z0 := blk_cell HJ.out.res 0 rfl
      have z1 := blk_cell HJ.out.res 1 rfl
      have z2 := blk_cell HJ.out.res 2 rfl
      have z3 := blk_cell HJ.out.res 3 rfl
      have f0 := blk_frozen HJ.out.res 0
      have f1 := blk_frozen HJ.out.res 1
      have f2 := blk_frozen HJ.out.res 2
      have f3 := blk_frozen HJ.out.res 3
      gi_wp2
      obtain ⟨e1, e2, e3, e4⟩ := read_end (k := k) (p := p) ⟨#[]⟩ HN.out HJ.out.below HJ.out.res HJ.out.own HD.out
      refine ⟨by simp, .inl ⟨_, _, rfl, run_takeDeferred e1, ?_⟩⟩
      refine ⟨_, results_cell_row rfl _ _ N _ _ (0, 0) _ rfl e2 Try.underlying25 rfl (by kernel_rfl), e3, a, cap, ?_, ?_⟩
      · rw [HRE.out]; rfl
      · rw [HRE.out]; exact e4
theorem jread11_any (s : List UInt8) (hs : s.length ≤ 1048576) (w : World) :
    Calls Try.prog 8 #[.string (ba s)] w fun e w' => Below w.heap.size w w' ∧ ∃ a cap, e = .returned (.agg #[.int .i64 (rdJ s).k, .int .i64 (rdJ s).p, .slice a (rdJ s).L.length cap, .string (ba (rdJ s).s)]) ∧ Recs w' a (rdJ s).L := callsIn_wide.1 (read_in s hs w)
end Go.Proofs.Ytjmciknelkodcaa
