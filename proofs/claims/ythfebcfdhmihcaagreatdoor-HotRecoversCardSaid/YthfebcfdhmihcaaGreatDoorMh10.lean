/-
  Layer 13, the document's Super: it returns its plain function and changes nothing that was there. Condition: at most 30000 bytes.
  Layer 11, Read: the contents of a string as a journal; it changes nothing that was there. Condition: at most 2^20 bytes.
  Layer 13, the document's Find, Journal: files as a slice of paths and bytes; each returns its plain function and changes nothing that was there. Condition: none.
  The document's answers sign, worth, Hex and Unhex of layer 1: each returns its plain function of the bytes and changes nothing that was there. Condition: the string has at most 30000 bytes.
  The document's answer Text of layer 1: it returns the number in decimal ('Lib.itoa') and changes nothing that was there. Condition: the number is an int.
-/
import Derived.Deep.RegionWith
import Derived.IntWalk
import Derived.Deep.RegionHeld3
import Derived.Test.YthfebcfdhmihcaaGreatDoorMh9
import Derived.Test.YthfebcfdhmihcaaGreatDoorMh6
import Derived.Test.YthfebcfdhmihcaaGreatDoorMh7
import Derived.Test.YthfebcfdhmihcaaGreatDoorMh5
namespace Go.Proofs.YthfebcfdhmihcaaGreatDoor
open Go.RowKit
attribute [local go_sem] Oper.semAt_some

set_option maxHeartbeats 4000000 in
set_option maxRecDepth 100000 in
theorem read_in (s : List UInt8) (hs : s.length ≤ 1048576) (w : World) :
    CallsIn Fence.wide 9 Tryz.prog 72 #[.string (ba s)] w fun e w' => Below w.heap.size w w' ∧ ∃ a cap, e = .returned (.agg #[.int .i64 (rdJ s).k, .int .i64 (rdJ s).p, .slice a (rdJ s).L.length cap, .string (ba (rdJ s).s)]) ∧ RecsN w.heap.size w' a (rdJ s).L := by
  have hz := fun w => (zero_of_info (P := Tryz.prog) infoSeen).1 w
  obtain ⟨X, hX⟩ : ∃ X, X = rdG (s.length + 1) s ⟨0, 0, []⟩ := ⟨_, rfl⟩
  have HRJ := Lib.hid (show rdJ s = endJ X by rw [hX]; rfl)
  obtain ⟨N, hN⟩ : ∃ N, N = w.heap.size := ⟨_, rfl⟩
  refine callsIn_of_wp_marks Tryz.func72 rfl trivial ?_ rfl
  simp only [Tryz.ntmps72, List.size_toArray, List.length_cons, List.length_nil, Nat.reduceAdd, Nat.reduceSub, Array.replicate_succ, Array.replicate_zero, List.push_toArray, List.append_toArray, List.nil_append, List.cons_append]
  gi_wp2_with (refine ⟨trivial, ?_⟩; gi_at_call 107; refine (segs_in _ _ _).mono ?_; rintro e w' ⟨rfl, rfl⟩)
  simp only [Nat.add_assoc, Nat.reduceAdd]
  obtain ⟨W0, hW0⟩ : ∃ W0, ((((w.alloc (.cells #[.int .i64 0, .int .i64 0, .slice none 0 0, .string ⟨#[]⟩] 55)).alloc (.cells #[.int .i64 0, .int .i64 0, .slice none 0 0, .string ⟨#[]⟩] 55)).alloc (.cells falses 159)).alloc (.cells #[.string (ba s)] 9)).alloc (.cells #[.string (ba s)] 9) = W0 := ⟨_, rfl⟩
  have hsz : W0.heap.size = N + 5 := by rw [← hW0, hN]; simp
  have hbox : Blk W0 (N + 4) 9 #[.string (ba s)] := by rw [← hW0]; exact blk_at (by rw [hN]; simp)
  have hI0 : ∀ W, Below W0.heap.size W0 W → W0.heap.size + 1 < W.heap.size → IJ N w X (fun _ => False) s W := by
    intro W hb hlt
    have e0 : Blk W0 N 55 zJour := by rw [← hW0]; exact blk_alloc (blk_alloc (blk_alloc (blk_alloc (blk_at hN) _) _) _) _
    have e1 : Blk W0 (N + 1) 55 zJour := by rw [← hW0]; exact blk_alloc (blk_alloc (blk_alloc (blk_at (by rw [hN]; simp)) _) _) _
    have e2 : W0.rowIs (N + 2) 159 2001 (seenF []) := by
      rw [← hW0]
      have := World.rowIs_alloc ((w.alloc (.cells #[.int .i64 0, .int .i64 0, .slice none 0 0, .string ⟨#[]⟩] 55)).alloc (.cells #[.int .i64 0, .int .i64 0, .slice none 0 0, .string ⟨#[]⟩] 55)) falses 159 (seenF []) (fun i hi => by
        unfold falses at hi ⊢
        rw [Array.size_replicate] at hi
        rw [Array.getElem?_replicate, if_pos hi]; rfl)
      simp only [World.size_alloc] at this
      rw [show N + 2 = w.heap.size + 1 + 1 by rw [hN]]
      have e : falses.size = 2001 := by unfold falses; exact Array.size_replicate
      rw [e] at this
      exact (this.alloc _).alloc _
    have e3 : Blk W0 (N + 3) 9 #[.string (ba s)] := by rw [← hW0]; exact blk_alloc (blk_at (by rw [hN]; simp)) _
    have eb : Below N w W0 := by
      rw [← hW0, hN]
      exact (((((Below.refl _ w).alloc (Nat.le_refl _) _).alloc (by simp) _).alloc (by simp; omega) _).alloc (by simp; omega) _).alloc (by simp; omega) _
    refine ⟨0, 0, [], .slice none 0 0, ⟨eb.trans (hb.mono (by omega)), blk_below e0 hb, blk_below e1 hb, World.ownsRow_nil _ _ _ _, e2.of_block (hb.block _ (by omega)), blk_below e3 hb, by omega⟩, ⟨⟨_, hX.symm, by omega⟩, by omega, by simp; omega⟩, (fun g e => by cases e), (fun j h => h.elim)⟩
  rw [hW0, ← hN]
  have HI0 := Lib.hid hI0
  have HBX := Lib.hid hbox
  have HN := Lib.hid hN
  clear hW0 hI0 hbox hz hN
  refine wpIn_segs (n := 9) (q := 6) (by omega) (N + 4) s hs rfl HBX.out (IJ N w X) (fun c W => c = .exit 0 ∧ EJ N w X W)
    (fun F r A B row h hg hr => ij_kept h hg (by rw [hsz] at hr; exact hr))
    (fun F F' r A h hs hF => ij_foreign h (by rw [hsz] at hs; exact hs) hF)
    (fun c A B row h hg hr => ⟨h.1, ej_kept h.2 hg (by rw [hsz] at hr; exact hr)⟩)
    HI0.out ?assign ?body ?done ?stop
  case assign =>
    intro l x z a1 len cap W K hK
    simp only [List.setIfInBounds_toArray, List.set_cons_succ, List.set_cons_zero] at hK ⊢
    gi_wp2
    exact hK
  case body =>
    rintro l G Y F r g a1 cap W hF6 hFG hFY hYl ⟨k, p, L, v, hJ, hP, hv, hFN⟩ hfs hrl hrec ha1 hY
    rw [hsz] at hF6 ⊢
    simp only [List.setIfInBounds_toArray, List.set_cons_succ, List.set_cons_zero]
    obtain ⟨⟨f, hf, hrf⟩, hk1, hL1⟩ := hP
    obtain ⟨⟨gp0, gp1⟩, hgl, hgok, hgt, hglen⟩ := fsS_ok hfs
    have hGY := hFY G hFG
    have hG6 := hF6 G hFG
    have j0 := blk_cell hJ.jour 0 rfl
    have j1 := blk_cell hJ.jour 1 rfl
    have f0 := blk_frozen hJ.jour 0
    have f1 := blk_frozen hJ.jour 1
    have y0 := blk_cell hY 0 rfl
    have y1 := blk_cell hY 1 rfl
    have y2 := blk_cell hY 2 rfl
    by_cases hbr : 0 < k ∧ g.p ≠ p
    · have t1 : (0 : Int) < (k : Int) := by omega
      have t2 : (g.p != p) = true := by simpa using hbr.2
      have HX := Lib.hid (show X = (⟨k, p, L⟩, r) by rw [← hf, rdG_stop (j := ⟨k, p, L⟩) hfs hbr])
      have HJ := Lib.hid hJ
      have HV := Lib.hid (fun g e => (hv g e).2)
      clear hf hrf hgl hgok hgt hglen hbr hJ hfs hrec ha1 hv
      gi_wp2
      exact ⟨⟨rfl, rfl⟩, rfl, k, p, L, v, r, HJ.out, HV.out, HX.out, hk1⟩
    have hlt := fsS_lt hfs
    obtain ⟨f', hf', hstep⟩ := rdG_step (j := ⟨k, p, L⟩) hfs hbr hrf
    rw [hstep] at hf
    have HST := Lib.hid (show (∃ f, rdG f g.t ⟨k + 1, g.p, addR L g.L⟩ = X ∧ g.t.length < f) from ⟨f', hf, hf'⟩)
    have hgl2 : g.t.length = r.length - (32 + 520 * g.L.length) := by rw [hgt, List.length_drop]
    have HGL2 := Lib.hid hgl2
    have hadl := addR_len g.L L
    have HADL := Lib.hid hadl
    have HGLEN := Lib.hid hglen
    have HOK := Lib.hid hgok
    obtain ⟨P, hPd⟩ : ∃ P : Nat → Prop, P = fun j => F j ∨ j = N + 5 ∨ j = N + 6 ∨ j = Y := ⟨_, rfl⟩
    have HP := Lib.hid (show ∀ j, P j → N + 4 < j ∧ j < W.heap.size by
      intro j hj
      rw [hPd] at hj
      rcases hj with h | h | h | h
      · have := hFY j h; have := hFN j h; omega
      all_goals omega)
    have HPY := Lib.hid (show P Y by rw [hPd]; exact .inr (.inr (.inr rfl)))
    have HPF := Lib.hid (show ∀ j, F j → P j by intro j h; rw [hPd]; exact .inl h)
    have HP5 := Lib.hid (show P (N + 5) ∧ P (N + 6) ∧ P G by rw [hPd]; exact ⟨.inr (.inl rfl), .inr (.inr (.inl rfl)), .inl hFG⟩)
    have HV := Lib.hid (show ∀ j, v.ownBlock = some j → ¬ P j by
      intro j e h
      rw [hPd] at h
      rcases h with h | h | h | h
      · exact (hv j e).1 h
      · exact (hv j e).2.1 h
      · exact (hv j e).2.2 h
      · subst h; exact own_not hJ.own hY segNeRec e)
    have HREC := Lib.hid hrec
    have HA1 := Lib.hid (show ∀ b off, a1 = some ⟨b, off, none⟩ → P b by intro b off e; rw [hPd]; exact .inl (ha1 b off e))
    have HK := Lib.hid (kp_set (kp_set (kp_refl P W) (fun j h => (HP.out j h).2) (b := N + 1) (fun h => by have := (HP.out _ h).1; omega) 0 (.int .i64 ((k + 1 : Nat) : Int))) (fun j h => (HP.out j h).2) (b := N + 1) (fun h => by have := (HP.out _ h).1; omega) 1 (.int .i64 g.p))
    have HJ := Lib.hid (rj_p (rj_k hJ (k + 1)) g.p)
    have HY := Lib.hid hY
    have hkk : k ≤ 1048575 := by omega
    have hLL : L.length + g.L.length ≤ 1048576 := by omega
    have hbr' : k = 0 ∨ g.p = p := by
      by_cases h : k = 0
      · exact .inl h
      · refine .inr ?_
        by_cases h2 : g.p = p
        · exact h2
        · exact absurd ⟨by omega, h2⟩ hbr
    clear hv hrec ha1 hJ hY hbr hgt hglen hgok hstep hf hrf hgl2 hadl hPd hlt hf' hfs hFY
    obtain ⟨k', hk'⟩ : ∃ k' : Nat, k' = k + 1 := ⟨_, rfl⟩
    have HKE := Lib.hid hk'
    have HKI := Lib.hid (show IntKind.i64.wrap ((k : Int) + 1) = (k' : Int) by rw [IntKind.wrap_i64]; omega)
    rw [← hk'] at HJ HK HST
    have wk : (k : Int) + 1 = (k' : Int) := by omega
    obtain ⟨len, hlen⟩ : ∃ len, len = g.L.length := ⟨_, rfl⟩
    have HLEN := Lib.hid hlen
    rw [← hlen] at y1 hgl hLL ⊢
    obtain ⟨gp, hgp⟩ : ∃ gp, gp = g.p := ⟨_, rfl⟩
    rw [← hgp] at HK HJ HST y0 hbr' gp0 gp1 ⊢
    clear hk' hlen hgp HY
    have hc : ¬ 0 < k ∨ (0 < k ∧ (gp != p) = false) := by
      by_cases h0 : 0 < k
      · exact .inr ⟨h0, by rcases hbr' with h | h; omega; simp [h]⟩
      · exact .inl h0
    clear hbr'
    obtain ⟨i1, hi1, hz1, hs1, hb1⟩ := info_parts infoJR
    clear hX
    have HM0 := Lib.hid (show L = addR L (g.L.take 0) by rw [List.take_zero]; rfl)
    rcases hc with hc | ⟨hc, hc2⟩
    all_goals (
      gi_wp2
      clear j0 j1 f0 f1 y0 y1 hc
      gi_loopw [33] (fun i wr => ∃ (q : Nat) (M : List R11) (v' : Value), q ≤ len ∧ i = .int .i64 q ∧ Hid (M = addR L (g.L.take q)) ∧ Hid (RJ N w k' gp M M v' r wr) ∧ Hid (KP P W wr) ∧ Hid (∀ j, v'.ownBlock = some j → ¬ P j)) (fun i _ => len - (intOf i).toNat)
      case atStart => exact ⟨0, L, v, by omega, rfl, HM0, HJ, HK, HV⟩
      case round =>
        clear HJ HK HV HM0
        obtain ⟨q, M, v', hq, rfl, hM, hJ, hK, hV⟩ := hrel
        by_cases hlt : q < len
        case neg =>
          obtain rfl : q = len := by omega
          have y2' := kp_cell hK.out HPY.out y2
          have r0 := blk_cell hJ.out.rest 0 rfl
          have r1 := blk_frozen hJ.out.rest 0
          clear y2
          gi_wp2
          have HK3 := kp_set hK.out (fun j h => (HP.out j h).2) (b := N + 3) (fun h => by have := (HP.out _ h).1; omega) 0 (.string (ba g.t))
          have hMe : M = addR L g.L := by rw [hM.out, addR_all L (by have := HLEN.out; omega)]
          refine ⟨⟨HK3.1 _ HP5.out.1, HK3.1 _ HP5.out.2.1, HK3.1 _ HP5.out.2.2, HK3.2⟩, k', gp, M, v', rj_r hJ.out g.t, ⟨by rw [hMe]; exact HST.out, ?_, ?_⟩, (fun j e => ⟨fun h => hV.out j e (HPF.out j h), fun h => hV.out j e (by rw [h]; exact HP5.out.1), fun h => hV.out j e (by rw [h]; exact HP5.out.2.1)⟩), hFN⟩
          · have h1 := HGL2.out; have h2 := HGLEN.out; have h3 := HKE.out; omega
          · have h1 := HGL2.out; have h2 := HGLEN.out; have h3 := HADL.out; rw [hMe]; omega
        have hlt' : q < g.L.length := by have := HLEN.out; omega
        have hok := HOK.out _ (List.getElem_mem hlt')
        obtain ⟨b, off, rfl, hbw, c0, c1⟩ := HREC.out q hlt'
        have hbP := HA1.out b off rfl
        replace c0 := kp_cell hK.out hbP c0
        replace c1 := kp_cell hK.out hbP c1
        have HMS := Lib.hid (addR_snoc L hlt')
        obtain ⟨x, hx⟩ : ∃ x, x = g.L[q] := ⟨_, rfl⟩
        rw [← hx] at c0 c1 HMS hok
        obtain ⟨m, hm⟩ : ∃ m : Nat, x.n = m := ⟨x.n.toNat, by have := hok.1; omega⟩
        obtain ⟨d, hd⟩ : ∃ d, d = ba x.d := ⟨_, rfl⟩
        rw [hm] at c0
        rw [← hd] at c1
        have hm1 : m < 2001 := by have := hok.2.1; omega
        have hm2 : (m : Int) < 2001 := by omega
        have HX := Lib.hid (show recC x = [.int .i64 m, .string d] by rw [hd, ← hm]; rfl)
        have HXM := Lib.hid hm
        clear hx hd hok hm hlt' hbw
        obtain ⟨ob, hob⟩ : ∃ ob, ob = Obj.cells #[.int .i64 m, .string d] 165 := ⟨_, rfl⟩
        have HJ1 := Lib.hid (rj_alloc hJ.out ob)
        have HK1 := Lib.hid (kp_alloc hK.out (fun j h => (HP.out j h).2) ob)
        have hsc := HJ1.out.seen.cell (i := m) hm1
        have hsf := HJ1.out.seen.frozen m
        have hjc := blk_cell HJ1.out.jour 2 rfl
        have hjf := blk_frozen HJ1.out.jour 2
        rw [hob] at hsc hsf hjc hjf HJ1 HK1
        clear hob
        by_cases hh : hasR M (m : Int) = true
        · have hsc' : ((wr.alloc (.cells #[.int .i64 m, .string d] 165)).cell? ⟨N + 2, m, none⟩) = some (.bool true) := by rw [hsc]; unfold seenF; rw [hh]
          clear hsc
          have HMN := Lib.hid (show M = addR L (g.L.take (q + 1)) by rw [HMS.out, ← hM.out, putR, HXM.out, if_pos hh])
          clear hh
          gi_wp2
          go_roundw
          case rel => exact ⟨q + 1, M, v', by omega, by go_num, HMN, HJ1, HK1, hV⟩
          case measure => simp [intOf]; omega
        · have hsc' : ((wr.alloc (.cells #[.int .i64 m, .string d] 165)).cell? ⟨N + 2, m, none⟩) = some (.bool false) := by rw [hsc]; unfold seenF; rw [Bool.not_eq_true] at hh; rw [hh]
          clear hsc
          have HMN := Lib.hid (show M ++ [x] = addR L (g.L.take (q + 1)) by rw [HMS.out, ← hM.out, putR, HXM.out, if_neg hh])
          have hML : M.length ≤ 1048575 := by
            have h1 := addR_len (g.L.take q) L
            rw [← hM.out, List.length_take] at h1
            omega
          clear hh
          have HJ2 := Lib.hid (rj_seen HJ1.out HXM.out)
          have HK2 := Lib.hid (kp_set HK1.out (fun j h => (HP.out j h).2) (b := N + 2) (fun h => by have := (HP.out _ h).1; omega) m (.bool true))
          have hbig := hJ.out.big
          gi_wp2_with (gi_at_builtin; refine wpListIn_append_lies _ rfl _ _ 53 rfl N 165 i1 _ 2 24 Tryz.underlying53 hi1 hz1 hs1 hb1 rfl (by omega) v' M.length (recsC M) rfl (HJ2.out.own.alloc _) ⟨wr.heap.size + 1, 0, none⟩ 1 1 [.int .i64 m, .string d] rfl rfl (World.news_of_block (blk_at (cs := #[.int .i64 m, .string d]) (by simp [World.setCell]))) (by simp [Value.oneCell']) (by omega) (by unfold maxLen; omega) (by omega) (by simp [World.setCell]; omega) (wr.heap.size + 2) (by simp [World.setCell]) ?_; intro g3 cap3 w3 hown3 hgrow3 hat3 hlt3; have HB3 := Lib.hid (blk_own (blk_alloc HJ2.out.jour _) (HJ2.out.own.alloc _) jourNeRec hgrow3); have y5 := blk_cell HB3.out 2 rfl; have y6 := blk_frozen HB3.out 2; clear hjc hjf hsf hsc')
          have HJ3 := Lib.hid (rj_app HJ2.out _ hgrow3 (L' := M ++ [x]) (v' := .slice (some ⟨g3, 0, none⟩) (M.length + 1) cap3) (by rw [List.length_append, recsC_snoc, HX.out]; exact hown3))
          have HK3 := Lib.hid (kp_set (kp_grown (kp_alloc HK2.out (fun j h => (HP.out j h).2) _) (fun j h => (HP.out j h).2) hgrow3 (fun j e => hV.out j e)) (fun j h => (HP.out j h).2) (b := N + 1) (fun h => by have := (HP.out _ h).1; omega) 2 (.slice (some ⟨g3, 0, none⟩) (M.length + 1) cap3))
          have HV3 := Lib.hid (show ∀ j, (Value.slice (some ⟨g3, 0, none⟩) (M.length + 1) cap3).ownBlock = some j → ¬ P j by
            intro j e hp
            obtain rfl : g3 = j := Option.some.inj e
            rcases hat3 with h | h
            · exact hV.out _ h hp
            · have h1 := (HP.out _ hp).2
              have h2 := hK.out.2
              omega)
          clear hown3 hgrow3 hat3 HJ2 HK2 hJ hK hV hM
          go_roundw
          case rel => exact ⟨q + 1, M ++ [x], _, by omega, by go_num, HMN, HJ3, HK3, HV3⟩
          case measure => simp [intOf]; omega)
  case done =>
    rintro F r W hno ⟨k, p, L, v, hJ, ⟨⟨f, hf, hrf⟩, hk1, hL1⟩, hv, -⟩ hD
    rw [hsz] at hD ⊢
    have HX := Lib.hid (show X = (⟨k, p, L⟩, r) by rw [← hf, rdG_none hno])
    have HV := Lib.hid (fun g e => (hv g e).2)
    clear hf hrf hno hv hL1
    obtain ⟨a, cap, rfl, -, -, -⟩ := recs_of_own hJ.own
    have HJ := Lib.hid hJ
    have HD := Lib.hid hD
    clear hD hJ
    by_cases h0 : 0 < k
    · have HRE := Lib.hid (show rdJ s = ⟨k, p, L, (namS r).1⟩ by rw [HRJ.out, HX.out, endJ]; simp only [if_pos h0])
      have hr0 := blk_cell HJ.out.rest 0 rfl
      have hrz := ba_size r
      have k1 := fun w => spnamed_any (ba r) (by omega) w
      rw [ba_list] at k1
      have j0 := blk_cell HJ.out.jour 0 rfl
      clear hrz
      gi_wp2_with (refine ⟨trivial, ?_⟩; gi_at_call 108; refine (callsIn_wide.2 (k1 _)).mono ?_; rintro e w2 ⟨rfl, b2⟩; have HJ2 := Lib.hid (rj_kept HJ.out (below_grown (row := none) b2 rfl) (fun j e => by cases e)); have HD2 := Lib.hid ((b2.block _ (Array.getElem?_eq_some_iff.1 HD.out).1).trans HD.out); clear b2 j0 hr0; have j0 := blk_cell HJ2.out.jour 0 rfl; have j1 := blk_cell HJ2.out.jour 1 rfl; have j2 := blk_cell HJ2.out.jour 2 rfl; have j3 := blk_cell HJ2.out.jour 3 rfl; have j4 := blk_frozen HJ2.out.jour 3; have z0 := blk_cell HJ2.out.res 0 rfl; have z1 := blk_cell HJ2.out.res 1 rfl; have z2 := blk_cell HJ2.out.res 2 rfl; have z3 := blk_cell HJ2.out.res 3 rfl; have f0 := blk_frozen HJ2.out.res 0; have f1 := blk_frozen HJ2.out.res 1; have f2 := blk_frozen HJ2.out.res 2; have f3 := blk_frozen HJ2.out.res 3)
      obtain ⟨e1, e2, e3, e4⟩ := read_end (k := k) (p := p) (ba (namS r).1) HN.out (HJ2.out.below.setCell (p := ⟨N + 1, 3, none⟩) (by show N ≤ N + 1; omega) (.string (ba (namS r).1))) (blk_other HJ2.out.res (by omega) 3 (.string (ba (namS r).1))) (own_set HJ2.out.own HJ2.out.jour jourNeRec 3 (.string (ba (namS r).1))) ((Below.heap_setCell _ _ _ _ (by show N + 5 ≠ N + 1; omega)).trans HD2.out)
      refine ⟨by simp, .inl ⟨_, _, rfl, run_takeDeferred e1, ?_⟩⟩
      refine ⟨_, results_cell_row rfl _ _ N _ _ (0, 0) _ rfl e2 Tryz.underlying55 rfl (by kernel_rfl), e3, a, cap, ?_, ?_⟩
      · rw [HRE.out]
      · rw [HRE.out]; exact e4
    · have HRE := Lib.hid (show rdJ s = ⟨k, p, L, []⟩ by rw [HRJ.out, HX.out, endJ]; simp only [if_neg h0])
      have j0 := blk_cell HJ.out.jour 0 rfl
      have j1 := blk_cell HJ.out.jour 1 rfl
      have j2 := blk_cell HJ.out.jour 2 rfl
      have j3 := blk_cell HJ.out.jour 3 rfl
      have z0 := blk_cell HJ.out.res 0 rfl
      have z1 := blk_cell HJ.out.res 1 rfl
      have z2 := blk_cell HJ.out.res 2 rfl
      have z3 := blk_cell HJ.out.res 3 rfl
      have f0 := blk_frozen HJ.out.res 0
      have f1 := blk_frozen HJ.out.res 1
      have f2 := blk_frozen HJ.out.res 2
      have f3 := blk_frozen HJ.out.res 3
      gi_wp2
      obtain ⟨e1, e2, e3, e4⟩ := read_end (k := k) (p := p) ⟨#[]⟩ HN.out HJ.out.below HJ.out.res HJ.out.own HD.out
      refine ⟨by simp, .inl ⟨_, _, rfl, run_takeDeferred e1, ?_⟩⟩
      refine ⟨_, results_cell_row rfl _ _ N _ _ (0, 0) _ rfl e2 Tryz.underlying55 rfl (by kernel_rfl), e3, a, cap, ?_, ?_⟩
      · rw [HRE.out]; rfl
      · rw [HRE.out]; exact e4
  case stop =>
    rintro c W ⟨rfl, k, p, L, v, r, hJ, hv, hX, hk1⟩ hD
    rw [hsz] at hD ⊢
    have HX := Lib.hid hX
    have HV := Lib.hid (fun g e => hv g e)
    clear hv hX
    obtain ⟨a, cap, rfl, -, -, -⟩ := recs_of_own hJ.own
    have HJ := Lib.hid hJ
    have HD := Lib.hid hD
    clear hD hJ
    by_cases h0 : 0 < k
    · have HRE := Lib.hid (show rdJ s = ⟨k, p, L, (namS r).1⟩ by rw [HRJ.out, HX.out, endJ]; simp only [if_pos h0])
      have hr0 := blk_cell HJ.out.rest 0 rfl
      have hrz := ba_size r
      have k1 := fun w => spnamed_any (ba r) (by omega) w
      rw [ba_list] at k1
      have j0 := blk_cell HJ.out.jour 0 rfl
      clear hrz
      gi_wp2_with (refine ⟨trivial, ?_⟩; gi_at_call 108; refine (callsIn_wide.2 (k1 _)).mono ?_; rintro e w2 ⟨rfl, b2⟩; have HJ2 := Lib.hid (rj_kept HJ.out (below_grown (row := none) b2 rfl) (fun j e => by cases e)); have HD2 := Lib.hid ((b2.block _ (Array.getElem?_eq_some_iff.1 HD.out).1).trans HD.out); clear b2 j0 hr0; have j0 := blk_cell HJ2.out.jour 0 rfl; have j1 := blk_cell HJ2.out.jour 1 rfl; have j2 := blk_cell HJ2.out.jour 2 rfl; have j3 := blk_cell HJ2.out.jour 3 rfl; have j4 := blk_frozen HJ2.out.jour 3; have z0 := blk_cell HJ2.out.res 0 rfl; have z1 := blk_cell HJ2.out.res 1 rfl; have z2 := blk_cell HJ2.out.res 2 rfl; have z3 := blk_cell HJ2.out.res 3 rfl; have f0 := blk_frozen HJ2.out.res 0; have f1 := blk_frozen HJ2.out.res 1; have f2 := blk_frozen HJ2.out.res 2; have f3 := blk_frozen HJ2.out.res 3)
      obtain ⟨e1, e2, e3, e4⟩ := read_end (k := k) (p := p) (ba (namS r).1) HN.out (HJ2.out.below.setCell (p := ⟨N + 1, 3, none⟩) (by show N ≤ N + 1; omega) (.string (ba (namS r).1))) (blk_other HJ2.out.res (by omega) 3 (.string (ba (namS r).1))) (own_set HJ2.out.own HJ2.out.jour jourNeRec 3 (.string (ba (namS r).1))) ((Below.heap_setCell _ _ _ _ (by show N + 5 ≠ N + 1; omega)).trans HD2.out)
      refine ⟨by simp, .inl ⟨_, _, rfl, run_takeDeferred e1, ?_⟩⟩
      refine ⟨_, results_cell_row rfl _ _ N _ _ (0, 0) _ rfl e2 Tryz.underlying55 rfl (by kernel_rfl), e3, a, cap, ?_, ?_⟩
      · rw [HRE.out]
      · rw [HRE.out]; exact e4
    · have HRE := Lib.hid (show rdJ s = ⟨k, p, L, []⟩ by rw [HRJ.out, HX.out, endJ]; simp only [if_neg h0])
      have j0 := blk_cell HJ.out.jour 0 rfl
      have j1 := blk_cell HJ.out.jour 1 rfl
      have j2 := blk_cell HJ.out.jour 2 rfl
      have j3 := blk_cell HJ.out.jour 3 rfl
      have z0 := blk_cell HJ.out.res 0 rfl
      have z1 := blk_cell HJ.out.res 1 rfl
      have z2 := blk_cell HJ.out.res 2 rfl
      have z3 := blk_cell HJ.out.res 3 rfl
      have f0 := blk_frozen HJ.out.res 0
      have f1 := blk_frozen HJ.out.res 1
      have f2 := blk_frozen HJ.out.res 2
      have f3 := blk_frozen HJ.out.res 3
      gi_wp2
      obtain ⟨e1, e2, e3, e4⟩ := read_end (k := k) (p := p) ⟨#[]⟩ HN.out HJ.out.below HJ.out.res HJ.out.own HD.out
      refine ⟨by simp, .inl ⟨_, _, rfl, run_takeDeferred e1, ?_⟩⟩
      refine ⟨_, results_cell_row rfl _ _ N _ _ (0, 0) _ rfl e2 Tryz.underlying55 rfl (by kernel_rfl), e3, a, cap, ?_, ?_⟩
      · rw [HRE.out]; rfl
      · rw [HRE.out]; exact e4
theorem jread11_new (s : List UInt8) (hs : s.length ≤ 1048576) (w : World) :
    Calls Tryz.prog 72 #[.string (ba s)] w fun e w' => Below w.heap.size w w' ∧ ∃ a cap, e = .returned (.agg #[.int .i64 (rdJ s).k, .int .i64 (rdJ s).p, .slice a (rdJ s).L.length cap, .string (ba (rdJ s).s)]) ∧ RecsN w.heap.size w' a (rdJ s).L := callsIn_wide.1 (read_in s hs w)
end Go.Proofs.YthfebcfdhmihcaaGreatDoor

namespace Go.Proofs.YthfebcfdhmihcaaGreatDoor
open Go.RowKit

/-- These files lie behind the slice's address. -/
def Fls (w : World) (a : Option Addr) (l : List F13) : Prop :=
  ∀ j (hj : j < l.length), ∃ b off, a = some ⟨b, off, none⟩ ∧ b < w.heap.size ∧ w.cell? ⟨b, off + j * 2, none⟩ = some (.string (ba l[j].1)) ∧ w.cell? ⟨b, off + j * 2 + 1, none⟩ = some (.string (ba l[j].2))
theorem fls_next {w w' : World} {a : Option Addr} {l : List F13} (h : Fls w a l) (hb : Below w.heap.size w w') : Fls w' a l := by
  intro j hj
  obtain ⟨b, off, ha, hlt, h1, h2⟩ := h j hj
  exact ⟨b, off, ha, Nat.lt_of_lt_of_le hlt hb.size, (World.cell?_of_block (hb.block b hlt)).trans h1, (World.cell?_of_block (hb.block b hlt)).trans h2⟩
theorem fls_alloc {w : World} {a : Option Addr} {l : List F13} (h : Fls w a l) (o : Obj) : Fls (w.alloc o) a l := fls_next h (blw1 _ _)
def f13C (f : F13) : List Value := [.string (ba f.1), .string (ba f.2)]
def flsC (l : List F13) : List Value := l.flatMap f13C
theorem flsC_snoc (l : List F13) (f : F13) : flsC (l ++ [f]) = flsC l ++ f13C f := by simp [flsC]
theorem flsC_len (l : List F13) : (flsC l).length = l.length * 2 := by
  induction l with
  | nil => rfl
  | cons v t ih => rw [flsC, List.flatMap_cons, List.length_append, ← flsC, ih]; simp [f13C]; omega
theorem flsC_at {l : List F13} {j : Nat} (hj : j < l.length) : (flsC l)[j * 2]? = some (.string (ba l[j].1)) ∧ (flsC l)[j * 2 + 1]? = some (.string (ba l[j].2)) := by
  induction l generalizing j with
  | nil => simp at hj
  | cons v t ih =>
    have e : flsC (v :: t) = .string (ba v.1) :: .string (ba v.2) :: flsC t := rfl
    rw [e]
    cases j with
    | zero => simp
    | succ j =>
      have := ih (j := j) (by simpa using hj)
      rw [show (j + 1) * 2 = j * 2 + 2 by omega]
      simpa using this
theorem fls_of_own {W : World} {base : Nat} {e : TypeId} {v : Value} {n : Nat} {l : List F13} (h : W.ownsRow base e 2 v n (flsC l)) : ∃ a cap, v = .slice a n cap ∧ l.length = n ∧ Fls W a l := by
  have hl := h.1
  rw [flsC_len] at hl
  have hln : l.length = n := by omega
  rcases h.2 with ⟨rfl, rfl⟩ | ⟨g, cap, cur, rfl, hb, hg, -⟩
  · exact ⟨none, 0, rfl, hln, (fun j hj => by omega)⟩
  · refine ⟨some ⟨g, 0, none⟩, cap, rfl, hln, (fun j hj => ?_)⟩
    obtain ⟨c0, c1⟩ := flsC_at hj
    have d0 := h.cells (g := g) rfl _ _ c0
    have d1 := h.cells (g := g) rfl _ _ c1
    rw [raddr_add] at d0 d1
    exact ⟨g, 0, rfl, (Array.getElem?_eq_some_iff.1 hg).1, by rw [Nat.zero_add]; exact d0, by rw [Nat.zero_add]; exact d1⟩
theorem fone (f : F13) : ∀ u ∈ f13C f, u.oneCell' = true := by
  intro u hu
  simp [f13C] at hu
  rcases hu with rfl | rfl <;> rfl
theorem infoF13 : (Tryz.prog.info? 46).map (fun i => (i.zero, i.size, i.bytes)) = some (some (.agg #[.string ⟨#[]⟩, .string ⟨#[]⟩]), 2, 32) := by kernel_rfl
theorem ba_eq (p q : List UInt8) : ((ba p).toList == (ba q).toList) = decide (p = q) := by
  rw [ByteArray.toList_eq, ByteArray.toList_eq, ba_list, ba_list, Bool.eq_iff_iff, beq_iff_eq, decide_eq_true_iff]
set_option maxRecDepth 100000 in
set_option maxHeartbeats 1000000 in
theorem find13_any (a : Option Addr) (cap : Nat) (l : List F13) (p : List UInt8) (w : World) (hl : l.length ≤ 4611686018427387904) (ha : Fls w a l) :
    Calls Tryz.prog 41 #[.slice a l.length cap, .string (ba p)] w fun e w' => e = .returned (.int .i64 (fndI l p)) ∧ w = w' := by
  obtain ⟨len, hlen⟩ : ∃ len, len = l.length := ⟨_, rfl⟩
  rw [← hlen] at hl ⊢
  obtain ⟨r, hr⟩ : ∃ r, r = fndI l p := ⟨_, rfl⟩
  rw [← hr]
  have HA := Lib.hid ha; clear ha
  have HR := Lib.hid hr; clear hr
  have HL := Lib.hid hlen; clear hlen
  go_enter Tryz.func41, Tryz.ntmps41
  go_wp2
  go_loop [5] (fun i => ∃ k : Nat, k ≤ len ∧ i = .int .i64 k ∧ Hid (∀ j (hj : j < l.length), j < k → l[j].1 ≠ p)) (fun i => len - (intOf i).toNat)
  case atStart => exact ⟨0, by omega, rfl, Lib.hid (fun j hj h => absurd h (by omega))⟩
  case round =>
    obtain ⟨k, hk, rfl, hz⟩ := hrel
    by_cases hlt : k < len
    · have hlt' : k < l.length := by have := HL.out; omega
      obtain ⟨b, off, rfl, hbw, c0, -⟩ := HA.out k hlt'
      have t1 : (k : Int) < len := by omega
      have e1 := ba_eq l[k].1 p
      obtain ⟨s, hs⟩ : ∃ s, s = ba l[k].1 := ⟨_, rfl⟩
      rw [← hs] at c0 e1
      clear hs
      by_cases hq : l[k].1 = p
      · obtain rfl : r = k := by rw [HR.out]; exact fnd_hit hlt' hq hz.out
        rw [decide_eq_true hq] at e1
        clear HR hz hq hlt' HA
        go_wp2
        go_ret
        exact ⟨rfl, rfl⟩
      · rw [decide_eq_false hq] at e1
        have HZ := Lib.hid (show ∀ j (hj : j < l.length), j < k + 1 → l[j].1 ≠ p from fun j hj h => by
          by_cases e : j = k
          · subst e; exact hq
          · exact hz.out j hj (by omega))
        clear hz hq hlt'
        go_wp2
        go_round
        case rel => exact ⟨k + 1, by omega, by go_num, HZ⟩
        case measure => simp [intOf]; omega
    · have t1 : ¬ (k : Int) < len := by omega
      obtain rfl : r = -1 := by rw [HR.out]; exact fnd_miss fun j hj => hz.out j hj (by have := HL.out; omega)
      clear HR hz
      go_wp2
      go_ret
      exact ⟨rfl, rfl⟩

theorem jour13_any (p : List UInt8) (hp : p.length ≤ 1099511627776) (w : World) :
    Calls Tryz.prog 43 #[.string (ba p)] w fun e w' => e = .returned (.string (ba (p ++ jx))) ∧ w = w' := by
  have HE := Lib.hid (show ba p ++ ⟨#[45, 106]⟩ = ba (p ++ jx) by
    apply ByteArray.ext
    simp [ba, jx])
  have hs : (ba p).size ≤ 1099511627776 := by rw [ba_size]; exact hp
  generalize ba p = s at *
  go_enter Tryz.func43, Tryz.ntmps43
  go_wp2
  go_ret
  exact ⟨by rw [HE.out]; rfl, rfl⟩
end Go.Proofs.YthfebcfdhmihcaaGreatDoor

namespace Go.Proofs.YthfebcfdhmihcaaGreatDoor
open Go.RowKit

theorem fone_str (w : World) (c : Int) (x : UInt8) (hx : (x.toNat : Int) = c) :
    (convert 100 9 (.slice (some ⟨w.heap.size, 0, none⟩) 1 1)).run Tryz.prog (w.alloc (.cells #[.int .u8 c] 5)) = .ok (.string ⟨#[x]⟩) (w.alloc (.cells #[.int .u8 c] 5)) := by
  have := run_convert_bytes_back (P := Tryz.prog) (w.alloc (.cells #[.int .u8 c] 5)) 100 9 5 ⟨w.heap.size, 0, none⟩ 1 [x] Tryz.underlying100 Tryz.underlying5 Tryz.underlying9 (fun j hj => by
    obtain rfl : j = 0 := by simp at hj; omega
    rw [Addr.add_lit, (fnew1 w (.int .u8 c) 5).1]
    simp [hx])
  exact this
end Go.Proofs.YthfebcfdhmihcaaGreatDoor

namespace Go.Proofs.YthfebcfdhmihcaaGreatDoor
open Go.RowKit

/-- u's digits that are still to come stand before what has come out. -/
def TextI (u m : Nat) (out : List UInt8) : Prop := if m = 0 then Lib.decDigits u = out else Lib.decDigits u = Lib.decDigits m ++ out
theorem textI_step {u m : Nat} {out : List UInt8} (h : TextI u m out) (hm : m ≠ 0) : TextI u (m / 10) (UInt8.ofNat (48 + m % 10) :: out) := by
  unfold TextI at h ⊢
  rw [if_neg hm] at h
  by_cases h10 : m < 10
  · rw [if_pos (by omega), h, Lib.decDigits_one h10, show m % 10 = m by omega]; rfl
  · rw [if_neg (by omega), h, Lib.decDigits, dif_neg h10]; simp
theorem textI_start (u : Nat) (h : u ≠ 0) : TextI u u [] := by unfold TextI; rw [if_neg h]; simp
theorem textI_end {u : Nat} {out : List UInt8} (h : TextI u 0 out) : Lib.decDigits u = out := by unfold TextI at h; rwa [if_pos rfl] at h
theorem dig_byte (k : Nat) (h : k < 10) : ((UInt8.ofNat (48 + k)).toNat : Int) = 48 + (k : Int) := by
  have := dig_val k h; omega

theorem textI_len {u m : Nat} {out : List UInt8} (h : TextI u m out) : out.length ≤ (Lib.decDigits u).length := by
  unfold TextI at h
  split at h
  · rw [h]; omega
  · rw [h]; simp
theorem dec_len (u : Nat) (h : u ≤ 9223372036854775808) : (Lib.decDigits u).length ≤ 21 := by
  by_cases h0 : u = 9223372036854775808
  · have := Lib.itoa_length_le (-(u : Int)) (by omega) (by omega)
    rw [Lib.itoa_neg u (by omega)] at this
    simp at this; omega
  · have := Lib.itoa_length_le (u : Int) (by omega) (by omega)
    rwa [Lib.itoa_nonneg] at this

set_option maxRecDepth 100000 in
set_option maxHeartbeats 4000000 in
theorem rtext_pos (u : Nat) (h0 : 0 < u) (h1 : (u : Int) ≤ 9223372036854775807) (w : World) :
    Calls Tryz.prog 40 #[.int .i64 (u : Int)] w fun e w' => e = .returned (.string ⟨(Lib.itoa (u : Int)).toArray⟩) ∧ Below w.heap.size w w' := by
  obtain ⟨r, hr⟩ : ∃ r : ByteArray, r = ⟨(Lib.itoa (u : Int)).toArray⟩ := ⟨_, rfl⟩
  rw [← hr]
  have HR := Lib.hid (show r.data.toList = Lib.decDigits u by rw [hr, Lib.itoa_nonneg])
  clear hr
  have t0 : ((u : Int) == 0) = false := by simp; omega
  have t1 : decide ((u : Int) < 0) = false := by simp
  go_enter Tryz.func40, Tryz.ntmps40
  go_wp2
  go_loopw [3, 4] (fun o l wr => ∃ (m : Nat) (out : ByteArray), m ≤ u ∧ l = .int .i64 (m : Int) ∧ o = .string out ∧ Hid (TextI u m out.data.toList) ∧ out.size ≤ 21 ∧ Below w.heap.size w wr) (fun _ l _ => (intOf l).toNat)
  case atStart => exact ⟨u, ⟨#[]⟩, Nat.le_refl _, rfl, rfl, Lib.hid (textI_start u (by omega)), by decide, Below.refl _ _⟩
  case round =>
    obtain ⟨m, out, hm, rfl, rfl, hI, hle, hB⟩ := hrel
    by_cases hz : m = 0
    · have t2 : ((m : Int) != 0) = false := by subst hz; rfl
      have HE := Lib.hid (show r = out by
        subst hz
        exact WideShapes.bytes_inj (by rw [HR.out, textI_end hI.out]))
      clear hz
      go_wp2
      go_ret
      exact ⟨fret_str HE.out.symm, hB⟩
    · have t2 : ((m : Int) != 0) = true := by simp; omega
      have HI2 := Lib.hid (textI_step hI.out hz)
      obtain ⟨x, hx⟩ : ∃ x : UInt8, x = UInt8.ofNat (48 + m % 10) := ⟨_, rfl⟩
      have hc := fone_str wr (48 + (m : Int) % 10) x (by rw [hx, dig_byte _ (by omega)]; omega)
      have HX := Lib.hid hx; clear hx
      have t3 : decide ((m : Int) % 10 < 0) = false := by simp; omega
      have HL := Lib.hid (textI_len HI2.out)
      have HD := Lib.hid (dec_len u (by omega))
      go_wp2
      go_roundw
      case rel => exact ⟨m / 10, ⟨#[x]⟩ ++ out, by omega, by go_num, rfl, Lib.hid (by rw [fapp_data, HX.out]; exact HI2.out), by
        have h1 := HL.out
        have h2 := HD.out
        have h3 : out.data.toList.length = out.size := by simp
        rw [fapp_size, fone_size]
        simp only [List.length_cons] at h1
        omega, hB.alloc hB.size _⟩
      case measure => simp [intOf]; omega

set_option maxRecDepth 100000 in
set_option maxHeartbeats 4000000 in
theorem rtext_neg (u : Nat) (h0 : 0 < u) (h1 : (u : Int) ≤ 9223372036854775808) (w : World) :
    Calls Tryz.prog 40 #[.int .i64 (-(u : Int))] w fun e w' => e = .returned (.string ⟨(Lib.itoa (-(u : Int))).toArray⟩) ∧ Below w.heap.size w w' := by
  obtain ⟨r, hr⟩ : ∃ r : ByteArray, r = ⟨(Lib.itoa (-(u : Int))).toArray⟩ := ⟨_, rfl⟩
  rw [← hr]
  have HR := Lib.hid (show r.data.toList = 45 :: Lib.decDigits u by rw [hr, Lib.itoa_neg u (by omega)])
  clear hr
  obtain ⟨n, hn⟩ : ∃ n : Int, n = -(u : Int) := ⟨_, rfl⟩
  rw [← hn]
  have t0 : (n == 0) = false := by simp; omega
  have t1 : decide (n < 0) = true := by simp; omega
  have hn0 : -9223372036854775808 ≤ n := by omega
  have hn1 : n < 0 := by omega
  have HN := Lib.hid hn; clear hn
  go_enter Tryz.func40, Tryz.ntmps40
  go_wp2
  go_loopw [3, 4] (fun o l wr => ∃ (m : Nat) (l0 : Int) (out : ByteArray), m ≤ u ∧ l = .int .i64 l0 ∧ Hid (l0 = -(m : Int)) ∧ l0 ≤ 0 ∧ -9223372036854775808 ≤ l0 ∧ o = .string out ∧ Hid (TextI u m out.data.toList) ∧ out.size ≤ 21 ∧ Below w.heap.size w wr) (fun _ l _ => (-(intOf l)).toNat)
  case atStart => exact ⟨u, n, ⟨#[]⟩, Nat.le_refl _, rfl, HN, by omega, hn0, rfl, Lib.hid (textI_start u (by omega)), by decide, Below.refl _ _⟩
  case round =>
    obtain ⟨m, l0, out, hm, rfl, hl0, hl1, hl2, rfl, hI, hle, hB⟩ := hrel
    by_cases hz : m = 0
    · have t2 : (l0 != 0) = false := by rw [hl0.out, hz]; rfl
      have HE := Lib.hid (show r = ⟨#[45]⟩ ++ out by
        subst hz
        exact WideShapes.bytes_inj (by rw [HR.out, textI_end hI.out, fapp_data]; rfl))
      clear hz
      go_wp2
      go_ret
      exact ⟨fret_str HE.out.symm, hB⟩
    · have t2 : (l0 != 0) = true := by rw [bne_iff_ne]; have := hl0.out; omega
      have HI2 := Lib.hid (textI_step hI.out hz)
      obtain ⟨x, hx⟩ : ∃ x : UInt8, x = UInt8.ofNat (48 + m % 10) := ⟨_, rfl⟩
      obtain ⟨d, hd⟩ : ∃ d : Int, l0.tmod 10 = d := ⟨_, rfl⟩
      obtain ⟨q, hq⟩ : ∃ q : Int, l0.tdiv 10 = q := ⟨_, rfl⟩
      have hd' : d = -((m % 10 : Nat) : Int) := by rw [← hd, hl0.out, Int.neg_tmod, Int.tmod_eq_emod_of_nonneg (by omega)]; omega
      have hq' : q = -((m / 10 : Nat) : Int) := by rw [← hq, hl0.out, Int.neg_tdiv, Int.tdiv_eq_ediv_of_nonneg (by omega)]; omega
      have hd1 : d ≤ 0 := by omega
      have hd2 : -10 < d := by omega
      have hq1 : q ≤ 0 := by omega
      have hq2 : -9223372036854775808 ≤ q := by omega
      have HQ := Lib.hid hq'
      have hc := fone_str wr (48 + -d) x (by rw [hx, dig_byte _ (by omega)]; omega)
      have HX := Lib.hid hx; clear hx
      have HL := Lib.hid (textI_len HI2.out)
      have HD := Lib.hid (dec_len u (by omega))
      have HLT := Lib.hid (show (-q).toNat < (-l0).toNat by have := hl0.out; omega)
      by_cases hdz : d < 0
      · have t3 : decide (d < 0) = true := by simpa using hdz
        clear hd' hq' hz
        go_wp2
        go_roundw
        case rel => exact ⟨m / 10, q, ⟨#[x]⟩ ++ out, by omega, rfl, HQ, hq1, hq2, rfl, Lib.hid (by rw [fapp_data, HX.out]; exact HI2.out), by
          have h1 := HL.out
          have h2 := HD.out
          have h3 : out.data.toList.length = out.size := by simp
          rw [fapp_size, fone_size]
          simp only [List.length_cons] at h1
          omega, hB.alloc hB.size _⟩
        case measure => simp only [intOf]; exact HLT.out
      · have hd0 : d = 0 := by omega
        have hc' : (convert 100 9 (.slice (some ⟨wr.heap.size, 0, none⟩) 1 1)).run Tryz.prog (wr.alloc (.cells #[.int .u8 (48 + d)] 5)) = .ok (.string ⟨#[x]⟩) (wr.alloc (.cells #[.int .u8 (48 + d)] 5)) := fone_str wr (48 + d) x (by rw [HX.out, dig_byte _ (by omega)]; omega)
        have t3 : decide (d < 0) = false := by simpa using hdz
        clear hd' hq' hz hc hd0
        go_wp2
        go_roundw
        case rel => exact ⟨m / 10, q, ⟨#[x]⟩ ++ out, by omega, rfl, HQ, hq1, hq2, rfl, Lib.hid (by rw [fapp_data, HX.out]; exact HI2.out), by
          have h1 := HL.out
          have h2 := HD.out
          have h3 : out.data.toList.length = out.size := by simp
          rw [fapp_size, fone_size]
          simp only [List.length_cons] at h1
          omega, hB.alloc hB.size _⟩
        case measure => simp only [intOf]; exact HLT.out

theorem rtext_zero (w : World) : Calls Tryz.prog 40 #[.int .i64 0] w fun e w' => e = .returned (.string ⟨#[48]⟩) ∧ w = w' := by
  go_enter Tryz.func40, Tryz.ntmps40
  go_wp2
  go_ret
  exact ⟨rfl, rfl⟩
theorem rtext_any (n : Int) (h0 : -9223372036854775808 ≤ n) (h1 : n ≤ 9223372036854775807) (w : World) :
    Calls Tryz.prog 40 #[.int .i64 n] w fun e w' => e = .returned (.string ⟨(Lib.itoa n).toArray⟩) ∧ Below w.heap.size w w' := by
  by_cases hz : n = 0
  · subst hz
    refine (rtext_zero w).mono fun e w' ⟨he, hw⟩ => ⟨?_, hw ▸ Below.refl _ _⟩
    rw [he, show Lib.itoa 0 = [48] by rw [show (0 : Int) = ((0 : Nat) : Int) from rfl, Lib.itoa_nonneg, Lib.decDigits_one (by omega)]; rfl]
  · by_cases hp : 0 < n
    · obtain ⟨u, rfl⟩ := Int.eq_ofNat_of_zero_le (Int.le_of_lt hp)
      exact rtext_pos u (by omega) h1 w
    · obtain ⟨u, hu⟩ := Int.eq_ofNat_of_zero_le (show 0 ≤ -n by omega)
      obtain rfl : n = -(u : Int) := by omega
      exact rtext_neg u (by omega) (by omega) w
end Go.Proofs.YthfebcfdhmihcaaGreatDoor

namespace Go.Proofs.YthfebcfdhmihcaaGreatDoor
open Go.RowKit

theorem hsext (p : List UInt8) (k m : Nat) : (ba p).extract k m = ba ((p.drop k).take (m - k)) := by
  apply ByteArray.ext
  simp [ba, List.extract_eq_take_drop]
theorem hsext_drop (p : List UInt8) (k : Nat) : (ba p).extract k (ba p).size = ba (p.drop k) := by
  rw [hsext, ba_size]
  congr 1
  exact List.take_of_length_le (by simp)
theorem hsext_take (p : List UInt8) (k : Nat) : (ba p).extract 0 k = ba (p.take k) := by
  rw [hsext]; rfl
theorem readR_bd (t : List UInt8) : 0 ≤ (readR t).1 ∧ (readR t).1 ≤ 9223372036854775807 := by
  unfold readR
  split
  · exact ⟨Int.le_refl _, by decide⟩
  · split
    · rename_i n h
      have := readF_inv t n false h
      unfold maxI at this
      exact this
    · exact ⟨Int.le_refl _, by decide⟩
    · exact ⟨Int.le_refl _, by decide⟩

set_option maxRecDepth 100000 in
set_option maxHeartbeats 1000000 in
theorem super13_any (p : List UInt8) (hp : p.length ≤ 30000) (w : World) :
    Calls Tryz.prog 12 #[.string (ba p)] w fun e w' => e = .returned (.tuple #[.string (ba (supD p).1), .bool (supD p).2]) ∧ Below w.heap.size w w' := by
  have hsz := ba_size p
  obtain ⟨s, hs⟩ : ∃ s, s = ba p := ⟨_, rfl⟩
  have HS := Lib.hid hs
  obtain ⟨r, hr⟩ : ∃ r, r = supD p := ⟨_, rfl⟩
  rw [← hr]
  rw [← hs] at hsz ⊢
  have hs2 : s.size ≤ 30000 := by omega
  have HSZ := Lib.hid hsz
  have HR := Lib.hid hr
  have w0 : IntKind.i64.wrap ((s.size : Int) - 2) = (s.size : Int) - 2 := IntWalk.i64_in _ ⟨by omega, by omega⟩
  clear hr hs hsz
  go_enter Tryz.func12, Tryz.ntmps12
  go_wp2
  go_loop [4] (fun i => ∃ x : Int, -2 ≤ x ∧ x ≤ (s.size : Int) - 2 ∧ i = .int .i64 x ∧ Hid (r = supA p x.toNat)) (fun i => (intOf i).toNat)
  case atStart => exact ⟨(s.size : Int) - 2, by omega, by omega, rfl, Lib.hid (by rw [HR.out, supD]; congr 1; have := HSZ.out; omega)⟩
  case round =>
    obtain ⟨x, hx, hx2, rfl, hz⟩ := hrel
    clear HR w0
    by_cases hlt : 0 < x
    · obtain ⟨k, rfl⟩ : ∃ k : Nat, x = (k : Int) + 1 := ⟨(x - 1).toNat, by omega⟩
      have i1 : k + 3 ≤ s.size := by omega
      have i2 : ((k : Int) + 1 + 2) ≤ s.size := by omega
      have i3 : ((k : Int) + 1).toNat = k + 1 := by omega
      have i5 : (0 : Int) ≤ (k : Int) + 1 + 2 := by omega
      have i4 : ((k : Int) + 1 + 2).toNat = k + 3 := by omega
      have hz' := hz.out
      rw [i3, supA] at hz'
      have sl : ∀ w : World, (Instr.slice 9 (.string s) (some (.int .i64 ((k : Int) + 1))) (some (.int .i64 ((k : Int) + 1 + 2))) none).run Tryz.prog w = .ok (.string (s.extract (k + 1) (k + 3))) w := fun w => by
        have := run_slice_string (P := Tryz.prog) w 9 s .i64 .i64 ((k : Int) + 1) ((k : Int) + 1 + 2) Tryz.underlying9 (by omega) (by omega) (by omega)
        rw [i3, i4] at this
        exact this
      have se : s.extract (k + 1) (k + 3) = ba ((p.drop (k + 1)).take 2) := by rw [HS.out, hsext, show k + 3 - (k + 1) = 2 by omega]
      have e1 : ((s.extract (k + 1) (k + 3)).toList == [45, 115]) = decide ((p.drop (k + 1)).take 2 = sx) := by
        rw [se, ByteArray.toList_eq, ba_list, Bool.eq_iff_iff, beq_iff_eq, decide_eq_true_iff]; rfl
      clear se
      have w1 : IntKind.i64.wrap ((k : Int) + 1 + 2) = (k : Int) + 1 + 2 := IntWalk.i64_in _ ⟨by omega, by omega⟩
      by_cases hq : (p.drop (k + 1)).take 2 = sx
      · rw [decide_eq_true hq] at e1
        rw [if_pos hq] at hz'
        obtain ⟨T, hT⟩ : ∃ T, T = p.drop (k + 3) := ⟨_, rfl⟩
        rw [← hT] at hz'
        have HT := Lib.hid hT
        have sl2 : s.extract (k + 3) s.size = ba T := by rw [HS.out, hsext_drop, hT]
        have hTl : (ba T).size ≤ 30000 := by rw [ba_size, hT, List.length_drop]; have := HSZ.out; omega
        have hbd := readR_bd T
        have kr := fun W => rread_any (ba T) W hTl
        rw [ba_list] at kr
        have kt := fun W => rtext_any (readR T).1 (by omega) (by omega) W
        have HNO := Lib.hid (show numOk T = decide ((readR T).2 = 0 ∧ 1 ≤ (readR T).1 ∧ Lib.itoa (readR T).1 = T) from rfl)
        obtain ⟨⟨n, er⟩, hre⟩ : ∃ x, x = readR T := ⟨_, rfl⟩
        rw [← hre] at hbd kr kt HNO
        simp only at hbd kr kt HNO
        have HZ := Lib.hid hz'
        clear hre hq hz' hz hT
        by_cases hok : er = 0 ∧ 1 ≤ n
        · obtain ⟨rfl, hn⟩ := hok
          have g1 : decide (n < 1) = false := decide_eq_false (by omega)
          by_cases he : Lib.itoa n = T
          · obtain rfl : r = (p.take (k + 1), true) := by rw [HZ.out, HNO.out, decide_eq_true ⟨rfl, hn, he⟩]; rfl
            have e3 : (Lib.itoa n == (ba T).toList) = true := by rw [ByteArray.toList_eq, ba_list, he]; simp
            have sl3 : s.extract 0 (k + 1) = ba (p.take (k + 1)) := by rw [HS.out, hsext_take]
            clear HZ HNO he
            go_upto_region 6 with (go_at_call 39; (with_reducible refine (kr _).mono ?_); rintro e w1 ⟨rfl, rfl⟩)
            go_region_held3 (fun v => Below w.heap.size w v)
              (first | assumption | exact Below.refl _ _ | exact (Below.refl _ _).drew | exact Below.trans (by assumption) (Below.mono (by assumption) (Below.size (by assumption))))
              ((go_at_call 40; (with_reducible refine (kt _).mono ?_); rintro e w2 ⟨rfl, hb⟩))
            go_wp2
            go_ret2
            exact ⟨rfl, by assumption⟩
          · obtain rfl : r = ([], false) := by rw [HZ.out, HNO.out, decide_eq_false (fun h => he h.2.2)]; rfl
            have e3 : (Lib.itoa n == (ba T).toList) = false := by rw [ByteArray.toList_eq, ba_list]; simpa using he
            clear HZ HNO he
            go_upto_region 6 with (go_at_call 39; (with_reducible refine (kr _).mono ?_); rintro e w1 ⟨rfl, rfl⟩)
            go_region_held3 (fun v => Below w.heap.size w v)
              (first | assumption | exact Below.refl _ _ | exact (Below.refl _ _).drew | exact Below.trans (by assumption) (Below.mono (by assumption) (Below.size (by assumption))))
              ((go_at_call 40; (with_reducible refine (kt _).mono ?_); rintro e w2 ⟨rfl, hb⟩))
            go_wp2
            go_ret2
            exact ⟨rfl, by assumption⟩
        · obtain rfl : r = ([], false) := by rw [HZ.out, HNO.out, decide_eq_false (fun h => hok ⟨h.1, h.2.1⟩)]; rfl
          clear HZ HNO
          by_cases he : er = 0
          · subst he
            have g1 : decide (n < 1) = true := decide_eq_true (by omega)
            go_upto_region 6 with (go_at_call 39; (with_reducible refine (kr _).mono ?_); rintro e w1 ⟨rfl, rfl⟩)
            go_quiet (fail)
            go_wp2
            go_ret2
            exact ⟨rfl, ⟨rfl, rfl, rfl, Nat.le_refl _, fun _ _ => rfl⟩⟩
          · have g0 : (er != 0) = true := by simpa using he
            go_upto_region 6 with (go_at_call 39; (with_reducible refine (kr _).mono ?_); rintro e w1 ⟨rfl, rfl⟩)
            go_quiet (fail)
            go_wp2
            go_ret2
            exact ⟨rfl, ⟨rfl, rfl, rfl, Nat.le_refl _, fun _ _ => rfl⟩⟩
      · rw [decide_eq_false hq] at e1
        rw [if_neg hq] at hz'
        have HZ := Lib.hid hz'
        clear hq hz' hz
        go_wp2
        go_round
        case rel => exact ⟨k, by omega, by omega, by go_num, Lib.hid (by rw [HZ.out]; rfl)⟩
        case measure => simp [intOf]
    · have t1 : ¬ 0 < x := hlt
      obtain rfl : r = ([], false) := by rw [hz.out, show x.toNat = 0 by omega]; rfl
      clear hz
      go_wp2
      go_ret2
      exact ⟨rfl, Below.refl _ _⟩
end Go.Proofs.YthfebcfdhmihcaaGreatDoor
