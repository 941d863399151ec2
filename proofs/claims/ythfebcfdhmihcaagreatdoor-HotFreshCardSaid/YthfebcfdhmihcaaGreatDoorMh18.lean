/-
  Layer 13: readJournal at a journal that is there. Condition: the disk is calm, the sizes fit.
-/
import Derived.Test.YthfebcfdhmihcaaGreatDoorMh17
namespace Go.Proofs.YthfebcfdhmihcaaGreatDoor
open Go.RowKit
variable {P : Nat → Prop} {ea : Addr} {b n m : Nat} {l : List F13} {Q : PQ} {w : World}

/-- The journal in a block of its own, its records beside the disk. -/
def RjC (P : Nat → Prop) (ea : Addr) (b n m rb : Nat) (l : List F13) (Q : PQ) (cs : Array Value) (a : Option Addr) (R : Nat → Prop) (RL : List R11) (lb : Nat) (w wx : World) : Prop :=
  Blk wx lb 55 cs ∧ lb ≠ rb ∧ Dk (fun k => P k ∨ R k) ea b n m l Q wx ∧ Fr P w wx ∧ Recs wx a RL ∧ ∀ g o, a = some ⟨g, o, none⟩ → w.heap.size ≤ g ∧ (g < wx.heap.size → R g)
theorem rjc_after {rb : Nat} {a : Option Addr} {R : Nat → Prop} {RL : List R11} {w2 : World} (cs : Array Value) (hP : P rb) (hD : Dk (fun k => P k ∨ R k) ea b n m l Q w2) (hF : Fr P w w2) (hRe : Recs w2 a RL) (hRP : ∀ g o, a = some ⟨g, o, none⟩ → w.heap.size ≤ g ∧ (g < w2.heap.size → R g)) :
    RjC P ea b n m rb l Q cs a (fun k => R k ∨ k = w2.heap.size) RL w2.heap.size w (w2.alloc (.cells cs 55)) := by
  have hb := blw1 w2 (.cells cs 55)
  refine ⟨blk_new _ _ _, fun e => ?_, dk_less (dk_add hD (.cells cs 55)) (fun k hk => ?_) (fun k hk => hD.gn k hk |>.elim .inl (fun h => .inr (.inl h))), hF.trans (fr_below hb fun k hk => hD.lt k (.inl hk)), recs_next hRe hb, fun g o e => ⟨(hRP g o e).1, fun hg => ?_⟩⟩
  · have := hD.lt rb (.inl hP); omega
  · rcases hk with hk | hk | hk
    · exact .inl (.inl hk)
    · exact .inl (.inr hk)
    · exact .inr hk
  · have : g < w2.heap.size + 1 := by simpa using hg
    rcases Nat.lt_or_ge g w2.heap.size with h | h
    · exact .inl ((hRP g o e).2 h)
    · exact .inr (by omega)
theorem rjc_before {rb : Nat} {a : Option Addr} {R : Nat → Prop} {RL : List R11} {w2 : World} (v0 v1 v2 v3 : Value) (hP : P rb) (hlt : ∀ k, P k → k < w.heap.size) (hgn : ∀ k, k < 6 → P k) (hgs : 6 ≤ w.heap.size) (hD : Dk (fun k => (P k ∨ k = w.heap.size) ∨ R k) ea b n m l Q w2) (hF : Fr P w w2) (hRe : Recs w2 a RL) (hRP : ∀ g o, a = some ⟨g, o, none⟩ → w.heap.size < g ∧ (g < w2.heap.size → R g)) (hz : Blk w2 w.heap.size 55 zJrn) :
    RjC P ea b n m rb l Q #[v0, v1, v2, v3] a R RL w.heap.size w (put4 w2 w.heap.size v0 v1 v2 v3) := by
  have hne : ∀ k, P k → k ≠ w.heap.size := fun k hk => Nat.ne_of_lt (hlt k hk)
  have hk := fun k (hk : k ≠ w.heap.size) => put4_heap w2 w.heap.size v0 v1 v2 v3 hk
  have hD2 := dk_keep hD (.inl (.inr rfl)) hgs hk (put4_size w2 w.heap.size v0 v1 v2 v3)
  refine ⟨blk_set (blk_set (blk_set (blk_set hz 0 v0) 1 v1) 2 v2) 3 v3, fun e => hne rb hP e.symm, dk_less hD2 (fun k hk => ?_) (fun k hk => .inl (hgn k hk)), put4_fr hF hne _ _ _ _, ?_, fun g o e => ⟨Nat.le_of_lt (hRP g o e).1, fun hg => (hRP g o e).2 (by rw [put4_size] at hg; exact hg)⟩⟩
  · rcases hk with hk | hk
    · exact .inl (.inl hk)
    · exact .inr hk
  · refine recs_heap hRe (Nat.le_of_eq (put4_size w2 w.heap.size v0 v1 v2 v3).symm) (fun g o e hg => ?_)
    exact hk g (by have := (hRP g o e).1; omega)
/-- The journal laid into the recovery. -/
def put5 (w : World) (g : Nat) (v0 v1 v2 v3 v4 : Value) : World := ((((w.setCell ⟨g, 2, none⟩ v0).setCell ⟨g, 3, none⟩ v1).setCell ⟨g, 4, none⟩ v2).setCell ⟨g, 5, none⟩ v3).setCell ⟨g, 6, none⟩ v4
theorem put5_heap (w : World) (g : Nat) (v0 v1 v2 v3 v4 : Value) {k : Nat} (hk : k ≠ g) : (put5 w g v0 v1 v2 v3 v4).heap[k]? = w.heap[k]? :=
  (Below.heap_setCell _ _ _ _ hk).trans ((Below.heap_setCell _ _ _ _ hk).trans ((Below.heap_setCell _ _ _ _ hk).trans ((Below.heap_setCell _ _ _ _ hk).trans (Below.heap_setCell _ _ _ _ hk))))
theorem put5_size (w : World) (g : Nat) (v0 v1 v2 v3 v4 : Value) : (put5 w g v0 v1 v2 v3 v4).heap.size = w.heap.size := by unfold put5; simp
theorem put5_rest (w : World) (g : Nat) (v0 v1 v2 v3 v4 : Value) : (put5 w g v0 v1 v2 v3 v4).os = w.os ∧ (put5 w g v0 v1 v2 v3 v4).tape = w.tape ∧ (put5 w g v0 v1 v2 v3 v4).output = w.output := by
  have h : Below 0 w (put5 w g v0 v1 v2 v3 v4) := (((((Below.refl 0 w).setCell (p := ⟨g, 2, none⟩) (Nat.zero_le _) v0).setCell (p := ⟨g, 3, none⟩) (Nat.zero_le _) v1).setCell (p := ⟨g, 4, none⟩) (Nat.zero_le _) v2).setCell (p := ⟨g, 5, none⟩) (Nat.zero_le _) v3).setCell (p := ⟨g, 6, none⟩) (Nat.zero_le _) v4
  exact ⟨h.os, h.tape, h.output⟩
theorem blk_put5 {rb : Nat} {p : List UInt8} {j0 j1 j2 j3 : Value} {hot cr : Bool} (k0 k1 k2 k3 : Value) (H : Bool) (h : Blk w rb 79 (rcC b p j0 j1 j2 j3 hot cr)) : Blk (put5 w rb k0 k1 k2 k3 (.bool H)) rb 79 (rcC b p k0 k1 k2 k3 H cr) := by
  have := blk_set (blk_set (blk_set (blk_set (blk_set h 2 k0) 3 k1) 4 k2) 5 k3) 6 (.bool H)
  exact this
theorem rdj_end {rb lb : Nat} {cs : Array Value} {a : Option Addr} {R : Nat → Prop} {RL : List R11} {wc w5 W : World} (hP : P rb) (hlt : rb < w.heap.size) (hg : 6 ≤ rb) (hH : RjC P ea b n m rb l Q cs a R RL lb w wc) (hB : Below wc.heap.size wc w5)
    (hk : ∀ k, k ≠ rb → W.heap[k]? = w5.heap[k]?) (hs : W.heap.size = w5.heap.size) (ho : W.os = w5.os ∧ W.tape = w5.tape ∧ W.output = w5.output) :
    Dk (fun k => P k ∨ (R k ∨ (wc.heap.size ≤ k ∧ k < w5.heap.size))) ea b n m l Q W ∧ Fr (fun k => P k ∧ k ≠ rb) w W ∧ Recs W a RL ∧ ∀ g o, a = some ⟨g, o, none⟩ → g ≠ rb ∧ (g < W.heap.size → (R g ∨ (wc.heap.size ≤ g ∧ g < w5.heap.size))) := by
  obtain ⟨-, -, hD, hF, hRe, hRP⟩ := hH
  have hF5 := hF.trans (fr_below hB fun k hk => hD.lt k (.inl hk))
  refine ⟨dk_less (dk_keep (dk_grab hD hB) (.inl (.inl hP)) hg hk hs) (fun k hk => ?_) (fun k hk => ?_), ⟨ho.1.trans hF5.os, ho.2.1.trans hF5.tape, ho.2.2.trans hF5.output, by rw [hs]; exact hF5.size, fun k hk2 => (hk k hk2.2).trans (hF5.blk k hk2.1)⟩, ?_, fun g o e => ⟨by have := (hRP g o e).1; omega, fun hg2 => ?_⟩⟩
  · rcases hk with hk | hk | hk
    · exact .inl (.inl hk)
    · exact .inl (.inr hk)
    · exact .inr hk
  · rcases hD.gn k hk with h | h
    · exact .inl h
    · exact .inr (.inl h)
  · refine recs_heap (recs_next hRe hB) (Nat.le_of_eq hs.symm) (fun g o e _ => hk g ?_)
    have := (hRP g o e).1
    omega
  · rcases Nat.lt_or_ge g wc.heap.size with h | h
    · exact .inl ((hRP g o e).2 h)
    · exact .inr ⟨h, by rw [← hs]; exact hg2⟩
/-- What readJournal leaves, its records told. -/
def RdjE (P : Nat → Prop) (ea : Addr) (b n m rb : Nat) (l : List F13) (Q : PQ) (a : Option Addr) (RL : List R11) (_cap : Nat) (w : World) (cs : Array Value) (w' : World) : Prop :=
  ∃ R : Nat → Prop, Dk (fun k => P k ∨ R k) ea b n m l Q w' ∧ Fr (fun k => P k ∧ k ≠ rb) w w' ∧ Blk w' rb 79 cs ∧ Recs w' a RL ∧ ∀ g o, a = some ⟨g, o, none⟩ → g ≠ rb ∧ (g < w'.heap.size → R g)
theorem rdj_fin {rb lb : Nat} {p : List UInt8} {j0 j1 j2 j3 : Value} {hot cr : Bool} {cs : Array Value} {a : Option Addr} {R : Nat → Prop} {RL : List R11} {wc w5 : World} (k0 k1 : Value) (cap : Nat) (k3 : Value) (H : Bool) (hP : P rb) (hlt : rb < w.heap.size) (hg : 6 ≤ rb) (hH : RjC P ea b n m rb l Q cs a R RL lb w wc) (hB : Below wc.heap.size wc w5) (hbr : Blk w5 rb 79 (rcC b p j0 j1 j2 j3 hot cr)) :
    RdjE P ea b n m rb l Q a RL cap w (rcC b p k0 k1 (.slice a RL.length cap) k3 H cr) (put5 w5 rb k0 k1 (.slice a RL.length cap) k3 (.bool H)) := by
  obtain ⟨x1, x2, x3, x4⟩ := rdj_end hP hlt hg hH hB (fun k hk => put5_heap w5 rb k0 k1 (.slice a RL.length cap) k3 (.bool H) hk) (put5_size w5 rb k0 k1 (.slice a RL.length cap) k3 (.bool H)) (put5_rest w5 rb k0 k1 (.slice a RL.length cap) k3 (.bool H))
  exact ⟨_, x1, x2, blk_put5 _ _ _ _ _ hbr, x3, x4⟩

/-- What readJournal leaves of a journal that is there: it lies in the recovery, its records beside the disk. -/
def RdjQ (P : Nat → Prop) (ea : Addr) (b n m rb : Nat) (l : List F13) (Q : PQ) (p d : List UInt8) (cr : Bool) (w : World) (w' : World) : Prop :=
  ∃ (a : Option Addr) (cap : Nat), RdjE P ea b n m rb l Q a (rdJ d).L cap w (rcC b p (.int .i64 (rdJ d).k) (.int .i64 (rdJ d).p) (.slice a (rdJ d).L.length cap) (.string (ba (rdJ d).s)) (hotF l d) cr) w'
set_option maxRecDepth 100000 in
set_option maxHeartbeats 2000000 in
theorem readj_some {rb : Nat} {p d : List UInt8} {j0 j1 j2 j3 : Value} {hot cr : Bool} (h : Dk P ea b n m l Q w) (hP : P rb) (hg : 6 ≤ rb) (hr : Blk w rb 79 (rcC b p j0 j1 j2 j3 hot cr)) (hp : p.length ≤ 999000) (hx : lookF l (p ++ jx) = some d) (hd : d.length ≤ 1048576) (hn : n + 1 ≤ 100000) :
    Calls Tryz.prog 88 #[.pointer (some ⟨rb, 0, none⟩)] w fun e w' => e = .returned .nilIface ∧ RdjQ P ea b (n + 1) m rb l Q p d cr w w' := by
  have c0 := blk_cell hr 0 (v := .pointer (some ⟨b, 0, none⟩)) rfl
  have c1 := blk_cell hr 1 (v := .string (ba p)) rfl
  have c0' := cell_alloc c0 (.cells zJrn 55)
  have c1' := cell_alloc c1 (.cells zJrn 55)
  have HJ1 := Lib.hid (journalOf_some (dk_drew h) p d hp hx hd hn)
  have HJ2 := Lib.hid (journalOf_some (dk_drew (dk_add h (.cells zJrn 55))) p d hp hx hd hn)
  have HZ := Lib.hid (show Blk (w.alloc (.cells zJrn 55)).drew w.heap.size 55 zJrn from blk_new w 55 zJrn)
  have HR0 := Lib.hid hr
  have HSZ := Lib.hid (show w.heap.size < (w.alloc (.cells zJrn 55)).drew.heap.size by simp)
  have HLT := Lib.hid h.lt; have HGN := Lib.hid h.gn
  have HGS := Lib.hid (show 6 ≤ w.heap.size by have := h.lt (6 - 1) (h.gn _ (by decide)); omega)
  have HU1 := Lib.hid (fun W (hF : Fr P w.drew W) => fr_undrew hF)
  have HU2 := Lib.hid (fun W (hF : Fr (fun k => P k ∨ k = w.heap.size) (w.alloc (.cells zJrn 55)).drew W) => show Fr P w W from (fr_below (P := P) (blw1 w (.cells zJrn 55)) h.lt).trans (fr_undrew (hF.mono fun k hk => .inl hk)))
  have kc := fun W (P' : Nat → Prop) a cap (hD : Dk P' ea b (n + 1) m l Q W) => hcounts_any hD d a cap
  unfold RdjQ
  generalize hotF l d = H at *
  unfold JofQ jrnV at HJ1 HJ2
  unfold jrnV at kc
  generalize rdJ d = J at *
  obtain ⟨K, pg, RL, sp⟩ := J
  simp only at *
  clear h
  unfold zJrn at *
  go_enter Tryz.func88, Tryz.ntmps88
  go_upto_region 1 with (fail)
  go_cut [3, 4] from 5 (fun t u wx => u = .nilIface ∧ ∃ (lb : Nat) (a : Option Addr) (cap : Nat) (R : Nat → Prop), t = .pointer (some ⟨lb, 0, none⟩) ∧ Hid (RjC P ea b (n + 1) m rb l Q #[.int .i64 (K : Int), .int .i64 pg, .slice a RL.length cap, .string (ba sp)] a R RL lb w wx))
  case first =>
    go_region_with (first
      | (go_at_call 27; (with_reducible refine HJ1.out.mono ?_); rintro e w2 ⟨a, cap, R, rfl, hD, hF, hRe, hRP⟩; have HC := Lib.hid (rjc_after #[.int .i64 (K : Int), .int .i64 pg, .slice a RL.length cap, .string (ba sp)] hP hD (HU1.out _ hF) hRe hRP); clear hD hF hRe hRP)
      | (go_at_call 27; (with_reducible refine HJ2.out.mono ?_); rintro e w2 ⟨a, cap, R, rfl, hD, hF, hRe, hRP⟩; have hz := fr_blk hF (.inr rfl) HZ.out; have z0 := blk_cell hz 0 rfl; have z1 := blk_cell hz 1 rfl; have z2 := blk_cell hz 2 rfl; have z3 := blk_cell hz 3 rfl; have f0 := blk_frozen hz 0; have f1 := blk_frozen hz 1; have f2 := blk_frozen hz 2; have f3 := blk_frozen hz 3; have HC := Lib.hid (rjc_before (.int .i64 (K : Int)) (.int .i64 pg) (.slice a RL.length cap) (.string (ba sp)) hP HLT.out HGN.out HGS.out hD (HU2.out _ hF) hRe (fun g o e => ⟨Nat.lt_of_lt_of_le (HSZ.out) (hRP g o e).1, (hRP g o e).2⟩) hz); clear hD hF hRe hRP hz))
    all_goals go_wp2
    all_goals go_meet
    all_goals exact ⟨rfl, _, _, _, _, rfl, HC⟩
  case rest =>
    obtain ⟨rfl, lb, a, cap, R, rfl, hH⟩ := hcut
    have HH := hH
    obtain ⟨hbl, hne, hD, hF, hRe, hRP⟩ := hH.out
    have hbr := fr_blk hF hP HR0.out
    have z0 := blk_cell hbl 0 rfl; have z1 := blk_cell hbl 1 rfl; have z2 := blk_cell hbl 2 rfl; have z3 := blk_cell hbl 3 rfl
    have d0 := blk_cell hbr 0 (v := .pointer (some ⟨b, 0, none⟩)) rfl
    have HC := Lib.hid (kc _ _ a cap (dk_drew hD))
    have HBR := Lib.hid hbr; have HBL := Lib.hid hbl
    have HUB := Lib.hid (fun W (hb : Below wc.drew.heap.size wc.drew W) => (⟨hb.os, hb.tape, hb.output, hb.size, hb.block⟩ : Below wc.heap.size wc W))
    clear c0 c1 c0' c1' HJ1 HJ2 kc HU1 HU2 HZ hH hbl hD hF hRe hRP hbr
    go_upto_region 4 with fail
    go_region_with (go_at_call 30; (with_reducible refine HC.out.mono ?_); rintro e w5 ⟨rfl, hB⟩; have hbr := blk_below HBR.out (HUB.out _ hB); have y2 := blk_cell hbr 2 (v := j0) rfl; have y3 := blk_cell hbr 3 (v := j1) rfl; have y4 := blk_cell hbr 4 (v := j2) rfl; have y5 := blk_cell hbr 5 (v := j3) rfl; have y6 := blk_cell hbr 6 (v := .bool hot) rfl; have g2 := blk_frozen hbr 2; have g3 := blk_frozen hbr 3; have g4 := blk_frozen hbr 4; have g5 := blk_frozen hbr 5; have g6 := blk_frozen hbr 6; have hl := blk_below HBL.out (HUB.out _ hB); have q0 := blk_cell hl 0 rfl; have q1 := blk_cell hl 1 rfl; have q2 := blk_cell hl 2 rfl; have q3 := blk_cell hl 3 rfl; have HB5 := Lib.hid (HUB.out _ hB); have HBR5 := Lib.hid hbr; clear hB hbr hl)
    all_goals go_wp2
    all_goals go_ret
    all_goals
      have HE := rdj_fin (p := p) (j0 := j0) (j1 := j1) (j2 := j2) (j3 := j3) (hot := hot) (cr := cr) (.int .i64 (K : Int)) (.int .i64 pg) cap (.string (ba sp)) H hP (HLT.out rb hP) hg HH.out HB5.out HBR5.out
      exact ⟨rfl, a, cap, HE⟩
end Go.Proofs.YthfebcfdhmihcaaGreatDoor
