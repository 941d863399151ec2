/-
  Layer 7: Restart without choices, where the durable directory is empty: what is pending is lost, no path is left, and the machine is up. Condition: the sizes that the invariant holds.
-/
import Derived.Test.YtcpkbklnlnoonaaDoorDskClone
import Derived.Laws.IdiomRangeMap
import Derived.Deep.Cut
namespace Go.Proofs.YtcpkbklnlnoonaaDoor
open Go.RowKit
variable {L : Loc} {ρ ρ' : Nat → Option Role} {n : Nat} {S : DS} {w w' : World}

theorem survive_zero (b : Nat) (k : Int) (nm : ByteArray) (fp : Option Addr) (o : Int) (d : ByteArray) (w : World) :
    Calls Tryd.prog 28 #[.pointer (some ⟨b, 0, none⟩), .agg #[.int .i64 k, .string nm, .pointer fp, .int .i64 o, .string d], .int .u64 0] w fun e w' => e = .returned (.tuple #[]) ∧ Below w.heap.size w w' := by
  have HB : Hid (Below w.heap.size w (w.alloc (.cells #[.int .i64 k, .string nm, .pointer fp, .int .i64 o, .string d] 52))) := Lib.hid ((Below.refl _ _).alloc (Nat.le_refl _) _)
  go_enter Tryd.func28, Tryd.ntmps28
  go_wp2
  go_returns
  exact ⟨rfl, HB.out⟩

def restS (S : DS) (l : List (List UInt8 × Nat)) : DS := { S with dirs := upd S.dirs false l, pend := [], flt := fun _ => 0, crash := 0, down := false }
/-- The disk's own block and the visible map turned anew. -/
theorem inv_rest (h : Inv L ρ n S w) (l : List (List UInt8 × Nat)) (m' : Option Nat) (w0 : World) (hw0 : w.heap.size ≤ w0.heap.size) (hl : l.length ≤ n) (hd : ∀ p, p ∈ l → p.2 < S.nf)
    (hw : Blk w' L.b 42 #[.int .i64 S.room, .map m', .map (L.m true), .slice none 0 0, .int .i64 S.ops, .map none, .int .i64 0, .bool false])
    (hk : ∀ g, ρ g ≠ none → g ≠ L.b → w'.heap[g]? = w.heap[g]?) (hz : w.heap.size ≤ w'.heap.size) (hz0 : w0.heap.size < w'.heap.size) (hm : MapC L.F w0 w' m' l)
    (hs : w'.os = w.os ∧ w'.tape = w.tape ∧ w'.output = w.output) (ho : ∀ k, k < w.heap.size → ρ k = none → w'.heap[k]? = w.heap[k]?) :
    ∃ L' ρ', Inv L' ρ' n (restS S l) w' ∧ Step L ρ w L' ρ' w' ∧ L'.F = L.F := by
  obtain ⟨ρ', hx, hro, hmI, hold⟩ : ∃ ρ' : Nat → Option Role, (∀ k r, ρ k = some r → ρ' k = some r) ∧ (∀ k, k < w.heap.size → ρ' k = ρ k) ∧ MapI ρ' L.F w' m' (.map false) l ∧ (∀ k, w'.heap.size ≤ k → ρ' k = none) := by
    rcases hm with ⟨rfl, rfl⟩ | ⟨rfl, hown⟩
    · exact ⟨ρ, fun _ _ h => h, fun _ _ => rfl, .inl ⟨rfl, rfl⟩, fun k hk => h.old k (Nat.le_trans hz hk)⟩
    · refine ⟨updN ρ w0.heap.size (some (.map false)), fun k r hk => ?_, fun k hk => ?_, .inr ⟨w0.heap.size, rfl, by simp [updN], hown⟩, fun k hk => ?_⟩
      · unfold updN
        rw [if_neg (fun e => by subst e; rw [h.old _ hw0] at hk; cases hk)]; exact hk
      · unfold updN
        rw [if_neg (by omega)]
      · unfold updN
        rw [if_neg (by omega)]; exact h.old k (Nat.le_trans hz hk)
  have hkb : ∀ k r, ρ k = some r → r ≠ .disk → w'.heap[k]? = w.heap[k]? := fun k r hr h2 => hk k (by rw [hr]; simp) (fun e => by subst e; rw [h.hb] at hr; cases hr; exact h2 rfl)
  refine ⟨{ L with m := upd L.m false m', fm := none, pv := .slice none 0 0 }, ρ', ?_, ⟨hs.1, hs.2.1, hs.2.2, hz, ho, hro, rfl⟩, rfl⟩
  exact {
    hb := hx _ _ h.hb
    blk := by
      have : upd L.m false m' true = L.m true := by simp [upd]
      show Blk w' L.b 42 #[.int .i64 S.room, .map (upd L.m false m' false), .map (upd L.m false m' true), .slice none 0 0, .int .i64 S.ops, .map none, .int .i64 0, .bool false]
      rw [this]
      exact hw
    mp := fun t => by
      cases t
      · exact hmI
      · exact mapI_keep (h.mp true) (fun g hg' => hkb g _ hg' (by simp)) hx
    flt := .inl ⟨rfl, fun _ => rfl⟩
    pnd := World.ownsRow_nil _ _ _ _
    pro := fun _ hg => by cases hg
    fro := fun j hj => hx _ _ (h.fro j hj)
    fil := fun j hj => (hkb _ _ (h.fro j hj) (by simp)).trans (h.fil j hj)
    con := fun t j hj => row_keep (h.con t j hj) (fun g hg' => hkb g _ (h.cro t j g hj hg') (by simp))
    cro := fun t j g hj hg' => hx _ _ (h.cro t j g hj hg')
    clen := h.clen
    dok := fun t p hp => by
      cases t
      · exact hd p hp
      · exact h.dok true p hp
    pok := fun c hc => by cases hc
    old := hold
    room := h.room
    bnd := ⟨Nat.zero_le _, h.bnd.2.1, fun t => by
      cases t
      · exact hl
      · exact h.bnd.2.2.1 true, h.bnd.2.2.2⟩ }

theorem rest_fin (h : Inv L ρ n S w) {W9 w2 W11 : World} {m' : Option Nat} (l : List (List UInt8 × Nat)) (hl : l.length ≤ n) (hd : ∀ p, p ∈ l → p.2 < S.nf)
    (hk9 : ∀ g, g ≠ L.b → W9.heap[g]? = w.heap[g]?) (hz9 : W9.heap.size = w.heap.size) (hs9 : W9.os = w.os ∧ W9.tape = w.tape ∧ W9.output = w.output) (hmc : MapC L.F W9.drew w2 m' l) (hb : Below W9.drew.heap.size W9.drew w2)
    (hbx : Blk w2 L.b 42 #[.int .i64 S.room, .map (L.m false), .map (L.m true), .slice none 0 0, .int .i64 S.ops, .map L.fm, .int .i64 S.crash, .bool S.down])
    (h11 : Below (w2.setCell ⟨L.b, 1, none⟩ (.map m')).heap.size (w2.setCell ⟨L.b, 1, none⟩ (.map m')) W11) (hlt : w2.heap.size < W11.heap.size) :
    ∃ L' ρ', Inv L' ρ' n (restS S l) (((W11.setCell ⟨L.b, 5, none⟩ (.map none)).setCell ⟨L.b, 6, none⟩ (.int .i64 0)).setCell ⟨L.b, 7, none⟩ (.bool false)) ∧ Step L ρ w L' ρ' (((W11.setCell ⟨L.b, 5, none⟩ (.map none)).setCell ⟨L.b, 6, none⟩ (.int .i64 0)).setCell ⟨L.b, 7, none⟩ (.bool false)) ∧ L'.F = L.F := by
  have hzd : W9.drew.heap.size = w.heap.size := hz9
  have hlb : L.b < w.heap.size := h.lt (by rw [h.hb]; simp)
  have hz1 : (w2.setCell ⟨L.b, 1, none⟩ (.map m')).heap.size = w2.heap.size := size_setCell' _ _ _
  have hb10 := blk_set hbx 1 (.map m')
  have hb11 : Blk W11 L.b 42 _ := (h11.block _ (blk_lt hb10)).trans hb10
  have hk : ∀ g, g < w2.heap.size → g ≠ L.b → (((W11.setCell ⟨L.b, 5, none⟩ (.map none)).setCell ⟨L.b, 6, none⟩ (.int .i64 0)).setCell ⟨L.b, 7, none⟩ (.bool false)).heap[g]? = w2.heap[g]? := fun g hg hne =>
    (setCell_keep _ _ _ _ g hne).trans ((setCell_keep _ _ _ _ g hne).trans ((setCell_keep _ _ _ _ g hne).trans ((h11.block g (by rw [hz1]; exact hg)).trans (setCell_keep _ _ _ _ g hne))))
  have hk2 : ∀ g, g < w.heap.size → g ≠ L.b → w2.heap[g]? = w.heap[g]? := fun g hg hne => (hb.block g (by rw [hzd]; exact hg)).trans (hk9 g hne)
  have hsz2 : w.heap.size ≤ w2.heap.size := by have := hb.size; omega
  have hszf : (((W11.setCell ⟨L.b, 5, none⟩ (.map none)).setCell ⟨L.b, 6, none⟩ (.int .i64 0)).setCell ⟨L.b, 7, none⟩ (.bool false)).heap.size = W11.heap.size := by rw [size_setCell', size_setCell', size_setCell']
  refine inv_rest h l m' W9.drew (by omega) hl hd (blk_set (blk_set (blk_set hb11 5 _) 6 _) 7 _) (fun g hg hne => (hk g (Nat.lt_of_lt_of_le (h.lt hg) hsz2) hne).trans (hk2 g (h.lt hg) hne)) (by omega) (by have := hb.size; omega) ?_ ?_ (fun k hk' hr => ?_)
  · rcases hmc with ⟨rfl, rfl⟩ | ⟨rfl, es, clock, hbb, rest⟩
    · exact .inl ⟨rfl, rfl⟩
    · have hlt0 : W9.drew.heap.size < w2.heap.size := (Array.getElem?_eq_some_iff.1 hbb).1
      exact .inr ⟨rfl, es, clock, (hk _ hlt0 (by omega)).trans hbb, rest⟩
  · exact ⟨h11.os.trans (hb.os.trans hs9.1), h11.tape.trans (hb.tape.trans hs9.2.1), h11.output.trans (hb.output.trans hs9.2.2)⟩
  · have hne : k ≠ L.b := fun e => by subst e; rw [h.hb] at hr; cases hr
    exact (hk k (Nat.lt_of_lt_of_le hk' hsz2) hne).trans (hk2 k hk' hne)

set_option maxHeartbeats 4000000 in
set_option maxRecDepth 100000 in
theorem rest_zero (h : Inv L ρ n S w) (hz : S.dirs true = []) :
    Calls Tryd.prog 12 #[.pointer (some ⟨L.b, 0, none⟩), .slice none 0 0] w fun e w' => e = .returned (.tuple #[]) ∧ ∃ L' ρ', Inv L' ρ' n (restS S []) w' ∧ Step L ρ w L' ρ' w' ∧ L'.F = L.F := by
  have c3 := blk_cell h.blk 3 rfl
  obtain ⟨a, cap, hpv⟩ := row_any h.pnd
  obtain ⟨len, hlen⟩ : ∃ len, len = S.pend.length := ⟨_, rfl⟩
  rw [← hlen] at hpv
  rw [hpv] at c3
  have hrow : ∀ i, i < len → ∃ (g : Nat) (k : Int) (nm : ByteArray) (fp : Option Addr) (o : Int) (d : ByteArray), a = some ⟨g, 0, none⟩ ∧ g < w.heap.size ∧ w.cell? ⟨g, i * 5, none⟩ = some (.int .i64 k) ∧ w.cell? ⟨g, i * 5 + 1, none⟩ = some (.string nm) ∧ w.cell? ⟨g, i * 5 + 2, none⟩ = some (.pointer fp) ∧ w.cell? ⟨g, i * 5 + 3, none⟩ = some (.int .i64 o) ∧ w.cell? ⟨g, i * 5 + 4, none⟩ = some (.string d) := by
    intro i hi
    have hi' : i < S.pend.length := by omega
    rcases prow_of h.pnd with ⟨e, hp⟩ | ⟨g, cap', cur, e, hp⟩
    · rw [hp] at hi'; cases hi'
    · rw [hpv] at e
      injection e with e1 _ _
      subst e1
      obtain ⟨k, nm, fp, o, d, hcl⟩ := chg_lit L.F S.pend[i]
      have r0 := prow_cell hp i 0 hi' (by omega) (v := .int .i64 k) (by rw [hcl]; rfl)
      rw [Nat.add_zero] at r0
      exact ⟨g, k, nm, fp, o, d, rfl, prow_lt hp, r0, prow_cell hp i 1 hi' (by omega) (by rw [hcl]; rfl), prow_cell hp i 2 hi' (by omega) (by rw [hcl]; rfl), prow_cell hp i 3 hi' (by omega) (by rw [hcl]; rfl), prow_cell hp i 4 hi' (by omega) (by rw [hcl]; rfl)⟩
  have HROW := Lib.hid hrow; have HH := Lib.hid h; have HZ := Lib.hid hz
  have hlb : len ≤ 100000 := by have := h.bnd.1; have := h.bnd.2.2.2; omega
  clear h hrow hz hpv hlen
  go_enter Tryd.func12, Tryd.ntmps12
  go_wp2
  go_loopw [16] (fun iv wr => ∃ i : Nat, i ≤ len ∧ iv = .int .i64 i ∧ Hid (Below w.heap.size w wr)) (fun iv _ => len - (intOf iv).toNat)
  case atStart => exact ⟨0, Nat.zero_le _, rfl, Lib.hid (Below.refl _ _)⟩
  case round =>
    obtain ⟨i, hi, rfl, hB⟩ := hrel
    by_cases hlt : i < len
    · obtain ⟨g, k, nm, fp, o, d, rfl, hg, r0, r1, r2, r3, r4⟩ := HROW.out i hlt
      have q0 := (hB.out.cell (p := ⟨g, i * 5, none⟩) hg).trans r0
      have q1 := (hB.out.cell (p := ⟨g, i * 5 + 1, none⟩) hg).trans r1
      have q2 := (hB.out.cell (p := ⟨g, i * 5 + 2, none⟩) hg).trans r2
      have q3 := (hB.out.cell (p := ⟨g, i * 5 + 3, none⟩) hg).trans r3
      have q4 := (hB.out.cell (p := ⟨g, i * 5 + 4, none⟩) hg).trans r4
      have hlti : (i : Int) < len := by omega
      have t0 : decide ((i : Int) < 0) = false := decide_eq_false (by omega)
      have t1 : ¬ ((i : Int) < 0) := by omega
      clear r0 r1 r2 r3 r4 c3
      go_wp2_with (go_at_call 28; (with_reducible refine (survive_zero _ k nm fp o d _).mono ?_); rintro e w2 ⟨rfl, hb⟩)
      go_roundw
      case rel => exact ⟨i + 1, by omega, by go_num, Lib.hid (hB.out.trans (((Below.refl _ _).alloc (Nat.le_refl _) _ |>.trans (hb.mono (by simp))).mono hB.out.size))⟩
      case measure => simp [intOf]; omega
    · have hIr := HH.out.below hB.out
      have hblk := hIr.blk
      have d3 := blk_cell hblk 3 rfl
      have f3 := blk_frozen hblk 3
      have hb9 := blk_set hblk 3 (.slice none 0 0)
      have hk9 : ∀ g, g ≠ L.b → (wr.setCell ⟨L.b, 3, none⟩ (.slice none 0 0)).heap[g]? = wr.heap[g]? := setCell_keep _ _ _ _
      have hz9 : (wr.setCell ⟨L.b, 3, none⟩ (.slice none 0 0)).heap.size = wr.heap.size := size_setCell' _ _ _
      have hs9 : (wr.setCell ⟨L.b, 3, none⟩ (.slice none 0 0)).os = wr.os ∧ (wr.setCell ⟨L.b, 3, none⟩ (.slice none 0 0)).tape = wr.tape ∧ (wr.setCell ⟨L.b, 3, none⟩ (.slice none 0 0)).output = wr.output := ⟨rfl, rfl, rfl⟩
      have hm9 : MapI ρ L.F (wr.setCell ⟨L.b, 3, none⟩ (.slice none 0 0)) (L.m true) (.map true) (S.dirs true) := mapI_keep (hIr.mp true) (fun g hg => hk9 g (fun e => by subst e; have := hIr.hb; rw [this] at hg; cases hg)) (fun _ _ h => h)
      have HM9 := Lib.hid hm9; have HB9 := Lib.hid hb9; have HK9 := Lib.hid hk9; have HZ9 := Lib.hid hz9; have HS9 := Lib.hid hs9; have HI := Lib.hid hIr
      have hc2 := blk_cell hb9 2 rfl
      clear hIr hblk hb9 hk9 hz9 hs9 hm9 c3
      have hge : ¬ ((i : Int) < len) := by omega
      go_upto_region 10 with (fail)
      revert HM9 HB9 HK9 HZ9 HS9 hc2
      generalize wr.setCell ⟨L.b, 3, none⟩ (.slice none 0 0) = W9
      intro HM9 HB9 HK9 HZ9 HS9 hc2
      have HC2 := Lib.hid (show W9.cell? ⟨L.b, 2, none⟩ = some (.map (L.m true)) from hc2)
      clear hc2
      go_region_held3 (fun v => v.cell? ⟨L.b, 2, none⟩ = some (.map (L.m true)))
        (first | assumption | exact HC2.out | exact blk_cell (blk_set (by assumption) 1 _) 2 rfl)
        ((go_at_call 29; refine (mclone_any (w := W9.drew) HM9.out).mono ?_; rintro e w2 ⟨m', rfl, hmc, hb⟩
          have hbx : Blk w2 L.b 42 #[.int .i64 S.room, .map (L.m false), .map (L.m true), .slice none 0 0, .int .i64 S.ops, .map L.fm, .int .i64 S.crash, .bool S.down] := (hb.block _ (blk_lt HB9.out)).trans HB9.out
          have x1 := blk_cell hbx 1 rfl; have x2 := blk_cell hbx 2 rfl; have x3 := blk_frozen hbx 1))
      have hb10 := blk_set hbx 1 (.map m')
      rw [HZ.out] at hmc
      have HFIN := Lib.hid (fun (W11 : World) h11 hlt => rest_fin (W11 := W11) HI.out [] (Nat.zero_le _) (fun _ hp => by cases hp) HK9.out HZ9.out HS9.out hmc hb hbx h11 hlt)
      have hz10 : (w2.setCell ⟨L.b, 1, none⟩ (.map m')).heap.size = w2.heap.size := size_setCell' _ _ _
      have hmc' : (m' = none) ∨ ∃ g, m' = some g ∧ g ≠ L.b ∧ w2.ownsMap Tryd.prog 9 fileR g 0 (fileD L.F []) := by
        rcases hmc with ⟨e, _⟩ | ⟨e, ho⟩
        · exact .inl e
        · refine .inr ⟨_, e, fun e' => ?_, ho⟩
          have hlb : L.b < W9.heap.size := blk_lt HB9.out
          have : W9.drew.heap.size = W9.heap.size := rfl
          omega
      have hown10 : (m' = none) ∨ ∃ g, m' = some g ∧ (w2.setCell ⟨L.b, 1, none⟩ (.map m')).ownsMap Tryd.prog 9 fileR g 0 (fileD L.F []) := by
        rcases hmc' with e | ⟨g, e, hne, es, clock, hbb, rest⟩
        · exact .inl e
        · exact .inr ⟨g, e, es, clock, (setCell_keep _ _ _ _ g hne).trans hbb, rest⟩
      clear hmc hmc' hb hbx x1 x2 x3
      revert HFIN hb10 hz10 hown10
      generalize w2.setCell ⟨L.b, 1, none⟩ (.map m') = W10
      intro hb10 HFIN hz10 hown10
      have HB10 := Lib.hid hb10
      have y1 : W10.cell? ⟨L.b, 1, none⟩ = some (.map m') := blk_cell hb10 1 rfl
      rw [← hz10] at HFIN
      clear hz10
      rcases hown10 with rfl | ⟨g, rfl, hown⟩
      · have hr1 := run_range_nilMap (P := Tryd.prog) W10 37 _ _ underF
        have hr2 := fun ty => run_next_nilMap (P := Tryd.prog) W10 ty 0 0 #[]
        have hb11 : Blk (W10.alloc (.mapIter none 0 #[] 0)) L.b 42 _ := (heap_alloc_old W10 _ (blk_lt hb10)).trans hb10
        have z5 := blk_cell hb11 5 rfl; have z6 := blk_cell hb11 6 rfl; have z7 := blk_cell hb11 7 rfl
        have p5 := blk_frozen hb11 5; have p6 := blk_frozen hb11 6; have p7 := blk_frozen hb11 7
        have HQ := Lib.hid (HFIN.out (W10.alloc (.mapIter none 0 #[] 0)) ((Below.refl _ _).alloc (Nat.le_refl _) _) (by simp))
        clear HFIN hb10 hb11
        go_wp2
        go_loopw [] (fun wr' => wr' = W10.alloc (.mapIter none 0 #[] 0)) (fun _ => 0)
        case atStart => rfl
        case round =>
          obtain rfl := hrel
          go_wp2
          go_returns
          obtain ⟨L', ρ', h1, h2, h3⟩ := HQ.out
          exact ⟨rfl, L', ρ', h1, (Step.below hB.out).trans h2, h3⟩
      · clear hb10
        go_wp2_with (first
          | (at_range; refine wpList_range_own _ rfl _ 37 rfl 9 45 lawStr underF fileR g _ _ rfl hown ?_; intro w0 hrg0 hg0 hs0)
          | go_in)
        go_frame
        go_loopw [] (fun wr' => ∃ (left : Lit → Bool) (cnt : Nat), wr'.ranges Tryd.prog 9 fileR g W10.heap.size 0 (fileD L.F []) left cnt ∧ Hid (∀ kl, left kl = false) ∧ Hid (Below W10.heap.size W10 wr') ∧ Hid (W10.heap.size < wr'.heap.size)) (fun wr' => wr'.rangeLeft g W10.heap.size)
        case atStart => exact ⟨_, _, hrg0, Lib.hid (fun kl => rfl), Lib.hid ⟨hg0.os, hg0.tape, hg0.output, hg0.size, fun k hk => hg0.block k hk (by simp)⟩, Lib.hid (by omega)⟩
        case round =>
          obtain ⟨left, cnt, hrg, HL, HB2, HLT⟩ := hrel
          clear hown hrg0 hg0 hs0
          go_wp2_with (first
            | (at_next; refine wpList_next_ranges _ rfl _ rfl 9 lawStr fileR Value.string Value.pointer (fun key kl hkey => keyStr_inv hkey) (fun v y hv => fileR_inv hv) g W10.heap.size _ _ _ _ rfl hrg ?_ ?_)
            | go_in)
          · intro hc0 hl0
            have hb11 : Blk _ L.b 42 _ := (HB2.out.block _ (blk_lt HB10.out)).trans HB10.out
            have z5 := blk_cell hb11 5 rfl; have z6 := blk_cell hb11 6 rfl; have z7 := blk_cell hb11 7 rfl
            have p5 := blk_frozen hb11 5; have p6 := blk_frozen hb11 6; have p7 := blk_frozen hb11 7
            have HQ := Lib.hid (HFIN.out _ HB2.out HLT.out)
            clear hb11 HFIN hrg
            go_wp2
            go_returns
            obtain ⟨L', ρ', h1, h2, h3⟩ := HQ.out
            exact ⟨rfl, L', ρ', h1, (Step.below hB.out).trans h2, h3⟩
          · intro x c kl y1 y2 w1 cnt1 hkey hlx
            rw [HL.out] at hlx
            cases hlx
end Go.Proofs.YtcpkbklnlnoonaaDoor
