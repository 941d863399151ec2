/-
  Layer 5, the reader's methods number, count, mark and integer: each returns what it reads from the bytes that are left, or the error, takes what it read off them, and changes the reader alone. Condition: at most 2^63 - 1 bytes.
-/
import Derived.Test.YtpkhbafgepdogaaRecLeaf
import Derived.Test.YtpkhbafgepdogaaVarScan
import Derived.Lib.BufferOwn
namespace Go.Proofs.Ytpkhbafgepdogaa
open Go.RowKit

/-- A string's bytes. -/
def bz (l : List UInt8) : ByteArray := ⟨l.toArray⟩
theorem bz_size (l : List UInt8) : (bz l).size = l.length := by simp [bz, ByteArray.size]
theorem bz_list (l : List UInt8) : (bz l).data.toList = l := rfl
theorem bz_back (s : ByteArray) : bz s.data.toList = s := rfl
theorem bz_drop (l : List UInt8) (k : Nat) : (bz l).extract k (bz l).size = bz (l.drop k) := by
  apply ByteArray.ext
  simp [bz, ByteArray.data_extract, ByteArray.size]
  exact List.take_of_length_le (by simp)
theorem bz_take (l : List UInt8) (k : Nat) : (bz l).extract 0 k = bz (l.take k) := by
  apply ByteArray.ext
  simp [bz, ByteArray.data_extract]
def rdF (s : ByteArray) (f : Value) (j : Nat) : Value := if j = 0 then .string s else f
/-- The reader lies at block b: the bytes that are left, and its slice of fields. -/
def Rd (w : World) (b : Nat) (l : List UInt8) (f : Value) : Prop := w.rowIs b 58 2 (rdF (bz l) f)
theorem rd_cells {w : World} {b : Nat} {l : List UInt8} {f : Value} (h : Rd w b l f) : w.cell? ⟨b, 0, none⟩ = some (.string (bz l)) ∧ w.cell? ⟨b, 1, none⟩ = some f ∧ w.frozen? ⟨b, 0, none⟩ = false ∧ w.frozen? ⟨b, 1, none⟩ = false ∧ b < w.heap.size :=
  ⟨h.cell (by decide), h.cell (by decide), h.frozen 0, h.frozen 1, h.lt⟩
theorem rd_set0 {w : World} {b : Nat} {l : List UInt8} {f : Value} (h : Rd w b l f) (l' : List UInt8) : Rd (w.setCell ⟨b, 0, none⟩ (.string (bz l'))) b l' f := by
  refine (h.set 0 _).congr fun j hj => ?_
  match j, hj with
  | 0, _ => rfl
  | 1, _ => rfl
theorem rd_set1 {w : World} {b : Nat} {l : List UInt8} {f : Value} (h : Rd w b l f) (f' : Value) : Rd (w.setCell ⟨b, 1, none⟩ f') b l f' := by
  refine (h.set 1 _).congr fun j hj => ?_
  match j, hj with
  | 0, _ => rfl
  | 1, _ => rfl
theorem rd_below {w w' : World} {b : Nat} {l : List UInt8} {f : Value} (h : Rd w b l f) (hb : Below w.heap.size w w') : Rd w' b l f := h.of_block (hb.block b h.lt)
theorem rd_grown {w w' : World} {b : Nat} {row : Option Nat} {l : List UInt8} {f : Value} (h : Rd w b l f) (hg : w.grownBy w' row) (hne : some b ≠ row) : Rd w' b l f := h.of_block (hg.block b h.lt hne)
theorem ret_ue {a b : Int} {x y : Int} (h : a = b) (h2 : x = y) : Ending.returned (.tuple #[.int .u64 a, .int .i64 x]) = .returned (.tuple #[.int .u64 b, .int .i64 y]) := by rw [h, h2]

/-- What is left behind a number. -/
def restR (l : List UInt8) : List UInt8 := if (getR l).2.2 = 0 then l.drop (getR l).2.1 else l
set_option maxRecDepth 100000 in
set_option maxHeartbeats 1000000 in
theorem number_r (b : Nat) (l : List UInt8) (f : Value) (w : World) (hs : l.length ≤ 9223372036854775807) (h : Rd w b l f) :
    Calls Try.prog 37 #[.pointer (some ⟨b, 0, none⟩)] w fun e w' => e = .returned (.tuple #[.int .u64 (getR l).1, .int .i64 (getR l).2.2]) ∧ Rd w' b (restR l) f ∧ w.grownBy w' (some b) := by
  obtain ⟨c0, c1, f0, f1, hlt⟩ := rd_cells h
  have HRD := Lib.hid h; clear h
  have hg := fun w => vget_any (bz l) (by rw [bz_size]; omega) w
  rw [bz_list] at hg
  by_cases h0 : (getR l).2.2 = 0
  · obtain ⟨-, h1, -, h2⟩ := get_form h0
    have hr : restR l = l.drop (getR l).2.1 := by rw [restR, if_pos h0]
    rw [hr]
    obtain ⟨g, hgg⟩ : ∃ g, g = getR l := ⟨_, rfl⟩
    rw [← hgg] at hg h0 h1 h2 ⊢
    clear hgg hr
    obtain ⟨n, k, e⟩ := g
    simp only at hg h0 h1 h2 ⊢
    subst h0
    have h3 : k ≤ (bz l).size := by rw [bz_size]; exact h2
    have h4 : (k : Int) ≤ (bz l).size := by omega
    clear h1 h2
    go_enter Try.func37, Try.ntmps37
    go_wp2_with (go_at_call 41; refine (hg _).mono ?_; rintro e w' ⟨rfl, rfl⟩)
    go_ret2
    rw [bz_drop]
    exact ⟨rfl, rd_set0 HRD.out _, Lib.grownBy_setCell w b 0 _⟩
  · have hr : restR l = l := by rw [restR, if_neg h0]
    rw [hr]
    obtain ⟨h1, h2⟩ := get_none h0
    obtain ⟨g, hgg⟩ : ∃ g, g = getR l := ⟨_, rfl⟩
    rw [← hgg] at hg h0 h1 h2 ⊢
    clear hgg hr
    obtain ⟨n, k, e⟩ := g
    simp only at hg h0 h1 h2 ⊢
    subst h1 h2
    have t1 : (e != 0) = true := by simpa using h0
    clear h0
    go_enter Try.func37, Try.ntmps37
    go_wp2_with (go_at_call 41; refine (hg _).mono ?_; rintro e w' ⟨rfl, rfl⟩)
    go_ret2
    exact ⟨rfl, HRD.out, .refl _ _⟩

/-- What count returns. -/
def cntR (l : List UInt8) : Nat × Int := if (getR l).2.2 = 0 then (if 16 < (getR l).1 then (0, 18) else ((getR l).1, 0)) else (0, (getR l).2.2)
set_option maxRecDepth 100000 in
set_option maxHeartbeats 1000000 in
theorem count_r (b : Nat) (l : List UInt8) (f : Value) (w : World) (hs : l.length ≤ 9223372036854775807) (h : Rd w b l f) :
    Calls Try.prog 25 #[.pointer (some ⟨b, 0, none⟩)] w fun e w' => e = .returned (.tuple #[.int .i64 (cntR l).1, .int .i64 (cntR l).2]) ∧ Rd w' b (restR l) f ∧ w.grownBy w' (some b) := by
  have hg := number_r b l f w hs h
  clear h
  obtain ⟨r, hr⟩ : ∃ r, r = cntR l := ⟨_, rfl⟩
  rw [← hr]
  unfold cntR at hr
  obtain ⟨g, hgg⟩ : ∃ g, g = getR l := ⟨_, rfl⟩
  rw [← hgg] at hg hr
  clear hgg
  obtain ⟨n, k, e⟩ := g
  simp only at hg hr
  by_cases h0 : e = 0
  · rw [if_pos h0] at hr; subst h0
    by_cases h16 : 16 < n
    · rw [if_pos h16] at hr; subst hr
      go_enter Try.func25, Try.ntmps25
      go_wp2_with (go_at_call 37; refine hg.mono ?_; rintro e w' ⟨rfl, hq⟩)
      go_ret2
      exact ⟨rfl, hq⟩
    · rw [if_neg h16] at hr; subst hr
      have w1 : IntKind.i64.wrap (n : Int) = n := by rw [IntKind.wrap_i64]; omega
      go_enter Try.func25, Try.ntmps25
      go_wp2_with (go_at_call 37; refine hg.mono ?_; rintro e w' ⟨rfl, hq⟩)
      go_ret2
      exact ⟨rfl, hq⟩
  · rw [if_neg h0] at hr; subst hr
    have t1 : (e != 0) = true := by simpa using h0
    go_enter Try.func25, Try.ntmps25
    go_wp2_with (go_at_call 37; refine hg.mono ?_; rintro e w' ⟨rfl, hq⟩)
    go_ret2
    exact ⟨rfl, hq⟩

/-- Block g holds these cells. -/
def Blk (w : World) (g : Nat) (t : TypeId) (cs : Array Value) : Prop := w.heap[g]? = some (.cells cs t (0, 0))
theorem blk_new (w : World) (t : TypeId) (cs : Array Value) : Blk (w.alloc (.cells cs t)) w.heap.size t cs := Deep.blk_alloc_new _ _
theorem blk_set {w : World} {g : Nat} {t : TypeId} {cs : Array Value} (h : Blk w g t cs) (i : Nat) (v : Value) : Blk (w.setCell ⟨g, i, none⟩ v) g t (cs.setIfInBounds i v) := by
  unfold Blk at *
  simp [World.setCell, Array.getElem?_modify, h]
theorem blk_other {w : World} {g : Nat} {t : TypeId} {cs : Array Value} (h : Blk w g t cs) {g' : Nat} (hne : g ≠ g') (i : Nat) (v : Value) : Blk (w.setCell ⟨g', i, none⟩ v) g t cs := (Below.heap_setCell w ⟨g', i, none⟩ v g hne).trans h
theorem blk_lt {w : World} {g : Nat} {t : TypeId} {cs : Array Value} (h : Blk w g t cs) : g < w.heap.size := (Array.getElem?_eq_some_iff.1 h).1
theorem blk_below {w w' : World} {g : Nat} {t : TypeId} {cs : Array Value} (h : Blk w g t cs) (hb : Below w.heap.size w w') : Blk w' g t cs := (hb.block g (blk_lt h)).trans h
theorem blk_alloc {w : World} {g : Nat} {t : TypeId} {cs : Array Value} (h : Blk w g t cs) (o : Obj) : Blk (w.alloc o) g t cs := blk_below h (below_alloc _ _)
theorem blk_grown {w w' : World} {g b : Nat} {t : TypeId} {cs : Array Value} (h : Blk w g t cs) (hg : w.grownBy w' (some b)) (hne : g ≠ b) : Blk w' g t cs := (hg.block g (blk_lt h) (fun e => hne (Option.some.inj e))).trans h
theorem blk_cell {w : World} {g : Nat} {t : TypeId} {cs : Array Value} (h : Blk w g t cs) (i : Nat) {v : Value} (hv : cs[i]? = some v) : w.cell? ⟨g, i, none⟩ = some v := by
  unfold Blk at h
  simp [World.cell?, h, hv]
theorem blk_frozen {w : World} {g : Nat} {t : TypeId} {cs : Array Value} (h : Blk w g t cs) (i : Nat) : w.frozen? ⟨g, i, none⟩ = false := by
  unfold Blk at h
  simp [World.frozen?, h]
theorem grown_new {a w : World} {o : Obj} {row : Option Nat} (h : (a.alloc o).grownBy w row) : a.grownBy w row := Lib.grownBy_trans (World.grownBy_alloc a o row) h
theorem grown_set {a w : World} {row : Option Nat} (h : a.grownBy w row) {g : Nat} (hg : a.heap.size ≤ g) (i : Nat) (v : Value) : a.grownBy (w.setCell ⟨g, i, none⟩ v) row :=
  ⟨h.os, h.tape, h.output, by rw [Deep.nblk_setCell]; exact h.size, fun k hk hr => (Below.heap_setCell w ⟨g, i, none⟩ v k (by simp only; omega)).trans (h.block k hk hr)⟩
theorem rd_other {w : World} {b : Nat} {l : List UInt8} {f : Value} (h : Rd w b l f) {g : Nat} (hne : b ≠ g) (i : Nat) (v : Value) : Rd (w.setCell ⟨g, i, none⟩ v) b l f := h.setOther hne v
theorem rd_alloc {w : World} {b : Nat} {l : List UInt8} {f : Value} (h : Rd w b l f) (o : Obj) : Rd (w.alloc o) b l f := World.rowIs.alloc h o
theorem results_pair {P : Program} {fn : Func} {p u : Tmp} {ty : TypeId} (h : fn.results = #[.cell p ty, .tmp u]) (tmps : Array Value) (w : World) (g : Nat) (t : TypeId) (cs : Array Value) (d : TypeDesc)
    (hp : tmps.getD p undef = .pointer (some ⟨g, 0, none⟩)) (hg : Blk w g t cs)
    (hu : P.underlying ty = some d) (hd : (match d with | .struct _ | .array _ _ => true | _ => false) = true) (hi : (P.info? ty).map (·.size) = some cs.size) :
    (results fn tmps).run P w = .ok (.tuple #[.agg cs, tmps.getD u undef]) w := by
  have hp' : tmps[p]?.getD undef = .pointer (some ⟨g, 0, none⟩) := by simpa using hp
  have hl := run_loadVar_row (P := P) w g t ty cs (0, 0) d hg hu hd hi
  simp [results, h, hp', asAddr, hl]

theorem mk_a (n : Nat) (h2 : 2 ≤ n) (h : n < 18446744073709551616) : IntKind.u64.wrap ((n : Int) - 2) = (n : Int) - 2 := by rw [IntKind.wrap_u64]; omega
theorem mk_b (n : Nat) (h2 : 2 ≤ n) (h : n < 18446744073709551616) : ((n : Int) - 2).tdiv 2 = (sizeM n : Int) := by
  rw [Int.tdiv_eq_ediv_of_nonneg (by omega)]; unfold sizeM; omega
theorem mk_c (q : Nat) (h : q < 9223372036854775808) : IntKind.u64.wrap (q : Int) = (q : Int) := by rw [IntKind.wrap_u64]; omega
theorem mk_d (q : Nat) (h : q < 9223372036854775808) : wrap64 (q : Int) = (q : Int) := by unfold wrap64; omega
theorem mk_e (n : Nat) (h : n < 18446744073709551616) : sizeM n < 9223372036854775808 := by unfold sizeM; omega
theorem mk_f (n : Nat) (h2 : 2 ≤ n) : 1000 < sizeM n ↔ 2003 < n := by unfold sizeM; omega
set_option maxRecDepth 100000 in
set_option maxHeartbeats 1000000 in
theorem mark_r (b : Nat) (l : List UInt8) (f : Value) (w : World) (hs : l.length ≤ 9223372036854775807) (h : Rd w b l f) :
    Calls Try.prog 27 #[.pointer (some ⟨b, 0, none⟩)] w fun e w' => e = .returned (.tuple #[.agg #[.int .i64 (kindM (markS l).1), .int .i64 (sizeM (markS l).1)], .int .i64 (markS l).2.2]) ∧ Rd w' b (markS l).2.1 f ∧ w.grownBy w' (some b) := by
  have hbw := h.lt
  have hg := number_r b l f (w.alloc (.cells #[.int .i64 0, .int .i64 0] 64)) hs (rd_alloc h _)
  clear h
  have hgf := get_form (l := l)
  obtain ⟨r, hr⟩ : ∃ r, r = markS l := ⟨_, rfl⟩
  rw [← hr]
  unfold markS at hr
  obtain ⟨q, hq⟩ : ∃ q, q = restR l := ⟨_, rfl⟩
  rw [← hq] at hg
  unfold restR at hq
  obtain ⟨g, hgg⟩ : ∃ g, g = getR l := ⟨_, rfl⟩
  rw [← hgg] at hg hr hq hgf
  clear hgg
  obtain ⟨n, k, e⟩ := g
  simp only at hg hr hq hgf
  by_cases h0 : e = 0
  · rw [if_pos h0] at hr hq
    replace hgf := (hgf h0).2.1
    subst h0
    rw [← hq] at hr
    clear hq
    by_cases n0 : n = 0
    · subst n0
      rw [if_neg (by omega)] at hr; subst hr
      go_enter Try.func27, Try.ntmps27
      go_wp2_with (go_at_call 37; refine hg.mono ?_; rintro e w' ⟨rfl, hq1, hq2⟩; have hrow := blk_grown (blk_new w 64 #[.int .i64 0, .int .i64 0]) hq2 (by omega); have r0 := blk_cell hrow 0 rfl; have r1 := blk_cell hrow 1 rfl; have r2 := blk_frozen hrow 0; have r3 := blk_frozen hrow 1)
      refine bodyPost_ret (results_pair rfl _ _ w.heap.size _ _ _ rfl (blk_set (blk_set hrow 0 _) 1 _) Try.underlying64 rfl (by kernel_rfl)) rfl ?_
      exact ⟨rfl, rd_other (rd_other hq1 (by omega) _ _) (by omega) _ _, grown_set (grown_set (grown_new hq2) (Nat.le_refl _) _ _) (Nat.le_refl _) _ _⟩
    by_cases n1 : n = 1
    · subst n1
      rw [if_neg (by omega)] at hr; subst hr
      go_enter Try.func27, Try.ntmps27
      go_wp2_with (go_at_call 37; refine hg.mono ?_; rintro e w' ⟨rfl, hq1, hq2⟩; have hrow := blk_grown (blk_new w 64 #[.int .i64 0, .int .i64 0]) hq2 (by omega); have r0 := blk_cell hrow 0 rfl; have r1 := blk_cell hrow 1 rfl; have r2 := blk_frozen hrow 0; have r3 := blk_frozen hrow 1)
      refine bodyPost_ret (results_pair rfl _ _ w.heap.size _ _ _ rfl (blk_set (blk_set hrow 0 _) 1 _) Try.underlying64 rfl (by kernel_rfl)) rfl ?_
      exact ⟨rfl, rd_other (rd_other hq1 (by omega) _ _) (by omega) _ _, grown_set (grown_set (grown_new hq2) (Nat.le_refl _) _ _) (Nat.le_refl _) _ _⟩
    · have hn2 : 2 ≤ n := by omega
      have ws := mk_a n hn2 hgf
      have hf := mk_f n hn2
      have hb := mk_b n hn2 hgf
      have hc := mk_c _ (mk_e n hgf)
      have hd := mk_d _ (mk_e n hgf)
      obtain ⟨q0, hq0⟩ : ∃ q0, q0 = sizeM n := ⟨_, rfl⟩
      rw [← hq0] at hf hb hc hd
      have HQ := Lib.hid hq0.symm
      have e0 : ((n : Int) == 0) = false := by simpa using n0
      have e1 : ((n : Int) == 1) = false := by simp; omega
      by_cases hl : 1000 < q0
      · rw [if_pos (hf.1 hl)] at hr; subst hr
        clear hq0 hgf n0 n1 hf
        by_cases ho : n % 2 = 1
        · have t2 : ((n : Int) % 2 == 1) = true := by simp; omega
          clear ho
          go_enter Try.func27, Try.ntmps27
          go_wp2_with (go_at_call 37; refine hg.mono ?_; rintro e w' ⟨rfl, hq1, hq2⟩; have hrow := blk_grown (blk_new w 64 #[.int .i64 0, .int .i64 0]) hq2 (by omega); have r0 := blk_cell hrow 0 rfl; have r1 := blk_cell hrow 1 rfl; have r2 := blk_frozen hrow 0; have r3 := blk_frozen hrow 1; have hlw : w.heap.size < w'.heap.size := by (have := hq2.size; simp only [World.size_alloc] at this; omega))
          refine bodyPost_ret (results_pair rfl _ _ w.heap.size _ _ _ rfl (blk_alloc (blk_set (blk_set hrow 0 _) 1 _) _) Try.underlying64 rfl (by kernel_rfl)) rfl ?_
          exact ⟨rfl, rd_alloc (rd_other (rd_other hq1 (by omega) _ _) (by omega) _ _) _, Lib.grownBy_allocR (grown_set (grown_set (grown_new hq2) (Nat.le_refl _) _ _) (Nat.le_refl _) _ _) _⟩
        · have t2 : ((n : Int) % 2 == 1) = false := by simp; omega
          clear ho
          go_enter Try.func27, Try.ntmps27
          go_wp2_with (go_at_call 37; refine hg.mono ?_; rintro e w' ⟨rfl, hq1, hq2⟩; have hrow := blk_grown (blk_new w 64 #[.int .i64 0, .int .i64 0]) hq2 (by omega); have r0 := blk_cell hrow 0 rfl; have r1 := blk_cell hrow 1 rfl; have r2 := blk_frozen hrow 0; have r3 := blk_frozen hrow 1; have hlw : w.heap.size < w'.heap.size := by (have := hq2.size; simp only [World.size_alloc] at this; omega))
          refine bodyPost_ret (results_pair rfl _ _ w.heap.size _ _ _ rfl (blk_alloc (blk_set (blk_set hrow 0 _) 1 _) _) Try.underlying64 rfl (by kernel_rfl)) rfl ?_
          exact ⟨rfl, rd_alloc (rd_other (rd_other hq1 (by omega) _ _) (by omega) _ _) _, Lib.grownBy_allocR (grown_set (grown_set (grown_new hq2) (Nat.le_refl _) _ _) (Nat.le_refl _) _ _) _⟩
      · rw [if_neg (fun h => hl (hf.2 h))] at hr; subst hr
        by_cases ho : n % 2 = 1
        · have t2 : ((n : Int) % 2 == 1) = true := by simp; omega
          have HK := Lib.hid (show kindM n = 3 by rw [kindM, if_neg n0, if_neg n1, if_pos ho])
          clear ho hq0 hgf n0 n1 hf
          go_enter Try.func27, Try.ntmps27
          go_wp2_with (go_at_call 37; refine hg.mono ?_; rintro e w' ⟨rfl, hq1, hq2⟩; have hrow := blk_grown (blk_new w 64 #[.int .i64 0, .int .i64 0]) hq2 (by omega); have r0 := blk_cell hrow 0 rfl; have r1 := blk_cell hrow 1 rfl; have r2 := blk_frozen hrow 0; have r3 := blk_frozen hrow 1; have hlw : w.heap.size < w'.heap.size := by (have := hq2.size; simp only [World.size_alloc] at this; omega))
          refine bodyPost_ret (results_pair rfl _ _ w.heap.size _ _ _ rfl (blk_alloc (blk_set (blk_set hrow 0 _) 1 _) _) Try.underlying64 rfl (by kernel_rfl)) rfl ?_
          exact ⟨by rw [HK.out, HQ.out]; rfl, rd_alloc (rd_other (rd_other hq1 (by omega) _ _) (by omega) _ _) _, Lib.grownBy_allocR (grown_set (grown_set (grown_new hq2) (Nat.le_refl _) _ _) (Nat.le_refl _) _ _) _⟩
        · have t2 : ((n : Int) % 2 == 1) = false := by simp; omega
          have HK := Lib.hid (show kindM n = 2 by rw [kindM, if_neg n0, if_neg n1, if_neg ho])
          clear ho hq0 hgf n0 n1 hf
          go_enter Try.func27, Try.ntmps27
          go_wp2_with (go_at_call 37; refine hg.mono ?_; rintro e w' ⟨rfl, hq1, hq2⟩; have hrow := blk_grown (blk_new w 64 #[.int .i64 0, .int .i64 0]) hq2 (by omega); have r0 := blk_cell hrow 0 rfl; have r1 := blk_cell hrow 1 rfl; have r2 := blk_frozen hrow 0; have r3 := blk_frozen hrow 1; have hlw : w.heap.size < w'.heap.size := by (have := hq2.size; simp only [World.size_alloc] at this; omega))
          refine bodyPost_ret (results_pair rfl _ _ w.heap.size _ _ _ rfl (blk_alloc (blk_set (blk_set hrow 0 _) 1 _) _) Try.underlying64 rfl (by kernel_rfl)) rfl ?_
          exact ⟨by rw [HK.out, HQ.out]; rfl, rd_alloc (rd_other (rd_other hq1 (by omega) _ _) (by omega) _ _) _, Lib.grownBy_allocR (grown_set (grown_set (grown_new hq2) (Nat.le_refl _) _ _) (Nat.le_refl _) _ _) _⟩
  · rw [if_neg h0] at hr hq; subst hr hq
    have t1 : (e != 0) = true := by simpa using h0
    clear hgf
    go_enter Try.func27, Try.ntmps27
    go_wp2_with (go_at_call 37; refine hg.mono ?_; rintro e w' ⟨rfl, hq1, hq2⟩; have hrow := blk_grown (blk_new w 64 #[.int .i64 0, .int .i64 0]) hq2 (by omega); have r0 := blk_cell hrow 0 rfl; have r1 := blk_cell hrow 1 rfl; have r2 := blk_frozen hrow 0; have r3 := blk_frozen hrow 1)
    refine bodyPost_ret (results_pair rfl _ _ w.heap.size _ _ _ rfl (blk_set (blk_set hrow 0 _) 1 _) Try.underlying64 rfl (by kernel_rfl)) rfl ?_
    exact ⟨rfl, rd_other (rd_other hq1 (by omega) _ _) (by omega) _ _, grown_set (grown_set (grown_new hq2) (Nat.le_refl _) _ _) (Nat.le_refl _) _ _⟩
end Go.Proofs.Ytpkhbafgepdogaa
