/-
  Layer 6, truth values: Truth, Of, Not, And, Or and the document's answers for them: each returns its plain function and changes nothing that was there. Condition: none.
-/
import Derived.Test.YtadbmjmikoggbaaProg
import Derived.WalkKit
import Derived.Lib.Hide
import Derived.Deep.QuietTactic
import Derived.BigQuiet
import Derived.Below
import Derived.Deep.Light
import Derived.Handy
import Derived.KernelRfl
import Derived.Deep.RegionHeld3
import Derived.Laws.Rows
namespace Go.Proofs.Ytadbmjmikoggbaa
open Go.RowKit

def notT (t : Int) : Int := if t = 0 then 1 else if t = 1 then 0 else 2
def andT (a b : Int) : Int := if a = 0 ∨ b = 0 then 0 else if a = 1 ∧ b = 1 then 1 else 2
def orT (a b : Int) : Int := notT (andT (notT a) (notT b))
def cutT (t : Int) : Int := if t = 0 ∨ t = 1 then t else 2
/-- A truth as a value: its kind and its number. -/
def ofK (t : Int) : Int := if t = 0 ∨ t = 1 then 1 else 0
def ofN (t : Int) : Int := if t = 0 ∨ t = 1 then t else 0
/-- The truth of a value, and the error. -/
def truN (k n : Int) : Int := if k = 0 then 2 else if k = 1 then (if n = 0 then 0 else 1) else 0
def truE (k : Int) : Int := if k = 0 then 0 else if k = 1 then 0 else 14

theorem lg_ret {k : IntKind} {a b : Int} (h : a = b) : Ending.returned (.int k a) = .returned (.int k b) := by rw [h]
theorem lg_ret2 {k k' : IntKind} {a b a' b' : Int} (h : a = b) (h' : a' = b') : Ending.returned (.tuple #[.int k a, .int k' a']) = .returned (.tuple #[.int k b, .int k' b']) := by rw [h, h']
theorem blw1 (w : World) (o : Obj) : Below w.heap.size w (w.alloc o) := (Below.refl _ _).alloc (Nat.le_refl _) _
theorem blw2 (w : World) (o o' : Obj) : Below w.heap.size w ((w.alloc o).alloc o') := (blw1 w o).alloc (by simp) _

theorem truthOf_any (b : Bool) (w : World) : Calls Try.prog 32 #[.bool b] w fun e w' => e = .returned (.int .i64 (if b then 1 else 0)) ∧ w = w' := by
  cases b
  all_goals
    go_enter Try.func32, Try.ntmps32
    go_wp2
    go_ret
    exact ⟨rfl, rfl⟩

theorem not_any (t : Int) (w : World) : Calls Try.prog 14 #[.int .i64 t] w fun e w' => e = .returned (.int .i64 (notT t)) ∧ w = w' := by
  obtain ⟨r, hr⟩ : ∃ r, r = notT t := ⟨_, rfl⟩
  rw [← hr]
  have HR := Lib.hid hr; clear hr
  go_enter Try.func14, Try.ntmps14
  go_wp2
  all_goals (go_ret; refine ⟨lg_ret ?_, rfl⟩; rw [HR.out, notT]; clear HR; simp_all)
theorem and_any (a b : Int) (w : World) : Calls Try.prog 16 #[.int .i64 a, .int .i64 b] w fun e w' => e = .returned (.int .i64 (andT a b)) ∧ w = w' := by
  obtain ⟨r, hr⟩ : ∃ r, r = andT a b := ⟨_, rfl⟩
  rw [← hr]
  have HR := Lib.hid hr; clear hr
  go_enter Try.func16, Try.ntmps16
  go_wp2
  all_goals (go_ret; refine ⟨lg_ret ?_, rfl⟩; rw [HR.out, andT]; clear HR; simp_all)

theorem or_any (a b : Int) (w : World) : Calls Try.prog 18 #[.int .i64 a, .int .i64 b] w fun e w' => e = .returned (.int .i64 (orT a b)) ∧ w = w' := by
  obtain ⟨x, hx⟩ : ∃ x, x = notT a := ⟨_, rfl⟩
  obtain ⟨y, hy⟩ : ∃ y, y = notT b := ⟨_, rfl⟩
  obtain ⟨z, hz⟩ : ∃ z, z = andT x y := ⟨_, rfl⟩
  obtain ⟨r, hr⟩ : ∃ r, r = notT z := ⟨_, rfl⟩
  have HO := Lib.hid (show orT a b = r by rw [orT, hr, hz, hx, hy])
  have HX := Lib.hid hx; have HY := Lib.hid hy; have HZ := Lib.hid hz; have HR := Lib.hid hr; clear hx hy hz hr
  rw [HO.out]
  go_enter Try.func18, Try.ntmps18
  go_wp2_with (first | (go_at_call 14; refine (not_any _ _).mono ?_; (first | rw [← HX.out] | rw [← HY.out] | rw [← HR.out]); rintro e w' ⟨rfl, rfl⟩) | (go_at_call 16; refine (and_any _ _ _).mono ?_; rw [← HZ.out]; rintro e w' ⟨rfl, rfl⟩))
  go_ret
  exact ⟨rfl, rfl⟩

theorem rcut_any (t : Int) (w : World) : Calls Try.prog 34 #[.int .i64 t] w fun e w' => e = .returned (.int .i64 (cutT t)) ∧ w = w' := by
  obtain ⟨r, hr⟩ : ∃ r, r = cutT t := ⟨_, rfl⟩
  rw [← hr]
  have HR := Lib.hid hr; clear hr
  go_enter Try.func34, Try.ntmps34
  go_wp2
  all_goals (go_ret; refine ⟨lg_ret ?_, rfl⟩; rw [HR.out, cutT]; clear HR; simp_all)

theorem cut_cases (t : Int) : cutT t = 0 ∧ t = 0 ∨ cutT t = 1 ∧ t = 1 ∨ cutT t = 2 ∧ t ≠ 0 ∧ t ≠ 1 := by
  unfold cutT; split <;> omega
theorem rand_any (a b : Int) (w : World) : Calls Try.prog 17 #[.int .i64 a, .int .i64 b] w fun e w' => e = .returned (.int .i64 (andT a b)) ∧ w = w' := by
  obtain ⟨x, hx⟩ : ∃ x, x = cutT a := ⟨_, rfl⟩
  obtain ⟨y, hy⟩ : ∃ y, y = cutT b := ⟨_, rfl⟩
  obtain ⟨r, hr⟩ : ∃ r, r = andT a b := ⟨_, rfl⟩
  rw [← hr]
  have HX := Lib.hid hx; have HY := Lib.hid hy; have HR := Lib.hid hr; clear hx hy hr
  go_enter Try.func17, Try.ntmps17
  go_wp2_with (go_at_call 34; refine (rcut_any _ _).mono ?_; (first | rw [← HX.out] | rw [← HY.out]); rintro e w' ⟨rfl, rfl⟩)
  all_goals (go_ret; refine ⟨lg_ret ?_, rfl⟩; rw [HR.out, andT]; have h1 := cut_cases a; have h2 := cut_cases b; rw [← HX.out] at h1; rw [← HY.out] at h2; clear HR HX HY; simp only [beq_iff_eq, bne_iff_ne, beq_eq_false_iff_ne, ne_eq] at *)
  all_goals (split <;> (try split) <;> omega)

theorem rnot_any (t : Int) (w : World) : Calls Try.prog 15 #[.int .i64 t] w fun e w' => e = .returned (.int .i64 (notT t)) ∧ Below w.heap.size w w' := by
  obtain ⟨x, hx⟩ : ∃ x, x = cutT t := ⟨_, rfl⟩
  obtain ⟨r, hr⟩ : ∃ r, r = notT t := ⟨_, rfl⟩
  rw [← hr]
  have hc := cut_cases t
  rw [← hx] at hc
  have HX := Lib.hid hx; have HR := Lib.hid hr; clear hx hr
  rcases hc with ⟨rfl, h⟩ | ⟨rfl, h⟩ | ⟨rfl, h, h'⟩
  · obtain rfl : r = 1 := by rw [HR.out, h]; rfl
    clear HR h
    go_enter Try.func15, Try.ntmps15
    go_wp2_with (go_at_call 34; refine (rcut_any _ _).mono ?_; rw [← HX.out]; rintro e w' ⟨rfl, rfl⟩)
    go_ret
    exact ⟨rfl, blw1 _ _⟩
  · obtain rfl : r = 0 := by rw [HR.out, h]; rfl
    clear HR h
    go_enter Try.func15, Try.ntmps15
    go_wp2_with (go_at_call 34; refine (rcut_any _ _).mono ?_; rw [← HX.out]; rintro e w' ⟨rfl, rfl⟩)
    go_ret
    exact ⟨rfl, blw1 _ _⟩
  · obtain rfl : r = 2 := by rw [HR.out, notT, if_neg h, if_neg h']
    clear HR h h'
    go_enter Try.func15, Try.ntmps15
    go_wp2_with (go_at_call 34; refine (rcut_any _ _).mono ?_; rw [← HX.out]; rintro e w' ⟨rfl, rfl⟩)
    go_ret
    exact ⟨rfl, blw1 _ _⟩

/-- Block g holds these cells. -/
def Blk (w : World) (g : Nat) (t : TypeId) (cs : Array Value) : Prop := w.heap[g]? = some (.cells cs t (0, 0))
theorem blk_new (w : World) (t : TypeId) (cs : Array Value) : Blk (w.alloc (.cells cs t)) w.heap.size t cs := heap_alloc_new _ _
theorem blk_at {w : World} {t : TypeId} {cs : Array Value} {g : Nat} (h : g = w.heap.size) : Blk (w.alloc (.cells cs t)) g t cs := by subst h; exact blk_new _ _ _
theorem blk_set {w : World} {g : Nat} {t : TypeId} {cs : Array Value} (h : Blk w g t cs) (i : Nat) (v : Value) : Blk (w.setCell ⟨g, i, none⟩ v) g t (cs.setIfInBounds i v) := by
  unfold Blk at *
  simp [World.setCell, Array.getElem?_modify, h]
theorem blk_other {w : World} {g : Nat} {t : TypeId} {cs : Array Value} (h : Blk w g t cs) {g' : Nat} (hne : g ≠ g') (i : Nat) (v : Value) : Blk (w.setCell ⟨g', i, none⟩ v) g t cs := (Below.heap_setCell w ⟨g', i, none⟩ v g hne).trans h
theorem blk_lt {w : World} {g : Nat} {t : TypeId} {cs : Array Value} (h : Blk w g t cs) : g < w.heap.size := (Array.getElem?_eq_some_iff.1 h).1
theorem blk_below {w w' : World} {g : Nat} {t : TypeId} {cs : Array Value} (h : Blk w g t cs) (hb : Below w.heap.size w w') : Blk w' g t cs := (hb.block g (blk_lt h)).trans h
theorem blk_alloc {w : World} {g : Nat} {t : TypeId} {cs : Array Value} (h : Blk w g t cs) (o : Obj) : Blk (w.alloc o) g t cs := blk_below h (blw1 _ _)
theorem blk_cell {w : World} {g : Nat} {t : TypeId} {cs : Array Value} (h : Blk w g t cs) (i : Nat) {v : Value} (hv : cs[i]? = some v) : w.cell? ⟨g, i, none⟩ = some v := by
  unfold Blk at h
  simp [World.cell?, h, hv]
theorem blk_frozen {w : World} {g : Nat} {t : TypeId} {cs : Array Value} (h : Blk w g t cs) (i : Nat) : w.frozen? ⟨g, i, none⟩ = false := by
  unfold Blk at h
  simp [World.frozen?, h]
theorem results_pair {P : Program} {fn : Func} {p u : Tmp} {ty : TypeId} (h : fn.results = #[.cell p ty, .tmp u]) (tmps : Array Value) (w : World) (g : Nat) (t : TypeId) (cs : Array Value) (d : TypeDesc)
    (hp : tmps.getD p undef = .pointer (some ⟨g, 0, none⟩)) (hg : Blk w g t cs)
    (hu : P.underlying ty = some d) (hd : (match d with | .struct _ | .array _ _ => true | _ => false) = true) (hi : (P.info? ty).map (·.size) = some cs.size) :
    (results fn tmps).run P w = .ok (.tuple #[.agg cs, tmps.getD u undef]) w := by
  have hp' : tmps[p]?.getD undef = .pointer (some ⟨g, 0, none⟩) := by simpa using hp
  have hl := run_loadVar_row (P := P) w g t ty cs (0, 0) d hg hu hd hi
  simp [results, h, hp', asAddr, hl]
/-- A block of our own at its place: a world that has grown by it and by what came behind. -/
theorem blw_set {w w' : World} (h : Below w.heap.size w w') {g : Nat} (hg : w.heap.size ≤ g) (i : Nat) (v : Value) : Below w.heap.size w (w'.setCell ⟨g, i, none⟩ v) := h.setCell (p := ⟨g, i, none⟩) hg v
theorem blw_new {w w' : World} {o : Obj} (h : Below (w.alloc o).heap.size (w.alloc o) w') : Below w.heap.size w w' := (blw1 w o).trans (h.mono (by simp))

theorem lnum_any (n : Int) (w : World) : Calls Try.prog 33 #[.int .i64 n] w fun e w' => e = .returned (.agg #[.int .i64 1, .int .i64 n, .string ⟨#[]⟩]) ∧ Below w.heap.size w w' := by
  go_enter Try.func33, Try.ntmps33
  go_wp2
  refine bodyPost_ret (results_cell_row rfl _ _ w.heap.size _ _ _ _ rfl (blk_new _ _ _) Try.underlying23 rfl (by kernel_rfl)) rfl ?_
  exact ⟨rfl, blw1 _ _⟩
theorem ltext_any (s : ByteArray) (w : World) : Calls Try.prog 50 #[.string s] w fun e w' => e = .returned (.agg #[.int .i64 2, .int .i64 0, .string s]) ∧ Below w.heap.size w w' := by
  go_enter Try.func50, Try.ntmps50
  go_wp2
  refine bodyPost_ret (results_cell_row rfl _ _ w.heap.size _ _ _ _ rfl (blk_new _ _ _) Try.underlying23 rfl (by kernel_rfl)) rfl ?_
  exact ⟨rfl, blw1 _ _⟩
theorem lof_any (t : Int) (w : World) : Calls Try.prog 12 #[.int .i64 t] w fun e w' => e = .returned (.agg #[.int .i64 (ofK t), .int .i64 (ofN t), .string ⟨#[]⟩]) ∧ Below w.heap.size w w' := by
  obtain ⟨k, hk⟩ : ∃ k, k = ofK t := ⟨_, rfl⟩
  obtain ⟨n, hn⟩ : ∃ n, n = ofN t := ⟨_, rfl⟩
  rw [← hk, ← hn]
  by_cases h : t = 0 ∨ t = 1
  · have hb : (t == 0) = true ∨ (t == 0) = false ∧ (t == 1) = true := by rcases h with rfl | rfl <;> simp
    rw [ofK, if_pos h] at hk; rw [ofN, if_pos h] at hn; subst hk hn
    clear h
    rcases hb with t1 | ⟨t1, t2⟩
    all_goals
      go_enter Try.func12, Try.ntmps12
      go_wp2_with (go_at_call 33; refine (lnum_any _ _).mono ?_; rintro e w' ⟨rfl, hb⟩; have hrow := blk_below (blk_new w 23 #[.int .i64 0, .int .i64 0, .string ⟨#[]⟩]) hb; have f0 := blk_frozen hrow 0; have f1 := blk_frozen hrow 1; have f2 := blk_frozen hrow 2; have c0 := blk_cell hrow 0 rfl; have c1 := blk_cell hrow 1 rfl; have c2 := blk_cell hrow 2 rfl; have HB := Lib.hid (blw_new hb); clear hb)
      refine bodyPost_ret (results_cell_row rfl _ _ w.heap.size _ _ _ _ rfl (blk_set (blk_set (blk_set hrow 0 _) 1 _) 2 _) Try.underlying23 rfl (by kernel_rfl)) rfl ?_
      exact ⟨rfl, blw_set (blw_set (blw_set HB.out (Nat.le_refl _) _ _) (Nat.le_refl _) _ _) (Nat.le_refl _) _ _⟩
  · have t1 : (t == 0) = false := by simp; omega
    have t2 : (t == 1) = false := by simp; omega
    rw [ofK, if_neg h] at hk; rw [ofN, if_neg h] at hn; subst hk hn
    clear h
    go_enter Try.func12, Try.ntmps12
    go_wp2
    refine bodyPost_ret (results_cell_row rfl _ _ w.heap.size _ _ _ _ rfl (blk_new _ _ _) Try.underlying23 rfl (by kernel_rfl)) rfl ?_
    exact ⟨rfl, blw1 _ _⟩
theorem rof_any (t : Int) (w : World) : Calls Try.prog 13 #[.int .i64 t] w fun e w' => e = .returned (.agg #[.int .i64 (ofK t), .int .i64 (ofN t), .string ⟨#[]⟩]) ∧ Below w.heap.size w w' := by
  obtain ⟨k, hk⟩ : ∃ k, k = ofK t := ⟨_, rfl⟩
  obtain ⟨n, hn⟩ : ∃ n, n = ofN t := ⟨_, rfl⟩
  rw [← hk, ← hn]
  by_cases h : t = 0 ∨ t = 1
  · have hb : (t == 0) = true ∨ (t == 0) = false ∧ (t == 1) = true := by rcases h with rfl | rfl <;> simp
    rw [ofK, if_pos h] at hk; rw [ofN, if_pos h] at hn; subst hk hn
    clear h
    rcases hb with t1 | ⟨t1, t2⟩
    all_goals
      go_enter Try.func13, Try.ntmps13
      go_wp2
      refine bodyPost_ret (results_cell_row rfl _ _ w.heap.size _ _ _ _ rfl (blk_new _ _ _) Try.underlying23 rfl (by kernel_rfl)) rfl ?_
      exact ⟨rfl, blw1 _ _⟩
  · have t1 : (t == 0) = false := by simp; omega
    have t2 : (t == 1) = false := by simp; omega
    rw [ofK, if_neg h] at hk; rw [ofN, if_neg h] at hn; subst hk hn
    clear h
    go_enter Try.func13, Try.ntmps13
    go_wp2
    refine bodyPost_ret (results_cell_row rfl _ _ w.heap.size _ _ _ _ rfl (blk_new _ _ _) Try.underlying23 rfl (by kernel_rfl)) rfl ?_
    exact ⟨rfl, blw1 _ _⟩
theorem ror_any (a b : Int) (w : World) : Calls Try.prog 19 #[.int .i64 a, .int .i64 b] w fun e w' => e = .returned (.int .i64 (orT a b)) ∧ Below w.heap.size w w' := by
  obtain ⟨x, hx⟩ : ∃ x, x = notT a := ⟨_, rfl⟩
  obtain ⟨y, hy⟩ : ∃ y, y = notT b := ⟨_, rfl⟩
  obtain ⟨z, hz⟩ : ∃ z, z = andT x y := ⟨_, rfl⟩
  obtain ⟨r, hr⟩ : ∃ r, r = notT z := ⟨_, rfl⟩
  have HO := Lib.hid (show orT a b = r by rw [orT, hr, hz, hx, hy])
  have HX := Lib.hid hx; have HY := Lib.hid hy; have HZ := Lib.hid hz; have HR := Lib.hid hr; clear hx hy hz hr
  rw [HO.out]
  go_enter Try.func19, Try.ntmps19
  go_wp2_with fail
  refine (rnot_any a _).mono ?_
  rw [← HX.out]; rintro e w1 ⟨rfl, b1⟩
  go_wp2_with fail
  refine (rnot_any b _).mono ?_
  rw [← HY.out]; rintro e w2 ⟨rfl, b2⟩
  go_wp2_with fail
  refine (rand_any x y _).mono ?_
  rw [← HZ.out]; rintro e w3 ⟨rfl, rfl⟩
  go_wp2_with fail
  refine (rnot_any z _).mono ?_
  rw [← HR.out]; rintro e w4 ⟨rfl, b4⟩
  go_wp2_with fail
  go_ret
  exact ⟨rfl, (b1.trans (b2.mono b1.size)).trans (b4.mono (Nat.le_trans b1.size b2.size))⟩
theorem truth_any (k n : Int) (s : ByteArray) (w : World) : Calls Try.prog 10 #[.agg #[.int .i64 k, .int .i64 n, .string s]] w fun e w' => e = .returned (.tuple #[.int .i64 (truN k n), .int .i64 (truE k)]) ∧ Below w.heap.size w w' := by
  obtain ⟨r, hr⟩ : ∃ r, r = truN k n := ⟨_, rfl⟩
  obtain ⟨q, hq⟩ : ∃ q, q = truE k := ⟨_, rfl⟩
  rw [← hr, ← hq]
  have HR := Lib.hid hr; have HQ := Lib.hid hq; clear hr hq
  go_enter Try.func10, Try.ntmps10
  go_wp2_with (go_at_call 32; refine (truthOf_any _ _).mono ?_; rintro e w' ⟨rfl, rfl⟩)
  all_goals (go_ret2; refine ⟨lg_ret2 ?_ ?_, blw1 _ _⟩ <;> first | rw [HR.out, truN] | rw [HQ.out, truE])
  all_goals (clear HR HQ; simp_all)
theorem rtruth_any (k n : Int) (s : ByteArray) (w : World) : Calls Try.prog 11 #[.agg #[.int .i64 k, .int .i64 n, .string s]] w fun e w' => e = .returned (.tuple #[.int .i64 (truN k n), .int .i64 (truE k)]) ∧ Below w.heap.size w w' := by
  obtain ⟨r, hr⟩ : ∃ r, r = truN k n := ⟨_, rfl⟩
  obtain ⟨q, hq⟩ : ∃ q, q = truE k := ⟨_, rfl⟩
  rw [← hr, ← hq]
  have HR := Lib.hid hr; have HQ := Lib.hid hq; clear hr hq
  go_enter Try.func11, Try.ntmps11
  go_wp2
  all_goals (go_ret2; refine ⟨lg_ret2 ?_ ?_, blw1 _ _⟩ <;> first | rw [HR.out, truN] | rw [HQ.out, truE])
  all_goals (clear HR HQ; simp_all)
end Go.Proofs.Ytadbmjmikoggbaa
