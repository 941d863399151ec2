/-
  Layer 11 on lists of bytes: segments, what any bytes say as a journal, and the laws between them. No program text is walked here.
-/
import Derived.Test.YtjmciknelkodcaaJpMath
import Derived.Test.YtjmciknelkodcaaSpMath
namespace Go.Proofs.Ytjmciknelkodcaa

structure R11 where
  n : Int
  d : List UInt8
def okR (r : R11) : Prop := 1 ≤ r.n ∧ r.n ≤ 2000 ∧ r.d.length = 512
def sgR (k : Int) (l : List UInt8) : Nat → Option (List R11)
  | 0 => some []
  | n + 1 => match sgR k l n with
    | none => none
    | some L => if (rdP (l.drop (520 * n)) k).e = 0 then some (L ++ [⟨(rdP (l.drop (520 * n)) k).n, (rdP (l.drop (520 * n)) k).d⟩]) else none
structure S11 where
  p : Int
  L : List R11
  t : List UInt8
def fsS (s : List UInt8) : Option S11 :=
  if (rdH s).2 = 0 then
    match sgR (rdH s).1.c (s.drop 32) (rdH s).1.a.toNat with
    | none => none
    | some L => some ⟨(rdH s).1.b, L, s.drop (32 + 520 * (rdH s).1.a.toNat)⟩
  else none
def hasR (L : List R11) (n : Int) : Bool := L.any (fun r => decide (r.n = n))
def putR (L : List R11) (r : R11) : List R11 := if hasR L r.n = true then L else L ++ [r]
def addR (L M : List R11) : List R11 := M.foldl putR L
def pageR : List R11 → Int → List UInt8 × Bool
  | [], _ => ([], false)
  | r :: t, n => if r.n = n then (r.d, true) else pageR t n
structure Q11 where
  k : Nat
  p : Int
  L : List R11
def rdG : Nat → List UInt8 → Q11 → Q11 × List UInt8
  | 0, s, j => (j, s)
  | f + 1, s, j => match fsS s with
    | none => (j, s)
    | some g => if 0 < j.k ∧ g.p ≠ j.p then (j, s) else rdG f g.t ⟨j.k + 1, g.p, addR j.L g.L⟩
structure J11 where
  k : Nat
  p : Int
  L : List R11
  s : List UInt8
def endJ (x : Q11 × List UInt8) : J11 := ⟨x.1.k, x.1.p, x.1.L, if 0 < x.1.k then (namS x.2).1 else []⟩
def rdJ (s : List UInt8) : J11 := endJ (rdG (s.length + 1) s ⟨0, 0, []⟩)

theorem rdP_ok {l : List UInt8} {k : Int} (h : (rdP l k).e = 0) : okR ⟨(rdP l k).n, (rdP l k).d⟩ ∧ 520 ≤ l.length := by
  unfold rdP at h ⊢
  by_cases c1 : l.length < 520
  · rw [if_pos c1] at h; exact absurd h (by decide)
  · rw [if_neg c1] at h ⊢
    by_cases c2 : nmL (l.drop 516) = sumZ k (l.take 516)
    · rw [if_pos c2] at h ⊢
      by_cases c3 : okP (nmL l) = true
      · rw [if_pos c3] at h ⊢
        have := okP_iff.1 c3
        exact ⟨⟨this.1, this.2, by rw [List.length_take, List.length_drop]; omega⟩, by omega⟩
      · rw [if_neg c3] at h; exact absurd h (by decide)
    · rw [if_neg c2] at h; exact absurd h (by decide)
theorem rdH_ok {s : List UInt8} (h : (rdH s).2 = 0) : 32 ≤ s.length ∧ (0 ≤ (rdH s).1.a ∧ (rdH s).1.a ≤ 2000) ∧ (0 ≤ (rdH s).1.b ∧ (rdH s).1.b ≤ 2000) ∧ (0 ≤ (rdH s).1.c ∧ (rdH s).1.c ≤ 4294967295) := by
  unfold rdH at h ⊢
  by_cases c1 : s.length < 32
  · rw [if_pos c1] at h; exact absurd h (by decide)
  · rw [if_neg c1] at h ⊢
    by_cases c2 : s.take 8 = j8F ∧ (s.drop 24).take 8 = j8L
    · rw [if_pos c2] at h ⊢
      by_cases c3 : nmL (s.drop 20) = sumZ 7 (s.take 20)
      · rw [if_pos c3] at h ⊢
        by_cases c4 : okH (nmL (s.drop 8)) (nmL (s.drop 12)) (nmL (s.drop 16)) = true
        · rw [if_pos c4] at h ⊢
          have := okH_iff.1 c4
          exact ⟨by omega, ⟨this.1, this.2.1⟩, ⟨this.2.2.1, this.2.2.2.1⟩, this.2.2.2.2.1, this.2.2.2.2.2⟩
        · rw [if_neg c4] at h; exact absurd h (by decide)
      · rw [if_neg c3] at h; exact absurd h (by decide)
    · rw [if_neg c2] at h; exact absurd h (by decide)
theorem rdH_form {s : List UInt8} (h : (rdH s).2 = 0) : s.take 8 = j8F := by
  unfold rdH at h
  by_cases c1 : s.length < 32
  · rw [if_pos c1] at h; exact absurd h (by decide)
  · rw [if_neg c1] at h
    by_cases c2 : s.take 8 = j8F ∧ (s.drop 24).take 8 = j8L
    · exact c2.1
    · rw [if_neg c2] at h; exact absurd h (by decide)
theorem sgR_succ (k : Int) (l : List UInt8) (n : Nat) : sgR k l (n + 1) = match sgR k l n with
    | none => none
    | some L => if (rdP (l.drop (520 * n)) k).e = 0 then some (L ++ [⟨(rdP (l.drop (520 * n)) k).n, (rdP (l.drop (520 * n)) k).d⟩]) else none := rfl
theorem sgR_ok {k : Int} {l : List UInt8} : ∀ {n : Nat} {L : List R11}, sgR k l n = some L → L.length = n ∧ (∀ r ∈ L, okR r) ∧ 520 * n ≤ l.length := by
  intro n
  induction n with
  | zero => intro L h; cases h; exact ⟨rfl, (fun r hr => by cases hr), Nat.zero_le _⟩
  | succ n ih =>
    intro L h
    rw [sgR_succ] at h
    cases hp : sgR k l n with
    | none => rw [hp] at h; cases h
    | some M =>
      rw [hp] at h
      obtain ⟨h1, h2, h3⟩ := ih hp
      by_cases he : (rdP (l.drop (520 * n)) k).e = 0
      · simp only [if_pos he] at h
        cases h
        obtain ⟨o1, o2⟩ := rdP_ok he
        rw [List.length_drop] at o2
        refine ⟨by rw [List.length_append, h1]; rfl, fun r hr => ?_, by omega⟩
        rcases List.mem_append.1 hr with hr | hr
        · exact h2 r hr
        · rw [List.mem_singleton] at hr; rw [hr]; exact o1
      · simp only [if_neg he] at h; cases h
theorem sgR_none {k : Int} {l : List UInt8} {n : Nat} (h : sgR k l n = none) (m : Nat) : sgR k l (n + m) = none := by
  induction m with
  | zero => exact h
  | succ m ih => rw [← Nat.add_assoc, sgR_succ, ih]
theorem sgR_bad {k : Int} {l : List UInt8} {n m : Nat} (h : n < m) (he : (rdP (l.drop (520 * n)) k).e ≠ 0) : sgR k l m = none := by
  have : sgR k l (n + 1) = none := by
    rw [sgR_succ]
    cases sgR k l n with
    | none => rfl
    | some L => simp only [if_neg he]
  have := sgR_none this (m - (n + 1))
  rwa [show n + 1 + (m - (n + 1)) = m by omega] at this
theorem sgR_next {k : Int} {l : List UInt8} {n : Nat} {L : List R11} (h : sgR k l n = some L) (he : (rdP (l.drop (520 * n)) k).e = 0) : sgR k l (n + 1) = some (L ++ [⟨(rdP (l.drop (520 * n)) k).n, (rdP (l.drop (520 * n)) k).d⟩]) := by
  rw [sgR_succ, h]
  exact if_pos he
theorem sgR_short {k : Int} {l : List UInt8} {n : Nat} (h : l.length < 520 * n) : sgR k l n = none := by
  cases hp : sgR k l n with
  | none => rfl
  | some L => have := (sgR_ok hp).2.2; omega
theorem fsS_some {s : List UInt8} (h : (rdH s).2 = 0) {L : List R11} (hL : sgR (rdH s).1.c (s.drop 32) (rdH s).1.a.toNat = some L) : fsS s = some ⟨(rdH s).1.b, L, s.drop (32 + 520 * (rdH s).1.a.toNat)⟩ := by
  rw [fsS, if_pos h, hL]
theorem fsS_none {s : List UInt8} (h : (rdH s).2 ≠ 0 ∨ sgR (rdH s).1.c (s.drop 32) (rdH s).1.a.toNat = none) : fsS s = none := by
  rw [fsS]
  by_cases c : (rdH s).2 = 0
  · rw [if_pos c]
    rcases h with h | h
    · exact absurd c h
    · rw [h]
  · rw [if_neg c]
theorem fsS_ok {s : List UInt8} {g : S11} (h : fsS s = some g) : (0 ≤ g.p ∧ g.p ≤ 2000) ∧ g.L.length ≤ 2000 ∧ (∀ r ∈ g.L, okR r) ∧ g.t = s.drop (32 + 520 * g.L.length) ∧ 32 + 520 * g.L.length ≤ s.length := by
  unfold fsS at h
  by_cases c : (rdH s).2 = 0
  · rw [if_pos c] at h
    obtain ⟨h1, h2, h3, h4⟩ := rdH_ok c
    cases hp : sgR (rdH s).1.c (s.drop 32) (rdH s).1.a.toNat with
    | none => rw [hp] at h; cases h
    | some L =>
      rw [hp] at h
      cases h
      obtain ⟨o1, o2, o3⟩ := sgR_ok hp
      rw [List.length_drop] at o3
      exact ⟨h3, by show L.length ≤ 2000; omega, o2, by show s.drop _ = s.drop (32 + 520 * L.length); rw [o1], by show 32 + 520 * L.length ≤ _; omega⟩
  · rw [if_neg c] at h; cases h
theorem fsS_lt {s : List UInt8} {g : S11} (h : fsS s = some g) : g.t.length + 32 ≤ s.length := by
  obtain ⟨-, -, -, h1, h2⟩ := fsS_ok h
  rw [h1, List.length_drop]; omega

theorem hasR_app (L : List R11) (r : R11) (n : Int) : hasR (L ++ [r]) n = (hasR L n || decide (r.n = n)) := by
  unfold hasR; simp
theorem has_page (L : List R11) (n : Int) : (pageR L n).2 = hasR L n := by
  induction L with
  | nil => rfl
  | cons r t ih =>
    unfold hasR at ih ⊢
    rw [pageR, List.any_cons]
    by_cases h : r.n = n
    · rw [if_pos h, decide_eq_true h]; rfl
    · rw [if_neg h, decide_eq_false h, ih]; rfl
theorem addR_snoc (L : List R11) {M : List R11} {k : Nat} (h : k < M.length) : addR L (M.take (k + 1)) = putR (addR L (M.take k)) M[k] := by
  rw [List.take_succ_eq_append_getElem h, addR, addR, List.foldl_append]; rfl
theorem addR_all (L : List R11) {M : List R11} {k : Nat} (h : M.length ≤ k) : addR L (M.take k) = addR L M := by rw [List.take_of_length_le h]
theorem putR_len (L : List R11) (r : R11) : (putR L r).length ≤ L.length + 1 := by
  unfold putR; split
  · omega
  · rw [List.length_append]; exact Nat.le_refl _
theorem addR_len (M : List R11) : ∀ L : List R11, (addR L M).length ≤ L.length + M.length := by
  induction M with
  | nil => intro L; exact Nat.le_refl _
  | cons r t ih =>
    intro L
    have h1 := ih (putR L r)
    have h2 := putR_len L r
    show (addR (putR L r) t).length ≤ _
    rw [List.length_cons]; omega

theorem rdG_none {s : List UInt8} (h : fsS s = none) (f : Nat) (j : Q11) : rdG f s j = (j, s) := by
  cases f with
  | zero => rfl
  | succ f => rw [rdG, h]
theorem rdG_stop {s : List UInt8} {g : S11} (h : fsS s = some g) {j : Q11} (hj : 0 < j.k ∧ g.p ≠ j.p) (f : Nat) : rdG f s j = (j, s) := by
  cases f with
  | zero => rfl
  | succ f => rw [rdG, h]; exact if_pos hj
theorem rdG_step {s : List UInt8} {g : S11} (h : fsS s = some g) {j : Q11} (hj : ¬ (0 < j.k ∧ g.p ≠ j.p)) {f : Nat} (hf : s.length < f) : ∃ f', g.t.length < f' ∧ rdG f s j = rdG f' g.t ⟨j.k + 1, g.p, addR j.L g.L⟩ := by
  have hl := fsS_lt h
  match f, hf with
  | f + 1, hf => exact ⟨f, by omega, by rw [rdG, h]; exact if_neg hj⟩

/-! What is written. -/
def errR (k : Int) : List R11 → Int
  | [] => 0
  | r :: t => if (wrP r.n r.d k).2 = 0 then errR k t else (wrP r.n r.d k).2
def bytR (k : Int) : List R11 → List UInt8
  | [] => []
  | r :: t => (wrP r.n r.d k).1 ++ bytR k t
def ptR (L : List R11) (p k : Int) : List UInt8 × Int :=
  if (wrH L.length p k).2 = 0 then (if errR k L = 0 then ((wrH L.length p k).1 ++ bytR k L, 0) else ([], errR k L)) else ([], (wrH L.length p k).2)

theorem wrP_ok {n : Int} {d : List UInt8} {k : Int} (h : (wrP n d k).2 = 0) : okP n = true ∧ d.length = 512 ∧ (wrP n d k).1 = epL n d k := by
  unfold wrP at h ⊢
  by_cases c : okP n = true
  · rw [if_pos c] at h ⊢
    by_cases c2 : d.length = 512
    · rw [if_pos c2]; exact ⟨c, c2, rfl⟩
    · rw [if_neg c2] at h; exact absurd h (by decide)
  · rw [if_neg c] at h; exact absurd h (by decide)
theorem wrP_none {n : Int} {d : List UInt8} {k : Int} (h : (wrP n d k).2 ≠ 0) : (wrP n d k).1 = [] := by
  unfold wrP at h ⊢
  by_cases c : okP n = true
  · rw [if_pos c] at h ⊢
    by_cases c2 : d.length = 512
    · rw [if_pos c2] at h; exact absurd rfl h
    · rw [if_neg c2]
  · rw [if_neg c]
theorem wrH_ok {a b c : Int} (h : (wrH a b c).2 = 0) : okH a b c = true ∧ (wrH a b c).1 = enL a b c := by
  unfold wrH at h ⊢
  by_cases k : okH a b c = true
  · rw [if_pos k]; exact ⟨k, rfl⟩
  · rw [if_neg k] at h; exact absurd h (by decide)
theorem wrH_none {a b c : Int} (h : (wrH a b c).2 ≠ 0) : (wrH a b c).1 = [] := by
  unfold wrH at h ⊢
  by_cases k : okH a b c = true
  · rw [if_pos k] at h; exact absurd rfl h
  · rw [if_neg k]
theorem errR_all {k : Int} : ∀ {L : List R11}, errR k L = 0 → ∀ r ∈ L, (wrP r.n r.d k).2 = 0 := by
  intro L
  induction L with
  | nil => intro _ r hr; cases hr
  | cons r t ih =>
    intro h x hx
    rw [errR] at h
    by_cases c : (wrP r.n r.d k).2 = 0
    · rw [if_pos c] at h
      rcases List.mem_cons.1 hx with rfl | hx
      · exact c
      · exact ih h x hx
    · rw [if_neg c] at h; exact absurd h c
theorem bytR_app (k : Int) (A B : List R11) : bytR k (A ++ B) = bytR k A ++ bytR k B := by
  induction A with
  | nil => rfl
  | cons r t ih => rw [List.cons_append, bytR, bytR, ih, List.append_assoc]
theorem bytR_snoc (k : Int) {M : List R11} {i : Nat} (h : i < M.length) : bytR k (M.take (i + 1)) = bytR k (M.take i) ++ (wrP M[i].n M[i].d k).1 := by
  rw [List.take_succ_eq_append_getElem h, bytR_app, bytR, bytR, List.append_nil]
theorem errR_cons (k : Int) {M : List R11} {i : Nat} (h : i < M.length) : errR k (M.drop i) = if (wrP M[i].n M[i].d k).2 = 0 then errR k (M.drop (i + 1)) else (wrP M[i].n M[i].d k).2 := by
  rw [List.drop_eq_getElem_cons h, errR]
theorem wrP_len (n : Int) (d : List UInt8) (k : Int) : (wrP n d k).1.length ≤ 520 := by
  unfold wrP
  split
  · split
    · rename_i h; show (epL n d k).length ≤ 520; rw [epL_len]; omega
    · exact Nat.zero_le _
  · exact Nat.zero_le _
theorem bytR_le (k : Int) (L : List R11) : (bytR k L).length ≤ 520 * L.length := by
  induction L with
  | nil => exact Nat.zero_le _
  | cons r t ih =>
    have := wrP_len r.n r.d k
    rw [bytR, List.length_append, List.length_cons]; omega
theorem bytR_len {k : Int} {L : List R11} (h : ∀ r ∈ L, (wrP r.n r.d k).2 = 0) : (bytR k L).length = 520 * L.length := by
  induction L with
  | nil => rfl
  | cons r t ih =>
    have h1 := wrP_ok (h r (List.mem_cons_self ..))
    have h2 := ih fun x hx => h x (List.mem_cons_of_mem _ hx)
    rw [bytR, List.length_append, h1.2.2, epL_len, h1.2.1, List.length_cons, h2]; omega
theorem ptR_ok {L : List R11} {p k : Int} (h : (ptR L p k).2 = 0) : okH L.length p k = true ∧ (∀ r ∈ L, (wrP r.n r.d k).2 = 0) ∧ (ptR L p k).1 = enL L.length p k ++ bytR k L ∧ (ptR L p k).1.length = 32 + 520 * L.length := by
  unfold ptR at h ⊢
  by_cases c : (wrH L.length p k).2 = 0
  · rw [if_pos c] at h ⊢
    by_cases c2 : errR k L = 0
    · rw [if_pos c2]
      obtain ⟨h1, h2⟩ := wrH_ok c
      have h3 := errR_all c2
      refine ⟨h1, h3, by rw [h2], ?_⟩
      rw [List.length_append, h2, enL_len, bytR_len h3]
    · rw [if_neg c2] at h; exact absurd h c2
  · rw [if_neg c] at h; exact absurd h c
theorem ptR_len (L : List R11) (p k : Int) : (ptR L p k).1.length ≤ 32 + 520 * L.length := by
  unfold ptR
  split
  · split
    · rename_i c _
      rw [List.length_append, (wrH_ok c).2, enL_len]
      have := bytR_le k L
      omega
    · exact Nat.zero_le _
  · exact Nat.zero_le _
theorem bytR_drop {k : Int} {L : List R11} (h : ∀ r ∈ L, (wrP r.n r.d k).2 = 0) (m : List UInt8) {i : Nat} (hi : i ≤ L.length) : (bytR k L ++ m).drop (520 * i) = bytR k (L.drop i) ++ m := by
  have e : bytR k L ++ m = bytR k (L.take i) ++ (bytR k (L.drop i) ++ m) := by rw [← List.append_assoc, ← bytR_app, List.take_append_drop]
  have hl : (bytR k (L.take i)).length = 520 * i := by rw [bytR_len fun r hr => h r (List.mem_of_mem_take hr), List.length_take, Nat.min_eq_left hi]
  rw [e, List.drop_append_of_le_length (by omega), List.drop_of_length_le (by omega), List.nil_append]
theorem sgR_byt {k : Int} {L : List R11} (h : ∀ r ∈ L, (wrP r.n r.d k).2 = 0) (m : List UInt8) : ∀ {i : Nat}, i ≤ L.length → sgR k (bytR k L ++ m) i = some (L.take i) := by
  intro i
  induction i with
  | zero => intro _; rfl
  | succ i ih =>
    intro hi
    have hlt : i < L.length := by omega
    obtain ⟨o1, o2, o3⟩ := wrP_ok (h L[i] (List.getElem_mem hlt))
    have e : rdP ((bytR k L ++ m).drop (520 * i)) k = ⟨L[i].n, L[i].d, 0⟩ := by
      rw [bytR_drop h m (by omega), List.drop_eq_getElem_cons hlt, bytR, o3, List.append_assoc]
      exact rd_wrP k o1 o2 _
    rw [sgR_next (ih (by omega)) (by rw [e]), e, List.take_succ_eq_append_getElem hlt]
/-- A segment is read as it was written, whatever follows. -/
theorem fs_pt {L : List R11} {p k : Int} (h : (ptR L p k).2 = 0) (m : List UInt8) : fsS ((ptR L p k).1 ++ m) = some ⟨p, L, m⟩ := by
  obtain ⟨h1, h2, h3, h4⟩ := ptR_ok h
  have e := rd_wr h1 (bytR k L ++ m)
  rw [← List.append_assoc, ← h3] at e
  have e1 : (rdH ((ptR L p k).1 ++ m)).2 = 0 := by rw [e]
  have d32 : ((ptR L p k).1 ++ m).drop 32 = bytR k L ++ m := by
    rw [h3, List.append_assoc, List.drop_append_of_le_length (by rw [enL_len]; omega), List.drop_of_length_le (by rw [enL_len]; omega), List.nil_append]
  have e2 : sgR (rdH ((ptR L p k).1 ++ m)).1.c (((ptR L p k).1 ++ m).drop 32) (rdH ((ptR L p k).1 ++ m)).1.a.toNat = some L := by
    rw [d32, e]
    show sgR k (bytR k L ++ m) ((L.length : Int)).toNat = some L
    rw [Int.toNat_natCast, sgR_byt h2 m (Nat.le_refl _), List.take_length]
  rw [fsS_some e1 e2, e]
  show some (S11.mk p L (((ptR L p k).1 ++ m).drop (32 + 520 * ((L.length : Int)).toNat))) = _
  rw [Int.toNat_natCast, ← List.drop_drop, d32, bytR_drop h2 m (Nat.le_refl _), List.drop_length]
  rfl
/-- A proper beginning of a segment is none. -/
theorem fs_torn {L : List R11} {p k : Int} (h : (ptR L p k).2 = 0) {i : Nat} (hi : i < (ptR L p k).1.length) : fsS ((ptR L p k).1.take i) = none := by
  obtain ⟨h1, h2, h3, h4⟩ := ptR_ok h
  have hl : ((ptR L p k).1.take i).length = i := by rw [List.length_take]; omega
  by_cases c : i < 32
  · refine fsS_none (.inl ?_)
    rw [rdH, if_pos (by omega)]
    decide
  · refine fsS_none (.inr ?_)
    have e : (ptR L p k).1.take i = enL L.length p k ++ (bytR k L).take (i - 32) := by
      rw [h3, List.take_append, List.take_of_length_le (by rw [enL_len]; omega), enL_len]
    have e2 := rd_wr h1 ((bytR k L).take (i - 32))
    rw [← e] at e2
    rw [e2]
    refine sgR_short ?_
    show (((ptR L p k).1.take i).drop 32).length < 520 * ((L.length : Int)).toNat
    rw [List.length_drop, hl, Int.toNat_natCast]; omega
end Go.Proofs.Ytjmciknelkodcaa
