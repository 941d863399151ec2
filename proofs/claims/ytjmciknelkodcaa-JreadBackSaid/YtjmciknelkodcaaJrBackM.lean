/-
  Layer 11, journals of several segments on lists of bytes: they are read as they were written, whole or cut anywhere. No program text is walked here.
-/
import Derived.Test.YtjmciknelkodcaaJrMath
namespace Go.Proofs.Ytjmciknelkodcaa

def segB (p : Int) : Nat → List (List R11) → List UInt8
  | _, [] => []
  | i, x :: t => (ptR x p i).1 ++ segB p (i + 1) t
def segOk (p : Int) : Nat → List (List R11) → Prop
  | _, [] => True
  | i, x :: t => (ptR x p i).2 = 0 ∧ segOk p (i + 1) t
theorem segB_app (p : Int) (A B : List (List R11)) : ∀ i, segB p i (A ++ B) = segB p i A ++ segB p (i + A.length) B := by
  induction A with
  | nil => intro i; rfl
  | cons x t ih => intro i; rw [List.cons_append, segB, segB, ih, List.append_assoc, List.length_cons, show i + 1 + t.length = i + (t.length + 1) by omega]
theorem segOk_app (p : Int) (A B : List (List R11)) : ∀ i, segOk p i (A ++ B) ↔ segOk p i A ∧ segOk p (i + A.length) B := by
  induction A with
  | nil => intro i; simp [segOk]
  | cons x t ih => intro i; rw [List.cons_append, segOk, segOk, ih, List.length_cons, show i + 1 + t.length = i + (t.length + 1) by omega, and_assoc]
theorem segB_snoc (p : Int) {L : List (List R11)} {q : Nat} (h : q < L.length) : segB p 0 (L.take (q + 1)) = segB p 0 (L.take q) ++ (ptR L[q] p q).1 := by
  rw [List.take_succ_eq_append_getElem h, segB_app, segB, segB, List.append_nil, List.length_take, Nat.min_eq_left (by omega), Nat.zero_add]
theorem segOk_snoc {p : Int} {L : List (List R11)} {q : Nat} (h : q < L.length) (h1 : segOk p 0 (L.take q)) (h2 : (ptR L[q] p q).2 = 0) : segOk p 0 (L.take (q + 1)) := by
  rw [List.take_succ_eq_append_getElem h, segOk_app]
  refine ⟨h1, ?_⟩
  rw [segOk, segOk, List.length_take, Nat.min_eq_left (by omega), Nat.zero_add]
  exact ⟨h2, trivial⟩
theorem segOk_at {p : Int} {L : List (List R11)} {q : Nat} (h : q < L.length) (h1 : segOk p 0 L) : (ptR L[q] p q).2 = 0 := by
  have e : L = L.take q ++ (L[q] :: L.drop (q + 1)) := by rw [← List.drop_eq_getElem_cons h, List.take_append_drop]
  rw [e, segOk_app, segOk, List.length_take, Nat.min_eq_left (by omega), Nat.zero_add] at h1
  exact h1.2.1
theorem segOk_take {p : Int} {L : List (List R11)} (q : Nat) (h1 : segOk p 0 L) : segOk p 0 (L.take q) := by
  have e : L = L.take q ++ L.drop q := by rw [List.take_append_drop]
  rw [e, segOk_app] at h1
  exact h1.1
theorem segB_len (p : Int) {L : List (List R11)} (h : segOk p 0 L) {q : Nat} (hq : q < L.length) : (segB p 0 (L.take (q + 1))).length = (segB p 0 (L.take q)).length + 32 + 520 * L[q].length := by
  rw [segB_snoc p hq, List.length_append, (ptR_ok (segOk_at hq h)).2.2.2]; omega
theorem seg_read (p : Int) {m : List UInt8} (hm : fsS m = none) (L : List (List R11)) : ∀ (i f : Nat) (j : Q11), segOk p i L → (segB p i L ++ m).length < f → (j.k = 0 ∨ j.p = p) → ∃ j' : Q11, rdG f (segB p i L ++ m) j = (j', m) ∧ j'.k = j.k + L.length := by
  induction L with
  | nil => intro i f j _ _ _; exact ⟨j, by rw [segB, List.nil_append, rdG_none hm], rfl⟩
  | cons x t ih =>
    intro i f j h hf hj
    rw [segB, List.append_assoc] at hf ⊢
    rw [segOk] at h
    have f1 := fs_pt h.1 (segB p (i + 1) t ++ m)
    obtain ⟨f', hf', he⟩ := rdG_step (j := j) f1 (by rintro ⟨h1, h2⟩; rcases hj with hj | hj; · omega
                                                     · exact h2 hj.symm) hf
    obtain ⟨j', e1, e2⟩ := ih (i + 1) f' ⟨j.k + 1, p, addR j.L x⟩ h.2 hf' (.inr rfl)
    refine ⟨j', by rw [he]; exact e1, ?_⟩
    rw [e2, List.length_cons]; show j.k + 1 + t.length = _; omega
/-- Whole segments and what is none: that many, and the path in the rest. -/
theorem seg_rdJ {p : Int} {m : List UInt8} (hm : fsS m = none) {L : List (List R11)} (h : segOk p 0 L) : ∃ (p' : Int) (M : List R11), rdJ (segB p 0 L ++ m) = ⟨L.length, p', M, if 0 < L.length then (namS m).1 else []⟩ := by
  obtain ⟨j', e1, e2⟩ := seg_read p hm L 0 ((segB p 0 L ++ m).length + 1) ⟨0, 0, []⟩ h (by omega) (.inl rfl)
  refine ⟨j'.p, j'.L, ?_⟩
  have e3 : j'.k = L.length := by rw [e2]; show 0 + _ = _; omega
  rw [rdJ, e1, endJ]
  simp only [e3]

theorem pt_form {L : List R11} {p k : Int} (h : (ptR L p k).2 = 0) : (ptR L p k).1.take 8 = j8F := by
  obtain ⟨h1, h2, h3, h4⟩ := ptR_ok h
  have e := rd_wr h1 (bytR k L)
  rw [← h3] at e
  exact rdH_form (by rw [e])
theorem tr_form {p s : List UInt8} (h : trS p = (s, 0)) : s.take 8 = stF ∧ s.length = 24 + p.length ∧ nmL (s.drop 8) = p.length ∧ p.length ≤ 40 := by
  obtain ⟨h1, h2⟩ := tr_ok h
  have h3 := okS_iff.1 h1
  have e : s = stF ++ (txS p ++ (fourL (sumZ 13 (stF ++ txS p)).toNat ++ stL)) := by rw [h2, seS]; simp only [List.append_assoc]
  refine ⟨?_, ?_, ?_, h3.2⟩
  · rw [e]; rfl
  · rw [h2, seS_len, List.length_append, txS_len]
    show 8 + (4 + p.length) + 4 + 8 = _
    omega
  · have : s.drop 8 = txS p ++ (fourL (sumZ 13 (stF ++ txS p)).toNat ++ stL) := by rw [e]; rfl
    rw [this, nm_tx (by omega)]
theorem forms_apart : j8F ≠ stF := by decide
theorem fs_short {m : List UInt8} (h : m.length < 32) : fsS m = none := by
  refine fsS_none (.inl fun e => ?_)
  have := (rdH_ok e).1
  omega
theorem fs_other {m : List UInt8} (h : m.take 8 ≠ j8F) : fsS m = none := fsS_none (.inl fun e => h (rdH_form e))
theorem nam_short {m : List UInt8} (h : m.length < 24) : (namS m).1 = [] := by
  rw [named_none]
  intro p e
  have := (tr_form e).2.1
  omega
theorem nam_other {m : List UInt8} (h : m.take 8 ≠ stF) : (namS m).1 = [] := by
  rw [named_none]
  intro p e
  exact h (tr_form e).1
theorem take_take8 {s : List UInt8} {i : Nat} (h : 8 ≤ i) : (s.take i).take 8 = s.take 8 := by rw [List.take_take, Nat.min_eq_left h]
/-- A beginning of a segment, cut: no segment, and no trailer. -/
theorem cut_seg {L : List R11} {p k : Int} (h : (ptR L p k).2 = 0) {i : Nat} (hi : i < (ptR L p k).1.length) : fsS ((ptR L p k).1.take i) = none ∧ (namS ((ptR L p k).1.take i)).1 = [] := by
  refine ⟨fs_torn h hi, ?_⟩
  by_cases c : i < 24
  · exact nam_short (by rw [List.length_take]; omega)
  · refine nam_other ?_
    rw [take_take8 (by omega), pt_form h]
    exact forms_apart
/-- A trailer is no segment, nor is a part of it. -/
theorem cut_tr {p s : List UInt8} (h : trS p = (s, 0)) (i : Nat) : fsS (s.take i) = none := by
  by_cases c : i < 32
  · exact fs_short (by rw [List.length_take]; omega)
  · refine fs_other ?_
    rw [take_take8 (by omega), (tr_form h).1]
    exact fun e => forms_apart e.symm
theorem cut_nam {p s : List UInt8} (h : trS p = (s, 0)) {i : Nat} (hi : i < s.length) : (namS (s.take i)).1 = [] := by
  by_cases c : i < 24
  · exact nam_short (by rw [List.length_take]; omega)
  · rw [named_none]
    intro p' e
    have h1 := tr_form h
    have h2 := tr_form e
    have hl : (s.take i).length = i := by rw [List.length_take]; omega
    have e1 : (s.take i).drop 8 = (s.drop 8).take (i - 8) := by rw [List.drop_take]
    have e2 : nmL ((s.drop 8).take (i - 8)) = nmL (s.drop 8) := by
      rw [← nmL_take (s.drop 8) (by rw [List.length_drop]; omega), ← nmL_take ((s.drop 8).take (i - 8)) (by rw [List.length_take, List.length_drop]; omega), List.take_take, Nat.min_eq_left (by omega)]
    have e3 := h2.2.2.1
    rw [e1, e2, h1.2.2.1] at e3
    have e4 := h2.2.1
    have e5 := h1.2.1
    omega

/-- What stands behind the segments: a trailer, or nothing. -/
def tailOk (nm t : List UInt8) : Prop := (trS nm = (t, 0)) ∨ t = []
theorem tail_fs {nm t : List UInt8} (h : tailOk nm t) (i : Nat) : fsS (t.take i) = none := by
  rcases h with h | rfl
  · exact cut_tr h i
  · rw [List.take_nil]; exact fs_short (by decide)
theorem tail_fs' {nm t : List UInt8} (h : tailOk nm t) : fsS t = none := by
  have := tail_fs h t.length
  rwa [List.take_length] at this
/-- The whole journal. -/
theorem back_whole {p : Int} {nm t : List UInt8} (ht : tailOk nm t) {L : List (List R11)} (h : segOk p 0 L) :
    ∃ (p' : Int) (M : List R11) (X : List UInt8), rdJ (segB p 0 L ++ t) = ⟨L.length, p', M, X⟩ ∧ (nm ≠ [] → (X = nm ↔ 0 < L.length ∧ t ≠ [])) := by
  obtain ⟨p', M, e⟩ := seg_rdJ (tail_fs' ht) h
  refine ⟨p', M, _, e, fun hn => ?_⟩
  rcases ht with ht | rfl
  · have h1 := tr_form ht
    have h2 : t ≠ [] := by intro e; rw [e] at h1; have := h1.2.1; simp at this; omega
    by_cases c : 0 < L.length
    · rw [if_pos c, named_tr ht]; exact ⟨fun _ => ⟨c, h2⟩, fun _ => rfl⟩
    · rw [if_neg c]; exact ⟨fun e => absurd e.symm hn, fun e => absurd e.1 c⟩
  · rw [named_empty]
    refine ⟨fun e => ?_, fun e => absurd rfl e.2⟩
    exfalso
    split at e <;> exact hn e.symm
/-- A journal that is cut. -/
theorem back_cut {p : Int} {nm t : List UInt8} (ht : tailOk nm t) {L : List (List R11)} (h : segOk p 0 L) {q k : Nat} (hq : q ≤ L.length) (hk : k < (segB p 0 L ++ t).length) (h1 : (segB p 0 (L.take q)).length ≤ k)
    (h2 : ∀ hq' : q < L.length, k < (segB p 0 (L.take q)).length + 32 + 520 * L[q].length) : ∃ (p' : Int) (M : List R11), rdJ ((segB p 0 L ++ t).take k) = ⟨q, p', M, []⟩ := by
  have hlen : (L.take q).length = q := by rw [List.length_take, Nat.min_eq_left hq]
  obtain ⟨m, e, f1, f2⟩ : ∃ m, (segB p 0 L ++ t).take k = segB p 0 (L.take q) ++ m ∧ fsS m = none ∧ (namS m).1 = [] := by
    by_cases c : q < L.length
    · have e0 : L = L.take q ++ (L[q] :: L.drop (q + 1)) := by rw [← List.drop_eq_getElem_cons c, List.take_append_drop]
      have e1 : segB p 0 L = segB p 0 (L.take q) ++ ((ptR L[q] p q).1 ++ segB p (q + 1) (L.drop (q + 1))) := by
        conv => lhs; rw [e0]
        rw [segB_app, segB, hlen, Nat.zero_add]
      have h3 := segOk_at c h
      have h4 := (ptR_ok h3).2.2.2
      have h5 := h2 c
      refine ⟨(ptR L[q] p q).1.take (k - (segB p 0 (L.take q)).length), ?_, cut_seg h3 (by omega)⟩
      rw [e1, List.append_assoc, List.append_assoc, List.take_append, List.take_of_length_le h1, List.take_append, show k - (segB p 0 (L.take q)).length - (ptR L[q] p q).1.length = 0 by omega, List.take_zero, List.append_nil]
    · have e0 : L.take q = L := List.take_of_length_le (by omega)
      rw [e0] at h1 ⊢
      rw [List.length_append] at hk
      refine ⟨t.take (k - (segB p 0 L).length), ?_, tail_fs ht _, ?_⟩
      · rw [List.take_append, List.take_of_length_le h1]
      · rcases ht with ht | rfl
        · exact cut_nam ht (by omega)
        · simp at hk; omega
  obtain ⟨p', M, e2⟩ := seg_rdJ f1 (segOk_take q h)
  refine ⟨p', M, ?_⟩
  rw [e, e2, hlen, f2]
  split <;> rfl
theorem back_none {p : Int} {L : List (List R11)} (h : (segB p 0 L).length = 0) (ho : segOk p 0 L) : L = [] := by
  cases L with
  | nil => rfl
  | cons x t =>
    rw [segB, List.length_append, (ptR_ok ho.1).2.2.2] at h
    omega
/-- A journal that is cut, or nothing at all. -/
theorem back_end {p : Int} {nm t : List UInt8} (ht : tailOk nm t) {L : List (List R11)} (h : segOk p 0 L) {q k : Nat} (hq : q ≤ L.length ∧ (segB p 0 (L.take q)).length ≤ k ∧ ∀ hq' : q < L.length, k < (segB p 0 (L.take q)).length + 32 + 520 * L[q].length)
    (hk : k < (segB p 0 L ++ t).length ∨ (segB p 0 L ++ t).length = 0) : ∃ (p' : Int) (M : List R11), rdJ ((segB p 0 L ++ t).take k) = ⟨q, p', M, []⟩ := by
  rcases hk with hk | hk
  · exact back_cut ht h hq.1 hk hq.2.1 hq.2.2
  · rw [List.length_append] at hk
    have e1 := back_none (by omega) h
    subst e1
    have hq0 : q = 0 := by have := hq.1; simp at this; omega
    subst hq0
    have e2 : t = [] := List.eq_nil_of_length_eq_zero (by omega)
    subst e2
    obtain ⟨p', M, e⟩ := seg_rdJ (fs_short (m := []) (by decide)) h
    refine ⟨p', M, ?_⟩
    have e3 : (segB p 0 [] ++ ([] : List UInt8)).take k = segB p 0 [] ++ [] := by simp [segB]
    rw [e3, e]
    rfl
end Go.Proofs.Ytjmciknelkodcaa
