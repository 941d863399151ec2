/-
  Layer 7: what a disk's parts have to do with one another: what is seen is what is durable with all that waits behind it; a number has one path. It holds of a new disk and stays through every step. No program text is walked here.
  Layer 7: what a disk's parts have to do with one another stays through every step. No program text is walked here.
  Layer 7: what has been made sure is there behind every later step that has to do with other files, and behind a loss of power. No program text is walked here.
  The statement DiskSure as a walk: it returns true for every steps, name and choices, and changes nothing that was there.
  The statement DiskSure as a walk: it returns true for every steps, name and choices, and changes nothing that was there.
-/
import Derived.Test.YtkfncnpeockiaaaGreatDoorMg28
import Derived.Test.YtkfncnpeockiaaaGreatDoorMg29
import Derived.Test.YtkfncnpeockiaaaGreatDoorMg32
namespace Go.Proofs.YtkfncnpeockiaaaGreatDoor
open Go.RowKit

/-- What a change does to the bytes of file i. -/
def bytC (i : Nat) (b : List UInt8) : Chg → List UInt8
  | .write j o d => if j = i then overL b o d else b
  | .trunc j z => if j = i then resizeL b z else b
  | _ => b
def occ (S : DS) (nm : List UInt8) (i : Nat) : Prop := (∃ s, (nm, i) ∈ S.dirs s) ∨ Chg.create nm i ∈ S.pend
def filC : Chg → Option Nat
  | .write i _ _ => some i
  | .trunc i _ => some i
  | _ => none
structure WS (S : DS) : Prop where
  d : S.pend.foldl qDir (S.dirs true) = S.dirs false
  b : ∀ p, p ∈ S.dirs false → S.pend.foldl (bytC p.2) (S.con true p.2) = S.con false p.2
  u : ∀ nm nm' i, occ S nm i → occ S nm' i → nm = nm'
  n : ∀ nm i, occ S nm i → i < S.nf
  w : ∀ c, c ∈ S.pend → ∀ i, filC c = some i → i < S.nf
theorem ws_of {S T : DS} (h : WS S) (e1 : T.dirs = S.dirs) (e2 : T.con = S.con) (e3 : T.pend = S.pend) (e4 : T.nf = S.nf) : WS T := by
  obtain ⟨r, d, c, n, p, o, f, x, y⟩ := S
  obtain ⟨r', d', c', n', p', o', f', x', y'⟩ := T
  simp only at e1 e2 e3 e4
  subst e1 e2 e3 e4
  exact ⟨h.d, h.b, h.u, h.n, h.w⟩
theorem byt_none {i : Nat} {l : List Chg} (h : ∀ c, c ∈ l → filC c ≠ some i) (b : List UInt8) : l.foldl (bytC i) b = b := by
  induction l generalizing b with
  | nil => rfl
  | cons c t ih =>
    rw [List.foldl_cons]
    have e : bytC i b c = b := by
      have := h c (List.mem_cons_self ..)
      cases c with
      | create _ _ => rfl
      | remove _ => rfl
      | write j o d => exact if_neg (fun e => this (by rw [e]; rfl))
      | trunc j z => exact if_neg (fun e => this (by rw [e]; rfl))
    rw [e]
    exact ih (fun x hx => h x (List.mem_cons_of_mem _ hx)) b
theorem mem_del {l : List (List UInt8 × Nat)} {p : List UInt8} {q : List UInt8 × Nat} (h : q ∈ delL l p) : q ∈ l := (List.mem_filter.1 h).1
theorem ws_create {S : DS} (h : WS S) (p : List UInt8) : WS (perfS (.create p S.nf) (newFile S)) := by
  have hp : (perfS (.create p S.nf) (newFile S)).pend = S.pend ++ [.create p S.nf] := rfl
  have hd0 : (perfS (.create p S.nf) (newFile S)).dirs false = putL (S.dirs false) p S.nf := rfl
  have hd1 : (perfS (.create p S.nf) (newFile S)).dirs true = S.dirs true := rfl
  have hc : ∀ s i, (perfS (.create p S.nf) (newFile S)).con s i = if i = S.nf then [] else S.con s i := fun s i => rfl
  have hocc : ∀ nm i, occ (perfS (.create p S.nf) (newFile S)) nm i → occ S nm i ∨ (nm = p ∧ i = S.nf) := by
    intro nm i ho
    rcases ho with ⟨s, ho⟩ | ho
    · cases s with
      | false =>
        rw [hd0] at ho
        rcases putL_mem ho with e | ho
        · cases e; exact .inr ⟨rfl, rfl⟩
        · exact .inl (.inl ⟨false, ho⟩)
      | true => rw [hd1] at ho; exact .inl (.inl ⟨true, ho⟩)
    · rw [hp] at ho
      rcases List.mem_append.1 ho with ho | ho
      · exact .inl (.inr ho)
      · cases List.mem_singleton.1 ho; exact .inr ⟨rfl, rfl⟩
  refine ⟨?_, fun q hq => ?_, fun nm nm' i h1 h2 => ?_, fun nm i h1 => ?_, fun c hc' i hi => ?_⟩
  · rw [hp, hd1, hd0, List.foldl_append, h.d]; rfl
  · rw [hd0] at hq
    rw [hp, hc, hc, List.foldl_append]
    rcases putL_mem hq with e | hq
    · rw [e]
      simp only [if_true]
      rw [byt_none (fun c hc' e => Nat.lt_irrefl _ (h.w c hc' _ e))]
      rfl
    · have hlt : q.2 < S.nf := h.n q.1 q.2 (.inl ⟨false, hq⟩)
      rw [if_neg (by omega), if_neg (by omega), h.b q hq]
      rfl
  · rcases hocc _ _ h1 with g1 | ⟨e1, e2⟩
    · rcases hocc _ _ h2 with g2 | ⟨e3, e4⟩
      · exact h.u _ _ _ g1 g2
      · have := h.n _ _ g1; omega
    · rcases hocc _ _ h2 with g2 | ⟨e3, -⟩
      · have := h.n _ _ g2; omega
      · rw [e1, e3]
  · show i < S.nf + 1
    rcases hocc _ _ h1 with h1 | ⟨-, rfl⟩
    · have := h.n _ _ h1; omega
    · omega
  · show i < S.nf + 1
    rw [hp] at hc'
    rcases List.mem_append.1 hc' with hc' | hc'
    · have := h.w c hc' i hi; omega
    · rw [List.mem_singleton.1 hc'] at hi; cases hi
theorem ws_remove {S : DS} (h : WS S) (p : List UInt8) : WS (perfS (.remove p) S) := by
  have hp : (perfS (.remove p) S).pend = S.pend ++ [.remove p] := rfl
  have hd0 : (perfS (.remove p) S).dirs false = delL (S.dirs false) p := rfl
  have hd1 : (perfS (.remove p) S).dirs true = S.dirs true := rfl
  have hocc : ∀ nm i, occ (perfS (.remove p) S) nm i → occ S nm i := by
    intro nm i ho
    rcases ho with ⟨s, ho⟩ | ho
    · cases s with
      | false => rw [hd0] at ho; exact .inl ⟨false, mem_del ho⟩
      | true => rw [hd1] at ho; exact .inl ⟨true, ho⟩
    · rw [hp] at ho
      rcases List.mem_append.1 ho with ho | ho
      · exact .inr ho
      · cases List.mem_singleton.1 ho
  refine ⟨?_, fun q hq => ?_, fun nm nm' i h1 h2 => h.u _ _ _ (hocc _ _ h1) (hocc _ _ h2), fun nm i h1 => h.n _ _ (hocc _ _ h1), fun c hc' i hi => ?_⟩
  · rw [hp, hd1, hd0, List.foldl_append, h.d]; rfl
  · rw [hd0] at hq
    rw [hp, List.foldl_append]
    exact h.b q (mem_del hq)
  · rw [hp] at hc'
    rcases List.mem_append.1 hc' with hc' | hc'
    · exact h.w c hc' i hi
    · rw [List.mem_singleton.1 hc'] at hi; cases hi
/-- A change of a file's bytes. -/
theorem ws_bytes {S : DS} (h : WS S) (c : Chg) (i : Nat) (hi : filC c = some i) (hlt : i < S.nf) : WS (perfS c S) := by
  have hp : (perfS c S).pend = S.pend ++ [c] := rfl
  have hd : (perfS c S).dirs = S.dirs := by cases c <;> first | rfl | cases hi
  have hn : (perfS c S).nf = S.nf := by cases c <;> first | rfl | cases hi
  have hc1 : ∀ k, (perfS c S).con true k = S.con true k := fun k => by cases c <;> first | rfl | (cases hi; done) | (show upd2 S.con false _ _ true k = _; unfold upd2; rw [if_neg (by simp)])
  have hc0 : ∀ k, (perfS c S).con false k = bytC k (S.con false k) c := fun k => by
    cases c with
    | create _ _ => cases hi
    | remove _ => cases hi
    | write j o d =>
      show upd2 S.con false j (overL (S.con false j) o d) false k = if j = k then overL (S.con false k) o d else S.con false k
      unfold upd2
      by_cases e : k = j
      · subst e; rw [if_pos ⟨rfl, rfl⟩, if_pos rfl]
      · rw [if_neg (fun x => e x.2), if_neg (fun x => e x.symm)]
    | trunc j z =>
      show upd2 S.con false j (resizeL (S.con false j) z) false k = if j = k then resizeL (S.con false k) z else S.con false k
      unfold upd2
      by_cases e : k = j
      · subst e; rw [if_pos ⟨rfl, rfl⟩, if_pos rfl]
      · rw [if_neg (fun x => e x.2), if_neg (fun x => e x.symm)]
  have hq : ∀ l, qDir l c = l := fun l => by cases c <;> first | rfl | cases hi
  have hocc : ∀ nm k, occ (perfS c S) nm k → occ S nm k := by
    intro nm k ho
    rcases ho with ⟨s, ho⟩ | ho
    · rw [hd] at ho; exact .inl ⟨s, ho⟩
    · rw [hp] at ho
      rcases List.mem_append.1 ho with ho | ho
      · exact .inr ho
      · rw [← List.mem_singleton.1 ho] at hi; cases hi
  refine ⟨?_, fun q hq' => ?_, fun nm nm' k h1 h2 => h.u _ _ _ (hocc _ _ h1) (hocc _ _ h2), fun nm k h1 => by rw [hn]; exact h.n _ _ (hocc _ _ h1), fun x hx k hk => ?_⟩
  · rw [hp, hd, List.foldl_append, h.d]; exact hq _
  · rw [hd] at hq'
    rw [hp, hc1, hc0, List.foldl_append, h.b q hq']; rfl
  · rw [hn]
    rw [hp] at hx
    rcases List.mem_append.1 hx with hx | hx
    · exact h.w x hx k hk
    · rw [List.mem_singleton.1 hx, hi] at hk; cases hk; exact hlt
end Go.Proofs.YtkfncnpeockiaaaGreatDoor

namespace Go.Proofs.YtkfncnpeockiaaaGreatDoor
open Go.RowKit

theorem app_dirs1 (c : Chg) (S : DS) : (applyS true c S).dirs true = qDir (S.dirs true) c ∧ (applyS true c S).dirs false = S.dirs false := by
  cases c <;> exact ⟨rfl, rfl⟩
theorem app_con1 (c : Chg) (S : DS) (i : Nat) : (applyS true c S).con true i = bytC i (S.con true i) c ∧ (applyS true c S).con false i = S.con false i := by
  cases c with
  | create _ _ => exact ⟨rfl, rfl⟩
  | remove _ => exact ⟨rfl, rfl⟩
  | write j o d =>
    refine ⟨?_, ?_⟩
    · show upd2 S.con true j (overL (S.con true j) o d) true i = if j = i then overL (S.con true i) o d else S.con true i
      unfold upd2
      by_cases e : i = j
      · subst e; rw [if_pos ⟨rfl, rfl⟩, if_pos rfl]
      · rw [if_neg (fun x => e x.2), if_neg (fun x => e x.symm)]
    · show upd2 S.con true j (overL (S.con true j) o d) false i = S.con false i
      unfold upd2
      rw [if_neg (by simp)]
  | trunc j z =>
    refine ⟨?_, ?_⟩
    · show upd2 S.con true j (resizeL (S.con true j) z) true i = if j = i then resizeL (S.con true i) z else S.con true i
      unfold upd2
      by_cases e : i = j
      · subst e; rw [if_pos ⟨rfl, rfl⟩, if_pos rfl]
      · rw [if_neg (fun x => e x.2), if_neg (fun x => e x.symm)]
    · show upd2 S.con true j (resizeL (S.con true j) z) false i = S.con false i
      unfold upd2
      rw [if_neg (by simp)]
theorem fold_is (p : Chg → Bool) : ∀ (l : List Chg) (S : DS), (foldP p S l).dirs true = (l.filter p).foldl qDir (S.dirs true) ∧ (foldP p S l).dirs false = S.dirs false ∧ (∀ i, (foldP p S l).con true i = (l.filter p).foldl (bytC i) (S.con true i)) ∧ (∀ i, (foldP p S l).con false i = S.con false i) ∧ (foldP p S l).nf = S.nf
  | [], S => ⟨rfl, rfl, fun _ => rfl, fun _ => rfl, rfl⟩
  | c :: t, S => by
    obtain ⟨h1, h2, h3, h4, h5⟩ := fold_is p t (stepP p S c)
    have e : foldP p S (c :: t) = foldP p (stepP p S c) t := rfl
    rw [e, h1, h2, h5]
    by_cases hp : p c = true
    · have es : stepP p S c = applyS true c S := by unfold stepP; rw [if_pos hp]
      have a := app_dirs1 c S
      refine ⟨?_, ?_, fun i => ?_, fun i => ?_, ?_⟩
      · rw [List.filter_cons_of_pos hp, List.foldl_cons, es, a.1]
      · rw [es, a.2]
      · rw [h3, List.filter_cons_of_pos hp, List.foldl_cons, es, (app_con1 c S i).1]
      · rw [h4, es, (app_con1 c S i).2]
      · rw [es, applyS_nf]
    · have es : stepP p S c = S := by unfold stepP; rw [if_neg hp]
      refine ⟨?_, ?_, fun i => ?_, fun i => ?_, ?_⟩
      · rw [List.filter_cons_of_neg hp, es]
      · rw [es]
      · rw [h3, List.filter_cons_of_neg hp, es]
      · rw [h4, es]
      · rw [es]
theorem fold_split {β : Type} (g : β → Chg → β) (p : Chg → Bool) : ∀ (l : List Chg) (b : β), ((∀ c, c ∈ l → p c = true → ∀ b, g b c = b) ∨ (∀ c, c ∈ l → p c = false → ∀ b, g b c = b)) →
    (l.filter (fun c => !p c)).foldl g ((l.filter p).foldl g b) = l.foldl g b
  | [], _, _ => rfl
  | c :: t, b, h => by
    have ht : ((∀ c, c ∈ t → p c = true → ∀ b, g b c = b) ∨ (∀ c, c ∈ t → p c = false → ∀ b, g b c = b)) := h.imp (fun h x hx => h x (List.mem_cons_of_mem _ hx)) (fun h x hx => h x (List.mem_cons_of_mem _ hx))
    cases hp : p c with
    | true =>
      rw [List.filter_cons_of_pos hp, List.filter_cons_of_neg (by simp [hp]), List.foldl_cons, List.foldl_cons]
      exact fold_split g p t (g b c) ht
    | false =>
      rw [List.filter_cons_of_neg (by simp [hp]), List.filter_cons_of_pos (by simp [hp]), List.foldl_cons, List.foldl_cons]
      rcases h with h | h
      · have key : ∀ (s : List Chg) (b : β), (∀ c, c ∈ s → p c = true → ∀ b, g b c = b) → (s.filter p).foldl g b = b := by
          intro s
          induction s with
          | nil => intro b _; rfl
          | cons x s ih =>
            intro b hs
            cases hx : p x with
            | true => rw [List.filter_cons_of_pos hx, List.foldl_cons, hs x (List.mem_cons_self ..) hx]; exact ih b (fun y hy => hs y (List.mem_cons_of_mem _ hy))
            | false => rw [List.filter_cons_of_neg (by simp [hx])]; exact ih b (fun y hy => hs y (List.mem_cons_of_mem _ hy))
        have h' : ∀ c, c ∈ t → p c = true → ∀ b, g b c = b := fun x hx => h x (List.mem_cons_of_mem _ hx)
        have := fold_split g p t (g b c) (.inl h')
        rw [key t _ h'] at this ⊢
        exact this
      · rw [h c (List.mem_cons_self ..) hp, h c (List.mem_cons_self ..) hp]
        exact fold_split g p t b ht
theorem ws_settle {S : DS} (h : WS S) (p : Chg → Bool) (hd : (∀ c, p c = true → ∀ l, qDir l c = l) ∨ (∀ c, p c = false → ∀ l, qDir l c = l)) (hb : ∀ i, (∀ c, p c = true → ∀ b, bytC i b c = b) ∨ (∀ c, p c = false → ∀ b, bytC i b c = b)) : WS (settleS p S) := by
  obtain ⟨h1, h2, h3, h4, h5⟩ := fold_is p S.pend S
  have hocc : ∀ nm i, occ (settleS p S) nm i → occ S nm i := by
    have hq : ∀ (l : List Chg) (D : List (List UInt8 × Nat)) q, q ∈ l.foldl qDir D → q ∈ D ∨ Chg.create q.1 q.2 ∈ l := by
      intro l
      induction l with
      | nil => intro D q hq; exact .inl hq
      | cons c t ih =>
        intro D q hq
        rcases ih (qDir D c) q hq with hq | hq
        · cases c with
          | create nm i =>
            rcases putL_mem hq with e | hq
            · rw [e]; exact .inr (List.mem_cons_self ..)
            · exact .inl hq
          | remove nm => exact .inl (mem_del hq)
          | write _ _ _ => exact .inl hq
          | trunc _ _ => exact .inl hq
        · exact .inr (List.mem_cons_of_mem _ hq)
    intro nm i ho
    rcases ho with ⟨s, ho⟩ | ho
    · cases s with
      | false => exact .inl ⟨false, by rw [← h2]; exact ho⟩
      | true =>
        have ho' : (nm, i) ∈ (foldP p S S.pend).dirs true := ho
        rw [h1] at ho'
        rcases hq _ _ _ ho' with ho' | ho'
        · exact .inl ⟨true, ho'⟩
        · exact .inr (List.mem_filter.1 ho').1
    · exact .inr (kept_mem ho)
  refine ⟨?_, fun q hq => ?_, fun nm nm' i g1 g2 => h.u _ _ _ (hocc _ _ g1) (hocc _ _ g2), fun nm i g1 => ?_, fun c hc i hi => ?_⟩
  · show (keptL p S.pend).foldl qDir ((foldP p S S.pend).dirs true) = (foldP p S S.pend).dirs false
    rw [h1, h2, ← h.d]
    exact fold_split qDir p S.pend _ (hd.imp (fun h c _ => h c) (fun h c _ => h c))
  · show (keptL p S.pend).foldl (bytC q.2) ((foldP p S S.pend).con true q.2) = (foldP p S S.pend).con false q.2
    have hq' : q ∈ S.dirs false := by rw [← h2]; exact hq
    rw [h3, h4, ← h.b q hq']
    exact fold_split (bytC q.2) p S.pend _ ((hb q.2).imp (fun h c _ => h c) (fun h c _ => h c))
  · show i < (foldP p S S.pend).nf
    rw [h5]; exact h.n _ _ (hocc _ _ g1)
  · show i < (foldP p S S.pend).nf
    rw [h5]; exact h.w c (kept_mem hc) i hi
theorem ws_dirset {S : DS} (h : WS S) : WS (settleS ofDir S) :=
  ws_settle h ofDir (.inr fun c hc l => by cases c <;> first | rfl | cases hc) (fun i => .inl fun c hc b => by cases c <;> first | rfl | cases hc)
theorem ws_filset {S : DS} (h : WS S) (f : Nat) : WS (settleS (ofFile f) S) := by
  refine ws_settle h (ofFile f) (.inl fun c hc l => by cases c <;> first | rfl | cases hc) (fun i => ?_)
  by_cases e : i = f
  · subst e
    refine .inr fun c hc b => ?_
    cases c with
    | create _ _ => rfl
    | remove _ => rfl
    | write j o d => exact if_neg (fun e => by subst e; simp [ofFile] at hc)
    | trunc j z => exact if_neg (fun e => by subst e; simp [ofFile] at hc)
  · refine .inl fun c hc b => ?_
    cases c with
    | create _ _ => rfl
    | remove _ => rfl
    | write j o d => exact if_neg (fun e' => e (by subst e'; simpa [ofFile] using hc))
    | trunc j z => exact if_neg (fun e' => e (by subst e'; simpa [ofFile] using hc))
/-- What survives of a change. -/
theorem surv_create {c c' : Chg} {u : Nat} (h : survC c u = some c') {nm : List UInt8} {i : Nat} (e : c' = .create nm i) : c = .create nm i := by
  unfold survC at h
  split at h
  · cases h
  · split at h
    · injection h with h
      rw [← h] at e
      cases c <;> first | exact e | cases e
    · injection h with h
      rw [h, e]
theorem survF_in (u : Nat → Nat) (l : List Chg) (S : DS) : ∀ k q, q ∈ (survF u l S k).dirs true → q ∈ S.dirs true ∨ Chg.create q.1 q.2 ∈ l
  | 0, q, h => .inl h
  | k + 1, q, h => by
    unfold survF at h
    split at h
    · rename_i c hc
      unfold survS at h
      split at h
      · exact survF_in u l S k q h
      · rename_i c' hc'
        rw [(app_dirs1 c' _).1] at h
        cases c' with
        | create nm i =>
          rcases putL_mem h with e | h
          · rw [e]
            have := surv_create hc' rfl
            rw [← this]
            exact .inr (List.mem_of_getElem? hc)
          · exact survF_in u l S k q h
        | remove nm => exact survF_in u l S k q (mem_del h)
        | write _ _ _ => exact survF_in u l S k q h
        | trunc _ _ => exact survF_in u l S k q h
    · exact survF_in u l S k q h
theorem ws_restart {S : DS} (h : WS S) (u : Nat → Nat) : WS (restartS u S) := by
  have hd : ∀ s, (restartS u S).dirs s = (survF u S.pend S S.pend.length).dirs true := fun s => by cases s <;> rfl
  have hocc : ∀ nm i, occ (restartS u S) nm i → occ S nm i := by
    intro nm i ho
    rcases ho with ⟨s, ho⟩ | ho
    · rw [hd] at ho
      exact (survF_in u S.pend S _ _ ho).elim (fun h => .inl ⟨true, h⟩) .inr
    · cases ho
  refine ⟨by rw [hd, hd]; rfl, fun q hq => ?_, fun nm nm' i g1 g2 => h.u _ _ _ (hocc _ _ g1) (hocc _ _ g2), fun nm i g1 => ?_, fun c hc => by cases hc⟩
  · rw [hd] at hq
    have ha : ((survF u S.pend S S.pend.length).dirs true).any (fun p => p.2 == q.2) = true := List.any_eq_true.2 ⟨q, hq, by simp⟩
    have e1 : (restartS u S).con true q.2 = (survF u S.pend S S.pend.length).con true q.2 := by
      unfold restartS
      dsimp only
      rw [if_neg (by simp)]
    have e2 : (restartS u S).con false q.2 = (survF u S.pend S S.pend.length).con true q.2 := by
      unfold restartS
      dsimp only
      rw [if_pos ⟨rfl, ha⟩]
    rw [e2]
    exact e1
  · show i < (survF u S.pend S S.pend.length).nf
    rw [survF_nf]; exact h.n _ _ (hocc _ _ g1)
theorem ws_off {S : DS} (h : WS S) {r : Int × DS} (ho : offS S = some r) : WS r.2 := by
  rcases offS_cases ho with ⟨_, rfl⟩ | ⟨_, _, rfl⟩
  · exact h
  · exact ws_of h rfl rfl rfl rfl
theorem ws_beg {S : DS} (h : WS S) : WS (begS S) := ws_of h rfl rfl rfl rfl
theorem ws_step {S : DS} (h : WS S) (o : OpL) : WS (stepS o S) := by
  have hb := ws_beg h
  unfold stepS
  split
  · unfold createG
    cases ho : offS S with
    | some r => exact ws_off h ho
    | none =>
      show WS (createIn (begS S) _).2
      unfold createIn
      repeat' split
      all_goals first | exact hb | exact ws_create hb _
  split
  · unfold deleteG
    cases ho : offS S with
    | some r => exact ws_off h ho
    | none =>
      show WS (deleteZ S _).2
      unfold deleteZ
      split
      · exact hb
      · exact ws_remove hb _
  split
  · unfold readG
    cases ho : offS S with
    | some r => exact ws_off h ho
    | none =>
      show WS (readZ S _ _ _).2
      unfold readZ
      repeat' split
      all_goals exact hb
  split
  · unfold writeG
    cases ho : offS S with
    | some r => exact ws_off h ho
    | none =>
      show WS (writeZ S _ _ _).2
      unfold writeZ
      split
      · exact hb
      · rename_i i hi
        have hlt : i < (begS S).nf := hb.n _ _ (.inl ⟨false, findL_mem hi⟩)
        show WS (writeIn (begS S) i _ _).2
        unfold writeIn
        repeat' split
        all_goals first | exact hb | exact ws_bytes hb _ i rfl hlt
  split
  · unfold truncG
    cases ho : offS S with
    | some r => exact ws_off h ho
    | none =>
      show WS (truncZ S _ _).2
      unfold truncZ
      split
      · exact hb
      · rename_i i hi
        have hlt : i < (begS S).nf := hb.n _ _ (.inl ⟨false, findL_mem hi⟩)
        show WS (truncIn (begS S) i _).2
        unfold truncIn
        repeat' split
        all_goals first | exact hb | exact ws_bytes hb _ i rfl hlt
  split
  · unfold syncG
    cases ho : offS S with
    | some r => exact ws_off h ho
    | none =>
      show WS (syncZ S _).2
      unfold syncZ
      split
      · exact hb
      · show WS (syncIn (begS S) _)
        unfold syncIn
        split
        · exact hb
        · exact ws_filset hb _
  split
  · unfold dirsyncG
    cases ho : offS S with
    | some r => exact ws_off h ho
    | none =>
      show WS (dirsyncIn (begS S))
      unfold dirsyncIn
      split
      · exact hb
      · exact ws_dirset hb
  split
  · exact ws_of h rfl rfl rfl rfl
  split
  · exact ws_of h rfl rfl rfl rfl
  split
  · exact ws_restart h _
  · exact h
end Go.Proofs.YtkfncnpeockiaaaGreatDoor

namespace Go.Proofs.YtkfncnpeockiaaaGreatDoor
open Go.RowKit

structure IS (nm : List UInt8) (i : Nat) (want : List UInt8) (S : DS) : Prop where
  t : (nm, i) ∈ S.dirs true
  f : (nm, i) ∈ S.dirs false
  c : S.con true i = want
  p : ∀ c, c ∈ S.pend → filC c ≠ some i ∧ (∀ k, c ≠ .create nm k) ∧ c ≠ .remove nm
variable {nm : List UInt8} {i : Nat} {want : List UInt8} {S : DS}
theorem is_of {T : DS} (h : IS nm i want S) (e1 : T.dirs = S.dirs) (e2 : T.con = S.con) (e3 : T.pend = S.pend) : IS nm i want T := by
  obtain ⟨r, d, c, n, p, o, f, x, y⟩ := S
  obtain ⟨r', d', c', n', p', o', f', x', y'⟩ := T
  simp only at e1 e2 e3
  subst e1 e2 e3
  exact ⟨h.t, h.f, h.c, h.p⟩
theorem mem_put {l : List (List UInt8 × Nat)} {p : List UInt8} {k : Nat} (h : (nm, i) ∈ l) (hne : p ≠ nm) : (nm, i) ∈ putL l p k :=
  ((insL_perm (p, k) (delL l p)).mem_iff).2 (List.mem_cons_of_mem _ (List.mem_filter.2 ⟨h, by simpa using fun e => hne e.symm⟩))
theorem mem_rem {l : List (List UInt8 × Nat)} {p : List UInt8} (h : (nm, i) ∈ l) (hne : p ≠ nm) : (nm, i) ∈ delL l p := List.mem_filter.2 ⟨h, by simpa using fun e => hne e.symm⟩
theorem mem_qdir {l : List (List UInt8 × Nat)} {c : Chg} (h : (nm, i) ∈ l) (h1 : ∀ k, c ≠ .create nm k) (h2 : c ≠ .remove nm) : (nm, i) ∈ qDir l c := by
  cases c with
  | create p k => exact mem_put h (fun e => h1 k (by rw [e]))
  | remove p => exact mem_rem h (fun e => h2 (by rw [e]))
  | write _ _ _ => exact h
  | trunc _ _ => exact h
theorem mem_fold {cs : List Chg} {l : List (List UInt8 × Nat)} (h : (nm, i) ∈ l) (hc : ∀ c, c ∈ cs → (∀ k, c ≠ .create nm k) ∧ c ≠ .remove nm) : (nm, i) ∈ cs.foldl qDir l := by
  induction cs generalizing l with
  | nil => exact h
  | cons c t ih => exact ih (mem_qdir h (hc c (List.mem_cons_self ..)).1 (hc c (List.mem_cons_self ..)).2) (fun x hx => hc x (List.mem_cons_of_mem _ hx))
theorem is_settle (h : IS nm i want S) (p : Chg → Bool) : IS nm i want (settleS p S) := by
  obtain ⟨h1, h2, h3, h4, -⟩ := fold_is p S.pend S
  refine ⟨?_, ?_, ?_, fun c hc => h.p c (kept_mem hc)⟩
  · show (nm, i) ∈ (foldP p S S.pend).dirs true
    rw [h1]
    exact mem_fold h.t (fun c hc => ⟨(h.p c (List.mem_filter.1 hc).1).2.1, (h.p c (List.mem_filter.1 hc).1).2.2⟩)
  · show (nm, i) ∈ (foldP p S S.pend).dirs false
    rw [h2]; exact h.f
  · show (foldP p S S.pend).con true i = want
    rw [h3, byt_none (fun c hc => (h.p c (List.mem_filter.1 hc).1).1)]
    exact h.c
theorem surv_same {c c' : Chg} {u : Nat} (h : survC c u = some c') : filC c' = filC c ∧ (∀ n k, c' = .create n k → c = .create n k) ∧ (∀ n, c' = .remove n → c = .remove n) := by
  unfold survC at h
  split at h
  · cases h
  · split at h
    · injection h with h
      rw [← h]
      cases c with
      | write _ _ _ => exact ⟨rfl, fun _ _ e => (by cases e), fun _ e => (by cases e)⟩
      | create _ _ => exact ⟨rfl, fun _ _ e => e, fun _ e => e⟩
      | remove _ => exact ⟨rfl, fun _ _ e => e, fun _ e => e⟩
      | trunc _ _ => exact ⟨rfl, fun _ _ e => e, fun _ e => e⟩
    · injection h with h
      rw [h]
      exact ⟨rfl, fun _ _ e => e, fun _ e => e⟩
theorem is_survF (h : IS nm i want S) (u : Nat → Nat) (l : List Chg) (hl : ∀ c, c ∈ l → filC c ≠ some i ∧ (∀ k, c ≠ .create nm k) ∧ c ≠ .remove nm) : ∀ k, (nm, i) ∈ (survF u l S k).dirs true ∧ (survF u l S k).con true i = want
  | 0 => ⟨h.t, h.c⟩
  | k + 1 => by
    have ih := is_survF h u l hl k
    unfold survF
    split
    · rename_i c hc
      obtain ⟨g1, g2, g3⟩ := hl c (List.mem_of_getElem? hc)
      unfold survS
      split
      · exact ih
      · rename_i c' hc'
        obtain ⟨e1, e2, e3⟩ := surv_same hc'
        refine ⟨?_, ?_⟩
        · rw [(app_dirs1 c' _).1]
          exact mem_qdir ih.1 (fun k e => g2 k (e2 nm k e)) (fun e => g3 (e3 nm e))
        · rw [(app_con1 c' _ i).1]
          have := byt_none (i := i) (l := [c']) (fun x hx => by rw [List.mem_singleton.1 hx, e1]; exact g1) ((survF u l S k).con true i)
          exact this.trans ih.2
    · exact ih
theorem is_restart (h : IS nm i want S) (u : Nat → Nat) : IS nm i want (restartS u S) := by
  have hk := is_survF h u S.pend h.p S.pend.length
  have hd : ∀ s, (restartS u S).dirs s = (survF u S.pend S S.pend.length).dirs true := fun s => by cases s <;> rfl
  refine ⟨by rw [hd]; exact hk.1, by rw [hd]; exact hk.1, ?_, fun c hc => by cases hc⟩
  have e1 : (restartS u S).con true i = (survF u S.pend S S.pend.length).con true i := by
    unfold restartS
    dsimp only
    rw [if_neg (by simp)]
  rw [e1]; exact hk.2
theorem is_off (h : IS nm i want S) {r : Int × DS} (ho : offS S = some r) : IS nm i want r.2 := by
  rcases offS_cases ho with ⟨_, rfl⟩ | ⟨_, _, rfl⟩
  · exact h
  · exact is_of h rfl rfl rfl
theorem is_beg (h : IS nm i want S) : IS nm i want (begS S) := is_of h rfl rfl rfl
theorem is_perf {c : Chg} (h : IS nm i want S) (h1 : filC c ≠ some i) (h2 : ∀ k, c ≠ .create nm k) (h3 : c ≠ .remove nm) : IS nm i want (perfS c S) := by
  refine ⟨?_, ?_, ?_, fun x hx => ?_⟩
  · have : (perfS c S).dirs true = S.dirs true := by cases c <;> rfl
    rw [this]; exact h.t
  · have : (perfS c S).dirs false = qDir (S.dirs false) c := by cases c <;> rfl
    rw [this]; exact mem_qdir h.f h2 h3
  · have : (perfS c S).con true i = S.con true i := by
      cases c with
      | create _ _ => rfl
      | remove _ => rfl
      | write j o d => rfl
      | trunc j z => rfl
    rw [this]; exact h.c
  · rcases List.mem_append.1 hx with hx | hx
    · exact h.p x hx
    · rw [List.mem_singleton.1 hx]; exact ⟨h1, h2, h3⟩
/-- A later step that has to do with other files. -/
theorem is_step (h : IS nm i want S) (hw : WS S) (o : OpL) (ho : o.name.data.toList ≠ nm ∨ o.kind = 2 ∨ 4 < o.kind) : IS nm i want (stepS o S) := by
  have hb := is_beg h
  have hwb := ws_beg hw
  have hlt : i < (begS S).nf := hwb.n _ _ (.inl ⟨false, hb.f⟩)
  have hother : ∀ j, findL ((begS S).dirs false) o.name.data.toList = some j → o.name.data.toList ≠ nm → j ≠ i := fun j hj hne e => by
    subst e
    exact hne (hwb.u _ _ _ (.inl ⟨false, findL_mem hj⟩) (.inl ⟨false, hb.f⟩))
  unfold stepS
  split
  · rename_i hk
    have hne : o.name.data.toList ≠ nm := ho.elim id (fun h => by omega)
    unfold createG
    cases hof : offS S with
    | some r => exact is_off h hof
    | none =>
      show IS nm i want (createIn (begS S) _).2
      unfold createIn
      split
      · exact hb
      · split
        · exact hb
        · split
          · exact hb
          · have hnf : IS nm i want (newFile (begS S)) := ⟨hb.t, hb.f, by
              show (if i = (begS S).nf then [] else (begS S).con true i) = want
              rw [if_neg (by omega)]; exact hb.c, hb.p⟩
            exact is_perf hnf (by simp [filC]) (fun k e => hne (by injection e)) (fun e => by cases e)
  split
  · rename_i hk
    have hne : o.name.data.toList ≠ nm := ho.elim id (fun h => by omega)
    unfold deleteG
    cases hof : offS S with
    | some r => exact is_off h hof
    | none =>
      show IS nm i want (deleteZ S _).2
      unfold deleteZ
      split
      · exact hb
      · exact is_perf hb (by simp [filC]) (fun k e => by cases e) (fun e => hne (by injection e))
  split
  · unfold readG
    cases hof : offS S with
    | some r => exact is_off h hof
    | none =>
      show IS nm i want (readZ S _ _ _).2
      unfold readZ
      repeat' split
      all_goals exact hb
  split
  · rename_i hk
    have hne : o.name.data.toList ≠ nm := ho.elim id (fun h => by omega)
    unfold writeG
    cases hof : offS S with
    | some r => exact is_off h hof
    | none =>
      show IS nm i want (writeZ S _ _ _).2
      unfold writeZ
      split
      · exact hb
      · rename_i j hj
        have hji := hother j hj hne
        show IS nm i want (writeIn (begS S) j _ _).2
        unfold writeIn
        repeat' split
        all_goals first | exact hb | exact is_perf hb (fun e => hji (by injection e)) (fun k e => by cases e) (fun e => by cases e)
  split
  · rename_i hk
    have hne : o.name.data.toList ≠ nm := ho.elim id (fun h => by omega)
    unfold truncG
    cases hof : offS S with
    | some r => exact is_off h hof
    | none =>
      show IS nm i want (truncZ S _ _).2
      unfold truncZ
      split
      · exact hb
      · rename_i j hj
        have hji := hother j hj hne
        show IS nm i want (truncIn (begS S) j _).2
        unfold truncIn
        repeat' split
        all_goals first | exact hb | exact is_perf hb (fun e => hji (by injection e)) (fun k e => by cases e) (fun e => by cases e)
  split
  · unfold syncG
    cases hof : offS S with
    | some r => exact is_off h hof
    | none =>
      show IS nm i want (syncZ S _).2
      unfold syncZ
      split
      · exact hb
      · show IS nm i want (syncIn (begS S) _)
        unfold syncIn
        split
        · exact hb
        · exact is_settle hb _
  split
  · unfold dirsyncG
    cases hof : offS S with
    | some r => exact is_off h hof
    | none =>
      show IS nm i want (dirsyncIn (begS S))
      unfold dirsyncIn
      split
      · exact hb
      · exact is_settle hb _
  split
  · exact is_of h rfl rfl rfl
  split
  · exact is_of h rfl rfl rfl
  split
  · exact is_restart h _
  · exact h
/-- What a disk answers of it with nothing that waits. -/
theorem is_cont (h : IS nm i want S) (hw : WS S) (hk : KeysS S) (hp : S.pend = []) : hasZ S nm = true ∧ contZ S nm = want := by
  have hf : findL (S.dirs false) nm = some i := keys_find (hk false) h.f
  have hb := hw.b _ h.f
  rw [hp] at hb
  have hb' : S.con true i = S.con false i := hb
  unfold hasZ contZ
  rw [hf]
  exact ⟨rfl, by show S.con false i = want; rw [← hb']; exact h.c⟩
/-- Sync and DirSync that answer OK make sure. -/
theorem is_init (hw : WS S) (hk : KeysS S) (hf0 : S.flt = fun _ => 0) (hc0 : S.crash = 0) (h1 : (syncG S nm).1 = 0) (h2 : (dirsyncG (syncG S nm).2).1 = 0) : ∃ i, IS nm i (contZ (dirsyncG (syncG S nm).2).2 nm) (dirsyncG (syncG S nm).2).2 := by
  by_cases hd : S.down = true
  · have : offS S = some (33, S) := by unfold offS; rw [if_pos hd]
    unfold syncG at h1
    rw [this] at h1
    exact absurd h1 (by show ¬ (33 : Int) = 0; decide)
  have ho : offS S = none := by unfold offS; rw [if_neg hd, if_pos (by rw [hf0])]
  have e1 : syncG S nm = syncZ S nm := by unfold syncG; rw [ho]; rfl
  rw [e1] at h1 h2 ⊢
  have hbd : (begS S).down = false := by
    show decide (((S.ops + 1 : Nat) : Int) = S.crash) = false
    rw [hc0]; exact decide_eq_false (by omega)
  cases hf : findL (S.dirs false) nm with
  | none =>
    have e : syncZ S nm = (cutE (begS S) 8, begS S) := by unfold syncZ; rw [hf]
    rw [e] at h1
    exact absurd h1 (cutE_ne (by decide))
  | some i =>
    have e : syncZ S nm = (cutE (syncIn (begS S) i) 0, syncIn (begS S) i) := by unfold syncZ; rw [hf]
    have es : syncIn (begS S) i = settleS (ofFile i) (begS S) := by unfold syncIn; rw [if_neg (by rw [hbd]; simp)]
    rw [e, es] at h2 ⊢
    dsimp only at h2 ⊢
    obtain ⟨T, hT⟩ : ∃ T, T = settleS (ofFile i) (begS S) := ⟨_, rfl⟩
    have hwT : WS T := by rw [hT]; exact ws_filset (ws_beg hw) i
    have hkT : KeysS T := by rw [hT]; exact keys_settle (keys_beg hk) _
    have hTp : ∀ c, c ∈ T.pend → filC c ≠ some i := by
      intro c hc hx
      rw [hT] at hc
      have := (List.mem_filter.1 hc).2
      cases c with
      | create _ _ => cases hx
      | remove _ => cases hx
      | write j o d => injection hx with hx; simp [ofFile, hx] at this
      | trunc j z => injection hx with hx; simp [ofFile, hx] at this
    have fi := fold_is (ofFile i) (begS S).pend (begS S)
    have hTd : T.dirs false = S.dirs false := by rw [hT]; exact fi.2.1
    have hTf : T.down = false ∧ T.flt = (fun _ => 0) ∧ T.crash = 0 := by
      have key : ∀ (l : List Chg) (U : DS), (foldP (ofFile i) U l).down = U.down ∧ (foldP (ofFile i) U l).flt = U.flt ∧ (foldP (ofFile i) U l).crash = U.crash := by
        intro l
        induction l with
        | nil => intro U; exact ⟨rfl, rfl, rfl⟩
        | cons c t ih =>
          intro U
          have e : foldP (ofFile i) U (c :: t) = foldP (ofFile i) (stepP (ofFile i) U c) t := rfl
          have hs : (stepP (ofFile i) U c).down = U.down ∧ (stepP (ofFile i) U c).flt = U.flt ∧ (stepP (ofFile i) U c).crash = U.crash := by
            unfold stepP
            split
            · cases c <;> exact ⟨rfl, rfl, rfl⟩
            · exact ⟨rfl, rfl, rfl⟩
          rw [e]
          exact ⟨(ih _).1.trans hs.1, (ih _).2.1.trans hs.2.1, (ih _).2.2.trans hs.2.2⟩
      have := key (begS S).pend (begS S)
      rw [hT]
      exact ⟨this.1.trans hbd, this.2.1.trans hf0, this.2.2.trans hc0⟩
    rw [← hT] at h2 ⊢
    have hoT : offS T = none := by unfold offS; rw [if_neg (by rw [hTf.1]; simp), if_pos (by rw [hTf.2.1])]
    have hbT : (begS T).down = false := by
      show decide (((T.ops + 1 : Nat) : Int) = T.crash) = false
      rw [hTf.2.2]; exact decide_eq_false (by omega)
    have ed : (dirsyncG T).2 = settleS ofDir (begS T) := by
      unfold dirsyncG
      rw [hoT]
      show dirsyncIn (begS T) = _
      unfold dirsyncIn
      rw [if_neg (by rw [hbT]; simp)]
    rw [ed]
    obtain ⟨U, hU⟩ : ∃ U, U = settleS ofDir (begS T) := ⟨_, rfl⟩
    rw [← hU]
    have hwU : WS U := by rw [hU]; exact ws_dirset (ws_beg hwT)
    have hkU : KeysS U := by rw [hU]; exact keys_settle (keys_beg hkT) _
    have fd := fold_is ofDir (begS T).pend (begS T)
    have hUd : U.dirs false = S.dirs false := by rw [hU]; exact fd.2.1.trans hTd
    have hUp : ∀ c, c ∈ U.pend → c ∈ T.pend ∧ ofDir c = false := by
      intro c hc
      rw [hU] at hc
      exact ⟨kept_mem hc, by simpa using (List.mem_filter.1 hc).2⟩
    have hUf : (nm, i) ∈ U.dirs false := by rw [hUd]; exact findL_mem hf
    have hid : ∀ (l : List Chg) (D : List (List UInt8 × Nat)), (∀ c, c ∈ l → ofDir c = false) → l.foldl qDir D = D := by
      intro l
      induction l with
      | nil => intro D _; rfl
      | cons c t ih =>
        intro D hl
        have e : qDir D c = D := by
          have := hl c (List.mem_cons_self ..)
          cases c <;> first | rfl | cases this
        rw [List.foldl_cons, e]
        exact ih D (fun x hx => hl x (List.mem_cons_of_mem _ hx))
    have hUt : U.dirs true = U.dirs false := by
      have := hwU.d
      rw [hid _ _ (fun c hc => (hUp c hc).2)] at this
      exact this
    have hcu : U.con true i = U.con false i := by
      have := hwU.b _ hUf
      rw [byt_none (fun c hc => hTp c (hUp c hc).1)] at this
      exact this
    refine ⟨i, by rw [hUt]; exact hUf, hUf, ?_, fun c hc => ⟨hTp c (hUp c hc).1, fun k e => ?_, fun e => ?_⟩⟩
    · have hf' : findL (U.dirs false) nm = some i := keys_find (hkU false) hUf
      unfold contZ
      rw [hf', hcu]
    · have := (hUp c hc).2; rw [e] at this; cases this
    · have := (hUp c hc).2; rw [e] at this; cases this
end Go.Proofs.YtkfncnpeockiaaaGreatDoor

namespace Go.Proofs.YtkfncnpeockiaaaGreatDoor
open Go.RowKit
variable {X : Nat → Obj → Prop} {w0 v v' : World} {b q n k i : Nat} {S : DS} {R R' : RS} {nm want : List UInt8}

theorem bk_step {k : Nat} {R : RS} (h : QBk k R) (o : OpL) (hG : OpG o) : QBk (k + 4) (stepR o R) := by
  have hnm : o.name.data.toList.length ≤ 1000000 := by have := hG.nm; simp; omega
  have hd : o.data.data.toList.length ≤ 20000 := by have := hG.d; simp; omega
  have hm := bk_mono h (show k ≤ k + 4 by omega)
  unfold stepR
  split
  · exact bk_create h _ hnm
  split
  · exact bk_delete h _ hnm
  split
  · exact bk_read h _ _ _
  split
  · exact bk_write h _ _ _ hd hG.n
  split
  · exact bk_trunc h _ _ hG.n
  split
  · exact bk_sync h _
  split
  · exact bk_dirsync h
  split
  · exact bk_tells hm _ (Nat.le_refl 2)
  split
  · exact bk_crash hm _
  split
  · exact bk_restart hm _
  · exact hm
theorem ws_new (r : Int) : WS (newS r) where
  d := rfl
  b := fun p hp => (by cases hp)
  u := fun nm nm' i h => by rcases h with ⟨s, h⟩ | h <;> cases h
  n := fun nm i h => by rcases h with ⟨s, h⟩ | h <;> cases h
  w := fun c hc => (by cases hc)
/-- The disk behind what made the file sure. -/
structure JU (w0 : World) (b q n k : Nat) (nm : List UInt8) (i : Nat) (want : List UInt8) (S : DS) (R R' : RS) (v : World) : Prop where
  mem : JM (fun _ _ => False) w0 b q n S R v
  ja : JA k S R'
  bk : QBk k R
  ws : WS S
  is : IS nm i want S
  srt : SortS S
theorem ju_do (h : JU w0 b q n k nm i want S R R' v) (hk : k ≤ 500) (hn : n ≤ 80000) (o : OpL) (hO : OpOk o) (hG : OpG o) (hI : Ints w0 o.cha o.ch) (ho : o.name.data.toList ≠ nm ∨ o.kind = 2 ∨ 4 < o.kind) :
    Calls Tryz.prog 10 #[.pointer (some ⟨b, 0, none⟩), .pointer (some ⟨q, 0, none⟩), .agg (opC o.kind o.name o.n o.m o.data o.cha o.ch.length o.chc)] v fun e v' => ∃ bb : Bool, e = .returned (.bool bb) ∧ ∃ m, m ≤ n + 504 ∧ JU w0 b q m (k + 4) nm i want (stepS o S) (stepR o R) (stepR o R') v' := by
  refine (ddoL_any h.mem h.ja h.bk hk o hO hG hI hn).mono fun e v' he => ?_
  obtain ⟨bb, he, m, hm, hJ⟩ := he
  exact ⟨bb, he, m, hm, hJ, ja_step h.ja o hG, bk_step h.bk o hG, ws_step h.ws o, is_step h.is h.ws o ho, sorts_step h.srt o⟩
/-- Both disks behind i steps, the parts as they must be. -/
structure JBW (w0 : World) (b q i : Nat) (S : DS) (R : RS) (v : World) : Prop where
  jb : JB w0 b q i S R v
  ws : WS S
theorem jbw_do {i : Nat} (h : JBW w0 b q i S R v) (hi : i ≤ 122) (o : OpL) (hO : OpOk o) (hG : OpG o) (hI : Ints w0 o.cha o.ch) :
    Calls Tryz.prog 10 #[.pointer (some ⟨b, 0, none⟩), .pointer (some ⟨q, 0, none⟩), .agg (opC o.kind o.name o.n o.m o.data o.cha o.ch.length o.chc)] v fun e v' => e = .returned (.bool true) ∧ JBW w0 b q (i + 1) (stepS o S) (stepR o R) v' :=
  (jb_do h.jb hi o hO hG hI).mono fun _ _ he => ⟨he.1, he.2, ws_step h.ws o⟩
/-- The state behind Faults(nil) and CrashAt(0). -/
def clrS (S : DS) : DS := { { S with flt := fun _ => 0 } with crash := 0 }
theorem clr_ws (h : WS S) : WS (clrS S) := ws_of h rfl rfl rfl rfl
theorem clr_keys (h : KeysS S) : KeysS (clrS S) := h
theorem clr_sorts (h : SortS S) : SortS (clrS S) := h
theorem clr_ja (h : JA k S R) : JA k (clrS S) (qcrash 0 { R with tells := [] }) := ⟨sim_crash (sim_nofaults h.sim) 0, h.keys, bk_crash (bk_tells h.bk [] (Nat.zero_le _)) 0⟩
theorem jm_back {X : Nat → Obj → Prop} (h : JM X w0 b q n S R v) : Below w0.heap.size w0 v := h.below
end Go.Proofs.YtkfncnpeockiaaaGreatDoor

namespace Go.Proofs.YtkfncnpeockiaaaGreatDoor
open Go.RowKit

/-- What the last lines ask of a disk. -/
theorem last_lines {nm want : List UInt8} {i : Nat} {S : DS} (h : IS nm i want S) (hw : WS S) (hk : KeysS S) (u u2 : Nat → Nat) :
    hasZ (restartS u S) nm = true ∧ contZ (restartS u S) nm = want ∧ hasZ (restartS u2 (restartS u S)) nm = true ∧ contZ (restartS u2 (restartS u S)) nm = want ∧ (namesL (restartS u2 (restartS u S))).length = (namesL (restartS u S)).length ∧ (restartS u2 (restartS u S)).down = false := by
  have h1 := is_restart h u
  have w1 := ws_restart hw u
  have k1 := keys_restart hk u
  have h2 := is_restart h1 u2
  have w2 := ws_restart w1 u2
  have k2 := keys_restart k1 u2
  have a := is_cont h1 w1 k1 rfl
  have b := is_cont h2 w2 k2 rfl
  exact ⟨a.1, a.2, b.1, b.2, rfl, rfl⟩

set_option maxHeartbeats 4000000 in
set_option maxRecDepth 100000 in
theorem sure_any (a : Option Addr) (cap : Nat) (l : List OpL) (name : ByteArray) (a2 : Option Addr) (cap2 : Nat) (l2 : List OpL) (ca : Option Addr) (cc : Nat) (ch : List Int) (w : World)
    (hl : l.length ≤ 9223372036854775807) (hl2 : l2.length ≤ 9223372036854775807) (hcz : ch.length ≤ 9223372036854775807) (ha : Ops w a l) (ha2 : Ops w a2 l2) (hch : Ints w ca ch) (hG : Glob w) :
    Calls Tryz.prog 4 #[.slice a l.length cap, .string name, .slice a2 l2.length cap2, .slice ca ch.length cc] w fun e w' => e = .returned (.bool true) ∧ Below w.heap.size w w' := by
  have HA := Lib.hid ha
  have HA2 := Lib.hid ha2
  have HCH := Lib.hid hch
  have HG := Lib.hid hG
  obtain ⟨len, hlen⟩ : ∃ len, len = l.length := ⟨_, rfl⟩
  obtain ⟨len2, hlen2⟩ : ∃ len, len = l2.length := ⟨_, rfl⟩
  obtain ⟨clen, hclen⟩ : ∃ len, len = ch.length := ⟨_, rfl⟩
  have HL := Lib.hid hlen
  have HL2 := Lib.hid hlen2
  have HCL := Lib.hid hclen
  have KG := Lib.hid (fun (v : World) (h : Ops v a l) => dgreat_any a cap l v hl h)
  have KG2 := Lib.hid (fun (v : World) (h : Ops v a2 l2) => dgreat_any a2 cap2 l2 v hl2 h)
  rw [← hlen] at KG hl ⊢
  rw [← hlen2] at KG2 hl2 ⊢
  rw [← hclen] at hcz ⊢
  clear ha ha2 hch hG hlen hlen2 hclen
  by_cases hbig : 100 < clen ∨ 100 < name.size
  · by_cases hb1 : 100 < clen
    · have t1 : decide ((100 : Int) < clen) = true := decide_eq_true (by omega)
      go_enter Tryz.func4, Tryz.ntmps4
      go_wp2_with (first
        | (go_at_call 6; refine (works7_any _).mono ?_; rintro e w1 ⟨rfl, b1⟩)
        | (go_at_call_of 7 (Value.slice a len cap); refine (KG.out _ (ops_below HA.out b1)).mono ?_; rintro e w2 ⟨g, rfl, -, b2⟩; have c2 := b1.trans (b2.mono b1.size); cases g)
        | (go_at_call 7; refine (KG2.out _ (ops_below HA2.out c2)).mono ?_; rintro e w3 ⟨g2, rfl, -, b3⟩; have c3 := c2.trans (b3.mono c2.size); cases g2))
      all_goals go_ret
      all_goals first | exact ⟨rfl, c3⟩ | exact ⟨rfl, c2⟩
    · have t1 : decide ((100 : Int) < clen) = false := decide_eq_false (by omega)
      have t2 : decide ((100 : Int) < name.size) = true := decide_eq_true (by omega)
      go_enter Tryz.func4, Tryz.ntmps4
      go_wp2_with (first
        | (go_at_call 6; refine (works7_any _).mono ?_; rintro e w1 ⟨rfl, b1⟩)
        | (go_at_call_of 7 (Value.slice a len cap); refine (KG.out _ (ops_below HA.out b1)).mono ?_; rintro e w2 ⟨g, rfl, -, b2⟩; have c2 := b1.trans (b2.mono b1.size); cases g)
        | (go_at_call 7; refine (KG2.out _ (ops_below HA2.out c2)).mono ?_; rintro e w3 ⟨g2, rfl, -, b3⟩; have c3 := c2.trans (b3.mono c2.size); cases g2))
      all_goals go_ret
      all_goals first | exact ⟨rfl, c3⟩ | exact ⟨rfl, c2⟩
  have t1 : decide ((100 : Int) < clen) = false := decide_eq_false (by omega)
  have t2 : decide ((100 : Int) < name.size) = false := decide_eq_false (by omega)
  have hnz : name.size ≤ 100 := by omega
  clear hbig
  go_enter Tryz.func4, Tryz.ntmps4
  go_upto_region 5 with (first
    | (go_at_call 6; refine (works7_any _).mono ?_; rintro e w1 ⟨rfl, b1⟩)
    | (go_at_call_of 7 (Value.slice a len cap); refine (KG.out _ (ops_below HA.out b1)).mono ?_; rintro e w2 ⟨g, rfl, hg1, b2⟩; have c2 := b1.trans (b2.mono b1.size); cases g)
    | (go_at_call 7; refine (KG2.out _ (ops_below HA2.out c2)).mono ?_; rintro e w3 ⟨g2, rfl, hg2, b3⟩; have c3 := c2.trans (b3.mono c2.size); cases g2))
  all_goals try (go_ret; first | exact ⟨rfl, c3⟩ | exact ⟨rfl, c2⟩)
  have hgr : GrtOk l := hg1 trivial
  have hgr2 : GrtOk l2 := hg2 trivial
  have hp0 := World.block_lt_of_cell? w _ HG.out
  have hG2 : Glob w3 := glob_block HG.out (c3.block 0 hp0)
  have hp2 : 0 < w3.heap.size := World.block_lt_of_cell? w3 _ hG2
  have HG2 := Lib.hid hG2
  have HGR := Lib.hid hgr
  have HGR2 := Lib.hid hgr2
  have HB := Lib.hid c3
  have HA3 := Lib.hid (ops_below HA.out c3)
  have HA23 := Lib.hid (ops_below HA2.out c3)
  have HC3 := Lib.hid (ints_below HCH.out c3)
  clear hg1 hg2 hgr hgr2 hG2 b1 b2 b3 c2 c3 KG KG2 HG HA HA2 HCH hp0 t1 t2
  go_wp2_with (first
    | (go_at_call 8; refine (new_any (-1) _).mono ?_; rintro e w4 ⟨rfl, hI, hb3⟩)
    | (go_at_call 9; refine (qnew_any (-1) _).mono ?_; rintro e w5 ⟨rfl, hQ, hb4⟩))
  have HJ := Lib.hid (show JBW w3 w3.heap.size w4.heap.size 0 (newS (-1)) (newRS (-1)) w5 from ⟨jb_new (-1) hI hb3 hQ hb4 HG2.out hp2, ws_new (-1)⟩)
  obtain ⟨b, hb⟩ : ∃ b, b = w3.heap.size := ⟨_, rfl⟩
  obtain ⟨q, hq⟩ : ∃ q, q = w4.heap.size := ⟨_, rfl⟩
  rw [← hb, ← hq] at HJ
  rw [← hb, ← hq]
  have HBB := Lib.hid (show ∀ wr, Below w3.heap.size w3 wr → Below w.heap.size w wr from fun wr h => HB.out.trans (h.mono HB.out.size))
  clear hI hQ hb3 hb4 hb hq hp2
  go_loopw [11] (fun iv wr => ∃ (i : Nat) (S : DS) (R : RS), i ≤ len ∧ iv = .int .i64 i ∧ Hid (JBW w3 b q i S R wr)) (fun iv _ => len - (intOf iv).toNat)
  case atStart => exact ⟨0, _, _, by omega, rfl, HJ⟩
  case round =>
    clear HJ
    obtain ⟨i, S, R, hi, rfl, hJ⟩ := hrel
    have h61 := HGR.out.1
    have hL0 := HL.out
    by_cases hlt : i < len
    · have hlt' : i < l.length := by omega
      have hi122 : i ≤ 60 := by omega
      obtain ⟨hO, hIN, g, off, rfl, hgw, c0, c1, c2, c3, c4, c5⟩ := HA3.out i hlt'
      have hbk := jb_back hJ.out.jb
      rw [← hbk.cell hgw] at c0 c1 c2 c3 c4 c5
      have hOG := HGR.out.2 _ (List.getElem_mem hlt')
      obtain ⟨o, ho⟩ : ∃ o, o = l[i]'hlt' := ⟨_, rfl⟩
      rw [← ho] at c0 c1 c2 c3 c4 c5 hO hOG hIN
      have KD := Lib.hid (jbw_do hJ.out (by omega) o hO hOG hIN)
      clear ho hlt' hO hOG hIN h61 hL0 hbk
      obtain ⟨kd, nm, N, M, dt, c6, ca2, cc2⟩ := o
      simp only at c0 c1 c2 c3 c4 c5 KD
      generalize stepS _ S = S2 at KD
      generalize stepR _ R = R2 at KD
      have i1 : (i : Int) < len := by omega
      go_wp2_with (go_at_call 10; refine KD.out.mono ?_; rintro e w6 ⟨rfl, hJ5⟩)
      have HJ5 := Lib.hid hJ5
      clear hJ5
      go_roundw
      case rel => exact ⟨i + 1, S2, R2, by omega, by go_num, HJ5⟩
      case measure => simp [intOf]; omega
    · obtain ⟨n, hn, hJM⟩ := hJ.out.jb.mem
      have hJA := clr_ja hJ.out.jb.ja
      have hJW := clr_ws hJ.out.ws
      have hJS := clr_sorts hJ.out.jb.srt
      have hnz2 : name.data.toList.length = name.size := by simp
      obtain ⟨nmL, hnm⟩ : ∃ nmL, nmL = name.data.toList := ⟨_, rfl⟩
      have hR := hJ.out.jb.ja.bk
      have hn1 : n ≤ 30744 := by omega
      have hk1 : 4 * i ≤ 244 := by omega
      have hsim1 := sim_sync hJA.sim nmL
      have hJA1 : JA (4 * i + 4) (syncG (clrS S) nmL).2 (qcall (qsynIn nmL) (qcrash 0 { R with tells := [] })).2 := ⟨hsim1.2, keys_sync hJA.keys nmL, bk_sync hJA.bk nmL⟩
      have hJA2 : JA (4 * i + 8) (dirsyncG (syncG (clrS S) nmL).2).2 (qcall qdirIn (qcall (qsynIn nmL) (qcrash 0 { R with tells := [] })).2).2 := ⟨(sim_dirsync hJA1.sim).2, keys_dirsync hJA1.keys, bk_dirsync hJA1.bk⟩
      have hp1 := ja_pend hJA
      have hp2 := ja_pend hJA1
      have hW2 : WS (dirsyncG (syncG (clrS S) nmL).2).2 := by
        have h5 := ws_step hJW ⟨5, name, 0, 0, ⟨#[]⟩, [], none, 0⟩
        have h6 := ws_step h5 ⟨6, name, 0, 0, ⟨#[]⟩, [], none, 0⟩
        rw [hnm]
        exact h6
      have hS2 : SortS (dirsyncG (syncG (clrS S) nmL).2).2 := sorts_dirsync (sorts_sync hJS nmL)
      have HIS := Lib.hid (fun (e1 : (syncG (clrS S) nmL).1 = 0) (e2 : (dirsyncG (syncG (clrS S) nmL).2).1 = 0) => is_init (nm := nmL) hJW hJA.keys rfl rfl e1 e2)
      have KF := Lib.hid (show Calls Tryz.prog 12 #[.pointer (some ⟨b, 0, none⟩), .slice none 0 0] wr (fun e v' => e = .returned (.tuple #[]) ∧ JM (fun _ _ => False) w3 b q n { S with flt := fun _ => 0 } R v') from jm_nofaults hJM)
      have hEQ : (syncG (clrS S) name.data.toList) = syncG (clrS S) nmL := by rw [hnm]
      have KS := Lib.hid (show ∀ (v1 : World), JM (fun _ _ => False) w3 b q n (clrS S) R v1 → Calls Tryz.prog 14 #[.pointer (some ⟨b, 0, none⟩), .string name] v1 (fun e v' => e = .returned (.int .i64 (syncG (clrS S) nmL).1) ∧ ∃ m, m ≤ 35000 ∧ JM (fun _ _ => False) w3 b q m (syncG (clrS S) nmL).2 R v') from fun v1 h => (jm_sync h name (by omega) (by omega)).mono fun e v' hq => by
        obtain ⟨m, he, hJ, hm⟩ := hq
        rw [hEQ] at he hJ
        exact ⟨he, m, by omega, hJ⟩)
      have KD := Lib.hid (show ∀ (m : Nat) (v1 : World), m ≤ 35000 → JM (fun _ _ => False) w3 b q m (syncG (clrS S) nmL).2 R v1 → Calls Tryz.prog 15 #[.pointer (some ⟨b, 0, none⟩)] v1 (fun e v' => e = .returned (.int .i64 (dirsyncG (syncG (clrS S) nmL).2).1) ∧ ∃ m', m' ≤ 40000 ∧ JM (fun _ _ => False) w3 b q m' (dirsyncG (syncG (clrS S) nmL).2).2 R v') from fun m v1 hm h => (jm_dirsync h (by omega)).mono fun e v' hq => by
        obtain ⟨m', he, hJ, hm'⟩ := hq
        exact ⟨he, m', by omega, hJ⟩)
      clear hEQ
      have HJA2 := Lib.hid hJA2; have HW2 := Lib.hid hW2; have HS2 := Lib.hid hS2; have HR := Lib.hid hR; have HNM := Lib.hid hnm
      have hBK := jm_back hJM
      have HBK := Lib.hid hBK
      clear hJM hJA hJA1 hJA2 hJW hJS hR hsim1 hW2 hS2 hnz2 hnm hBK hJ
      generalize hSx : (syncG (clrS S) nmL).1 = x1 at HIS KS
      generalize (qcall qdirIn (qcall (qsynIn nmL) (qcrash 0 { R with tells := [] })).2).2 = R2 at HJA2
      have hstart : ∀ v1, JM (fun _ _ => False) w3 b q n { S with flt := fun _ => 0 } R v1 → Calls Tryz.prog 13 #[.pointer (some ⟨b, 0, none⟩), .int .i64 0] v1 fun e v' => e = .returned (.tuple #[]) ∧ JM (fun _ _ => False) w3 b q n (clrS S) R v' := fun v1 h => jm_crash h 0
      have KC := Lib.hid hstart
      clear hstart
      by_cases e1 : x1 = 0
      case neg =>
        have t1 : (x1 != 0) = true := by simpa using e1
        have t2 : (x1 == 0) = false := beq_eq_false_iff_ne.2 e1
        go_wp2_with (first
          | (go_at_call 12; refine KF.out.mono ?_; rintro e w6 ⟨rfl, hF⟩)
          | (go_at_call 13; refine (KC.out _ hF).mono ?_; rintro e w7 ⟨rfl, hC⟩)
          | (go_at_call 14; refine (KS.out _ hC).mono ?_; rintro e w8 ⟨rfl, m1, hm1, hS1⟩))
        go_ret
        exact ⟨rfl, HBB.out _ (jm_back hS1)⟩
      subst e1
      have HIS1 := Lib.hid (HIS.out rfl)
      generalize hDx : (dirsyncG (syncG (clrS S) nmL).2).1 = x2 at HIS1 KD
      generalize (dirsyncG (syncG (clrS S) nmL).2).2 = S2 at HIS1 KD HJA2 HW2 HS2
      have hp3 : (clrS S).pend.length ≤ 244 := by omega
      clear HIS hDx hSx
      by_cases e2 : x2 = 0
      case neg =>
        have t1 : (x2 != 0) = true := by simpa using e2
        have t2 : (x2 == 0) = false := beq_eq_false_iff_ne.2 e2
        go_wp2_with (first
          | (go_at_call 12; refine KF.out.mono ?_; rintro e w6 ⟨rfl, hF⟩)
          | (go_at_call 13; refine (KC.out _ hF).mono ?_; rintro e w7 ⟨rfl, hC⟩)
          | (go_at_call 14; refine (KS.out _ hC).mono ?_; rintro e w8 ⟨rfl, m1, hm1, hS1⟩)
          | (go_at_call 15; refine (KD.out m1 _ hm1 hS1).mono ?_; rintro e w9 ⟨rfl, m2, hm2, hD1⟩))
        go_ret
        exact ⟨rfl, HBB.out _ (jm_back hD1)⟩
      subst e2
      obtain ⟨fi, his⟩ := HIS1.out rfl
      have HIF := Lib.hid his
      have HW := Lib.hid (show contZ S2 nmL = contZ S2 nmL from rfl)
      clear HIS1 his HW
      obtain ⟨want, hwant⟩ : ∃ want, want = contZ S2 nmL := ⟨_, rfl⟩
      rw [← hwant] at HIF
      have KCT := Lib.hid (fun (m : Nat) (v1 : World) (h : JM (fun _ _ => False) w3 b q m S2 R v1) => jm_content h name (by omega))
      rw [← HNM.out, ← hwant] at KCT
      clear hwant
      go_wp2_with (first
        | (go_at_call 12; refine KF.out.mono ?_; rintro e w6 ⟨rfl, hF⟩)
        | (go_at_call 13; refine (KC.out _ hF).mono ?_; rintro e w7 ⟨rfl, hC⟩)
        | (go_at_call 14; refine (KS.out _ hC).mono ?_; rintro e w8 ⟨rfl, m1, hm1, hS1⟩)
        | (go_at_call 15; refine (KD.out m1 _ hm1 hS1).mono ?_; rintro e w9 ⟨rfl, m2, hm2, hD1⟩)
        | (go_at_call 16; refine (KCT.out m2 _ hD1).mono ?_; rintro e w10 ⟨rfl, rfl⟩))
      have HU := Lib.hid (show ∃ (n k : Nat) (R' : RS), n ≤ 40000 + 504 * 0 ∧ k ≤ 252 + 4 * 0 ∧ JU w3 b q n k nmL fi want S2 R R' w10 from ⟨m2, 252, R2, by omega, by omega, hD1, ⟨HJA2.out.sim, HJA2.out.keys, bk_mono HJA2.out.bk (by omega)⟩, bk_mono HR.out (by omega), HW2.out, HIF.out, HS2.out⟩)
      clear hF hC hS1 hD1 hm1 hm2 KF KC KS KD KCT
      go_loopw [14] (fun iv wr => ∃ (j : Nat) (S : DS) (R : RS), j ≤ len2 ∧ iv = .int .i64 j ∧ Hid (∃ (n k : Nat) (R' : RS), n ≤ 40000 + 504 * j ∧ k ≤ 252 + 4 * j ∧ JU w3 b q n k nmL fi want S R R' wr)) (fun iv _ => len2 - (intOf iv).toNat)
      case atStart => exact ⟨0, _, _, by omega, rfl, HU⟩
      case round =>
        clear HU
        obtain ⟨j, S, R, hj, rfl, hU⟩ := hrel
        have h612 := HGR2.out.1
        have hL20 := HL2.out
        by_cases hlt2 : j < len2
        · have hlt2' : j < l2.length := by omega
          obtain ⟨hO, hIN, g, off, rfl, hgw, c0, c1, c2, c3, c4, c5⟩ := HA23.out j hlt2'
          obtain ⟨n5, k5, R5, hn5, hk5, hU5⟩ := hU.out
          have hbk := jm_back hU5.mem
          rw [← hbk.cell hgw] at c0 c1 c2 c3 c4 c5
          have hOG := HGR2.out.2 _ (List.getElem_mem hlt2')
          obtain ⟨o, ho⟩ : ∃ o, o = l2[j]'hlt2' := ⟨_, rfl⟩
          rw [← ho] at c0 c1 c2 c3 c4 c5 hO hOG hIN
          have KDO := Lib.hid (fun hne => ju_do hU5 (by omega) (by omega) o hO hOG hIN hne)
          have hU5' := Lib.hid (show ∃ (n k : Nat) (R' : RS), n ≤ 40000 + 504 * (j + 1) ∧ k ≤ 252 + 4 * (j + 1) ∧ JU w3 b q n k nmL fi want S R R' wr from ⟨n5, k5, R5, by omega, by omega, hU5⟩)
          clear ho hlt2' hO hOG hIN h612 hL20 hbk hU5 hU
          obtain ⟨kd, nm2, N, M, dt, c6, ca2, cc2⟩ := o
          simp only at c0 c1 c2 c3 c4 c5 KDO
          have HNE := Lib.hid (show nm2 ≠ name → nm2.data.toList ≠ nmL from fun h e => h (by rw [HNM.out] at e; exact ByteArray.ext (Array.toList_inj.1 e)))
          have i1 : (j : Int) < len2 := by omega
          have hqq : (nm2.toList == name.toList) = decide (nm2 = name) := by
            rw [Bool.eq_iff_iff, beq_iff_eq, decide_eq_true_iff, ByteArray.toList_eq, ByteArray.toList_eq]
            exact ⟨fun e => ByteArray.ext (Array.toList_inj.1 e), fun e => by rw [e]⟩
          by_cases hnn : nm2 = name
          · rw [decide_eq_true hnn] at hqq
            by_cases h2 : kd = 2
            · have t1 : (kd == 2) = true := beq_iff_eq.2 h2
              have KX := Lib.hid (KDO.out (.inr (.inl h2)))
              clear hnn h2 KDO HNE
              generalize stepS _ S = S5 at KX
              generalize stepR _ R = R6 at KX
              generalize stepR _ R5 = R7 at KX
              go_wp2_with (go_at_call 10; refine KX.out.mono ?_; rintro e w12 ⟨bb, rfl, m5, hm5, hJ5⟩; have HJ5 := Lib.hid (show ∃ (n k : Nat) (R' : RS), n ≤ 40000 + 504 * (j + 1) ∧ k ≤ 252 + 4 * (j + 1) ∧ JU w3 b q n k nmL fi want S5 R6 R' w12 from ⟨m5, k5 + 4, R7, by omega, by omega, hJ5⟩); clear hJ5)
              go_roundw
              case rel => exact ⟨j + 1, S5, R6, by omega, by go_num, HJ5⟩
              case measure => simp [intOf]; omega
            · have t1 : (kd == 2) = false := beq_eq_false_iff_ne.2 h2
              by_cases h4 : 4 < kd
              · have t2 : decide ((4 : Int) < kd) = true := decide_eq_true h4
                have KX := Lib.hid (KDO.out (.inr (.inr h4)))
                clear hnn h2 h4 KDO HNE
                generalize stepS _ S = S5 at KX
                generalize stepR _ R = R6 at KX
                generalize stepR _ R5 = R7 at KX
                go_wp2_with (go_at_call 10; refine KX.out.mono ?_; rintro e w12 ⟨bb, rfl, m5, hm5, hJ5⟩; have HJ5 := Lib.hid (show ∃ (n k : Nat) (R' : RS), n ≤ 40000 + 504 * (j + 1) ∧ k ≤ 252 + 4 * (j + 1) ∧ JU w3 b q n k nmL fi want S5 R6 R' w12 from ⟨m5, k5 + 4, R7, by omega, by omega, hJ5⟩); clear hJ5)
                go_roundw
                case rel => exact ⟨j + 1, S5, R6, by omega, by go_num, HJ5⟩
                case measure => simp [intOf]; omega
              · have t2 : decide ((4 : Int) < kd) = false := decide_eq_false h4
                clear hnn h2 h4 KDO HNE
                go_wp2
                go_roundw
                case rel => exact ⟨j + 1, S, R, by omega, by go_num, hU5'⟩
                case measure => simp [intOf]; omega
          · rw [decide_eq_false hnn] at hqq
            have KX := Lib.hid (KDO.out (.inl (HNE.out hnn)))
            clear hnn KDO HNE
            generalize stepS _ S = S5 at KX
            generalize stepR _ R = R6 at KX
            generalize stepR _ R5 = R7 at KX
            go_wp2_with (go_at_call 10; refine KX.out.mono ?_; rintro e w12 ⟨bb, rfl, m5, hm5, hJ5⟩; have HJ5 := Lib.hid (show ∃ (n k : Nat) (R' : RS), n ≤ 40000 + 504 * (j + 1) ∧ k ≤ 252 + 4 * (j + 1) ∧ JU w3 b q n k nmL fi want S5 R6 R' w12 from ⟨m5, k5 + 4, R7, by omega, by omega, hJ5⟩); clear hJ5)
            go_roundw
            case rel => exact ⟨j + 1, S5, R6, by omega, by go_num, HJ5⟩
            case measure => simp [intOf]; omega
        · obtain ⟨n5, k5, R5, hn5, hk5, hU5⟩ := hU.out
          have hLL := last_lines hU5.is hU5.ws hU5.ja.keys (uOf ch) (uOf [1, 1, 2])
          have hpe := ja_pend hU5.ja
          have hj61 : j ≤ 61 := by omega
          have hap : Apart (fun _ _ => False) w3 wr ca ch := fun k hk => by
            obtain ⟨g, o, e, hg, hc⟩ := HC3.out k hk
            exact ⟨g, o, e, .inl hg, by rw [(jm_back hU5.mem).cell hg]; exact hc⟩
          have hsr := sorts_restart hU5.srt (uOf ch)
          have hsr2 := sorts_restart hsr (uOf [1, 1, 2])
          have hkr := keys_restart hU5.ja.keys (uOf ch)
          have K1 := Lib.hid (jm_restart hU5.mem ca cc ch hap (by omega) hU5.ja.keys)
          rw [← HCL.out] at K1
          have hpend : (restartS (uOf ch) S).pend = [] := rfl
          have KCN := Lib.hid (fun (T : DS) (hh : hasZ T nmL = true ∧ contZ T nmL = want) (X : Nat → Obj → Prop) (m : Nat) (v1 : World) (h : JM X w3 b q m T R v1) => show Calls Tryz.prog 16 #[.pointer (some ⟨b, 0, none⟩), .string name] v1 (fun e v' => e = .returned (.tuple #[.string (bz want), .bool true]) ∧ v' = v1) from by
            have := jm_content h name (by omega)
            rw [← HNM.out, hh.1, hh.2] at this
            exact this)
          have HLL := Lib.hid hLL
          obtain ⟨nl, hnl⟩ : ∃ nl, nl = (namesL (restartS (uOf ch) S)).length := ⟨_, rfl⟩
          have hnl2 : nl = (namesL (restartS (uOf [1, 1, 2]) (restartS (uOf ch) S))).length := hnl.trans hLL.2.2.2.2.1.symm
          have KN := Lib.hid (fun (X : Nat → Obj → Prop) (m : Nat) (v1 : World) (h : JM X w3 b q m (restartS (uOf ch) S) R v1) => jm_names h hsr)
          have KN2 := Lib.hid (fun (X : Nat → Obj → Prop) (m : Nat) (v1 : World) (h : JM X w3 b q m (restartS (uOf [1, 1, 2]) (restartS (uOf ch) S)) R v1) => jm_names h hsr2)
          rw [← hnl] at KN
          rw [← hnl2] at KN2
          have KR2 := Lib.hid (fun (X : Nat → Obj → Prop) (m : Nat) (v1 : World) (gl : Nat) (hm : m ≤ 75000) (h : JM X w3 b q m (restartS (uOf ch) S) R v1) (hx : X gl (.cells #[.int .i64 1, .int .i64 1, .int .i64 2] 3 (0, 0))) => show Calls Tryz.prog 17 #[.pointer (some ⟨b, 0, none⟩), .slice (some ⟨gl, 0, none⟩) 3 3] v1 (fun e v' => e = .returned (.tuple #[]) ∧ JM X w3 b q m (restartS (uOf [1, 1, 2]) (restartS (uOf ch) S)) R v') from by
            have hb := jm_x h hx
            refine (jm_restart h (some ⟨gl, 0, none⟩) 3 [1, 1, 2] (fun k hk => ⟨gl, 0, rfl, .inr ⟨_, hx⟩, ?_⟩) (by rw [hpend]; simp only [List.length_nil]; omega) hkr).mono fun e v' hq => hq
            have hk3 : k < 3 := hk
            match k, hk3 with
            | 0, _ => exact blk_cell (t := 3) (cs := #[.int .i64 1, .int .i64 1, .int .i64 2]) hb 0 rfl
            | 1, _ => exact blk_cell (t := 3) (cs := #[.int .i64 1, .int .i64 1, .int .i64 2]) hb 1 rfl
            | 2, _ => exact blk_cell (t := 3) (cs := #[.int .i64 1, .int .i64 1, .int .i64 2]) hb 2 rfl)
          have hmz : n5 + S.pend.length ≤ 75000 := by omega
          have HMZ := Lib.hid hmz
          clear hnl hnl2 hsr hsr2 hkr hpend hLL hpe hap hU5 hU hn5 hk5 hmz h612 hL20
          go_wp2_with (first
            | (go_at_call_of 17 (Value.slice ca clen cc); refine K1.out.mono ?_; rintro e w12 ⟨rfl, hR1⟩)
            | (go_at_call 17; refine (KR2.out _ _ _ w13.heap.size HMZ.out (jm_add hR2 (.cells #[.int .i64 1, .int .i64 1, .int .i64 2] 3 (0, 0))) (.inr ⟨rfl, rfl⟩)).mono ?_; rintro e w14 ⟨rfl, hR3⟩)
            | (go_at_call 16; first | (refine (KCN.out _ ⟨HLL.out.2.2.1, HLL.out.2.2.2.1⟩ _ _ _ hR3).mono ?_; rintro e w15 ⟨rfl, rfl⟩) | (refine (KCN.out _ ⟨HLL.out.1, HLL.out.2.1⟩ _ _ _ hR1).mono ?_; rintro e w16 ⟨rfl, rfl⟩))
            | (go_at_call 18; first | (refine (KN2.out _ _ _ hR3).mono ?_; rintro e w17 ⟨na2, nc2, rfl, -, hb17⟩; have hR4 := jm_below hR3 hb17) | (refine (KN.out _ _ _ hR1).mono ?_; rintro e w13 ⟨na, nc, rfl, -, hb13⟩; have hR2 := jm_below hR1 hb13))
            | (go_at_call 19; refine (jm_down hR4).mono ?_; rintro e w18 ⟨rfl, rfl⟩))
          go_ret
          exact ⟨by rw [HLL.out.2.2.2.2.2]; rfl, HBB.out _ (jm_back hR4)⟩
end Go.Proofs.YtkfncnpeockiaaaGreatDoor
