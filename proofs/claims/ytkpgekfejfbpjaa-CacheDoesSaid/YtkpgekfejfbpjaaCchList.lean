/-
  Layer 12: the two methods of a doubly linked list: add makes an element the last one, remove takes an element out. Condition: the list has at most a million elements.
-/
import Derived.Test.YtkpgekfejfbpjaaCchMap
namespace Go.Proofs.Ytkpgekfejfbpjaa
open Go.RowKit
variable {L : CL} {ρ ρ' : Nat → Option CRole} {S : CS} {w w' : World}

theorem split_snoc {α : Type} {l a b : List α} {e x : α} (h : l ++ [x] = a ++ e :: b) : (b = [] ∧ e = x ∧ a = l) ∨ ∃ b', b = b' ++ [x] ∧ l = a ++ e :: b' := by
  rcases List.eq_nil_or_concat b with rfl | ⟨b', y, rfl⟩
  · left
    have := List.append_inj' h rfl
    obtain ⟨h1, h2⟩ := this
    simp at h2
    exact ⟨rfl, h2.symm, h1.symm⟩
  · right
    have h' : l ++ [x] = (a ++ e :: b') ++ [y] := by simpa using h
    obtain ⟨h1, h2⟩ := List.append_inj' h' rfl
    simp at h2
    exact ⟨b', by rw [h2]; simp, h1⟩
theorem split_two {α : Type} {a b a' b' : List α} {f : α} (h : a ++ b = a' ++ f :: b') : (∃ b'', a = a' ++ f :: b'' ∧ b' = b'' ++ b) ∨ ∃ a'', b = a'' ++ f :: b' ∧ a' = a ++ a'' := by
  rcases List.append_eq_append_iff.1 h with ⟨c, h1, h2⟩ | ⟨c, h1, h2⟩
  · right; exact ⟨c, h2, h1⟩
  · cases c with
    | nil => right; exact ⟨[], by simpa using h2.symm, by simpa using h1.symm⟩
    | cons x c =>
      simp at h2
      obtain ⟨rfl, rfl⟩ := h2
      left; exact ⟨c, h1, rfl⟩
theorem nodup_mid {l a b a' b' : List Nat} {e : Nat} (h : l.Nodup) (h1 : l = a ++ e :: b) (h2 : l = a' ++ e :: b') : a = a' ∧ b = b' := by
  rw [h1] at h h2
  have hn := List.nodup_append.1 h
  have h5 : e ∉ a := fun hm => hn.2.2 e hm e (List.mem_cons_self ..) rfl
  have h6 : e ∉ b := (List.nodup_cons.1 hn.2.1).1
  rcases List.append_eq_append_iff.1 h2 with ⟨c, h3, h4⟩ | ⟨c, h3, h4⟩
  · cases c with
    | nil => simp at h3 h4; exact ⟨h3.symm, h4⟩
    | cons x c => simp at h4; exact absurd (by rw [h4.2]; simp) h6
  · cases c with
    | nil => simp at h3 h4; exact ⟨h3, h4.symm⟩
    | cons x c => simp at h4; exact absurd (by rw [h3, h4.1]; simp) h5

/-- add. -/
def addS (S : CS) (s : Bool) (e : Nat) : CS := { S with li := updB S.li s (S.li s ++ [e]), fr := none }
def remS (S : CS) (s : Bool) (a : List Nat) (e : Nat) (b : List Nat) : CS := { S with li := updB S.li s (a ++ b), fr := some e }

theorem updB_cases (f : Bool → List Nat) (s : Bool) (x : List Nat) (t : Bool) : (t = s ∧ updB f s x t = x) ∨ (t = (!s) ∧ updB f s x t = f t) := by
  cases s <;> cases t <;> simp [updB]

theorem inv_add (h : CInv L ρ S w) (s : Bool) {e : Nat} (hf : S.fr = some e)
    (h1 : Blk w' (L.lb s) 48 (liC (S.li s ++ [e]))) (h2 : Blk w' e 56 (elC (S.pg e) (S.li s).getLast? none))
    (h3 : ∀ a z, S.li s = a ++ [z] → Blk w' z 56 (elC (S.pg z) a.getLast? (some e)))
    (h4 : ∀ k, k ≠ L.lb s → k ≠ e → some k ≠ (S.li s).getLast? → w'.heap[k]? = w.heap[k]?) (hz : w'.heap.size = w.heap.size) : CInv L ρ (addS S s e) w' := by
  have hr := (h.fre e hf).1
  have hne := h.cl_ne (s := s) hr
  have hne' := h.cl_ne (s := !s) hr
  have hlast : ∀ z, some z = (S.li s).getLast? → ρ z = some .el ∧ z ∈ S.li s := fun z hz => by
    have := List.mem_of_getLast? hz.symm
    exact ⟨h.elr this, this⟩
  refine ⟨h.hc, h.hm, h.hl, ?_, ?_, ?_, ?_, ?_, ?_, ?_, ?_, ?_⟩
  · refine (h4 _ (h.ll_ne s).1.symm hne.2.1.symm fun hh => ?_).trans h.blk
    exact (h.cl_ne (s := s) (hlast _ hh).1).2.1 rfl
  · refine own_keep h.map (h4 _ (h.ll_ne s).2.1.symm hne.2.2.symm fun hh => ?_)
    exact (h.cl_ne (s := s) (hlast _ hh).1).2.2 rfl
  · intro t
    show Blk w' (L.lb t) 48 (liC (updB S.li s (S.li s ++ [e]) t))
    rcases updB_cases S.li s (S.li s ++ [e]) t with ⟨rfl, h5⟩ | ⟨rfl, h5⟩
    · rw [h5]; exact h1
    · rw [h5]
      refine (h4 _ (h.ll_ne s).2.2.2 hne'.1.symm fun hh => ?_).trans (h.lst _)
      exact (h.cl_ne (s := !s) (hlast _ hh).1).1 rfl
  · intro t a f b hab
    replace hab : updB S.li s (S.li s ++ [e]) t = a ++ f :: b := hab
    show ρ f = some .el ∧ Blk w' f 56 (elC (S.pg f) a.getLast? b.head?)
    rcases updB_cases S.li s (S.li s ++ [e]) t with ⟨rfl, h5⟩ | ⟨rfl, h5⟩
    · rw [h5] at hab
      rcases split_snoc hab with ⟨rfl, rfl, rfl⟩ | ⟨b', rfl, hl⟩
      · exact ⟨hr, h2⟩
      · have hfm : f ∈ S.li t := by rw [hl]; simp
        have hfr := h.elr hfm
        refine ⟨hfr, ?_⟩
        cases b' with
        | nil => exact h3 a f hl
        | cons y b' =>
          have h6 := (h.ele t a f (y :: b') hl).2
          refine (h4 _ (h.cl_ne hfr).1 (fun hh => h.nf e t hf (hh ▸ hfm)) fun hh => ?_).trans h6
          have hnd := h.nd t
          rw [hl] at hnd hh
          have h7 : f ∉ y :: b' := (List.nodup_cons.1 (List.nodup_append.1 hnd).2.1).1
          rw [List.getLast?_append, List.getLast?_cons_cons] at hh
          have h8 : (y :: b').getLast? = some f := by
            cases hq : (y :: b').getLast? with
            | none => simp at hq
            | some q => rw [hq] at hh; simpa using hh.symm
          exact h7 (List.mem_of_getLast? h8)
    · rw [h5] at hab
      have hfm : f ∈ S.li (!s) := by rw [hab]; simp
      have hfr := h.elr hfm
      refine ⟨hfr, (h4 _ (h.cl_ne hfr).1 (fun hh => h.nf e (!s) hf (hh ▸ hfm)) fun hh => ?_).trans (h.ele _ a f b hab).2⟩
      exact h.ap2 (hlast _ hh).2 hfm
  · intro f hff; cases hff
  · intro t
    show (updB S.li s (S.li s ++ [e]) t).Nodup
    rcases updB_cases S.li s (S.li s ++ [e]) t with ⟨rfl, h5⟩ | ⟨rfl, h5⟩
    · rw [h5, List.nodup_append]
      exact ⟨h.nd t, by simp, fun x hx y hy hxy => by simp at hy; subst hy; subst hxy; exact h.nf x t hf hx⟩
    · rw [h5]; exact h.nd _
  · intro x hx hx'
    replace hx : x ∈ updB S.li s (S.li s ++ [e]) false := hx
    replace hx' : x ∈ updB S.li s (S.li s ++ [e]) true := hx'
    cases s
    · simp only [updB, if_true, List.mem_append, List.mem_singleton, Bool.true_eq_false, if_false] at hx hx'
      rcases hx with hx | rfl
      · exact h.ap x hx hx'
      · exact h.nf x true hf hx'
    · simp only [updB, if_true, List.mem_append, List.mem_singleton, Bool.false_eq_true, if_false] at hx hx'
      rcases hx' with hx' | rfl
      · exact h.ap x hx hx'
      · exact h.nf x false hf hx
  · intro f t hff; cases hff
  · intro k hk; exact h.old k (by rw [← hz]; exact hk)

theorem inv_rem (h : CInv L ρ S w) (s : Bool) {e : Nat} {a b : List Nat} (hl : S.li s = a ++ e :: b) 
    (h1 : Blk w' (L.lb s) 48 (liC (a ++ b))) (h2 : Blk w' e 56 (elC (S.pg e) none none))
    (h3 : ∀ a' x, a = a' ++ [x] → Blk w' x 56 (elC (S.pg x) a'.getLast? b.head?))
    (h3' : ∀ y b', b = y :: b' → Blk w' y 56 (elC (S.pg y) a.getLast? b'.head?))
    (h4 : ∀ k, k ≠ L.lb s → k ≠ e → some k ≠ a.getLast? → some k ≠ b.head? → w'.heap[k]? = w.heap[k]?) (hz : w'.heap.size = w.heap.size) : CInv L ρ (remS S s a e b) w' := by
  have hem : e ∈ S.li s := by rw [hl]; simp
  have hr := h.elr hem
  have hne := h.cl_ne (s := s) hr
  have hne' := h.cl_ne (s := !s) hr
  have hla : ∀ z, some z = a.getLast? → ρ z = some .el ∧ z ∈ S.li s := fun z hz => by
    have : z ∈ S.li s := by rw [hl]; exact List.mem_append_left _ (List.mem_of_getLast? hz.symm)
    exact ⟨h.elr this, this⟩
  have hhb : ∀ z, some z = b.head? → ρ z = some .el ∧ z ∈ S.li s := fun z hz => by
    have : z ∈ S.li s := by rw [hl]; exact List.mem_append_right _ (List.mem_cons_of_mem _ (List.mem_of_head? hz.symm))
    exact ⟨h.elr this, this⟩
  have hnd := h.nd s
  rw [hl] at hnd
  have hn1 := List.nodup_append.1 hnd
  have hea : e ∉ a := fun hm => hn1.2.2 e hm e (List.mem_cons_self ..) rfl
  have heb : e ∉ b := (List.nodup_cons.1 hn1.2.1).1
  have hab' : ∀ x, x ∈ a → x ∉ b := fun x h5 h6 => hn1.2.2 x h5 x (List.mem_cons_of_mem _ h6) rfl
  have hnb := (List.nodup_cons.1 hn1.2.1).2
  have hsub : (a ++ b).Sublist (S.li s) := by rw [hl]; exact (List.sublist_cons_self e b).append_left a
  refine ⟨h.hc, h.hm, h.hl, ?_, ?_, ?_, ?_, ?_, ?_, ?_, ?_, ?_⟩
  · exact (h4 _ (h.ll_ne s).1.symm hne.2.1.symm (fun hh => (h.cl_ne (s := s) (hla _ hh).1).2.1 rfl) (fun hh => (h.cl_ne (s := s) (hhb _ hh).1).2.1 rfl)).trans h.blk
  · exact own_keep h.map (h4 _ (h.ll_ne s).2.1.symm hne.2.2.symm (fun hh => (h.cl_ne (s := s) (hla _ hh).1).2.2 rfl) (fun hh => (h.cl_ne (s := s) (hhb _ hh).1).2.2 rfl))
  · intro t
    show Blk w' (L.lb t) 48 (liC (updB S.li s (a ++ b) t))
    rcases updB_cases S.li s (a ++ b) t with ⟨rfl, h5⟩ | ⟨rfl, h5⟩
    · rw [h5]; exact h1
    · rw [h5]
      exact (h4 _ (h.ll_ne s).2.2.2 hne'.1.symm (fun hh => (h.cl_ne (s := !s) (hla _ hh).1).1 rfl) (fun hh => (h.cl_ne (s := !s) (hhb _ hh).1).1 rfl)).trans (h.lst _)
  · intro t a1 f b1 hab
    replace hab : updB S.li s (a ++ b) t = a1 ++ f :: b1 := hab
    show ρ f = some .el ∧ Blk w' f 56 (elC (S.pg f) a1.getLast? b1.head?)
    rcases updB_cases S.li s (a ++ b) t with ⟨rfl, h5⟩ | ⟨rfl, h5⟩
    · rw [h5] at hab
      have hfm : f ∈ S.li t := hsub.subset (by rw [hab]; simp)
      have hfr := h.elr hfm
      refine ⟨hfr, ?_⟩
      rcases split_two hab with ⟨b2, h6, h7⟩ | ⟨a2, h6, h7⟩
      · -- in the part ahead
        have hfe : f ≠ e := fun hh => hea (by rw [← hh, h6]; simp)
        have hfb : some f ≠ b.head? := fun hh => hab' f (by rw [h6]; simp) (List.mem_of_head? hh.symm)
        cases b2 with
        | nil => rw [h7, List.nil_append]; exact h3 a1 f h6
        | cons y b2 =>
          have h8 := (h.ele t a1 f (y :: b2 ++ e :: b) (by rw [hl, h6]; simp)).2
          rw [h7]
          refine (h4 _ (h.cl_ne hfr).1 hfe (fun hh => ?_) hfb).trans h8
          have hna := hn1.1
          rw [h6] at hna hh
          have h9 : f ∉ y :: b2 := (List.nodup_cons.1 (List.nodup_append.1 hna).2.1).1
          rw [List.getLast?_append, List.getLast?_cons_cons] at hh
          have h10 : (y :: b2).getLast? = some f := by
            cases hq : (y :: b2).getLast? with
            | none => simp at hq
            | some q => rw [hq] at hh; simpa using hh.symm
          exact h9 (List.mem_of_getLast? h10)
      · have hfe : f ≠ e := fun hh => heb (by rw [← hh, h6]; simp)
        have hfa : some f ≠ a.getLast? := fun hh => hab' f (List.mem_of_getLast? hh.symm) (by rw [h6]; simp)
        cases a2 with
        | nil => rw [h7, List.append_nil]; exact h3' f b1 h6
        | cons y a2 =>
          have h8 := (h.ele t (a ++ e :: y :: a2) f b1 (by rw [hl, h6]; simp)).2
          have e1 : (a ++ e :: y :: a2).getLast? = a1.getLast? := by
            rw [h7, List.getLast?_append, List.getLast?_append, List.getLast?_cons_cons]
          rw [e1] at h8
          refine (h4 _ (h.cl_ne hfr).1 hfe hfa (fun hh => ?_)).trans h8
          rw [h6] at hnb hh
          simp at hh
          subst hh
          simp at hnb
    · rw [h5] at hab
      have hfm : f ∈ S.li (!s) := by rw [hab]; simp
      have hfr := h.elr hfm
      exact ⟨hfr, (h4 _ (h.cl_ne hfr).1 (fun hh => h.ap2 hem (hh ▸ hfm)) (fun hh => h.ap2 (hla _ hh).2 hfm) (fun hh => h.ap2 (hhb _ hh).2 hfm)).trans (h.ele _ a1 f b1 hab).2⟩
  · intro f hff
    cases hff
    exact ⟨hr, h2⟩
  · intro t
    show (updB S.li s (a ++ b) t).Nodup
    rcases updB_cases S.li s (a ++ b) t with ⟨rfl, h5⟩ | ⟨rfl, h5⟩
    · rw [h5]; exact (h.nd t).sublist hsub
    · rw [h5]; exact h.nd _
  · intro x hx hx'
    replace hx : x ∈ updB S.li s (a ++ b) false := hx
    replace hx' : x ∈ updB S.li s (a ++ b) true := hx'
    have h8 : ∀ t, x ∈ updB S.li s (a ++ b) t → x ∈ S.li t := fun t ht => by
      rcases updB_cases S.li s (a ++ b) t with ⟨rfl, h5⟩ | ⟨rfl, h5⟩
      · rw [h5] at ht; exact hsub.subset ht
      · rw [h5] at ht; exact ht
    exact h.ap x (h8 _ hx) (h8 _ hx')
  · intro f t hff
    cases hff
    show e ∉ updB S.li s (a ++ b) t
    rcases updB_cases S.li s (a ++ b) t with ⟨rfl, h5⟩ | ⟨rfl, h5⟩
    · rw [h5]
      intro hm
      rcases List.mem_append.1 hm with hm | hm
      · exact hea hm
      · exact heb hm
    · rw [h5]; exact h.ap2 hem
  · intro k hk; exact h.old k (by rw [← hz]; exact hk)
end Go.Proofs.Ytkpgekfejfbpjaa
