/-
  Layer 12, CacheTrue on lists alone: the operations that put each page last, beside the cache. No program text is walked here.
-/
import Derived.Test.YtkpgekfejfbpjaaCcLaw2
namespace Go.Proofs.Ytkpgekfejfbpjaa
open Go.RowKit
variable {A : AP} {M : List OpC}

/-- What was put last of each page, and not dropped. -/
structure TR (A : AP) (M : List OpC) : Prop where
  nd : (M.map (·.n)).Nodup
  kd : ∀ o ∈ M, o.kind = 1 ∨ o.kind = 2
  up : ∀ t k x, (k, x) ∈ A.li t → ∃ o ∈ M, o.n = k ∧ o.data = x ∧ (o.kind = 2 ↔ t = true)
  dn : ∀ o ∈ M, o.kind = 2 → (o.n, o.data) ∈ A.li true

theorem uniqC (hn : (M.map (·.n)).Nodup) {o o' : OpC} (h : o ∈ M) (h' : o' ∈ M) (e : o.n = o'.n) : o = o' := by
  induction M with
  | nil => cases h
  | cons a r ih =>
    rw [List.map_cons, List.nodup_cons] at hn
    rcases List.mem_cons.1 h with rfl | h1
    · rcases List.mem_cons.1 h' with rfl | h2
      · rfl
      · exact absurd (List.mem_map_of_mem (f := (·.n)) h2) (by rw [← e]; exact hn.1)
    · rcases List.mem_cons.1 h' with rfl | h2
      · exact absurd (List.mem_map_of_mem (f := (·.n)) h1) (by rw [e]; exact hn.1)
      · exact ih hn.2 h1 h2
def withoutL (M : List OpC) (f t : Int) : List OpC := M.filter fun o => decide (o.n < f) || decide (t < o.n)
theorem without_one (M : List OpC) (k : Int) {o : OpC} : o ∈ withoutL M k k ↔ o ∈ M ∧ o.n ≠ k := by
  unfold withoutL
  rw [List.mem_filter, Bool.or_eq_true, decide_eq_true_eq, decide_eq_true_eq]
  constructor
  · rintro ⟨h1, h2⟩; exact ⟨h1, by omega⟩
  · rintro ⟨h1, h2⟩; exact ⟨h1, by omega⟩
theorem without_nd (hn : (M.map (·.n)).Nodup) (f t : Int) : ((withoutL M f t).map (·.n)).Nodup := hn.sublist (List.filter_sublist.map _)
theorem without_len (M : List OpC) (f t : Int) : (withoutL M f t).length ≤ M.length := List.length_filter_le _ _
theorem raw_mem {k : Int} {x : ByteArray} {d t : Bool} {q : PP} : q ∈ (rawA A k x d).li t ↔ (q = (k, x) ∧ t = d) ∨ (q ∈ A.li t ∧ q.1 ≠ k) := by
  show q ∈ (if t = d then rmL (A.li t) k ++ [(k, x)] else rmL (A.li t) k) ↔ _
  by_cases h : t = d
  · rw [if_pos h, List.mem_append, rmL_mem, List.mem_singleton]
    constructor
    · rintro (h1 | h1)
      · exact .inr h1
      · exact .inl ⟨h1, h⟩
    · rintro (⟨h1, -⟩ | h1)
      · exact .inr h1
      · exact .inl h1
  · rw [if_neg h, rmL_mem]
    constructor
    · exact fun h1 => .inr h1
    · rintro (⟨-, h1⟩ | h1)
      · exact absurd h1 h
      · exact h1
theorem ent_sub {k : Int} {x : ByteArray} {d t : Bool} {q : PP} (h : q ∈ (entA A k x d).li t) : q ∈ (rawA A k x d).li t := by
  replace h : q ∈ (if t = false then trimL (rawA A k x d).room ((rawA A k x d).li t) else (rawA A k x d).li t) := h
  split at h
  · exact List.mem_of_mem_drop h
  · exact h
theorem ent_true (A : AP) (k : Int) (x : ByteArray) (d : Bool) : (entA A k x d).li true = (rawA A k x d).li true := by
  show (if true = false then trimL (rawA A k x d).room ((rawA A k x d).li true) else (rawA A k x d).li true) = _
  rw [if_neg (by decide)]
theorem tr_put (h : TR A M) (k : Int) (x : ByteArray) (d : Bool) {kd : Int} (hk : kd = if d then 2 else 1) : TR (entA A k x d) (withoutL M k k ++ [⟨kd, k, x⟩]) := by
  have hkd : kd = 2 ↔ d = true := by cases d <;> simp [hk]
  refine ⟨?_, fun o ho => ?_, fun t k' x' hm => ?_, fun o ho h2 => ?_⟩
  · rw [List.map_append, List.nodup_append]
    refine ⟨without_nd h.nd k k, by simp, fun a ha b hb e => ?_⟩
    obtain ⟨o, ho, rfl⟩ := List.mem_map.1 ha
    simp at hb
    exact ((without_one M k).1 ho).2 (e.trans hb)
  · rcases List.mem_append.1 ho with ho | ho
    · exact h.kd o ((without_one M k).1 ho).1
    · rw [List.mem_singleton] at ho
      subst ho
      show kd = 1 ∨ kd = 2
      cases d <;> simp [hk]
  · rcases raw_mem.1 (ent_sub hm) with ⟨e, ht⟩ | ⟨h1, h2⟩
    · injection e with e1 e2
      subst e1 e2
      exact ⟨⟨kd, k', x'⟩, by simp, rfl, rfl, by rw [ht]; exact hkd⟩
    · obtain ⟨o, ho, e1, e2, e3⟩ := h.up t k' x' h1
      exact ⟨o, List.mem_append_left _ ((without_one M k).2 ⟨ho, by rw [e1]; exact h2⟩), e1, e2, e3⟩
  · rw [ent_true]
    rcases List.mem_append.1 ho with ho | ho
    · obtain ⟨h3, h4⟩ := (without_one M k).1 ho
      exact raw_mem.2 (.inr ⟨h.dn o h3 h2, h4⟩)
    · rw [List.mem_singleton] at ho
      subst ho
      exact raw_mem.2 (.inl ⟨rfl, (hkd.1 h2).symm⟩)
/-- One operation made clean, where its number is k. -/
def clnO (k : Int) (o : OpC) : OpC := if o.n = k then { o with kind := 1 } else o
theorem clnO_n (k : Int) (o : OpC) : (clnO k o).n = o.n ∧ (clnO k o).data = o.data := by unfold clnO; split <;> exact ⟨rfl, rfl⟩
theorem clnO_map (k : Int) (M : List OpC) : (M.map (clnO k)).map (·.n) = M.map (·.n) := by
  rw [List.map_map]
  exact List.map_congr_left fun o _ => (clnO_n k o).1
theorem tr_clean (h : TR A M) (hA : AOk A) (k : Int) : TR (cleanA A k) (M.map (clnO k)) := by
  have hkd : ∀ o ∈ M.map (clnO k), o.kind = 1 ∨ o.kind = 2 := fun o ho => by
    obtain ⟨o', h1, rfl⟩ := List.mem_map.1 ho
    unfold clnO
    split
    · exact .inl rfl
    · exact h.kd o' h1
  have hback : ∀ o ∈ M.map (clnO k), o.kind = 2 → o ∈ M ∧ o.n ≠ k := fun o ho h2 => by
    obtain ⟨o', h1, rfl⟩ := List.mem_map.1 ho
    by_cases e : o'.n = k
    · unfold clnO at h2; rw [if_pos e] at h2; exact absurd (show (1 : Int) = 2 from h2) (by decide)
    · have : clnO k o' = o' := if_neg e
      rw [this]; exact ⟨h1, e⟩
  have hfwd : ∀ o ∈ M, o.n ≠ k → o ∈ M.map (clnO k) := fun o ho hn => List.mem_map.2 ⟨o, ho, if_neg hn⟩
  refine ⟨by rw [clnO_map]; exact h.nd, hkd, fun t k' x' hm => ?_, fun o ho h2 => ?_⟩
  · unfold cleanA at hm
    cases hl : lookA A k with
    | none =>
      rw [hl] at hm
      obtain ⟨o, ho, e1, e2, e3⟩ := h.up t k' x' hm
      exact ⟨o, hfwd o ho (by rw [e1]; exact (lookA_none hA).1 hl t _ hm), e1, e2, e3⟩
    | some dx =>
      obtain ⟨d, x⟩ := dx
      rw [hl] at hm
      rcases raw_mem.1 (ent_sub hm) with ⟨e, ht⟩ | ⟨h1, h2⟩
      · injection e with e1 e2
        subst e1 e2
        obtain ⟨o, ho, f1, f2, f3⟩ := h.up d k' x' ((lookA_iff hA).1 hl)
        refine ⟨clnO k' o, List.mem_map_of_mem ho, (clnO_n k' o).1.trans f1, (clnO_n k' o).2.trans f2, ?_⟩
        unfold clnO
        rw [if_pos f1, ht]
        simp
      · obtain ⟨o, ho, e1, e2, e3⟩ := h.up t k' x' h1
        exact ⟨o, hfwd o ho (by rw [e1]; exact h2), e1, e2, e3⟩
  · obtain ⟨h3, h4⟩ := hback o ho h2
    have h5 := h.dn o h3 h2
    unfold cleanA
    cases hl : lookA A k with
    | none => exact h5
    | some dx =>
      show _ ∈ (entA A k dx.2 false).li true
      rw [ent_true]
      exact raw_mem.2 (.inr ⟨h5, h4⟩)
theorem tr_drop (h : TR A M) (f : Int) (hi : ∀ o ∈ M, o.n ≤ 9223372036854775807) : TR (dropA A f) (withoutL M f 9223372036854775807) := by
  have hm : ∀ o, o ∈ withoutL M f 9223372036854775807 ↔ o ∈ M ∧ o.n < f := fun o => by
    unfold withoutL
    rw [List.mem_filter, Bool.or_eq_true, decide_eq_true_eq, decide_eq_true_eq]
    constructor
    · rintro ⟨h1, h2⟩; have := hi o h1; exact ⟨h1, by omega⟩
    · rintro ⟨h1, h2⟩; exact ⟨h1, .inl h2⟩
  have hd : ∀ t q, q ∈ (dropA A f).li t ↔ q ∈ A.li t ∧ q.1 < f := fun t q => by
    show q ∈ (A.li t).filter _ ↔ _
    rw [List.mem_filter, decide_eq_true_eq]
  refine ⟨without_nd h.nd _ _, fun o ho => h.kd o ((hm o).1 ho).1, fun t k x hx => ?_, fun o ho h2 => ?_⟩
  · obtain ⟨h1, h2⟩ := (hd t _).1 hx
    obtain ⟨o, ho, e1, e2, e3⟩ := h.up t k x h1
    exact ⟨o, (hm o).2 ⟨ho, by rw [e1]; exact h2⟩, e1, e2, e3⟩
  · obtain ⟨h3, h4⟩ := (hm o).1 ho
    exact (hd true _).2 ⟨h.dn o h3 h2, h4⟩
theorem get_mem (hA : AOk A) (k : Int) (t : Bool) (q : PP) : q ∈ (getA A k).li t ↔ q ∈ A.li t := by
  unfold getA
  cases hl : lookA A k with
  | none => exact Iff.rfl
  | some dx =>
    obtain ⟨d, x⟩ := dx
    have hin := (lookA_iff hA).1 hl
    have hnd : ∀ t, ((A.li t).map (·.1)).Nodup := fun t => by
      have := hA.nd
      rw [List.map_append, List.nodup_append] at this
      cases t
      · exact this.1
      · exact this.2.1
    have hraw : q ∈ (rawA A k x d).li t ↔ q ∈ A.li t := by
      rw [raw_mem]
      constructor
      · rintro (⟨rfl, rfl⟩ | ⟨h1, -⟩)
        · exact hin
        · exact h1
      · intro h1
        by_cases e : q.1 = k
        · left
          have h2 : (k, q.2) ∈ A.li t := by rw [← e]; exact h1
          have h3 := (lookA_iff hA).2 h2
          rw [hl] at h3
          injection h3 with h3
          injection h3 with h4 h5
          exact ⟨by rw [h5, ← e], h4.symm⟩
        · exact .inr ⟨h1, e⟩
    have hlen : ((rawA A k x d).li false).length ≤ (A.li false).length := by
      show (if false = d then rmL (A.li false) k ++ [(k, x)] else rmL (A.li false) k).length ≤ _
      cases d
      · rw [if_pos rfl, List.length_append, List.length_singleton]
        obtain ⟨a, b, hab⟩ := List.append_of_mem hin
        have h6 : (rmL (A.li false) k).length + 1 ≤ (A.li false).length := by
          rw [hab]
          unfold rmL
          rw [List.filter_append, List.filter_cons_of_neg (by simp), List.length_append, List.length_append, List.length_cons]
          have h7 := List.length_filter_le (fun q : PP => !(q.1 == k)) a
          have h8 := List.length_filter_le (fun q : PP => !(q.1 == k)) b
          omega
        exact h6
      · rw [if_neg (by decide)]; exact rmL_len _ _
    have htr : (entA A k x d).li t = (rawA A k x d).li t := by
      show (if t = false then trimL A.room ((rawA A k x d).li t) else (rawA A k x d).li t) = _
      cases t
      · rw [if_pos rfl]
        unfold trimL
        have h9 := hA.cl
        rw [show ((rawA A k x d).li false).length - A.room.toNat = 0 by omega]
        rfl
      · rw [if_neg (by decide)]
    show q ∈ (entA A k x d).li t ↔ _
    rw [htr]
    exact hraw
theorem tr_get (h : TR A M) (hA : AOk A) (k : Int) : TR (getA A k) M :=
  ⟨h.nd, h.kd, fun t k' x' hm => h.up t k' x' ((get_mem hA k t _).1 hm), fun o ho h2 => (get_mem hA k true _).2 (h.dn o ho h2)⟩
/-- What Get of a page answers. -/
theorem tr_look (h : TR A M) (hA : AOk A) {o : OpC} (ho : o ∈ M) : (lookA A o.n = none ∧ o.kind ≠ 2) ∨ ∃ d, lookA A o.n = some (d, o.data) := by
  cases hl : lookA A o.n with
  | none =>
    left
    refine ⟨rfl, fun h2 => ?_⟩
    exact (lookA_none hA).1 hl true _ (h.dn o ho h2) rfl
  | some dx =>
    right
    obtain ⟨d, x⟩ := dx
    obtain ⟨o', h1, e1, e2, -⟩ := h.up d o.n x ((lookA_iff hA).1 hl)
    have := uniqC h.nd h1 ho e1
    subst this
    exact ⟨d, by rw [e2]⟩
theorem nd_sub_len {α : Type} [DecidableEq α] : ∀ {l1 l2 : List α}, l1.Nodup → (∀ x ∈ l1, x ∈ l2) → l1.length ≤ l2.length
  | [], _, _, _ => Nat.zero_le _
  | a :: l, l2, hn, hs => by
    rw [List.nodup_cons] at hn
    have ha := hs a (List.mem_cons_self ..)
    have h1 : l.length ≤ (l2.erase a).length := nd_sub_len hn.2 fun x hx => by
      have hne : x ≠ a := fun e => hn.1 (e ▸ hx)
      exact (List.mem_erase_of_ne hne).2 (hs x (List.mem_cons_of_mem _ hx))
    rw [List.length_erase_of_mem ha] at h1
    have h2 : 0 < l2.length := List.length_pos_of_mem ha
    rw [List.length_cons]
    omega
def dirtyN (M : List OpC) : Nat := (M.filter fun o => o.kind == 2).length
theorem tr_dirty (h : TR A M) (hA : AOk A) : dirtyN M = (A.li true).length := by
  have hnA : ((A.li true).map (·.1)).Nodup := by
    have := hA.nd
    rw [List.map_append, List.nodup_append] at this
    exact this.2.1
  have hnM : ((M.filter fun o => o.kind == 2).map (·.n)).Nodup := h.nd.sublist (List.filter_sublist.map _)
  have h1 : ((M.filter fun o => o.kind == 2).map (·.n)).length ≤ ((A.li true).map (·.1)).length := nd_sub_len hnM fun x hx => by
    obtain ⟨o, ho, rfl⟩ := List.mem_map.1 hx
    obtain ⟨h3, h4⟩ := List.mem_filter.1 ho
    exact List.mem_map_of_mem (f := (·.1)) (h.dn o h3 (by simpa using h4))
  have h2 : ((A.li true).map (·.1)).length ≤ ((M.filter fun o => o.kind == 2).map (·.n)).length := nd_sub_len hnA fun x hx => by
    obtain ⟨q, hq, rfl⟩ := List.mem_map.1 hx
    obtain ⟨o, ho, e1, -, e3⟩ := h.up true q.1 q.2 hq
    rw [← e1]
    have hf : o ∈ M.filter fun o => o.kind == 2 := List.mem_filter.2 ⟨ho, by rw [e3.2 rfl]; rfl⟩
    exact List.mem_map_of_mem (f := (·.n)) hf
  simp only [List.length_map] at h1 h2
  unfold dirtyN
  omega
theorem tr_len (h : TR A M) (hA : AOk A) : lenA A ≤ M.length := by
  have h1 := nd_sub_len hA.nd (l2 := M.map (·.n)) fun x hx => by
    obtain ⟨q, hq, rfl⟩ := List.mem_map.1 hx
    rcases List.mem_append.1 hq with hq | hq
    · obtain ⟨o, ho, e1, -⟩ := h.up false q.1 q.2 hq
      rw [← e1]; exact List.mem_map_of_mem (f := (·.n)) ho
    · obtain ⟨o, ho, e1, -⟩ := h.up true q.1 q.2 hq
      rw [← e1]; exact List.mem_map_of_mem (f := (·.n)) ho
  simp only [List.length_map, List.length_append] at h1
  exact h1
theorem tr_li (h : TR A M) (hA : AOk A) (t : Bool) : (A.li t).length ≤ M.length := by
  have := tr_len h hA
  unfold lenA at this
  cases t <;> omega
theorem tr_new (room : Int) : TR (newA room) [] := ⟨List.nodup_nil, fun o h => (by cases h), fun t k x h => (by cases h), fun o h => (by cases h)⟩
end Go.Proofs.Ytkpgekfejfbpjaa
