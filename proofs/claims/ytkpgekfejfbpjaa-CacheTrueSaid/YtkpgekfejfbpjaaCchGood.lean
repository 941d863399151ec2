/-
  Layer 12: what always holds between the map and the lists, and how a state in memory reads as two lists of pages. Condition: none (no program is named).
-/
import Derived.Test.YtkpgekfejfbpjaaCchEnter
import Derived.Test.YtkpgekfejfbpjaaCchMath
namespace Go.Proofs.Ytkpgekfejfbpjaa
open Go.RowKit

def updP (f : Nat → Pg) (e : Nat) (p : Pg) : Nat → Pg := fun g => if g = e then p else f g
theorem updP_same (f : Nat → Pg) (e : Nat) (p : Pg) : updP f e p e = p := by simp [updP]
theorem updP_other (f : Nat → Pg) {e g : Nat} (p : Pg) (h : g ≠ e) : updP f e p g = f g := by simp [updP, h]
/-- The list without one element. -/
def wo (l : List Nat) (e : Nat) : List Nat := l.filter fun g => !(g == e)
theorem wo_mem {l : List Nat} {e g : Nat} : g ∈ wo l e ↔ g ∈ l ∧ g ≠ e := by simp [wo]
theorem wo_none {l : List Nat} {e : Nat} (h : e ∉ l) : wo l e = l := List.filter_eq_self.2 fun g hg => by
  have : g ≠ e := fun e' => h (e' ▸ hg)
  simpa using this
theorem wo_mid {l a b : List Nat} {e : Nat} (hn : l.Nodup) (h : l = a ++ e :: b) : wo l e = a ++ b := by
  subst h
  have h1 := List.nodup_append.1 hn
  have h5 : e ∉ a := fun hm => h1.2.2 e hm e (List.mem_cons_self ..) rfl
  have h6 : e ∉ b := (List.nodup_cons.1 h1.2.1).1
  have ea := wo_none h5
  have eb := wo_none h6
  unfold wo at *
  rw [List.filter_append, ea, List.filter_cons_of_neg (by simp), eb]
/-- An element with a page in it is the last one of its list. -/
def entS (S : CS) (K : List (Int × Nat)) (e : Nat) (p : Pg) : CS := { S with keys := K, li := fun t => if t = p.d then wo (S.li t) e ++ [e] else wo (S.li t) e, pg := updP S.pg e p, fr := none }
def eP (S : CS) (e : Nat) : PP := ((S.pg e).n, (S.pg e).s)
def abs (S : CS) : AP := ⟨S.room, fun t => (S.li t).map (eP S)⟩
structure CGood (S : CS) : Prop extends Kinds S where
  kk : ∀ k e, findK S.keys k = some e ↔ (∃ t, e ∈ S.li t) ∧ (S.pg e).n = k
  kn : KNd S.keys
  kl : S.keys.length = (S.li false).length + (S.li true).length
theorem CGood.uniq {S : CS} (h : CGood S) {e e' : Nat} {t t' : Bool} (h1 : e ∈ S.li t) (h2 : e' ∈ S.li t') (hn : (S.pg e).n = (S.pg e').n) : e = e' := by
  have a := (h.kk _ e).2 ⟨⟨t, h1⟩, rfl⟩
  have b := (h.kk _ e').2 ⟨⟨t', h2⟩, rfl⟩
  rw [hn, b] at a
  injection a with a
  exact a.symm
theorem good_ent {S : CS} (h : CGood S) {K : List (Int × Nat)} {e : Nat} {k : Int} {x : ByteArray} {d : Bool} (hi : IsI k)
    (hKf : ∀ k', findK K k' = if k' = k then some e else findK S.keys k') (hKn : KNd K) (hKl : K.length = (wo (S.li false) e).length + (wo (S.li true) e).length + 1)
    (he : ∀ t, e ∈ S.li t → (S.pg e).n = k) (hk : ∀ t e', e' ∈ S.li t → (S.pg e').n = k → e' = e) : CGood (entS S K e ⟨k, x, d⟩) ∧ abs (entS S K e ⟨k, x, d⟩) = rawA (abs S) k x d := by
  have hm : ∀ t g, g ∈ (entS S K e ⟨k, x, d⟩).li t ↔ (g = e ∧ t = d) ∨ (g ≠ e ∧ g ∈ S.li t) := fun t g => by
    show g ∈ (if t = d then wo (S.li t) e ++ [e] else wo (S.li t) e) ↔ _
    by_cases ht : t = d
    · rw [if_pos ht, List.mem_append, wo_mem, List.mem_singleton]
      constructor
      · rintro (⟨h1, h2⟩ | h1)
        · exact .inr ⟨h2, h1⟩
        · exact .inl ⟨h1, ht⟩
      · rintro (⟨h1, -⟩ | ⟨h1, h2⟩)
        · exact .inr h1
        · exact .inl ⟨h2, h1⟩
    · rw [if_neg ht, wo_mem]
      constructor
      · rintro ⟨h1, h2⟩; exact .inr ⟨h2, h1⟩
      · rintro (⟨-, h2⟩ | ⟨h1, h2⟩)
        · exact absurd h2 ht
        · exact ⟨h2, h1⟩
  have pe : (entS S K e ⟨k, x, d⟩).pg e = ⟨k, x, d⟩ := updP_same _ _ _
  have po : ∀ g, g ≠ e → (entS S K e ⟨k, x, d⟩).pg g = S.pg g := fun g hg => updP_other _ _ hg
  refine ⟨⟨⟨fun t g hg => ?_, fun t g hg => ?_⟩, fun k' g => ?_, hKn, ?_⟩, ?_⟩
  · rcases (hm t g).1 hg with ⟨rfl, rfl⟩ | ⟨h1, h2⟩
    · rw [pe]
    · rw [po g h1]; exact h.dd t g h2
  · rcases (hm t g).1 hg with ⟨rfl, rfl⟩ | ⟨h1, h2⟩
    · rw [pe]; exact hi
    · rw [po g h1]; exact h.ii t g h2
  · show findK K k' = some g ↔ _
    rw [hKf]
    by_cases hg : g = e
    · subst hg
      rw [pe]
      by_cases hkk : k' = k
      · subst hkk
        rw [if_pos rfl]
        exact ⟨fun _ => ⟨⟨d, (hm d g).2 (.inl ⟨rfl, rfl⟩)⟩, rfl⟩, fun _ => rfl⟩
      · rw [if_neg hkk]
        constructor
        · intro h1
          obtain ⟨⟨t, h2⟩, h3⟩ := (h.kk _ _).1 h1
          exact absurd (h3.symm.trans (he t h2)) hkk
        · rintro ⟨-, h3⟩
          exact absurd h3.symm hkk
    · rw [po g hg]
      by_cases hkk : k' = k
      · subst hkk
        rw [if_pos rfl]
        constructor
        · intro h1; injection h1 with h1; exact absurd h1.symm hg
        · rintro ⟨⟨t, h2⟩, h3⟩
          rcases (hm t g).1 h2 with ⟨h4, -⟩ | ⟨-, h4⟩
          · exact absurd h4 hg
          · exact absurd (hk t g h4 h3) hg
      · rw [if_neg hkk, h.kk]
        constructor
        · rintro ⟨⟨t, h2⟩, h3⟩; exact ⟨⟨t, (hm t g).2 (.inr ⟨hg, h2⟩)⟩, h3⟩
        · rintro ⟨⟨t, h2⟩, h3⟩
          rcases (hm t g).1 h2 with ⟨h4, -⟩ | ⟨-, h4⟩
          · exact absurd h4 hg
          · exact ⟨⟨t, h4⟩, h3⟩
  · show K.length = (if false = d then wo (S.li false) e ++ [e] else wo (S.li false) e).length + (if true = d then wo (S.li true) e ++ [e] else wo (S.li true) e).length
    rw [hKl]
    cases d <;> simp <;> omega
  · have hmap : ∀ t, (wo (S.li t) e).map (eP (entS S K e ⟨k, x, d⟩)) = rmL ((S.li t).map (eP S)) k := fun t => by
      unfold rmL
      rw [List.filter_map]
      have e1 : (S.li t).filter ((fun q : PP => !(q.1 == k)) ∘ eP S) = wo (S.li t) e := by
        refine List.filter_congr fun g hg => ?_
        show (!((S.pg g).n == k)) = !(g == e)
        congr 1
        rw [Bool.eq_iff_iff, beq_iff_eq, beq_iff_eq]
        exact ⟨fun h1 => hk t g hg h1, fun h1 => by subst h1; exact he t hg⟩
      rw [e1]
      refine List.map_congr_left fun g hg => ?_
      unfold eP
      rw [po g (wo_mem.1 hg).2]
    unfold abs rawA
    congr 1
    funext t
    show (if t = d then wo (S.li t) e ++ [e] else wo (S.li t) e).map (eP (entS S K e ⟨k, x, d⟩)) = if t = d then rmL ((S.li t).map (eP S)) k ++ [(k, x)] else rmL ((S.li t).map (eP S)) k
    by_cases ht : t = d
    · rw [if_pos ht, if_pos ht, List.map_append, hmap]
      have : List.map (eP (entS S K e ⟨k, x, d⟩)) [e] = [(k, x)] := by unfold eP; rw [List.map_singleton, pe]
      rw [this]
    · rw [if_neg ht, if_neg ht, hmap]
/-- An element is gone. -/
theorem good_drop {S : CS} (h : CGood S) {s : Bool} {e : Nat} {a b : List Nat} (hl : S.li s = a ++ e :: b) (hn : (S.li s).Nodup) (ha : e ∉ S.li (!s)) :
    CGood (dropS S s a e b) ∧ ∀ t, (abs (dropS S s a e b)).li t = rmL ((abs S).li t) (S.pg e).n := by
  have hem : e ∈ S.li s := by rw [hl]; simp
  have hli : ∀ t, (dropS S s a e b).li t = wo (S.li t) e := fun t => by
    show updB S.li s (a ++ b) t = _
    rcases updB_cases S.li s (a ++ b) t with ⟨rfl, h5⟩ | ⟨rfl, h5⟩
    · rw [h5, wo_mid hn hl]
    · rw [h5, wo_none ha]
  refine ⟨⟨⟨fun t g hg => ?_, fun t g hg => ?_⟩, fun k' g => ?_, delK_nd h.kn _, ?_⟩, fun t => ?_⟩
  · rw [hli] at hg; exact h.dd t g (wo_mem.1 hg).1
  · rw [hli] at hg; exact h.ii t g (wo_mem.1 hg).1
  · show findK (delK S.keys (S.pg e).n) k' = some g ↔ _
    rw [delK_find]
    by_cases hk : k' = (S.pg e).n
    · rw [if_pos hk]
      constructor
      · intro h1; cases h1
      · rintro ⟨⟨t, h2⟩, h3⟩
        rw [hli, wo_mem] at h2
        exact absurd (h.uniq h2.1 hem (h3.trans hk)) h2.2
    · rw [if_neg hk, h.kk]
      constructor
      · rintro ⟨⟨t, h2⟩, h3⟩
        refine ⟨⟨t, ?_⟩, h3⟩
        rw [hli, wo_mem]
        exact ⟨h2, fun e' => hk (by rw [← h3, e'])⟩
      · rintro ⟨⟨t, h2⟩, h3⟩
        rw [hli, wo_mem] at h2
        exact ⟨⟨t, h2.1⟩, h3⟩
  · have h1 := delK_len h.kn ((h.kk _ e).2 ⟨⟨s, hem⟩, rfl⟩)
    have h2 := h.kl
    have h3 : (wo (S.li s) e).length + 1 = (S.li s).length := by rw [wo_mid hn hl, hl]; simp; omega
    have h4 : wo (S.li (!s)) e = S.li (!s) := wo_none ha
    show (delK S.keys (S.pg e).n).length = _
    rw [hli, hli]
    cases s
    · simp only [Bool.not_false] at h4; rw [h4]; omega
    · simp only [Bool.not_true] at h4; rw [h4]; omega
  · show ((dropS S s a e b).li t).map (eP (dropS S s a e b)) = rmL ((S.li t).map (eP S)) (S.pg e).n
    rw [hli]
    unfold rmL
    rw [List.filter_map]
    have e1 : (S.li t).filter ((fun q : PP => !(q.1 == (S.pg e).n)) ∘ eP S) = wo (S.li t) e := by
      refine List.filter_congr fun g hg => ?_
      show (!((S.pg g).n == (S.pg e).n)) = !(g == e)
      congr 1
      rw [Bool.eq_iff_iff, beq_iff_eq, beq_iff_eq]
      exact ⟨fun h1 => h.uniq hg hem h1, fun h1 => by rw [h1]⟩
    rw [e1]
    rfl
theorem good_abs {S : CS} (h : CGood S) (hn : ∀ s, (S.li s).Nodup) : ((((abs S).li false) ++ ((abs S).li true)).map (·.1)).Nodup := by
  have hnd : ∀ t, (((abs S).li t).map (·.1)).Nodup := fun t => by
    show (((S.li t).map (eP S)).map (·.1)).Nodup
    rw [List.map_map]
    unfold List.Nodup
    rw [List.pairwise_map]
    refine List.Pairwise.imp_of_mem (fun {a b} ha hb hab => ?_) (hn t)
    intro e
    exact hab (h.uniq ha hb e)
  rw [List.map_append, List.nodup_append]
  refine ⟨hnd _, hnd _, fun a ha b hb hab => ?_⟩
  subst hab
  obtain ⟨q, hq, rfl⟩ := List.mem_map.1 ha
  obtain ⟨g, hg, rfl⟩ := List.mem_map.1 hq
  obtain ⟨q', hq', e'⟩ := List.mem_map.1 hb
  obtain ⟨g', hg', rfl⟩ := List.mem_map.1 hq'
  have h1 := h.uniq hg hg' e'.symm
  subst h1
  have h2 := h.dd _ _ hg
  rw [h.dd _ _ hg'] at h2
  cases h2
/-- The first clean one goes, where there is one too many. -/
theorem good_trim {S : CS} (h : CGood S) (hn : ∀ s, (S.li s).Nodup) (ha : ∀ e, e ∈ S.li false → e ∉ S.li true) (hr : 1 ≤ S.room) (hc : ((S.li false).length : Int) ≤ S.room + 1) : CGood (trimS S) ∧ abs (trimS S) = trimA (abs S) ∧ ((((trimS S).li false).length : Int) ≤ S.room) := by
  unfold trimS
  by_cases hg : S.room < ((S.li false).length : Int)
  · rw [if_pos hg]
    unfold popS
    cases hq : S.li false with
    | nil => rw [hq] at hg; simp at hg; omega
    | cons e r =>
      have hem : e ∈ S.li false := by rw [hq]; exact List.mem_cons_self ..
      obtain ⟨h1, h2⟩ := good_drop h (s := false) (a := []) (b := r) hq (hn false) (ha e hem)
      refine ⟨h1, ?_, ?_⟩
      · show AP.mk S.room (abs (dropS S false [] e r)).li = AP.mk S.room _
        congr 1
        funext t
        cases t
        · show List.map _ r = trimL S.room ((S.li false).map (eP S))
          unfold trimL
          rw [List.length_map, show (S.li false).length - S.room.toNat = 1 by omega, hq]
          rfl
        · show _ = (abs S).li true
          rw [h2 true]
          have hnd := good_abs h hn
          rw [List.map_append, List.nodup_append] at hnd
          refine rmL_none fun q hq' hqe => ?_
          have h3 : eP S e ∈ (abs S).li false := List.mem_map_of_mem hem
          exact hnd.2.2 _ (List.mem_map_of_mem (f := (·.1)) h3) _ (List.mem_map_of_mem (f := (·.1)) hq') hqe.symm
      · show ((r.length : Nat) : Int) ≤ S.room
        rw [hq, List.length_cons] at hc
        omega
  · rw [if_neg hg]
    refine ⟨h, ?_, by omega⟩
    show abs S = AP.mk S.room _
    unfold abs
    congr 1
    funext t
    cases t
    · show _ = trimL S.room ((S.li false).map (eP S))
      unfold trimL
      rw [List.length_map, show (S.li false).length - S.room.toNat = 0 by omega]
      rfl
    · rfl
theorem good_look {S : CS} (h : CGood S) (hA : AOk (abs S)) (k : Int) : (findK S.keys k = none ∧ lookA (abs S) k = none) ∨ ∃ e t, findK S.keys k = some e ∧ e ∈ S.li t ∧ (S.pg e).n = k ∧ (S.pg e).d = t ∧ lookA (abs S) k = some (t, (S.pg e).s) := by
  cases hf : findK S.keys k with
  | none =>
    left
    refine ⟨rfl, (lookA_none hA).2 fun t q hq e' => ?_⟩
    obtain ⟨g, hg, rfl⟩ := List.mem_map.1 hq
    have := (h.kk k g).2 ⟨⟨t, hg⟩, e'⟩
    rw [hf] at this
    cases this
  | some e =>
    right
    obtain ⟨⟨t, h1⟩, h2⟩ := (h.kk k e).1 hf
    refine ⟨e, t, rfl, h1, h2, h.dd t e h1, ?_⟩
    rw [lookA_iff hA, ← h2]
    exact List.mem_map_of_mem (f := eP S) h1
end Go.Proofs.Ytkpgekfejfbpjaa
