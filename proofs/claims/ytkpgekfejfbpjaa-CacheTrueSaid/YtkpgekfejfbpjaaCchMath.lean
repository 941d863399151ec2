/-
  Layer 12, on lists alone: a cache as two lists of pages (the clean ones and the dirty ones, in the order of their last use); the document's cache as one list of pages with the number of each one's last use; the two are alike, and stay alike. Condition: none.
-/
import Derived.Test.YtkpgekfejfbpjaaCchInv
namespace Go.Proofs.Ytkpgekfejfbpjaa

/-- A page: its number and its contents. -/
abbrev PP := Int × ByteArray
/-- The cache: li true: the dirty pages, li false: the clean ones, the least recently used one first. -/
structure AP where
  room : Int
  li : Bool → List PP

def rmL (l : List PP) (k : Int) : List PP := l.filter fun q => !(q.1 == k)
def lookL (l : List PP) (k : Int) : Option ByteArray := (l.find? fun q => q.1 == k).map (·.2)
def lookA (A : AP) (k : Int) : Option (Bool × ByteArray) := match lookL (A.li false) k with
  | some x => some (false, x)
  | none => (lookL (A.li true) k).map fun x => (true, x)
def trimL (room : Int) (l : List PP) : List PP := l.drop (l.length - room.toNat)
/-- A page comes in as the one that was used last; the clean ones for which there is no room go. -/
def rawA (A : AP) (k : Int) (x : ByteArray) (d : Bool) : AP := { A with li := fun t => if t = d then rmL (A.li t) k ++ [(k, x)] else rmL (A.li t) k }
def trimA (A : AP) : AP := { A with li := fun t => if t = false then trimL A.room (A.li t) else A.li t }
def entA (A : AP) (k : Int) (x : ByteArray) (d : Bool) : AP := trimA (rawA A k x d)
def getA (A : AP) (k : Int) : AP := match lookA A k with
  | none => A
  | some (d, x) => entA A k x d
def cleanA (A : AP) (k : Int) : AP := match lookA A k with
  | none => A
  | some (_, x) => entA A k x false
def dropA (A : AP) (f : Int) : AP := { A with li := fun t => (A.li t).filter fun q => decide (q.1 < f) }
def newA (room : Int) : AP := ⟨max 1 room, fun _ => []⟩
def lenA (A : AP) : Nat := (A.li false).length + (A.li true).length

/-- What always holds. -/
structure AOk (A : AP) : Prop where
  nd : ((A.li false ++ A.li true).map (·.1)).Nodup
  cl : ((A.li false).length : Int) ≤ A.room
  room : 1 ≤ A.room

theorem rmL_len (l : List PP) (k : Int) : (rmL l k).length ≤ l.length := List.length_filter_le _ _
theorem rmL_sub (l : List PP) (k : Int) : (rmL l k).Sublist l := List.filter_sublist
theorem rmL_none {l : List PP} {k : Int} (h : ∀ q ∈ l, q.1 ≠ k) : rmL l k = l := List.filter_eq_self.2 fun q hq => by simpa using h q hq
theorem rmL_mem {l : List PP} {k : Int} {q : PP} : q ∈ rmL l k ↔ q ∈ l ∧ q.1 ≠ k := by simp [rmL]
theorem lookL_some {l : List PP} {k : Int} {x : ByteArray} (h : lookL l k = some x) : (k, x) ∈ l := by
  unfold lookL at h
  cases hf : l.find? (fun q => q.1 == k) with
  | none => rw [hf] at h; cases h
  | some q =>
    rw [hf] at h
    have h1 := List.find?_some hf
    have h2 := List.mem_of_find?_eq_some hf
    simp only [Option.map_some, Option.some.injEq] at h
    have h3 : q.1 = k := by simpa using h1
    rw [← h, ← h3]
    exact h2
theorem lookL_none {l : List PP} {k : Int} (h : lookL l k = none) : ∀ q ∈ l, q.1 ≠ k := fun q hq => by
  unfold lookL at h
  rw [Option.map_eq_none_iff, List.find?_eq_none] at h
  simpa using h q hq
theorem nd_uniq {l : List PP} (hn : (l.map (·.1)).Nodup) {k : Int} {x y : ByteArray} (hx : (k, x) ∈ l) (hy : (k, y) ∈ l) : x = y := by
  induction l with
  | nil => cases hx
  | cons q r ih =>
    rw [List.map_cons, List.nodup_cons] at hn
    rcases List.mem_cons.1 hx with e | hx'
    · rcases List.mem_cons.1 hy with e' | hy'
      · rw [← e'] at e; injection e
      · exact absurd (List.mem_map_of_mem (f := (·.1)) hy') (by rw [← e] at hn; exact hn.1)
    · rcases List.mem_cons.1 hy with e' | hy'
      · exact absurd (List.mem_map_of_mem (f := (·.1)) hx') (by rw [← e'] at hn; exact hn.1)
      · exact ih hn.2 hx' hy'
theorem AOk.all (A : AP) (t : Bool) {q : PP} (h : q ∈ A.li t) : q ∈ A.li false ++ A.li true := by
  cases t
  · exact List.mem_append_left _ h
  · exact List.mem_append_right _ h
theorem lookA_iff {A : AP} (hA : AOk A) {k : Int} {d : Bool} {x : ByteArray} : lookA A k = some (d, x) ↔ (k, x) ∈ A.li d := by
  have hap : ∀ y z, (k, y) ∈ A.li false → (k, z) ∈ A.li true → False := fun y z h1 h2 => by
    have := hA.nd
    rw [List.map_append, List.nodup_append] at this
    exact this.2.2 k (List.mem_map_of_mem (f := (·.1)) h1) k (List.mem_map_of_mem (f := (·.1)) h2) rfl
  unfold lookA
  cases hf : lookL (A.li false) k with
  | some y =>
    have hy := lookL_some hf
    constructor
    · intro h
      simp only [Option.some.injEq, Prod.mk.injEq] at h
      obtain ⟨rfl, rfl⟩ := h
      exact hy
    · intro h
      cases d
      · rw [nd_uniq hA.nd (AOk.all A false h) (AOk.all A false hy)]
      · exact absurd h (fun h => hap _ _ hy h)
  | none =>
    have hn := lookL_none hf
    constructor
    · intro h
      cases ht : lookL (A.li true) k with
      | none => rw [ht] at h; cases h
      | some y =>
        rw [ht] at h
        simp only [Option.map_some, Option.some.injEq, Prod.mk.injEq] at h
        obtain ⟨rfl, rfl⟩ := h
        exact lookL_some ht
    · intro h
      cases d
      · exact absurd rfl (hn _ h)
      · cases ht : lookL (A.li true) k with
        | none => exact absurd rfl (lookL_none ht _ h)
        | some y =>
          have hy := lookL_some ht
          rw [nd_uniq hA.nd (AOk.all A true h) (AOk.all A true hy)]
          rfl
theorem lookA_none {A : AP} (hA : AOk A) {k : Int} : lookA A k = none ↔ ∀ t, ∀ q ∈ A.li t, q.1 ≠ k := by
  constructor
  · intro h t q hq e
    have h1 : (k, q.2) ∈ A.li t := by rw [← e]; exact hq
    have := (lookA_iff hA).2 h1
    rw [h] at this
    cases this
  · intro h
    cases hl : lookA A k with
    | none => rfl
    | some p => exact absurd rfl (h _ _ ((lookA_iff (d := p.1) (x := p.2) hA).1 hl))

/-! ### the document's cache -/
structure QP where
  n : Int
  s : ByteArray
  d : Bool
  u : Nat
structure QS where
  L : List QP
  uses : Nat
  room : Int

def qpp (p : QP) : PP := (p.n, p.s)
/-- The two caches are alike, but for the bound on the clean pages. -/
structure Sim0 (A : AP) (R : QS) : Prop where
  room : R.room = A.room
  pos : 1 ≤ A.room
  srt : R.L.Pairwise fun p q => p.n < q.n
  le : ∀ p ∈ R.L, p.u ≤ R.uses
  ex : ∃ G : Bool → List QP, (∀ t, (R.L.filter fun p => p.d == t).Perm (G t)) ∧ (∀ t, (G t).map qpp = A.li t) ∧ ∀ t, (G t).Pairwise fun p q => p.u < q.u
structure Sim (A : AP) (R : QS) : Prop extends Sim0 A R where
  cl : ((A.li false).length : Int) ≤ A.room

theorem srt_nd {l : List QP} (h : l.Pairwise fun p q => p.n < q.n) : (l.map (·.n)).Nodup := by
  unfold List.Nodup
  rw [List.pairwise_map]
  exact h.imp fun h => by omega
theorem filt_perm (l : List QP) : l.Perm ((l.filter fun p => p.d == false) ++ (l.filter fun p => p.d == true)) := by
  have h := List.filter_append_perm (fun p : QP => p.d == false) l
  have e : (l.filter fun p => !(p.d == false)) = l.filter fun p => p.d == true := List.filter_congr fun p _ => by cases p.d <;> rfl
  rw [e] at h
  exact h.symm
theorem Sim0.nd {A : AP} {R : QS} (h : Sim0 A R) : ((A.li false ++ A.li true).map (·.1)).Nodup := by
  obtain ⟨G, g1, g2, -⟩ := h.ex
  have hp : R.L.Perm (G false ++ G true) := (filt_perm R.L).trans ((g1 false).append (g1 true))
  have := (hp.map (·.n)).nodup_iff.1 (srt_nd h.srt)
  rw [← g2 false, ← g2 true, ← List.map_append, List.map_map]
  exact this
theorem Sim.ok {A : AP} {R : QS} (h : Sim A R) : AOk A := ⟨h.toSim0.nd, h.cl, h.pos⟩
theorem Sim0.len {A : AP} {R : QS} (h : Sim0 A R) : R.L.length = lenA A := by
  obtain ⟨G, g1, g2, -⟩ := h.ex
  have hp : R.L.Perm (G false ++ G true) := (filt_perm R.L).trans ((g1 false).append (g1 true))
  rw [hp.length_eq, List.length_append, lenA, ← g2 false, ← g2 true, List.length_map, List.length_map]
theorem Sim0.clean {A : AP} {R : QS} (h : Sim0 A R) (t : Bool) : (R.L.filter fun p => p.d == t).length = (A.li t).length := by
  obtain ⟨G, g1, g2, -⟩ := h.ex
  rw [(g1 t).length_eq, ← g2 t, List.length_map]
theorem Sim0.mem {A : AP} {R : QS} (h : Sim0 A R) {k : Int} {x : ByteArray} {t : Bool} : (k, x) ∈ A.li t ↔ ∃ p ∈ R.L, p.n = k ∧ p.s = x ∧ p.d = t := by
  obtain ⟨G, g1, g2, -⟩ := h.ex
  rw [← g2 t, List.mem_map]
  constructor
  · rintro ⟨p, hp, e⟩
    have h1 := (g1 t).mem_iff.2 hp
    simp only [List.mem_filter, beq_iff_eq] at h1
    injection e with e1 e2
    exact ⟨p, h1.1, e1, e2, h1.2⟩
  · rintro ⟨p, hp, rfl, rfl, rfl⟩
    exact ⟨p, (g1 p.d).mem_iff.1 (List.mem_filter.2 ⟨hp, by simp⟩), rfl⟩
theorem sim_new (room : Int) : Sim (newA room) ⟨[], 0, max 1 room⟩ := by
  refine ⟨⟨rfl, ?_, List.Pairwise.nil, (fun p h => by cases h), ⟨fun _ => [], fun _ => List.Perm.refl _, fun _ => rfl, fun _ => List.Pairwise.nil⟩⟩, ?_⟩
  · show 1 ≤ max 1 room; omega
  · show ((0 : Nat) : Int) ≤ max 1 room; omega

def rmQ (l : List QP) (k : Int) : List QP := l.filter fun q => !(q.n == k)
theorem rmQ_pp (l : List QP) (k : Int) : (rmQ l k).map qpp = rmL (l.map qpp) k := by
  unfold rmQ rmL
  rw [List.filter_map]
  rfl
theorem Sim0.ent {A : AP} {R R' : QS} (h : Sim0 A R) (p : QP) (hL : R'.L.Perm (p :: rmQ R.L p.n)) (hs : R'.L.Pairwise fun p q => p.n < q.n) (hu : R'.uses = R.uses + 1) (hp : p.u = R.uses + 1) (hr : R'.room = R.room) :
    Sim0 (rawA A p.n p.s p.d) R' := by
  obtain ⟨G, g1, g2, g3⟩ := h.ex
  refine ⟨hr.trans h.room, h.pos, hs, fun q hq => ?_, fun t => if t = p.d then rmQ (G t) p.n ++ [p] else rmQ (G t) p.n, fun t => ?_, fun t => ?_, fun t => ?_⟩
  · rcases List.mem_cons.1 (hL.mem_iff.1 hq) with rfl | hq
    · omega
    · have := h.le q (List.mem_filter.1 hq).1
      omega
  · have h1 := hL.filter fun q => q.d == t
    have h2 : ((rmQ R.L p.n).filter fun q => q.d == t).Perm (rmQ (G t) p.n) := by
      unfold rmQ
      rw [List.filter_filter]
      have e : (R.L.filter fun q => (q.d == t) && !(q.n == p.n)) = (R.L.filter fun q => q.d == t).filter fun q => !(q.n == p.n) := by
        rw [List.filter_filter]
        exact List.filter_congr fun q _ => Bool.and_comm _ _
      rw [e]
      exact (g1 t).filter _
    show (R'.L.filter fun p => p.d == t).Perm (if t = p.d then rmQ (G t) p.n ++ [p] else rmQ (G t) p.n)
    by_cases ht : t = p.d
    · rw [if_pos ht]
      rw [List.filter_cons_of_pos (by rw [ht]; simp)] at h1
      exact (h1.trans (h2.cons p)).trans (List.perm_append_singleton _ _).symm
    · rw [if_neg ht]
      rw [List.filter_cons_of_neg (by simpa using fun e => ht e.symm)] at h1
      exact h1.trans h2
  · by_cases ht : t = p.d
    · simp only [rawA, if_pos ht]
      rw [List.map_append, rmQ_pp, g2]
      rfl
    · simp only [rawA, if_neg ht]
      rw [rmQ_pp, g2]
  · have h3 : (rmQ (G t) p.n).Pairwise fun p q => p.u < q.u := (g3 t).sublist List.filter_sublist
    by_cases ht : t = p.d
    · simp only [if_pos ht]
      rw [List.pairwise_append]
      refine ⟨h3, List.pairwise_singleton _ _, fun a ha b hb => ?_⟩
      rw [List.mem_singleton] at hb
      subst hb
      have h4 := (List.mem_filter.1 ((g1 t).mem_iff.2 (List.mem_filter.1 ha).1)).1
      have := h.le a h4
      omega
    · simp only [if_neg ht]
      exact h3
/-- A page with the same number is put in its place. -/
theorem set_perm {a b : List QP} {p q : QP} (hs : (a ++ p :: b).Pairwise fun p q => p.n < q.n) (hq : q.n = p.n) : (a ++ q :: b).Perm (q :: rmQ (a ++ p :: b) q.n) ∧ (a ++ q :: b).Pairwise fun p q => p.n < q.n := by
  rw [List.pairwise_append] at hs
  obtain ⟨h1, h2, h3⟩ := hs
  rw [List.pairwise_cons] at h2
  have ea : rmQ a q.n = a := List.filter_eq_self.2 fun x hx => by have := h3 x hx p (List.mem_cons_self ..); simp; omega
  have eb : rmQ b q.n = b := List.filter_eq_self.2 fun x hx => by have := h2.1 x hx; simp; omega
  constructor
  · have e : rmQ (a ++ p :: b) q.n = a ++ b := by
      unfold rmQ at ea eb ⊢
      rw [List.filter_append, ea, List.filter_cons_of_neg (by simp [hq]), eb]
    rw [e]
    exact List.perm_middle
  · rw [List.pairwise_append, List.pairwise_cons]
    refine ⟨h1, ⟨fun x hx => by rw [hq]; exact h2.1 x hx, h2.2⟩, fun x hx y hy => ?_⟩
    rcases List.mem_cons.1 hy with rfl | hy
    · rw [hq]; exact h3 x hx p (List.mem_cons_self ..)
    · exact h3 x hx y (List.mem_cons_of_mem _ hy)
/-- A page with a new number is put in at its place. -/
theorem ins_perm {a b : List QP} {q : QP} (hs : (a ++ b).Pairwise fun p q => p.n < q.n) (ha : ∀ x ∈ a, x.n < q.n) (hb : ∀ x ∈ b, q.n < x.n) : (a ++ q :: b).Perm (q :: rmQ (a ++ b) q.n) ∧ (a ++ q :: b).Pairwise fun p q => p.n < q.n := by
  have e : rmQ (a ++ b) q.n = a ++ b := List.filter_eq_self.2 fun x hx => by
    rcases List.mem_append.1 hx with hx | hx
    · have := ha x hx; simp; omega
    · have := hb x hx; simp; omega
  rw [List.pairwise_append] at hs
  refine ⟨by rw [e]; exact List.perm_middle, ?_⟩
  rw [List.pairwise_append, List.pairwise_cons]
  refine ⟨hs.1, ⟨hb, hs.2.1⟩, fun x hx y hy => ?_⟩
  rcases List.mem_cons.1 hy with rfl | hy
  · exact ha x hx
  · exact hs.2.2 x hx y hy

/-- Too many clean ones go: the one that has not been used for longest. -/
theorem Sim0.settle {A : AP} {R : QS} (h : Sim0 A R) (hc : ((A.li false).length : Int) ≤ A.room + 1) {L' : List QP}
    (h1 : (((R.L.filter fun p => p.d == false).length : Int) ≤ R.room → L' = R.L))
    (h2 : R.room < ((R.L.filter fun p => p.d == false).length : Int) → ∃ a p b, R.L = a ++ p :: b ∧ p.d = false ∧ (∀ q ∈ R.L, q.d = false → p.u ≤ q.u) ∧ L' = a ++ b) : Sim (trimA A) { R with L := L' } := by
  have hlen := h.clean false
  have hroom := h.room
  have hpos := h.pos
  by_cases hle : ((A.li false).length : Int) ≤ A.room
  · have e := h1 (by rw [hlen, hroom]; exact hle)
    have et : trimL A.room (A.li false) = A.li false := by unfold trimL; rw [show (A.li false).length - A.room.toNat = 0 by omega]; rfl
    have eA : trimA A = A := by
      unfold trimA
      have : (fun t => if t = false then trimL A.room (A.li t) else A.li t) = A.li := by funext t; cases t <;> simp [et]
      rw [this]
    rw [e, eA]
    exact ⟨h, hle⟩
  · obtain ⟨a, p, b, e, hd, hmin, rfl⟩ := h2 (by rw [hlen, hroom]; omega)
    obtain ⟨G, g1, g2, g3⟩ := h.ex
    obtain ⟨R1, R2, R3⟩ := R
    simp only at e hmin g1 h ⊢
    subst e
    have hpG : p ∈ G false := (g1 false).mem_iff.1 (by simp [hd])
    cases hG : G false with
    | nil => rw [hG] at hpG; cases hpG
    | cons g rest =>
      have g3f := g3 false
      rw [hG] at g3f hpG
      rw [List.pairwise_cons] at g3f
      have hgL := (g1 false).mem_iff.2 (by rw [hG]; exact List.mem_cons_self ..)
      have hgp : g = p := by
        rcases List.mem_cons.1 hpG with e | hpr
        · exact e.symm
        · have h5 := g3f.1 p hpr
          rw [List.mem_filter] at hgL
          have h6 := hmin g hgL.1 (by simpa using hgL.2)
          omega
      subst hgp
      have hsub : (a ++ b).Sublist (a ++ g :: b) := (List.sublist_cons_self g b).append_left a
      have hf := g1 false
      rw [hG] at hf
      have et : trimL A.room (A.li false) = rest.map qpp := by
        have e3 := g2 false
        rw [hG] at e3
        unfold trimL
        rw [show (A.li false).length - A.room.toNat = 1 by omega, ← e3]
        rfl
      refine ⟨⟨hroom, hpos, h.srt.sublist hsub, fun q hq => h.le q (hsub.subset hq), fun t => if t = false then rest else G t, fun t => ?_, fun t => ?_, fun t => ?_⟩, ?_⟩
      · cases t
        · simp only [if_true]
          have h7 : ((a ++ g :: b).filter fun p => p.d == false).Perm (g :: ((a ++ b).filter fun p => p.d == false)) := by
            have : (a ++ g :: b).Perm (g :: (a ++ b)) := List.perm_middle
            have h8 := this.filter fun p => p.d == false
            rw [List.filter_cons_of_pos (by simp [hd])] at h8
            exact h8
          exact (h7.symm.trans hf).cons_inv
        · have h8 := g1 true
          simp only [Bool.true_eq_false, if_false]
          rw [List.filter_append, List.filter_cons_of_neg (by simp [hd]), ← List.filter_append] at h8
          exact h8
      · cases t
        · show rest.map qpp = trimL A.room (A.li false)
          exact et.symm
        · exact g2 true
      · cases t
        · exact g3f.2
        · exact g3 true
      · show ((trimL A.room (A.li false)).length : Int) ≤ A.room
        unfold trimL
        rw [List.length_drop]
        omega
theorem Sim.drop {A : AP} {R : QS} (h : Sim A R) (f : Int) : Sim (dropA A f) { R with L := R.L.filter fun p => decide (p.n < f) } := by
  obtain ⟨G, g1, g2, g3⟩ := h.ex
  refine ⟨⟨h.room, h.pos, h.srt.sublist List.filter_sublist, fun p hp => h.le p (List.mem_filter.1 hp).1, fun t => (G t).filter fun p => decide (p.n < f), fun t => ?_, fun t => ?_, fun t => (g3 t).sublist List.filter_sublist⟩, ?_⟩
  · show ((R.L.filter fun p => decide (p.n < f)).filter fun p => p.d == t).Perm _
    rw [List.filter_filter]
    have e : (R.L.filter fun q => (q.d == t) && decide (q.n < f)) = (R.L.filter fun q => q.d == t).filter fun q => decide (q.n < f) := by
      rw [List.filter_filter]
      exact List.filter_congr fun q _ => Bool.and_comm _ _
    rw [e]
    exact (g1 t).filter _
  · show _ = (A.li t).filter fun q => decide (q.1 < f)
    rw [← g2 t, List.filter_map]
    rfl
  · have := List.length_filter_le (fun q : PP => decide (q.1 < f)) (A.li false)
    have := h.cl
    show (((A.li false).filter fun q => decide (q.1 < f)).length : Int) ≤ A.room
    omega
theorem sorted_ints {l ss : List Int} (hs : l.Pairwise (· < ·)) (hp : ss.Perm l) : ss.mergeSort (fun x y => decide (x ≤ y)) = l := by
  have h1 := List.pairwise_mergeSort (le := fun x y : Int => decide (x ≤ y)) (fun a b c h1 h2 => decide_eq_true (Int.le_trans (of_decide_eq_true h1) (of_decide_eq_true h2))) (fun a b => by
    rcases Int.le_total a b with h | h <;> simp [h]) ss
  refine List.Perm.eq_of_pairwise (le := (· ≤ ·)) (fun a b _ _ h1 h2 => Int.le_antisymm h1 h2) (h1.imp (fun h => of_decide_eq_true h)) (hs.imp fun h => Int.le_of_lt h) ((List.mergeSort_perm _ _).trans hp)
def dirtyA (A : AP) : List Int := ((A.li true).map (·.1)).mergeSort fun x y => decide (x ≤ y)
theorem Sim0.dirty {A : AP} {R : QS} (h : Sim0 A R) : (R.L.filter fun p => p.d == true).map (·.n) = dirtyA A := by
  obtain ⟨G, g1, g2, -⟩ := h.ex
  refine (sorted_ints ?_ ?_).symm
  · rw [List.pairwise_map]
    exact h.srt.sublist List.filter_sublist
  · rw [← g2 true, List.map_map]
    exact ((g1 true).map (·.n)).symm
end Go.Proofs.Ytkpgekfejfbpjaa
