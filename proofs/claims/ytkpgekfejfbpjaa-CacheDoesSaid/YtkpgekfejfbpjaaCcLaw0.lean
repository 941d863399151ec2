/-
  Layer 12: the program's cache and the document's in one memory; what each call makes of the pair. No program text is walked here but Len's.
-/
import Derived.Test.YtkpgekfejfbpjaaCchPut
import Derived.Test.YtkpgekfejfbpjaaCchDrop
import Derived.Test.YtkpgekfejfbpjaaCcqPut2
namespace Go.Proofs.Ytkpgekfejfbpjaa
open Go.RowKit
variable {L : CL} {ρ ρ' : Nat → Option CRole} {A A' : AP} {w0 w w' : World} {q : Nat} {v v' : Value} {R R' : QS}

theorem lenC_any (h : CacheI L ρ A w) (hl : ∀ t, (A.li t).length ≤ 499999) : Calls Try.prog 17 #[.pointer (some ⟨L.c, 0, none⟩)] w fun e w' => e = .returned (.int .i64 (lenA A : Nat)) ∧ w' = w := by
  obtain ⟨⟨S, hI, hG, rfl⟩, hA, hh⟩ := h
  have h1 := len_any hI
  have e : S.keys.length = lenA (abs S) := by rw [hG.kl, lenA, abs_len, abs_len]
  rw [e] at h1
  exact h1
/-- The program's cache alone, above what was there. -/
structure JC (w0 : World) (L : CL) (ρ : Nat → Option CRole) (A : AP) (w : World) : Prop where
  c : CacheI L ρ A w
  lo : ∀ g, ρ g ≠ none → w0.heap.size ≤ g
  bel : Below w0.heap.size w0 w
/-- Both caches in one memory, above what was there. -/
structure JH (w0 : World) (L : CL) (ρ : Nat → Option CRole) (A : AP) (q : Nat) (v : Value) (R : QS) (w : World) : Prop extends JC w0 L ρ A w where
  d : QInv q v R w
  ap : ∀ g, ρ g ≠ none → ¬ QB q v g
  lo2 : ∀ g, QB q v g → w0.heap.size ≤ g
theorem bel_cache (hlo : ∀ g, ρ g ≠ none → w0.heap.size ≤ g) (hb : Below w0.heap.size w0 w) (hs : CStep ρ w ρ' w') : Below w0.heap.size w0 w' :=
  ⟨hs.os.trans hb.os, hs.tape.trans hb.tape, hs.output.trans hb.output, Nat.le_trans hb.size hs.size, fun k hk => (hs.blk k (Nat.lt_of_lt_of_le hk hb.size) (Classical.byContradiction fun h => by have := hlo k h; omega)).trans (hb.block k hk)⟩
theorem lo_cache (hlo : ∀ g, ρ g ≠ none → w0.heap.size ≤ g) (hb : Below w0.heap.size w0 w) (hs : CStep ρ w ρ' w') : ∀ g, ρ' g ≠ none → w0.heap.size ≤ g := fun g hg => by
  by_cases h : g < w.heap.size
  · rw [hs.ro g h] at hg; exact hlo g hg
  · have := hb.size; omega
theorem JC.call (h : JC w0 L ρ A w) (hc : CacheI L ρ' A' w') (hs : CStep ρ w ρ' w') : JC w0 L ρ' A' w' := ⟨hc, lo_cache h.lo h.bel hs, bel_cache h.lo h.bel hs⟩
theorem JC.below (h : JC w0 L ρ A w) (hb : Below w.heap.size w w') : JC w0 L ρ A w' :=
  h.call (h.c.heap (fun g hg => hb.block g (h.c.lt hg)) hb.size) (CStep.below hb)
theorem JH.cache (h : JH w0 L ρ A q v R w) (hc : CacheI L ρ' A' w') (hs : CStep ρ w ρ' w') : JH w0 L ρ' A' q v R w' := by
  refine ⟨h.toJC.call hc hs, h.d.heap (fun g hg => hs.blk g (h.d.lt hg) (Classical.byContradiction fun hn => h.ap g hn hg)), fun g hg hq => ?_, h.lo2⟩
  have h1 := h.d.lt hq
  rw [hs.ro g h1] at hg
  exact h.ap g hg hq
theorem JH.doc (h : JH w0 L ρ A q v R w) (hd : QInv q v' R' w') (hs : QStep q v w v' w') : JH w0 L ρ A q v' R' w' := by
  refine ⟨⟨h.c.heap (fun g hg => hs.blk g (h.c.lt hg) (h.ap g hg)) hs.size, h.lo, ⟨hs.os.trans h.bel.os, hs.tape.trans h.bel.tape, hs.output.trans h.bel.output, Nat.le_trans h.bel.size hs.size, fun k hk => (hs.blk k (Nat.lt_of_lt_of_le hk h.bel.size) (fun hq => by have := h.lo2 k hq; omega)).trans (h.bel.block k hk)⟩⟩, hd, fun g hg hq => ?_, fun g hq => ?_⟩
  · rcases hs.new g hq with h1 | h1
    · exact h.ap g hg h1
    · have := h.c.lt hg; omega
  · rcases hs.new g hq with h1 | h1
    · exact h.lo2 g h1
    · have := h.bel.size; omega
theorem JH.below (h : JH w0 L ρ A q v R w) (hb : Below w.heap.size w w') : JH w0 L ρ A q v R w' :=
  h.doc (h.d.below hb) (QStep.below hb)
theorem JC.drewN (h : JC w0 L ρ A w) (n : Nat) : JC w0 L ρ A (w.drewN n) := h.below ⟨rfl, rfl, rfl, Nat.le_refl _, fun _ _ => rfl⟩
theorem JH.drewN (h : JH w0 L ρ A q v R w) (n : Nat) : JH w0 L ρ A q v R (w.drewN n) := h.below ⟨rfl, rfl, rfl, Nat.le_refl _, fun _ _ => rfl⟩

/-! ### the two caches stay alike -/
theorem sim_srt (h : Sim A R) {a b : List QP} {p : QP} (hL : R.L = a ++ p :: b) : ∀ x ∈ a, x.n ≠ p.n := by
  have := h.srt
  rw [hL, List.pairwise_append] at this
  intro x hx e
  have := this.2.2 x hx p (List.mem_cons_self ..)
  omega
theorem sim_none (h : Sim A R) {k : Int} (hn : lookA A k = none) : ∀ p ∈ R.L, p.n ≠ k := fun p hp e => by
  have h1 := (h.toSim0.mem (k := k) (x := p.s) (t := p.d)).2 ⟨p, hp, e, rfl, rfl⟩
  have h2 := (lookA_iff h.ok).2 h1
  rw [hn] at h2
  cases h2
theorem sim_some (h : Sim A R) {k : Int} {d : Bool} {x : ByteArray} (hs : lookA A k = some (d, x)) : ∃ a p b, R.L = a ++ p :: b ∧ p.n = k ∧ p.s = x ∧ p.d = d ∧ ∀ y ∈ a, y.n ≠ k := by
  obtain ⟨p, hp, e1, e2, e3⟩ := (h.toSim0.mem).1 ((lookA_iff h.ok).1 hs)
  obtain ⟨a, b, hL⟩ := List.append_of_mem hp
  exact ⟨a, p, b, hL, e1, e2, e3, fun y hy => by rw [← e1]; exact sim_srt h hL y hy⟩
theorem sim_clean (h : Sim A R) : (cleanQ R.L : Int) ≤ R.room := by
  have h1 := h.toSim0.clean false
  have h2 := h.cl
  have h3 := h.room
  unfold cleanQ
  rw [h1, h3]
  exact h2
theorem sim_set (h : Sim0 A R) (hc : ((A.li false).length : Int) ≤ A.room + 1) (hs : SetR R R') : Sim (trimA A) R' := by
  rcases hs with ⟨h1, rfl⟩ | ⟨h1, a, p, b, h2, h3, h4, rfl⟩
  · exact h.settle hc (L' := R'.L) (fun _ => rfl) (fun h2 => by unfold cleanQ at h1; omega)
  · exact h.settle hc (L' := a ++ b) (fun h5 => by unfold cleanQ at h1; omega) (fun _ => ⟨a, p, b, h2, h3, fun x hx hd => h4 x hx hd, rfl⟩)
theorem raw_room (h : Sim A R) (k : Int) (x : ByteArray) (d : Bool) : (((rawA A k x d).li false).length : Int) ≤ (rawA A k x d).room + 1 := by
  have h1 := raw_len A k x d false
  have h2 := h.cl
  show _ ≤ A.room + 1
  omega
theorem sim_get (h : Sim A R) {k : Int} {d : Bool} {x : ByteArray} (hs : lookA A k = some (d, x)) {a b : List QP} {p : QP} (hL : R.L = a ++ p :: b) (h1 : p.n = k) (h2 : p.s = x) (h3 : p.d = d) :
    Sim (getA A k) { R with L := a ++ { p with u := R.uses + 1 } :: b, uses := R.uses + 1 } := by
  have e : getA A k = trimA (rawA A k x d) := by unfold getA; rw [hs]; rfl
  have hsrt := h.srt
  rw [hL] at hsrt
  obtain ⟨p1, p2⟩ := set_perm (q := { p with u := R.uses + 1 }) hsrt rfl
  rw [← hL] at p1
  have h4 := h.toSim0.ent (R' := { R with L := a ++ { p with u := R.uses + 1 } :: b, uses := R.uses + 1 }) { p with u := R.uses + 1 } p1 p2 rfl rfl rfl
  subst h1 h2 h3
  rw [e]
  refine sim_set h4 (raw_room h _ _ _) (.inl ⟨?_, rfl⟩)
  have h5 := sim_clean h
  have h6 : cleanQ (a ++ { p with u := R.uses + 1 } :: b) = cleanQ R.L := by
    unfold cleanQ
    rw [hL, List.filter_append, List.filter_append, List.filter_cons, List.filter_cons]
    split <;> simp
  show (cleanQ (a ++ { p with u := R.uses + 1 } :: b) : Int) ≤ R.room
  rw [h6]
  exact h5
theorem sim_cleaned (h : Sim A R) {k : Int} {d : Bool} {x : ByteArray} (hs : lookA A k = some (d, x)) {a b : List QP} {p : QP} (hL : R.L = a ++ p :: b) (h1 : p.n = k) (h2 : p.s = x)
    (hR : SetR { R with L := a ++ { p with u := R.uses + 1, d := false } :: b, uses := R.uses + 1 } R') : Sim (cleanA A k) R' := by
  have e : cleanA A k = trimA (rawA A k x false) := by unfold cleanA; rw [hs]; rfl
  have hsrt := h.srt
  rw [hL] at hsrt
  obtain ⟨p1, p2⟩ := set_perm (q := { p with u := R.uses + 1, d := false }) hsrt rfl
  rw [← hL] at p1
  have h4 := h.toSim0.ent (R' := { R with L := a ++ { p with u := R.uses + 1, d := false } :: b, uses := R.uses + 1 }) { p with u := R.uses + 1, d := false } p1 p2 rfl rfl rfl
  subst h1 h2
  rw [e]
  exact sim_set h4 (raw_room h _ _ _) hR
theorem sim_put_old (h : Sim A R) {z : Int} {s : ByteArray} {d : Bool} {a b : List QP} {p : QP} (hL : R.L = a ++ p :: b) (h1 : p.n = z)
    (hR : SetR { R with L := a ++ ⟨z, s, d, R.uses + 1⟩ :: b, uses := R.uses + 1 } R') : Sim (entA A z s d) R' := by
  have hsrt := h.srt
  rw [hL] at hsrt
  obtain ⟨p1, p2⟩ := set_perm (q := ⟨z, s, d, R.uses + 1⟩) hsrt h1.symm
  rw [← hL] at p1
  have h4 := h.toSim0.ent (R' := { R with L := a ++ ⟨z, s, d, R.uses + 1⟩ :: b, uses := R.uses + 1 }) ⟨z, s, d, R.uses + 1⟩ p1 p2 rfl rfl rfl
  exact sim_set h4 (raw_room h _ _ _) hR
theorem sim_put_new (h : Sim A R) {z : Int} {s : ByteArray} {d : Bool} (hR : PutR R z s d R') : Sim (entA A z s d) R' := by
  obtain ⟨a, b, hL, ha, hb, hR⟩ := hR
  have hsrt := h.srt
  rw [hL] at hsrt
  obtain ⟨p1, p2⟩ := ins_perm (q := ⟨z, s, d, R.uses + 1⟩) hsrt ha hb
  rw [← hL] at p1
  have h4 := h.toSim0.ent (R' := { R with L := a ++ ⟨z, s, d, R.uses + 1⟩ :: b, uses := R.uses + 1 }) ⟨z, s, d, R.uses + 1⟩ p1 p2 rfl rfl rfl
  exact sim_set h4 (raw_room h _ _ _) hR
theorem set_uses (h : SetR R R') : R'.uses = R.uses ∧ R'.room = R.room := by
  rcases h with ⟨-, rfl⟩ | ⟨-, a, p, b, -, -, -, rfl⟩ <;> exact ⟨rfl, rfl⟩
theorem put_uses {z : Int} {s : ByteArray} {d : Bool} (h : PutR R z s d R') : R'.uses = R.uses + 1 ∧ R'.room = R.room := by
  obtain ⟨a, b, -, -, -, h⟩ := h
  exact set_uses h
theorem dirty_sim (h : Sim A R) : dirtyQ R.L = dirtyA A := h.toSim0.dirty

/-! ### how many there may be -/
theorem ent_le (A : AP) (k : Int) (x : ByteArray) (d t : Bool) : ((entA A k x d).li t).length ≤ (A.li t).length + 1 := by
  have h1 := raw_len A k x d t
  unfold entA trimA
  simp only
  split
  · unfold trimL; rw [List.length_drop]; omega
  · exact h1
theorem get_le (A : AP) (k : Int) (t : Bool) : ((getA A k).li t).length ≤ (A.li t).length + 1 := by
  unfold getA
  split
  · omega
  · exact ent_le _ _ _ _ _
theorem clean_le (A : AP) (k : Int) (t : Bool) : ((cleanA A k).li t).length ≤ (A.li t).length + 1 := by
  unfold cleanA
  split
  · omega
  · exact ent_le _ _ _ _ _
theorem drop_le (A : AP) (f : Int) (t : Bool) : ((dropA A f).li t).length ≤ (A.li t).length := List.length_filter_le _ _
end Go.Proofs.Ytkpgekfejfbpjaa
