/-
  Layer 12: each call of both caches, with an operation in a block of its own beside them. Condition: numbers are ints; few pages.
-/
import Derived.Test.YtkpgekfejfbpjaaCcLaw2
namespace Go.Proofs.Ytkpgekfejfbpjaa
open Go.RowKit
variable {L : CL} {ρ ρ' : Nat → Option CRole} {A A' : AP} {w0 w w' : World} {q : Nat} {v v' : Value} {R R' : QS} {pb : Nat} {o : OpC}

def opV (o : OpC) : Array Value := #[.int .i64 o.kind, .int .i64 o.n, .string o.data]
/-- Both caches, and a block with an operation. -/
structure JB (w0 : World) (L : CL) (ρ : Nat → Option CRole) (A : AP) (q : Nat) (v : Value) (R : QS) (pb : Nat) (o : OpC) (w : World) : Prop extends JH w0 L ρ A q v R w where
  ob : Blk w pb 30 (opV o)
  pr : ρ pb = none
  pq : ¬ QB q v pb
theorem JB.new (h : JH w0 L ρ A q v R w) (o : OpC) : JB w0 L ρ A q v R w.heap.size o (w.alloc (.cells (opV o) 30)) :=
  ⟨h.below ((Below.refl _ _).alloc (Nat.le_refl _) _), blk_new _ _ _, Classical.byContradiction fun hn => by have := h.c.lt hn; omega, fun hq => by have := h.d.lt hq; omega⟩
theorem JB.cache (h : JB w0 L ρ A q v R pb o w) (hc : CacheI L ρ' A' w') (hs : CStep ρ w ρ' w') : JB w0 L ρ' A' q v R pb o w' :=
  ⟨h.toJH.cache hc hs, (hs.blk pb (blk_lt h.ob) h.pr).trans h.ob, by rw [hs.ro pb (blk_lt h.ob)]; exact h.pr, h.pq⟩
theorem JB.doc (h : JB w0 L ρ A q v R pb o w) (hd : QInv q v' R' w') (hs : QStep q v w v' w') : JB w0 L ρ A q v' R' pb o w' :=
  ⟨h.toJH.doc hd hs, (hs.blk pb (blk_lt h.ob) h.pq).trans h.ob, h.pr, fun hq => by
    rcases hs.new pb hq with h1 | h1
    · exact h.pq h1
    · have := blk_lt h.ob; omega⟩
theorem JB.cells (h : JB w0 L ρ A q v R pb o w) : w.cell? ⟨pb, 0, none⟩ = some (.int .i64 o.kind) ∧ w.cell? ⟨pb, 1, none⟩ = some (.int .i64 o.n) ∧ w.cell? ⟨pb, 2, none⟩ = some (.string o.data) :=
  ⟨blk_cell h.ob 0 rfl, blk_cell h.ob 1 rfl, blk_cell h.ob 2 rfl⟩
abbrev QPt (q : Nat) : Value := .pointer (some ⟨q, 0, none⟩)

theorem jb_put (h : JB w0 L ρ A q v R pb o w) {k : Int} (hk : IsI k) (x : ByteArray) (d : Bool) (hl : ∀ t, (A.li t).length ≤ 499999) :
    Calls Try.prog 11 #[CP L, .int .i64 k, .string x, .bool d] w fun e w' => e = .returned (.tuple #[]) ∧ ∃ ρ', JB w0 L ρ' (entA A k x d) q v R pb o w' :=
  (put_any h.c hk x d hl).mono fun e w' hq => by obtain ⟨rfl, ρ', h1, h2⟩ := hq; exact ⟨rfl, ρ', h.cache h1 h2⟩
theorem jb_get (h : JB w0 L ρ A q v R pb o w) {k : Int} (hk : IsI k) (hl : ∀ t, (A.li t).length ≤ 499999) :
    Calls Try.prog 9 #[CP L, .int .i64 k] w fun e w' => e = .returned (resG (lookA A k)) ∧ ∃ ρ', JB w0 L ρ' (getA A k) q v R pb o w' :=
  (get_any h.c hk (fun t => by have := hl t; omega)).mono fun e w' hq => by obtain ⟨rfl, ρ', h1, h2⟩ := hq; exact ⟨rfl, ρ', h.cache h1 h2⟩
theorem jb_clean (h : JB w0 L ρ A q v R pb o w) {k : Int} (hk : IsI k) (hl : ∀ t, (A.li t).length ≤ 499999) :
    Calls Try.prog 13 #[CP L, .int .i64 k] w fun e w' => e = .returned (.tuple #[]) ∧ ∃ ρ', JB w0 L ρ' (cleanA A k) q v R pb o w' :=
  (clean_any h.c hk (fun t => by have := hl t; omega)).mono fun e w' hq => by obtain ⟨rfl, ρ', h1, h2⟩ := hq; exact ⟨rfl, ρ', h.cache h1 h2⟩
theorem jb_drop (h : JB w0 L ρ A q v R pb o w) {k : Int} (hk : IsI k) (hl : ∀ t, (A.li t).length ≤ 499999) :
    Calls Try.prog 15 #[CP L, .int .i64 k] w fun e w' => e = .returned (.tuple #[]) ∧ ∃ ρ', JB w0 L ρ' (dropA A k) q v R pb o w' :=
  (drop_any h.c hk hl).mono fun e w' hq => by obtain ⟨rfl, ρ', h1, h2⟩ := hq; exact ⟨rfl, ρ', h.cache h1 h2⟩

/-- The bounds. -/
structure Bd (n : Nat) (A : AP) (R : QS) : Prop where
  li : ∀ t, (A.li t).length ≤ n
  us : R.uses ≤ n
  n : n ≤ 4000
theorem Bd.len {n : Nat} (h : Bd n A R) (hs : Sim A R) : R.L.length ≤ 9000 := by
  rw [hs.toSim0.len, lenA]
  have h1 := h.li false
  have h2 := h.li true
  have h3 := h.n
  omega
theorem room_ok (hs : Sim A R) (hh : A.room ≤ 9223372036854775807) : 0 ≤ R.room ∧ R.room ≤ 9223372036854775807 := by
  have := hs.room; have := hs.pos; omega
theorem jd_get (h : JB w0 L ρ A' q v R pb o w) {n : Nat} (hs : Sim A R) (hb : Bd n A R) (k : Int) :
    Calls Try.prog 10 #[QPt q, .int .i64 k] w fun e w' => e = .returned (resG (lookA A k)) ∧ ∃ v' R', JB w0 L ρ A' q v' R' pb o w' ∧ Sim (getA A k) R' ∧ R'.uses ≤ R.uses + 1 := by
  have h3 := hb.len hs
  have h4 := hb.us; have h5 := hb.n
  cases hl : lookA A k with
  | none =>
    refine (qget_none h.d (by omega) k (sim_none hs hl)).mono fun e w' hq => ?_
    obtain ⟨rfl, rfl⟩ := hq
    exact ⟨rfl, v, R, h, by unfold getA; rw [hl]; exact hs, by omega⟩
  | some dx =>
    obtain ⟨d, x⟩ := dx
    obtain ⟨a, p, b, hL, e1, e2, e3, e4⟩ := sim_some hs hl
    refine (qget_some h.d (by omega) (by omega) hL e4 e1).mono fun e w' hq => ?_
    obtain ⟨rfl, q1, q2⟩ := hq
    exact ⟨by rw [e2]; rfl, v, _, h.doc q1 q2, sim_get hs hl hL e1 e2 e3, Nat.le_refl _⟩
theorem jd_put (h : JB w0 L ρ A' q v R pb o w) {n : Nat} (hs : Sim A R) (hb : Bd n A R) (hh : A.room ≤ 9223372036854775807) (k : Int) (x : ByteArray) (d : Bool) :
    Calls Try.prog 12 #[QPt q, .int .i64 k, .string x, .bool d] w fun e w' => e = .returned (.tuple #[]) ∧ ∃ v' R', JB w0 L ρ A' q v' R' pb o w' ∧ Sim (entA A k x d) R' ∧ R'.uses ≤ R.uses + 1 := by
  have h3 := hb.len hs
  have h4 := hb.us; have h5 := hb.n
  cases hl : lookA A k with
  | none =>
    refine (qput_new h.d hs.srt h3 (by omega) (sim_clean hs) (room_ok hs hh) x d (sim_none hs hl)).mono fun e w' hq => ?_
    obtain ⟨rfl, v', R', q1, q2, q3⟩ := hq
    exact ⟨rfl, v', R', h.doc q1 q2, sim_put_new hs q3, by rw [(put_uses q3).1]; omega⟩
  | some dx =>
    obtain ⟨d', x'⟩ := dx
    obtain ⟨a, p, b, hL, e1, e2, e3, e4⟩ := sim_some hs hl
    refine (qput_old h.d h3 (by omega) (sim_clean hs) (room_ok hs hh) x d hL e4 e1).mono fun e w' hq => ?_
    obtain ⟨rfl, v', R', q1, q2, q3⟩ := hq
    exact ⟨rfl, v', R', h.doc q1 q2, sim_put_old hs hL e1 q3, by rw [(set_uses q3).1]; exact Nat.le_refl _⟩
theorem jd_clean (h : JB w0 L ρ A' q v R pb o w) {n : Nat} (hs : Sim A R) (hb : Bd n A R) (hh : A.room ≤ 9223372036854775807) (k : Int) :
    Calls Try.prog 14 #[QPt q, .int .i64 k] w fun e w' => e = .returned (.tuple #[]) ∧ ∃ v' R', JB w0 L ρ A' q v' R' pb o w' ∧ Sim (cleanA A k) R' ∧ R'.uses ≤ R.uses + 1 := by
  have h3 := hb.len hs
  have h4 := hb.us; have h5 := hb.n
  cases hl : lookA A k with
  | none =>
    refine (qclean_none h.d h3 k (sim_none hs hl)).mono fun e w' hq => ?_
    obtain ⟨rfl, rfl⟩ := hq
    exact ⟨rfl, v, R, h, by unfold cleanA; rw [hl]; exact hs, by omega⟩
  | some dx =>
    obtain ⟨d, x⟩ := dx
    obtain ⟨a, p, b, hL, e1, e2, e3, e4⟩ := sim_some hs hl
    refine (qclean_some h.d h3 (by omega) (sim_clean hs) (room_ok hs hh) hL e4 e1).mono fun e w' hq => ?_
    obtain ⟨rfl, v', R', q1, q2, q3⟩ := hq
    exact ⟨rfl, v', R', h.doc q1 q2, sim_cleaned hs hl hL e1 e2 q3, by rw [(set_uses q3).1]; exact Nat.le_refl _⟩
theorem jd_drop (h : JB w0 L ρ A' q v R pb o w) {n : Nat} (hs : Sim A R) (hb : Bd n A R) (k : Int) :
    Calls Try.prog 16 #[QPt q, .int .i64 k] w fun e w' => e = .returned (.tuple #[]) ∧ ∃ v' R', JB w0 L ρ A' q v' R' pb o w' ∧ Sim (dropA A k) R' ∧ R'.uses ≤ R.uses + 1 := by
  have h3 := hb.len hs
  refine (qdrop_any h.d (by omega) k).mono fun e w' hq => ?_
  obtain ⟨rfl, v', q1, q2⟩ := hq
  exact ⟨rfl, v', _, h.doc q1 q2, hs.drop k, Nat.le_succ _⟩
/-- What holds behind an operation of both. -/
structure JJ (w0 : World) (L : CL) (q : Nat) (n : Nat) (w : World) : Prop where
  ex : ∃ ρ A v R, JH w0 L ρ A q v R w ∧ Sim A R ∧ Bd n A R
structure JK (w0 : World) (L : CL) (q : Nat) (n : Nat) (pb : Nat) (o : OpC) (w : World) : Prop where
  ex : ∃ ρ A v R, JB w0 L ρ A q v R pb o w ∧ Sim A R ∧ Bd n A R
theorem Bd.up {n : Nat} (h : Bd n A R) (hn : n + 1 ≤ 4000) (h1 : ∀ t, (A'.li t).length ≤ (A.li t).length + 1) (h2 : R'.uses ≤ R.uses + 1) : Bd (n + 1) A' R' :=
  ⟨fun t => by have := h1 t; have := h.li t; omega, by have := h.us; omega, hn⟩
theorem jj_new {room : Int} (h : JC w0 L ρ (newA room) w) (h1 : QInv w.heap.size (.slice none 0 0) ⟨[], 0, max 1 room⟩ w') (h2 : Below w.heap.size w w') (hr : IsI room) : JJ w0 L w.heap.size 0 w' := by
  have h3 := h.below h2
  have hq : ∀ g, QB w.heap.size (.slice none 0 0) g → g = w.heap.size := fun g hg => by
    rcases hg with e | e
    · exact e
    · cases e
  refine ⟨ρ, newA room, _, _, ⟨h3, h1, fun g hg hg2 => ?_, fun g hg => ?_⟩, sim_new room, ⟨fun t => Nat.le_refl _, Nat.le_refl _, by decide⟩⟩
  · have := h.c.lt hg; have := hq g hg2; omega
  · rw [hq g hg]; exact h.bel.size
end Go.Proofs.Ytkpgekfejfbpjaa
