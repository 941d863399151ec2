/-
  Layer 4, mathematics: the order of values and of rows is one order: total, turned round where the sides are, transitive. No condition.
-/
import Derived.Test.YtembcmmoicmkeaaDoorValRows
namespace Go.Proofs.YtembcmmoicmkeaaDoor
open Go.RowKit

/-- An order told by -1, 0 and 1. -/
structure Ord3 {α : Type} (c : α → α → Int) : Prop where
  val : ∀ x y, c x y = -1 ∨ c x y = 0 ∨ c x y = 1
  anti : ∀ x y, c x y = - c y x
  same : ∀ x y z, c x y = 0 → c x z = c y z
  lt : ∀ x y z, c x y = -1 → c y z = -1 → c x z = -1

theorem Ord3.pull {α β : Type} {c : β → β → Int} (h : Ord3 c) (f : α → β) : Ord3 (fun x y => c (f x) (f y)) :=
  ⟨fun x y => h.val _ _, fun x y => h.anti _ _, fun x y z => h.same _ _ _, fun x y z => h.lt _ _ _⟩
theorem Ord3.lex {α : Type} {c d : α → α → Int} (h : Ord3 c) (k : Ord3 d) : Ord3 (fun x y => thenZ (c x y) (d x y)) := by
  constructor
  · intro x y
    show thenZ _ _ = _ ∨ _
    unfold thenZ
    split
    · exact k.val x y
    · exact h.val x y
  · intro x y
    show thenZ _ _ = - thenZ _ _
    unfold thenZ
    have e := h.anti x y
    by_cases h0 : c x y = 0
    · rw [if_pos h0, if_pos (by omega), k.anti x y]
    · rw [if_neg h0, if_neg (by omega), e]
  · intro x y z
    show thenZ _ _ = _ → thenZ _ _ = thenZ _ _
    unfold thenZ
    intro e
    by_cases h0 : c x y = 0
    · rw [if_pos h0] at e
      rw [h.same x y z h0, k.same x y z e]
    · rw [if_neg h0] at e
      exact absurd e h0
  · intro x y z
    show thenZ _ _ = _ → thenZ _ _ = _ → thenZ _ _ = _
    unfold thenZ
    intro e1 e2
    by_cases h1 : c x y = 0
    · rw [if_pos h1] at e1
      rw [h.same x y z h1]
      by_cases h2 : c y z = 0
      · rw [if_pos h2] at e2 ⊢
        exact k.lt x y z e1 e2
      · rw [if_neg h2] at e2 ⊢
        exact e2
    · rw [if_neg h1] at e1
      by_cases h2 : c y z = 0
      · rw [if_pos h2] at e2
        have e3 := h.same y z x h2
        have a1 := h.anti x y
        have a2 := h.anti x z
        rw [if_neg (by omega)]
        omega
      · rw [if_neg h2] at e2
        have := h.lt x y z e1 e2
        rw [if_neg (by omega), this]

theorem ord_int : Ord3 cmpI := by
  constructor <;> intros <;> simp only [cmpI] at * <;> (repeat' split at *) <;> omega

/-- The order of two byte strings as lists. -/
def cmpB (a b : List UInt8) : Int := if Op.bytesLess a b then -1 else if a == b then 0 else 1
theorem cmpB_cons (a b : UInt8) (x y : List UInt8) : cmpB (a :: x) (b :: y) = thenZ (cmpI a.toNat b.toNat) (cmpB x y) := by
  unfold cmpB thenZ cmpI
  by_cases h1 : a < b
  · have h1' := UInt8.lt_iff_toNat_lt.1 h1
    have e1 : ((a.toNat : Int) < b.toNat) := by omega
    simp [Op.bytesLess, h1, e1]
  · have h1' : ¬ a.toNat < b.toNat := fun h => h1 (UInt8.lt_iff_toNat_lt.2 h)
    have e1 : ¬ ((a.toNat : Int) < b.toNat) := by omega
    by_cases h2 : a = b
    · subst h2
      simp [Op.bytesLess, h1]
    · have h3 : ¬ a.toNat = b.toNat := fun h => h2 (UInt8.toNat_inj.1 h)
      have e2 : ((b.toNat : Int) < a.toNat) := by omega
      simp [Op.bytesLess, h1, h2, e1, e2]
theorem cmpB_nil : cmpB [] [] = 0 := rfl
theorem cmpB_nil_cons (b : UInt8) (y : List UInt8) : cmpB [] (b :: y) = -1 := rfl
theorem cmpB_cons_nil (b : UInt8) (y : List UInt8) : cmpB (b :: y) [] = 1 := by simp [cmpB, Op.bytesLess]
theorem cmpB_val : ∀ x y, cmpB x y = -1 ∨ cmpB x y = 0 ∨ cmpB x y = 1 := by
  intro x y; unfold cmpB; split
  · exact .inl rfl
  · split
    · exact .inr (.inl rfl)
    · exact .inr (.inr rfl)
theorem cmpB_anti : ∀ x y, cmpB x y = - cmpB y x := by
  intro x
  induction x with
  | nil => intro y; cases y with
    | nil => rfl
    | cons b y => rw [cmpB_nil_cons, cmpB_cons_nil]
  | cons a x ih => intro y; cases y with
    | nil => rw [cmpB_nil_cons, cmpB_cons_nil]; rfl
    | cons b y =>
      rw [cmpB_cons, cmpB_cons]
      have e := ord_int.anti a.toNat b.toNat
      unfold thenZ
      by_cases h0 : cmpI a.toNat b.toNat = 0
      · rw [if_pos h0, if_pos (by omega), ih y]
      · rw [if_neg h0, if_neg (by omega), e]
theorem cmpB_eq : ∀ x y, cmpB x y = 0 → x = y := by
  intro x
  induction x with
  | nil => intro y h; cases y with
    | nil => rfl
    | cons b y => rw [cmpB_nil_cons] at h; cases h
  | cons a x ih => intro y h; cases y with
    | nil => rw [cmpB_cons_nil] at h; cases h
    | cons b y =>
      rw [cmpB_cons] at h
      unfold thenZ at h
      split at h
      · rename_i h0
        have : a = b := by
          apply UInt8.toNat_inj.1
          unfold cmpI at h0
          split at h0
          · cases h0
          · split at h0
            · cases h0
            · omega
        rw [this, ih y h]
      · rename_i h0; exact absurd h h0
theorem cmpB_lt : ∀ x y z, cmpB x y = -1 → cmpB y z = -1 → cmpB x z = -1 := by
  intro x
  induction x with
  | nil =>
    intro y z h1 h2
    cases z with
    | nil => cases y with
      | nil => cases h1
      | cons b y => rw [cmpB_cons_nil] at h2; cases h2
    | cons c z => rfl
  | cons a x ih =>
    intro y z h1 h2
    cases y with
    | nil => rw [cmpB_cons_nil] at h1; cases h1
    | cons b y =>
      cases z with
      | nil => rw [cmpB_cons_nil] at h2; cases h2
      | cons c z =>
        rw [cmpB_cons] at h1 h2 ⊢
        unfold thenZ at *
        by_cases e1 : cmpI a.toNat b.toNat = 0
        · rw [if_pos e1] at h1
          rw [ord_int.same _ _ c.toNat e1]
          by_cases e2 : cmpI b.toNat c.toNat = 0
          · rw [if_pos e2] at h2 ⊢
            exact ih y z h1 h2
          · rw [if_neg e2] at h2 ⊢
            exact h2
        · rw [if_neg e1] at h1
          by_cases e2 : cmpI b.toNat c.toNat = 0
          · have e3 := ord_int.same b.toNat c.toNat a.toNat e2
            have a1 := ord_int.anti a.toNat b.toNat
            have a2 := ord_int.anti a.toNat c.toNat
            rw [if_neg (by omega)]
            omega
          · rw [if_neg e2] at h2
            have := ord_int.lt a.toNat b.toNat c.toNat h1 h2
            rw [if_neg (by omega), this]
theorem ord_bytes : Ord3 cmpB := ⟨cmpB_val, cmpB_anti, fun x y z h => by rw [cmpB_eq x y h], cmpB_lt⟩
theorem cmpS_eq (a b : ByteArray) : cmpS a b = cmpB a.toList b.toList := rfl
theorem ord_text : Ord3 cmpS := ord_bytes.pull ByteArray.toList

/-- What the third step of the order looks at. -/
def keyS (nc : Bool) (x : Val) : ByteArray := if nc = true ∧ x.k = 2 then foldB x.s else x.s
theorem cmpI_zero {a b : Int} (h : cmpI a b = 0) : a = b := by
  unfold cmpI at h; split at h
  · cases h
  · split at h
    · cases h
    · omega
theorem cmpW_lex (x y : Val) (nc : Bool) : cmpW x y nc = thenZ (cmpI x.k y.k) (thenZ (cmpI x.n y.n) (cmpS (keyS nc x) (keyS nc y))) := by
  unfold cmpW cmpV thenZ keyS
  by_cases h1 : cmpI x.k y.k = 0
  · have hk := cmpI_zero h1
    rw [if_neg (by simpa using h1), if_pos h1]
    by_cases h2 : cmpI x.n y.n = 0
    · rw [if_neg (by simpa using h2), if_pos h2, ← hk]
      split <;> rfl
    · rw [if_pos h2, if_neg h2]
  · rw [if_pos h1, if_neg h1]
theorem ord_val (nc : Bool) : Ord3 (fun x y => cmpW x y nc) := by
  have := (ord_int.pull Val.k).lex ((ord_int.pull Val.n).lex (ord_text.pull (keyS nc)))
  have e : (fun x y => cmpW x y nc) = fun x y => thenZ (cmpI x.k y.k) (thenZ (cmpI x.n y.n) (cmpS (keyS nc x) (keyS nc y))) := by
    funext x y; exact cmpW_lex x y nc
  rw [e]; exact this

/-- A row's value at a place, or none behind its end. -/
def atO (f : Nat → Val) (l i : Nat) : Option Val := if i < l then some (f i) else none
def cmpO (nc : Bool) : Option Val → Option Val → Int
  | none, none => 0
  | none, some _ => -1
  | some _, none => 1
  | some x, some y => cmpW x y nc
theorem ord_opt (nc : Bool) : Ord3 (cmpO nc) := by
  have h := ord_val nc
  constructor
  · intro x y
    cases x with
    | none => cases y with
      | none => exact .inr (.inl rfl)
      | some y => exact .inl rfl
    | some x => cases y with
      | none => exact .inr (.inr rfl)
      | some y => exact h.val _ _
  · intro x y; cases x <;> cases y <;> simp only [cmpO]
    · rfl
    · rfl
    · exact h.anti _ _
  · intro x y z e
    cases x <;> cases y <;> simp only [cmpO] at e
    · cases z <;> rfl
    · cases e
    · cases e
    · cases z <;> simp only [cmpO]
      exact h.same _ _ _ e
  · intro x y z e1 e2
    cases x <;> cases y <;> cases z <;> simp only [cmpO] at * <;> first | (cases e1; done) | (cases e2; done) | rfl | exact h.lt _ _ _ e1 e2
/-- Rows in order, place by place, over n places from the i-th on. -/
def seqZ (g : Nat → Bool) (ln : Nat) : Nat → Nat → (Nat → Option Val) → (Nat → Option Val) → Int
  | 0, _, _, _ => 0
  | m + 1, i, x, y => thenZ (cmpO (ncAt g ln i) (x i) (y i)) (seqZ g ln m (i + 1) x y)
theorem ord_seq (g : Nat → Bool) (ln : Nat) : ∀ m i, Ord3 (seqZ g ln m i) := by
  intro m
  induction m with
  | zero => intro i; exact ⟨fun _ _ => .inr (.inl rfl), fun _ _ => rfl, fun _ _ _ _ => rfl, fun _ _ _ e => by cases e⟩
  | succ m ih =>
    intro i
    exact ((ord_opt (ncAt g ln i)).pull (fun x : Nat → Option Val => x i)).lex (ih (i + 1))
theorem rows_seq (f1 f2 : Nat → Val) (g : Nat → Bool) (l1 l2 ln : Nat) : ∀ m i N, m + i = l1 → i ≤ l1 → i ≤ l2 → l1 + l2 + 1 ≤ N + i → rowsZ f1 f2 g l1 l2 ln m i = seqZ g ln N i (atO f1 l1) (atO f2 l2) := by
  have endN : ∀ N i, l1 ≤ i → l2 ≤ i → seqZ g ln N i (atO f1 l1) (atO f2 l2) = 0 := by
    intro N
    induction N with
    | zero => intros; rfl
    | succ N ih =>
      intro i h1 h2
      simp only [seqZ, atO, if_neg (show ¬ i < l1 by omega), if_neg (show ¬ i < l2 by omega), cmpO, thenZ, if_true]
      exact ih (i + 1) (by omega) (by omega)
  intro m
  induction m with
  | zero =>
    intro i N hm h1 h2 hN
    obtain rfl : i = l1 := by omega
    cases N with
    | zero => omega
    | succ N =>
      show cmpI i l2 = thenZ _ _
      by_cases h : i < l2
      · simp only [atO, if_neg (Nat.lt_irrefl i), if_pos h, cmpO, thenZ]
        rw [if_neg (by decide)]
        unfold cmpI; rw [if_pos (by omega)]
      · obtain rfl : l2 = i := by omega
        simp only [atO, if_neg (Nat.lt_irrefl l2), cmpO, thenZ, if_true]
        rw [endN N (l2 + 1) (by omega) (by omega)]
        unfold cmpI; rw [if_neg (by omega), if_neg (by omega)]
  | succ m ih =>
    intro i N hm h1 h2 hN
    cases N with
    | zero => omega
    | succ N =>
      rw [rowsZ_step]
      by_cases h : i < l1 ∧ i < l2
      · rw [if_pos h]
        show thenZ _ _ = thenZ _ _
        simp only [atO, if_pos h.1, if_pos h.2, cmpO]
        rw [ih (i + 1) N (by omega) (by omega) (by omega) (by omega)]
      · rw [if_neg h]
        obtain rfl : i = l2 := by omega
        show cmpI l1 i = thenZ _ _
        simp only [atO, if_neg (Nat.lt_irrefl i), if_pos (show i < l1 by omega), cmpO, thenZ]
        rw [if_neg (by decide)]
        unfold cmpI; rw [if_neg (by omega), if_pos (by omega)]
/-- The five facts of one order, at three rows. -/
theorem rows_one (f1 f2 f3 : Nat → Val) (g : Nat → Bool) (l1 l2 l3 ln : Nat) (x y z x' s : Int) (hx : x = rowsZ f1 f2 g l1 l2 ln l1 0) (hy : y = rowsZ f2 f3 g l2 l3 ln l2 0) (hz : z = rowsZ f1 f3 g l1 l3 ln l1 0) (hx' : x' = rowsZ f2 f1 g l2 l1 ln l2 0) (hs : s = rowsZ f1 f1 g l1 l1 ln l1 0) :
    x = - x' ∧ s = 0 ∧ (x' = -1 ∨ x' = 0 ∨ x' = 1) ∧ (y = -1 ∨ y = 0 ∨ y = 1) ∧ (z = -1 ∨ z = 0 ∨ z = 1) ∧ (x = 0 → y = z) ∧ (y = 0 → x = z) ∧ (x = y → x = z) := by
  have O := ord_seq g ln (l1 + l1 + l2 + l2 + l3 + l3 + 1) 0
  rw [rows_seq f1 f2 g l1 l2 ln l1 0 (l1 + l1 + l2 + l2 + l3 + l3 + 1) (by omega) (by omega) (by omega) (by omega)] at hx
  rw [rows_seq f2 f3 g l2 l3 ln l2 0 (l1 + l1 + l2 + l2 + l3 + l3 + 1) (by omega) (by omega) (by omega) (by omega)] at hy
  rw [rows_seq f1 f3 g l1 l3 ln l1 0 (l1 + l1 + l2 + l2 + l3 + l3 + 1) (by omega) (by omega) (by omega) (by omega)] at hz
  rw [rows_seq f2 f1 g l2 l1 ln l2 0 (l1 + l1 + l2 + l2 + l3 + l3 + 1) (by omega) (by omega) (by omega) (by omega)] at hx'
  rw [rows_seq f1 f1 g l1 l1 ln l1 0 (l1 + l1 + l2 + l2 + l3 + l3 + 1) (by omega) (by omega) (by omega) (by omega)] at hs
  generalize atO f1 l1 = a at *
  generalize atO f2 l2 = b at *
  generalize atO f3 l3 = c at *
  generalize seqZ g ln (l1 + l1 + l2 + l2 + l3 + l3 + 1) 0 = C at *
  have h1 := O.anti a b
  have h2 := O.anti a a
  have h3 := O.anti b c
  have h4 := O.anti a c
  have v1 := O.val b a
  have v2 := O.val b c
  have v3 := O.val a c
  have s1 := O.same a b c
  have s2 := O.same b c a
  have t1 := O.lt a b c
  have t2 := O.lt c b a
  have h5 := O.anti c b
  subst hx hy hz hx' hs
  refine ⟨h1, by omega, v1, v2, v3, fun e => (s1 e).symm, ?_, ?_⟩
  · intro e; have := s2 e; omega
  · intro e
    have v4 := O.val a b
    rcases v4 with v4 | v4 | v4
    · rw [t1 v4 (by omega), v4]
    · rw [s1 v4]; omega
    · have := t2 (by omega) (by omega); omega
end Go.Proofs.YtembcmmoicmkeaaDoor
