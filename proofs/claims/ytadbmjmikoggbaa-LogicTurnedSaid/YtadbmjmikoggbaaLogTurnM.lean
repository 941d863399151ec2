/-
  Layer 6, plain functions: the order turned round, the operators whose operands may be turned round, De Morgan's law. No program here.
-/
import Derived.Test.YtadbmjmikoggbaaLogCmp
namespace Go.Proofs.Ytadbmjmikoggbaa

def thenZ (a b : Int) : Int := if a = 0 then b else a
theorem cmpI_anti (a b : Int) : cmpI a b = - cmpI b a := by
  unfold cmpI; (repeat' split) <;> omega
/-- The order of two byte strings as lists. -/
def cmpB (a b : List UInt8) : Int := if Op.bytesLess a b then -1 else if a == b then 0 else 1
theorem cmpB_cons (a b : UInt8) (x y : List UInt8) : cmpB (a :: x) (b :: y) = thenZ (cmpI a.toNat b.toNat) (cmpB x y) := by
  unfold cmpB thenZ cmpI
  by_cases h1 : a < b
  · have h1' := UInt8.lt_iff_toNat_lt.1 h1
    have e1 : ((a.toNat : Int) < b.toNat) := by omega
    simp [Op.bytesLess, h1, e1]
  · have h1' : ¬ a.toNat < b.toNat := fun h => h1 (UInt8.lt_iff_toNat_lt.2 h)
    have e1 : ¬ ((a.toNat : Int) < b.toNat) := by omega
    by_cases h2 : a = b
    · subst h2
      simp [Op.bytesLess, h1]
    · have h3 : ¬ a.toNat = b.toNat := fun h => h2 (UInt8.toNat_inj.1 h)
      have e2 : ((b.toNat : Int) < a.toNat) := by omega
      simp [Op.bytesLess, h1, h2, e1, e2]
theorem cmpB_nil : cmpB [] [] = 0 := rfl
theorem cmpB_nil_cons (b : UInt8) (y : List UInt8) : cmpB [] (b :: y) = -1 := rfl
theorem cmpB_cons_nil (b : UInt8) (y : List UInt8) : cmpB (b :: y) [] = 1 := by simp [cmpB, Op.bytesLess]
theorem cmpB_anti : ∀ x y, cmpB x y = - cmpB y x := by
  intro x
  induction x with
  | nil => intro y; cases y with
    | nil => rfl
    | cons b y => rw [cmpB_nil_cons, cmpB_cons_nil]
  | cons a x ih => intro y; cases y with
    | nil => rw [cmpB_nil_cons, cmpB_cons_nil]; rfl
    | cons b y =>
      rw [cmpB_cons, cmpB_cons]
      have e := cmpI_anti a.toNat b.toNat
      unfold thenZ
      by_cases h0 : cmpI a.toNat b.toNat = 0
      · rw [if_pos h0, if_pos (by omega), ih y]
      · rw [if_neg h0, if_neg (by omega), e]
theorem cmpS_anti (a b : ByteArray) : cmpS a b = - cmpS b a := cmpB_anti a.toList b.toList
theorem cmpV_anti (k1 n1 : Int) (s1 : ByteArray) (k2 n2 : Int) (s2 : ByteArray) (nc : Bool) : cmpV k1 n1 s1 k2 n2 s2 nc = - cmpV k2 n2 s2 k1 n1 s1 nc := by
  have e1 := cmpI_anti k1 k2
  have e2 := cmpI_anti n1 n2
  unfold cmpV
  by_cases h1 : cmpI k1 k2 ≠ 0
  · rw [if_pos h1, if_pos (c := cmpI k2 k1 ≠ 0) (by omega)]; exact e1
  · rw [if_neg h1, if_neg (c := cmpI k2 k1 ≠ 0) (by omega)]
    have hk : k1 = k2 := by unfold cmpI at h1; split at h1 <;> (try split at h1) <;> omega
    by_cases h2 : cmpI n1 n2 ≠ 0
    · rw [if_pos h2, if_pos (c := cmpI n2 n1 ≠ 0) (by omega)]; exact e2
    · rw [if_neg h2, if_neg (c := cmpI n2 n1 ≠ 0) (by omega), ← hk]
      by_cases h3 : nc = true ∧ k1 = 2
      · rw [if_pos h3, if_pos h3]; exact cmpS_anti _ _
      · rw [if_neg h3, if_neg h3]; exact cmpS_anti _ _
theorem and_comm6 (a b : Int) : andT a b = andT b a := by
  unfold andT; (repeat' split) <;> omega
theorem or_comm6 (a b : Int) : orT a b = orT b a := by unfold orT; rw [and_comm6]
theorem not_val (t : Int) : notT (notT (notT t)) = notT t := by
  unfold notT; (repeat' split) <;> omega
theorem and_cut (a b : Int) : andT (notT (notT a)) (notT (notT b)) = andT a b := by
  have h : ∀ t, (notT (notT t) = 0 ↔ t = 0) ∧ (notT (notT t) = 1 ↔ t = 1) := fun t => by unfold notT; (repeat' split) <;> omega
  unfold andT
  simp only [(h a).1, (h a).2, (h b).1, (h b).2]
theorem de_morgan (a b : Int) : notT (andT a b) = orT (notT a) (notT b) := by rw [orT, and_cut]
/-- The operators of the round. -/
def opsL : Nat → ByteArray
  | 0 => ⟨#[43]⟩
  | 1 => ⟨#[42]⟩
  | 2 => ⟨#[61]⟩
  | _ => ⟨#[60, 62]⟩
theorem turn_op (i : Nat) (k1 n1 : Int) (s1 : ByteArray) (k2 n2 : Int) (s2 : ByteArray) (nc : Bool) : binR (opsL i) k2 n2 s2 k1 n1 s1 nc = binR (opsL i) k1 n1 s1 k2 n2 s2 nc := by
  have hk : (k2 = 0 ∨ k1 = 0) ↔ (k1 = 0 ∨ k2 = 0) := by omega
  have ho : (k2 ≠ 1 ∨ k1 ≠ 1) ↔ (k1 ≠ 1 ∨ k2 ≠ 1) := by omega
  have hc := cmpV_anti k2 n2 s2 k1 n1 s1 nc
  unfold binR
  simp only [hk, ho]
  match i with
  | 0 =>
    rw [show classZ (opsL 0) = 2 from by decide]
    rw [show calcR (opsL 0) n2 n1 = calcR (opsL 0) n1 n2 from by simp only [opsL, calcR, if_pos]; rw [Int.add_comm]]
    simp
  | 1 =>
    rw [show classZ (opsL 1) = 2 from by decide]
    rw [show calcR (opsL 1) n2 n1 = calcR (opsL 1) n1 n2 from by
      have h : ∀ a b, calcR (opsL 1) a b = fitR (a * b) := fun a b => by rw [calcR, if_neg (by decide), if_neg (by decide), if_pos (by decide)]
      rw [h, h, Int.mul_comm]]
    simp
  | 2 =>
    rw [show classZ (opsL 2) = 1 from by decide]
    rw [show holdsZ (opsL 2) (cmpV k2 n2 s2 k1 n1 s1 nc) = holdsZ (opsL 2) (cmpV k1 n1 s1 k2 n2 s2 nc) from by
      have h : ∀ c, holdsZ (opsL 2) c = decide (c = 0) := fun c => by simp [holdsZ, opsL]
      rw [h, h, hc]; simp]
    simp
  | i + 3 =>
    rw [show opsL (i + 3) = ⟨#[60, 62]⟩ from rfl, show classZ ⟨#[60, 62]⟩ = 1 from by decide]
    rw [show holdsZ ⟨#[60, 62]⟩ (cmpV k2 n2 s2 k1 n1 s1 nc) = holdsZ ⟨#[60, 62]⟩ (cmpV k1 n1 s1 k2 n2 s2 nc) from by
      have h : ∀ c, holdsZ ⟨#[60, 62]⟩ c = decide (c ≠ 0) := fun c => by simp [holdsZ]
      rw [h, h, hc]; simp]
    simp
/-- What < says, > says turned round, and >= says the opposite. -/
theorem turn_lt (k1 n1 : Int) (s1 : ByteArray) (k2 n2 : Int) (s2 : ByteArray) (nc : Bool) :
    binR ⟨#[62]⟩ k2 n2 s2 k1 n1 s1 nc = binR ⟨#[60]⟩ k1 n1 s1 k2 n2 s2 nc ∧
    (binR ⟨#[60]⟩ k1 n1 s1 k2 n2 s2 nc).s = ⟨#[]⟩ ∧
    binR ⟨#[62, 61]⟩ k1 n1 s1 k2 n2 s2 nc = ⟨ofK (notT (truN (binR ⟨#[60]⟩ k1 n1 s1 k2 n2 s2 nc).k (binR ⟨#[60]⟩ k1 n1 s1 k2 n2 s2 nc).n)), ofN (notT (truN (binR ⟨#[60]⟩ k1 n1 s1 k2 n2 s2 nc).k (binR ⟨#[60]⟩ k1 n1 s1 k2 n2 s2 nc).n)), ⟨#[]⟩, 0⟩ := by
  have hk : (k2 = 0 ∨ k1 = 0) ↔ (k1 = 0 ∨ k2 = 0) := by omega
  have hc := cmpV_anti k2 n2 s2 k1 n1 s1 nc
  unfold binR
  rw [show classZ ⟨#[62]⟩ = 1 from by decide, show classZ ⟨#[60]⟩ = 1 from by decide, show classZ ⟨#[62, 61]⟩ = 1 from by decide, hc]
  generalize cmpV k1 n1 s1 k2 n2 s2 nc = c
  have h1 : ∀ c, holdsZ ⟨#[62]⟩ c = decide (0 < c) := fun c => by simp [holdsZ]
  have h2 : ∀ c, holdsZ ⟨#[60]⟩ c = decide (c < 0) := fun c => by simp [holdsZ]
  have h3 : ∀ c, holdsZ ⟨#[62, 61]⟩ c = decide (0 ≤ c) := fun c => by simp [holdsZ]
  rw [h1, h2, h3]
  simp only [hk]
  by_cases hz : k1 = 0 ∨ k2 = 0
  · simp [hz, nulR, truN, notT, ofK, ofN]
  · by_cases hn : c < 0
    · have e1 : 0 < -c := by omega
      have e2 : ¬ 0 ≤ c := by omega
      simp [hz, hn, e1, e2, truN, notT, ofK, ofN]
    · have e1 : ¬ 0 < -c := by omega
      have e2 : 0 ≤ c := by omega
      simp [hz, hn, e1, e2, truN, notT, ofK, ofN]
end Go.Proofs.Ytadbmjmikoggbaa
