/-
  The checksum of layer 3 as a plain function of the nonce and the bytes: its two numbers stay below 65521; it goes on piece by piece; one changed byte, or two unlike neighbours that change places, give another checksum.
-/
import Derived.Test.YtjmciknelkodcaaProg
namespace Go.Proofs.Ytjmciknelkodcaa

def stp (p : Int × Int) (c : UInt8) : Int × Int := ((p.1 + (c.toNat : Int)) % 65521, (p.2 + (p.1 + (c.toNat : Int)) % 65521) % 65521)
def adl (p : Int × Int) (l : List UInt8) : Int × Int := l.foldl stp p
def startZ (n : Int) : Int := ((n.natAbs % 65521 : Nat) : Int)
def endZ (p : Int × Int) : Int := 65536 * p.2 + p.1
def sumZ (n : Int) (l : List UInt8) : Int := endZ (adl (startZ n, 0) l)
def InZ (p : Int × Int) : Prop := 0 ≤ p.1 ∧ p.1 < 65521 ∧ 0 ≤ p.2 ∧ p.2 < 65521

theorem startZ_bd (n : Int) : 0 ≤ startZ n ∧ startZ n < 65521 := by unfold startZ; omega
theorem start_in (n : Int) : InZ (startZ n, 0) := by have := startZ_bd n; exact ⟨this.1, this.2, by simp only; omega, by simp only; omega⟩
theorem stp_in (p : Int × Int) (c : UInt8) : InZ (stp p c) := by unfold InZ stp; simp only; omega
theorem adl_in (p : Int × Int) (l : List UInt8) (h : InZ p) : InZ (adl p l) := by
  induction l generalizing p with
  | nil => exact h
  | cons c l ih => exact ih _ (stp_in p c)
theorem adl_nil (p : Int × Int) : adl p [] = p := rfl
theorem adl_cons (p : Int × Int) (c : UInt8) (l : List UInt8) : adl p (c :: l) = adl (stp p c) l := rfl
theorem adl_app (p : Int × Int) (l m : List UInt8) : adl p (l ++ m) = adl (adl p l) m := by unfold adl; rw [List.foldl_append]
theorem endZ_bd {p : Int × Int} (h : InZ p) : 0 ≤ endZ p ∧ endZ p ≤ 4294967295 := by obtain ⟨_, _, _, _⟩ := h; unfold endZ; omega
theorem sumZ_bd (n : Int) (l : List UInt8) : 0 ≤ sumZ n l ∧ sumZ n l ≤ 4294967295 := endZ_bd (adl_in _ l (start_in n))
theorem sumZ_nil (n : Int) : 0 ≤ sumZ n [] ∧ sumZ n [] < 65521 := by have := startZ_bd n; unfold sumZ endZ; rw [adl_nil]; simp only; omega
theorem endZ_inj {p q : Int × Int} (hp : InZ p) (hq : InZ q) (h : endZ p = endZ q) : p.1 = q.1 ∧ p.2 = q.2 := by
  obtain ⟨_, _, _, _⟩ := hp; obtain ⟨_, _, _, _⟩ := hq; unfold endZ at h; omega

def tot : List UInt8 → Int
  | [] => 0
  | c :: l => (c.toNat : Int) + tot l
theorem adl_fst (p : Int × Int) (l : List UInt8) : (adl p l).1 % 65521 = (p.1 + tot l) % 65521 := by
  induction l generalizing p with
  | nil => rw [adl_nil]; unfold tot; omega
  | cons c l ih =>
    rw [adl_cons, ih, show tot (c :: l) = (c.toNat : Int) + tot l from rfl]
    unfold stp; simp only; omega
theorem tot_set (l : List UInt8) (i : Nat) (d : UInt8) (h : i < l.length) : tot (l.set i d) = tot l - ((l[i]).toNat : Int) + (d.toNat : Int) := by
  induction l generalizing i with
  | nil => simp at h
  | cons c l ih =>
    match i with
    | 0 => show (d.toNat : Int) + tot l = (c.toNat : Int) + tot l - (c.toNat : Int) + (d.toNat : Int); omega
    | i + 1 =>
      have := ih i (by simpa using h)
      show (c.toNat : Int) + tot (l.set i d) = (c.toNat : Int) + tot l - ((l[i]'(by simpa using h)).toNat : Int) + (d.toNat : Int)
      omega
theorem sum_turned (n : Int) (l : List UInt8) (i : Nat) (d : UInt8) (h : i < l.length) (hd : d ≠ l[i]) : sumZ n (l.set i d) ≠ sumZ n l := by
  intro e
  have hi := adl_in _ l (start_in n)
  have hj := adl_in _ (l.set i d) (start_in n)
  have h1 := (endZ_inj hj hi e).1
  have f1 := adl_fst (startZ n, 0) (l.set i d)
  have f2 := adl_fst (startZ n, 0) l
  rw [h1, tot_set l i d h] at f1
  have hne : d.toNat ≠ (l[i]).toNat := fun e => hd (UInt8.toNat_inj.1 e)
  have b1 := d.toNat_lt
  have b2 := (l[i]).toNat_lt
  simp only at f1 f2
  omega

theorem adl_two (p q : Int × Int) (l : List UInt8) (h : p.1 = q.1) : (adl p l).1 = (adl q l).1 ∧ ((adl p l).2 - (adl q l).2) % 65521 = (p.2 - q.2) % 65521 := by
  induction l generalizing p q with
  | nil => exact ⟨h, rfl⟩
  | cons c l ih =>
    rw [adl_cons, adl_cons]
    obtain ⟨h1, h2⟩ := ih (stp p c) (stp q c) (by unfold stp; simp only; rw [h])
    refine ⟨h1, ?_⟩
    rw [h2]
    unfold stp
    simp only
    rw [h]
    omega
theorem sum_swapped (n : Int) (l m : List UInt8) (x y : UInt8) (hd : x ≠ y) : sumZ n (l ++ y :: x :: m) ≠ sumZ n (l ++ x :: y :: m) := by
  intro e
  have h2 := (endZ_inj (adl_in _ _ (start_in n)) (adl_in _ _ (start_in n)) e).2
  rw [adl_app, adl_app, adl_cons, adl_cons, adl_cons, adl_cons] at h2
  obtain ⟨p, hp⟩ : ∃ p, p = adl (startZ n, 0) l := ⟨_, rfl⟩
  rw [← hp] at h2
  have h := (adl_two (stp (stp p y) x) (stp (stp p x) y) m (by unfold stp; simp only; omega)).2
  rw [h2] at h
  have hne : x.toNat ≠ y.toNat := fun e => hd (UInt8.toNat_inj.1 e)
  have b1 := x.toNat_lt
  have b2 := y.toNat_lt
  unfold stp at h
  simp only at h
  omega
theorem start_tmod (n : Int) : startZ n = if n.tmod 65521 < 0 then -(n.tmod 65521) else n.tmod 65521 := by
  unfold startZ
  rcases Int.natAbs_eq n with h | h
  · rw [h, Int.natAbs_natCast, show ((n.natAbs : Int)).tmod 65521 = ((n.natAbs % 65521 : Nat) : Int) from (Int.ofNat_tmod n.natAbs 65521).symm]
    split <;> omega
  · rw [h, Int.natAbs_neg, Int.natAbs_natCast, Int.neg_tmod, show ((n.natAbs : Int)).tmod 65521 = ((n.natAbs % 65521 : Nat) : Int) from (Int.ofNat_tmod n.natAbs 65521).symm]
    split <;> omega
theorem tmod_bd (n : Int) : -65521 < n.tmod 65521 ∧ n.tmod 65521 < 65521 := by
  have := start_tmod n
  have := startZ_bd n
  split at * <;> omega
end Go.Proofs.Ytjmciknelkodcaa
