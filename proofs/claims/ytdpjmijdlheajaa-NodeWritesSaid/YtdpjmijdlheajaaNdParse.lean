/-
  Layer 16 on lists: what a page seems to be, and that a page that is written is read as it was (mathematics only). Condition: as each theorem says.
-/
import Derived.Test.YtdpjmijdlheajaaNdWrite
namespace Go.Proofs.Ytdpjmijdlheajaa
open Go.RowKit

def txtP (r : List UInt8) (most : Nat) : Option (Nat × List UInt8) :=
  if (getR r).2.2 = 0 ∧ (getR r).1 ≤ most ∧ (getR r).2.1 + (getR r).1 ≤ r.length then some ((getR r).2.1 + (getR r).1, (r.drop (getR r).2.1).take (getR r).1) else none
def valP (r key : List UInt8) : Option (Nat × Cel) :=
  if (getR r).2.2 = 0 ∧ (getR r).1 ≤ 268435456 ∧ (getR r).2.1 + min (getR r).1 60 ≤ r.length then
    (if 60 < (getR r).1 then
      (if (numR (r.drop ((getR r).2.1 + 60))).2 = 0 then some ((getR r).2.1 + 60 + 4, ⟨key, (getR r).1, (r.drop (getR r).2.1).take 60, (numR (r.drop ((getR r).2.1 + 60))).1⟩) else none)
    else some ((getR r).2.1 + (getR r).1, ⟨key, (getR r).1, (r.drop (getR r).2.1).take (getR r).1, 0⟩))
  else none
def celP (leaf : Bool) (r : List UInt8) : Option (Nat × Cel) := match txtP r 100 with
  | none => none
  | some (k, key) => if leaf = true then (match valP (r.drop k) key with
    | none => none
    | some (m, c) => some (k + m, c)) else some (k, ⟨key, 0, [], 0⟩)
def celsP (leaf : Bool) : Nat → List UInt8 → Option (List Cel)
  | 0, _ => some []
  | m + 1, r => match celP leaf r with
    | none => none
    | some (k, c) => (celsP leaf m (r.drop k)).map (c :: ·)
def kidsP : Nat → List UInt8 → Option (List Int)
  | 0, _ => some []
  | m + 1, r => if (numR r).2 = 0 then (kidsP m (r.drop 4)).map ((numR r).1 :: ·) else none
def manyP (s : List UInt8) : Nat := (s.getD 1 0).toNat * 256 + (s.getD 2 0).toNat
def leafP (s : List UInt8) : Bool := s.getD 0 0 == 1
def parN (s : List UInt8) : Option Nod :=
  if s.length = 512 ∧ manyP s ≤ 512 then
    (if leafP s = true then (celsP true (manyP s) (s.drop 3)).map fun l => ⟨true, l, []⟩
    else match kidsP (manyP s + 1) (s.drop 3) with
      | none => none
      | some ks => (celsP false (manyP s) (s.drop (3 + 4 * (manyP s + 1)))).map fun l => ⟨false, l, ks⟩)
  else none
noncomputable def rdN (s : List UInt8) : Option Nod := match parN s with
  | none => none
  | some n => if wriN n = (s, 0) then some n else none

theorem num_app {l more : List UInt8} (h : l.length = 4) : numR (l ++ more) = numR l := by
  match l, h with
  | [a, b, c, d], _ =>
    unfold numR
    rw [if_neg (by simp), if_neg (by simp)]
    rfl
theorem num_back {n : Int} (h : 0 ≤ n ∧ n ≤ 4294967295) (more : List UInt8) : numR (fourL n.toNat ++ more) = (n, 0) := by rw [num_app (four_len _), num_fix h]
theorem txt_back {t : List UInt8} {most : Nat} (h : t.length ≤ most) (hm : most < 18446744073709551616) (more : List UInt8) : txtP (putLV t.length ++ (t ++ more)) most = some (lenN t.length + t.length, t) := by
  have hg := get_back t.length (by omega) (t ++ more)
  have hl := putL_length t.length
  unfold txtP
  rw [hg]
  simp only
  rw [if_pos ⟨trivial, h, by rw [List.length_append, List.length_append, hl]; omega⟩]
  have hd : (putLV t.length ++ (t ++ more)).drop (lenN t.length) = t ++ more := by rw [← hl]; exact List.drop_left
  rw [hd, List.take_left]
theorem val_back {c : Cel} (h : CelOk true c) (more : List UInt8) : valP (putLV c.len.toNat ++ (c.loc ++ ((if 60 < c.len then fourL c.ov.toNat else []) ++ more))) c.key = some ((putLV c.len.toNat ++ (c.loc ++ (if 60 < c.len then fourL c.ov.toNat else []))).length, c) := by
  obtain ⟨-, -, h2, h3, h4, h5, h6⟩ := h
  obtain ⟨key, len, loc, ov⟩ := c
  simp only at h2 h3 h4 h5 h6 ⊢
  obtain ⟨m, rfl⟩ := Int.eq_ofNat_of_zero_le h2
  have hm : ((m : Int)).toNat = m := rfl
  have hg := get_back m (by omega) (loc ++ ((if 60 < (m : Int) then fourL ov.toNat else []) ++ more))
  have hl := putL_length m
  rw [hm]
  unfold valP
  rw [hg]
  simp only
  have hd : ∀ x : List UInt8, (putLV m ++ x).drop (lenN m) = x := fun x => by rw [← hl]; exact List.drop_left
  by_cases h60 : 60 < m
  · have h60' : (60 : Int) < (m : Int) := by omega
    have hlo : loc.length = 60 := by omega
    have hd2 : (putLV m ++ (loc ++ ((if 60 < (m : Int) then fourL ov.toNat else []) ++ more))).drop (lenN m + 60) = (if 60 < (m : Int) then fourL ov.toNat else []) ++ more := by
      rw [← List.drop_drop, hd, ← hlo]; exact List.drop_left
    rw [if_pos ⟨trivial, by omega, by rw [List.length_append, List.length_append, hl]; omega⟩, if_pos h60, hd2, hd, if_pos h60', num_back ⟨by have := h6 h60'; omega, by have := h6 h60'; omega⟩, if_pos rfl]
    have ht : (loc ++ (fourL ov.toNat ++ more)).take 60 = loc := by rw [← hlo]; exact List.take_left
    rw [ht, List.length_append, List.length_append, hl, four_len, hlo]
  · have h60' : ¬ (60 : Int) < (m : Int) := by omega
    have hlo : loc.length = m := by omega
    rw [if_pos ⟨trivial, by omega, by rw [List.length_append, List.length_append, hl]; omega⟩, if_neg h60, hd, if_neg h60', List.nil_append, List.append_nil, List.length_append, hl, hlo]
    have ht : (loc ++ more).take m = loc := by rw [← hlo]; exact List.take_left
    rw [ht, h5 (by omega)]
theorem cel_back {b : Bool} {c : Cel} (h : CelOk b c) (more : List UInt8) : celP b (cellL b c ++ more) = some ((cellL b c).length, c) := by
  have hk := h.1
  have hl := putL_length c.key.length
  unfold celP
  cases b with
  | false =>
    obtain ⟨q1, q2, q3⟩ := h.2.1 rfl
    rw [cell_no, List.append_assoc, txt_back hk (by decide)]
    simp only [Bool.false_eq_true, if_false, List.length_append, hl]
    obtain ⟨key, len, loc, ov⟩ := c
    simp only at q1 q2 q3
    rw [q1, q2, q3]
  | true =>
    rw [cell_yes, List.append_assoc, List.append_assoc, txt_back hk (by decide)]
    simp only [if_true]
    have hd : (putLV c.key.length ++ (c.key ++ ((putLV c.len.toNat ++ c.loc ++ (if 60 < c.len then fourL c.ov.toNat else [])) ++ more))).drop (lenN c.key.length + c.key.length) = putLV c.len.toNat ++ (c.loc ++ ((if 60 < c.len then fourL c.ov.toNat else []) ++ more)) := by
      rw [← List.append_assoc, show lenN c.key.length + c.key.length = (putLV c.key.length ++ c.key).length by rw [List.length_append, hl], List.drop_left]
      simp only [List.append_assoc]
    rw [hd, val_back h]
    simp only [List.length_append, hl, Nat.add_assoc]
theorem cels_back {b : Bool} (more : List UInt8) : ∀ {l : List Cel}, (∀ k (h : k < l.length), CelOk b l[k]) → celsP b l.length (cellsL b l ++ more) = some l
  | [], _ => rfl
  | c :: t, h => by
    have h1 := h 0 (Nat.zero_lt_succ _)
    rw [List.length_cons, celsP, cellsL, List.append_assoc, cel_back (show CelOk b c from h1)]
    simp only [List.drop_left]
    rw [cels_back more fun k hk => h (k + 1) (Nat.succ_lt_succ hk)]
    rfl
theorem kids_back (more : List UInt8) : ∀ {l : List Int}, (∀ k (h : k < l.length), KidOk l[k]) → kidsP l.length (kidsL l ++ more) = some l
  | [], _ => rfl
  | x :: t, h => by
    have h1 : KidOk x := h 0 (Nat.zero_lt_succ _)
    rw [List.length_cons, kidsP, kidsL, List.append_assoc, num_back ⟨by have := h1.1; omega, by have := h1.2; omega⟩, if_pos rfl]
    rw [show (fourL x.toNat ++ (kidsL t ++ more)).drop 4 = kidsL t ++ more from rfl, kids_back more fun k hk => h (k + 1) (Nat.succ_lt_succ hk)]
    rfl
theorem cells_ge (b : Bool) : ∀ l : List Cel, l.length ≤ (cellsL b l).length
  | [] => Nat.zero_le _
  | c :: t => by
    have h1 := lenN_ge c.key.length
    have h2 : (putLV c.key.length).length ≤ (cellL b c).length := by unfold cellL; rw [List.length_append, List.length_append]; omega
    rw [putL_length] at h2
    rw [cellsL, List.length_append, List.length_cons]
    have := cells_ge b t
    omega
/-- A page that is written seems to be what it is. -/
theorem par_back {n : Nod} (h : RightN n) {z : List UInt8} (hz : (encN n ++ z).length = 512) : parN (encN n ++ z) = some n := by
  obtain ⟨leaf, cells, kids⟩ := n
  obtain ⟨h1, h2, h3, h4, h5⟩ := h
  simp only at h1 h2 h3 h4 h5
  have hc : ∀ k (hk : k < cells.length), CelOk leaf cells[k] := fun k hk => (h1 k hk).1
  have hge := cells_ge leaf cells
  have he : encN ⟨leaf, cells, kids⟩ ++ z = (if leaf = true then 1 else 2) :: (cells.length / 256).toUInt8 :: (cells.length % 256).toUInt8 :: (kidsL kids ++ (cellsL leaf cells ++ z)) := by
    unfold encN headL
    simp only [List.append_assoc]
    rfl
  rw [he] at hz ⊢
  have hl : cells.length ≤ 512 := by
    simp only [List.length_cons, List.length_append] at hz
    omega
  have hm : manyP ((if leaf = true then 1 else 2) :: (cells.length / 256).toUInt8 :: (cells.length % 256).toUInt8 :: (kidsL kids ++ (cellsL leaf cells ++ z))) = cells.length := by
    show (cells.length / 256).toUInt8.toNat * 256 + (cells.length % 256).toUInt8.toNat = cells.length
    rw [u8_of (by omega), u8_of (by omega)]
    omega
  unfold parN
  rw [hm, if_pos ⟨hz, hl⟩]
  cases leaf with
  | true =>
    have hk : kids = [] := List.eq_nil_of_length_eq_zero (h4 rfl)
    subst hk
    rw [if_pos (show leafP _ = true from rfl)]
    rw [show List.drop 3 ((if true = true then (1 : UInt8) else 2) :: (cells.length / 256).toUInt8 :: (cells.length % 256).toUInt8 :: (kidsL [] ++ (cellsL true cells ++ z))) = cellsL true cells ++ z from rfl, cels_back _ hc]
    rfl
  | false =>
    rw [if_neg (show ¬ leafP _ = true from by unfold leafP; simp)]
    rw [show List.drop 3 ((if false = true then (1 : UInt8) else 2) :: (cells.length / 256).toUInt8 :: (cells.length % 256).toUInt8 :: (kidsL kids ++ (cellsL false cells ++ z))) = kidsL kids ++ (cellsL false cells ++ z) from rfl]
    rw [← List.drop_drop, show List.drop 3 ((if false = true then (1 : UInt8) else 2) :: (cells.length / 256).toUInt8 :: (cells.length % 256).toUInt8 :: (kidsL kids ++ (cellsL false cells ++ z))) = kidsL kids ++ (cellsL false cells ++ z) from rfl]
    have hkl := h5 rfl
    rw [← hkl, kids_back _ h2]
    simp only
    rw [show 4 * kids.length = (kidsL kids).length from (kids_len kids).symm, List.drop_left, cels_back _ hc]
    rfl
/-- What is read, is what is written so. -/
theorem rd_iff {s : List UInt8} {n : Nod} : rdN s = some n ↔ wriN n = (s, 0) := by
  constructor
  · intro h
    unfold rdN at h
    split at h
    · cases h
    · split at h
      · rename_i h2
        rw [← Option.some.inj h]
        exact h2
      · cases h
  · intro h
    have hr : RightN n := Classical.byContradiction fun hn => by
      rw [wri_no hn] at h
      cases h
    have hl : ¬ 512 < (encN n).length := fun hl => by
      rw [wri_full hr hl] at h
      cases h
    have hs : s = encN n ++ List.replicate (512 - (encN n).length) 0 := by
      rw [wri_yes hr hl] at h
      exact (congrArg Prod.fst h).symm
    have hp : parN s = some n := by
      rw [hs]
      exact par_back hr (by rw [List.length_append, List.length_replicate]; omega)
    unfold rdN
    rw [hp]
    simp only
    rw [if_pos h]
theorem rd_none {s : List UInt8} (h : ∀ n, wriN n ≠ (s, 0)) : rdN s = none := by
  cases e : rdN s with
  | none => rfl
  | some n => exact absurd (rd_iff.1 e) (h n)
theorem rd_len {s : List UInt8} {n : Nod} (h : rdN s = some n) : s.length = 512 := by
  have h2 := rd_iff.1 h
  have hr : RightN n := Classical.byContradiction fun hn => by
    rw [wri_no hn] at h2
    cases h2
  have hl : ¬ 512 < (encN n).length := fun hl => by
    rw [wri_full hr hl] at h2
    cases h2
  rw [wri_yes hr hl] at h2
  have h3 : encN n ++ List.replicate (512 - (encN n).length) 0 = s := congrArg Prod.fst h2
  rw [← h3, List.length_append, List.length_replicate]
  omega
/-- A page that is cut, or has a byte more, is none (16.1). -/
theorem rd_other {s : List UInt8} (h : s.length ≠ 512) : rdN s = none := by
  cases e : rdN s with
  | none => rfl
  | some n => exact absurd (rd_len e) h
end Go.Proofs.Ytdpjmijdlheajaa
