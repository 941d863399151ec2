/-
  Layer 16 on lists: what the program's reader makes of bytes, and that it reads a page as the node that was written (mathematics only). Condition: as each theorem says.
-/
import Derived.Test.YtdpjmijdlheajaaNpRead0
import Derived.Test.YtdpjmijdlheajaaNdParse
namespace Go.Proofs.Ytdpjmijdlheajaa
open Go.RowKit

def szN (l : List UInt8) : Nat × List UInt8 := if (getR l).2.2 = 0 ∧ (getR l).1 ≤ 268435456 then ((getR l).1, l.drop (getR l).2.1) else (0, [])
theorem nget_form {l : List UInt8} (h : (getR l).2.2 = 0) : (getR l).1 < 18446744073709551616 ∧ 1 ≤ (getR l).2.1 ∧ (getR l).2.1 ≤ l.length := by
  by_cases e : (scanF 0 0 l).2.2 = 0
  · by_cases e2 : (scanF 0 0 l).2.1 = lenN (scanF 0 0 l).1
    · have hg : getR l = scanF 0 0 l := by rw [getR, if_pos e, if_pos e2]
      have hs : scanF 0 0 l = ((scanF 0 0 l).1, (scanF 0 0 l).2.1, 0) := Prod.ext rfl (Prod.ext rfl e)
      have hf := scan_form l 0 0 _ _ (by omega) hs
      rw [hg]
      exact ⟨scan_lt l 0 0 (by omega) (by decide), by omega, by omega⟩
    · rw [getR, if_pos e, if_neg e2] at h; cases h
  · rw [getR, if_neg e] at h; cases h
theorem sz_less (l : List UInt8) (h : l ≠ []) : (szN l).2.length < l.length := by
  have h0 : 0 < l.length := List.length_pos_iff.2 h
  unfold szN
  split
  · rename_i h
    have := nget_form h.1
    rw [List.length_drop]
    omega
  · exact h0
theorem sz_len (l : List UInt8) : (szN l).2.length ≤ l.length := by
  by_cases h : l = []
  · subst h
    unfold szN
    split
    · rename_i h; have := nget_form h.1; simp
    · simp
  · exact Nat.le_of_lt (sz_less l h)
theorem sz_le (l : List UInt8) : (szN l).1 ≤ 268435456 := by
  unfold szN
  split
  · rename_i h; exact h.2
  · exact Nat.zero_le _
theorem sz_back {n : Nat} (h : n ≤ 268435456) (more : List UInt8) : szN (putLV n ++ more) = (n, more) := by
  unfold szN
  rw [get_back n (by omega) more, if_pos ⟨rfl, h⟩]
  simp only
  rw [← putL_length, List.drop_left]
def celK (r : List UInt8) : List UInt8 × List UInt8 := ((szN r).2.take (szN r).1, (szN r).2.drop (szN r).1)
def celD (leaf : Bool) (r : List UInt8) : Cel × List UInt8 :=
  if leaf = true then
    (if 60 < (szN (celK r).2).1 then
      (⟨(celK r).1, (szN (celK r).2).1, (szN (celK r).2).2.take 60, pgN ((szN (celK r).2).2.drop 60)⟩, ((szN (celK r).2).2.drop 60).drop 4)
    else (⟨(celK r).1, (szN (celK r).2).1, (szN (celK r).2).2.take (szN (celK r).2).1, 0⟩, (szN (celK r).2).2.drop (szN (celK r).2).1))
  else (⟨(celK r).1, 0, [], 0⟩, (celK r).2)
theorem celK_less (r : List UInt8) (h : r ≠ []) : (celK r).2.length < r.length := by
  have := sz_less r h
  unfold celK
  rw [List.length_drop]
  omega
theorem celD_less (leaf : Bool) (r : List UInt8) (h : r ≠ []) : (celD leaf r).2.length < r.length := by
  have h1 := celK_less r h
  have h2 := sz_len (celK r).2
  unfold celD
  split
  · split
    · rw [List.length_drop, List.length_drop]; omega
    · rw [List.length_drop]; omega
  · exact h1
def celsD (leaf : Bool) : Nat → List UInt8 → List Cel
  | 0, _ => []
  | m + 1, r => if r = [] then [] else (celD leaf r).1 :: celsD leaf m (celD leaf r).2
def pagesD : Nat → List UInt8 → List Int × List UInt8
  | 0, r => ([], r)
  | m + 1, r => if r = [] then ([], []) else (pgN r :: (pagesD m (r.drop 4)).1, (pagesD m (r.drop 4)).2)
def decN (s : List UInt8) : Nod :=
  if s.take 1 = [1] then ⟨true, celsD true (cntN (s.drop 1)) ((s.drop 1).drop 2), []⟩
  else ⟨false, celsD false (cntN (s.drop 1)) (pagesD (cntN (s.drop 1) + 1) ((s.drop 1).drop 2)).2, (pagesD (cntN (s.drop 1) + 1) ((s.drop 1).drop 2)).1⟩
theorem cels_le (leaf : Bool) : ∀ (m : Nat) (r : List UInt8), (celsD leaf m r).length ≤ m
  | 0, _ => Nat.le_refl _
  | m + 1, r => by
    unfold celsD
    split
    · exact Nat.zero_le _
    · rw [List.length_cons]; have := cels_le leaf m (celD leaf r).2; omega
theorem pages_le : ∀ (m : Nat) (r : List UInt8), (pagesD m r).1.length ≤ m
  | 0, _ => Nat.le_refl _
  | m + 1, r => by
    unfold pagesD
    split
    · exact Nat.zero_le _
    · rw [List.length_cons]; have := pages_le m (r.drop 4); omega
theorem pages_rest : ∀ (m : Nat) (r : List UInt8), (pagesD m r).2.length ≤ r.length
  | 0, _ => Nat.le_refl _
  | m + 1, r => by
    unfold pagesD
    split
    · exact Nat.zero_le _
    · have := pages_rest m (r.drop 4); rw [List.length_drop] at this; show (pagesD m (r.drop 4)).2.length ≤ _; omega
theorem cnt_le (l : List UInt8) : cntN l ≤ 65535 := by
  unfold cntN numR
  split
  · simp
  · have a2 := ((0 :: 0 :: l.take 2).getD 2 0).toNat_lt
    have a3 := ((0 :: 0 :: l.take 2).getD 3 0).toNat_lt
    have z0 : ((0 :: 0 :: l.take 2 : List UInt8).getD 0 0).toNat = 0 := rfl
    have z1 : ((0 :: 0 :: l.take 2 : List UInt8).getD 1 0).toNat = 0 := rfl
    simp only [z0, z1]
    omega
/-- What a cell's texts may have. -/
def SzC (m : Nat) (c : Cel) : Prop := c.key.length ≤ m ∧ c.loc.length ≤ m
theorem celD_sz (leaf : Bool) (r : List UInt8) : SzC r.length (celD leaf r).1 := by
  have h1 := sz_len r
  have h2 : (celK r).1.length ≤ r.length := by unfold celK; rw [List.length_take]; omega
  have h3 : (celK r).2.length ≤ r.length := by unfold celK; rw [List.length_drop]; omega
  have h4 := sz_len (celK r).2
  unfold celD SzC
  split
  · split
    · refine ⟨h2, ?_⟩
      rw [List.length_take]; omega
    · refine ⟨h2, ?_⟩
      rw [List.length_take]; omega
  · exact ⟨h2, Nat.zero_le _⟩
theorem celsD_sz (leaf : Bool) : ∀ (m : Nat) (r : List UInt8) (b : Nat), r.length ≤ b → ∀ c ∈ celsD leaf m r, SzC b c
  | 0, _, _, _, c, h => by cases h
  | m + 1, r, b, hb, c, h => by
    unfold celsD at h
    split at h
    · cases h
    · rename_i hr
      rcases List.mem_cons.1 h with rfl | h
      · have := celD_sz leaf r
        exact ⟨Nat.le_trans this.1 hb, Nat.le_trans this.2 hb⟩
      · exact celsD_sz leaf m _ b (by have := celD_less leaf r hr; omega) c h
/-- The reading of what was written. -/
theorem celD_back {b : Bool} {c : Cel} (h : CelOk b c) (more : List UInt8) : celD b (cellL b c ++ more) = (c, more) := by
  obtain ⟨h1, h2, h3, h4, h5, h6, h7⟩ := h
  obtain ⟨key, n, loc, o⟩ := c
  simp only at h1 h2 h3 h4 h5 h6 h7
  obtain ⟨q, rfl⟩ := Int.eq_ofNat_of_zero_le h3
  cases b with
  | false =>
    obtain ⟨a1, rfl, rfl⟩ := h2 rfl
    rw [cell_no, List.append_assoc]
    unfold celD celK
    rw [sz_back (by simp only; omega)]
    simp only [Bool.false_eq_true, if_false, List.take_left, List.drop_left]
    rw [a1]
  | true =>
    rw [cell_yes]
    simp only [List.append_assoc]
    have hk : celK (putLV key.length ++ (key ++ (putLV (q : Int).toNat ++ (loc ++ ((if 60 < (q : Int) then fourL o.toNat else []) ++ more))))) = (key, putLV q ++ (loc ++ ((if 60 < (q : Int) then fourL o.toNat else []) ++ more))) := by
      unfold celK
      rw [sz_back (by omega)]
      simp only [List.take_left, List.drop_left]
      rfl
    unfold celD
    rw [hk]
    simp only [if_true]
    rw [sz_back (by omega)]
    simp only
    by_cases h60 : 60 < q
    · have h60' : 60 < (q : Int) := by omega
      have hl : loc.length = 60 := by omega
      obtain ⟨o1, o2⟩ := h7 h60'
      rw [if_pos h60, if_pos h60']
      have hd : (loc ++ (fourL o.toNat ++ more)).drop 60 = fourL o.toNat ++ more := by rw [← hl]; exact List.drop_left
      have ht : (loc ++ (fourL o.toNat ++ more)).take 60 = loc := by rw [← hl]; exact List.take_left
      have hp : pgN (fourL o.toNat ++ more) = o := by
        unfold pgN
        rw [show (fourL o.toNat ++ more).take 4 = fourL o.toNat from rfl, num_fix ⟨by omega, by omega⟩]
      rw [hd, ht, hp]
      rfl
    · have h60' : ¬ 60 < (q : Int) := by omega
      have hl : loc.length = q := by omega
      have ho := h6 (by omega)
      rw [if_neg h60, if_neg h60', List.nil_append, ← hl, List.take_left, List.drop_left, ho]
theorem cell_ne {b : Bool} (c : Cel) (more : List UInt8) : cellL b c ++ more ≠ [] := by
  have h1 := lenN_ge c.key.length
  have h2 : (putLV c.key.length).length ≤ (cellL b c).length := by unfold cellL; rw [List.length_append, List.length_append]; omega
  rw [putL_length] at h2
  intro e
  have := congrArg List.length e
  rw [List.length_append] at this
  simp at this
  rw [this.1] at h2
  simp at h2
  omega
theorem celsD_back {b : Bool} (more : List UInt8) : ∀ {l : List Cel}, (∀ k (h : k < l.length), CelOk b l[k]) → celsD b l.length (cellsL b l ++ more) = l
  | [], _ => rfl
  | c :: t, h => by
    have h1 : CelOk b c := h 0 (Nat.zero_lt_succ _)
    rw [List.length_cons, celsD, cellsL, List.append_assoc, if_neg (cell_ne c _), celD_back h1]
    simp only
    rw [celsD_back more fun k hk => h (k + 1) (Nat.succ_lt_succ hk)]
theorem pagesD_back (more : List UInt8) : ∀ {l : List Int}, (∀ k (h : k < l.length), KidOk l[k]) → pagesD l.length (kidsL l ++ more) = (l, more)
  | [], _ => rfl
  | x :: t, h => by
    have h1 : KidOk x := h 0 (Nat.zero_lt_succ _)
    have hp : pgN (fourL x.toNat ++ (kidsL t ++ more)) = x := by
      unfold pgN
      rw [show (fourL x.toNat ++ (kidsL t ++ more)).take 4 = fourL x.toNat from rfl, num_fix ⟨by have := h1.1; omega, by have := h1.2; omega⟩]
    rw [List.length_cons, pagesD, kidsL, List.append_assoc, if_neg (by simp [fourL]), hp]
    rw [show (fourL x.toNat ++ (kidsL t ++ more)).drop 4 = kidsL t ++ more from rfl, pagesD_back more fun k hk => h (k + 1) (Nat.succ_lt_succ hk)]
theorem cnt_back {k : Nat} (h : k < 65536) (more : List UInt8) : cntN ((k / 256).toUInt8 :: (k % 256).toUInt8 :: more) = k := by
  unfold cntN
  rw [show ((k / 256).toUInt8 :: (k % 256).toUInt8 :: more).take 2 = [(k / 256).toUInt8, (k % 256).toUInt8] from rfl]
  show ((((0 : UInt8).toNat * 16777216 + (0 : UInt8).toNat * 65536 + (k / 256).toUInt8.toNat * 256 + (k % 256).toUInt8.toNat : Nat) : Int)).toNat = k
  rw [u8_of (by omega), u8_of (by omega)]
  simp
  omega
theorem dec_back {n : Nod} (h : RightN n) (z : List UInt8) : decN (encN n ++ z) = n := by
  obtain ⟨leaf, cells, kids⟩ := n
  obtain ⟨h1, h2, h3, h4, h5⟩ := h
  simp only at h1 h2 h3 h4 h5
  have hc : ∀ k (hk : k < cells.length), CelOk leaf cells[k] := fun k hk => (h1 k hk).1
  have he : encN ⟨leaf, cells, kids⟩ ++ z = (if leaf = true then 1 else 2) :: (cells.length / 256).toUInt8 :: (cells.length % 256).toUInt8 :: (kidsL kids ++ (cellsL leaf cells ++ z)) := by
    unfold encN headL
    simp only [List.append_assoc]
    rfl
  rw [he]
  unfold decN
  simp only [List.drop_succ_cons, List.drop_zero, List.take_succ_cons, List.take_zero]
  rw [cnt_back h3]
  cases leaf with
  | true =>
    have hk : kids = [] := List.eq_nil_of_length_eq_zero (h4 rfl)
    subst hk
    simp only [if_true]
    rw [show kidsL [] ++ (cellsL true cells ++ z) = cellsL true cells ++ z from rfl, celsD_back z hc]
  | false =>
    have hkl := h5 rfl
    rw [if_neg (by simp), ← hkl, pagesD_back _ h2]
    simp only
    rw [celsD_back z hc]
/-- The program's Read: what is decoded, if it is written so. -/
theorem rd_dec (s : List UInt8) : rdN s = if wriN (decN s) = (s, 0) then some (decN s) else none := by
  by_cases h : wriN (decN s) = (s, 0)
  · rw [if_pos h]; exact rd_iff.2 h
  · rw [if_neg h]
    refine rd_none fun n hn => h ?_
    have hr : RightN n := Classical.byContradiction fun hr => by
      rw [wri_no hr] at hn
      cases hn
    have hl : ¬ 512 < (encN n).length := fun hl => by
      rw [wri_full hr hl] at hn
      cases hn
    have hs : s = encN n ++ List.replicate (512 - (encN n).length) 0 := by
      rw [wri_yes hr hl] at hn
      exact (congrArg Prod.fst hn).symm
    have hd : decN s = n := by rw [hs]; exact dec_back hr _
    rw [hd]
    exact hn
end Go.Proofs.Ytdpjmijdlheajaa
