/-
  Layer 16 on lists: nodes, which may be, their bytes (mathematics only). Condition: none (definitions).
-/
import Derived.Test.YtdpjmijdlheajaaVarFixed
import Derived.Laws.Strings
namespace Go.Proofs.Ytdpjmijdlheajaa
open Go.RowKit

/-- A text by its bytes. -/
def nb (l : List UInt8) : ByteArray := ⟨l.toArray⟩
theorem nb_size (l : List UInt8) : (nb l).size = l.length := by simp [nb, ByteArray.size]
theorem nb_list (l : List UInt8) : (nb l).data.toList = l := rfl
theorem nb_toList (l : List UInt8) : (nb l).toList = l := by rw [ByteArray.toList_eq]; rfl
theorem nb_back (s : ByteArray) : nb s.data.toList = s := rfl
theorem nb_inj {a b : List UInt8} : nb a = nb b ↔ a = b := ⟨fun h => by have := congrArg (fun s : ByteArray => s.data.toList) h; exact this, fun h => by rw [h]⟩
theorem nb_app (a b : List UInt8) : nb a ++ nb b = nb (a ++ b) := by
  apply ByteArray.ext
  simp [nb]
theorem nb_ext (l : List UInt8) (k m : Nat) : (nb l).extract k m = nb ((l.drop k).take (m - k)) := by
  apply ByteArray.ext
  simp [nb, List.extract_eq_take_drop]

structure Cel where
  key : List UInt8
  len : Int
  loc : List UInt8
  ov : Int
structure Nod where
  leaf : Bool
  cells : List Cel
  kids : List Int
def CelOk (leaf : Bool) (c : Cel) : Prop :=
  c.key.length ≤ 100 ∧ (leaf = false → c.len = 0 ∧ c.ov = 0 ∧ c.loc = []) ∧ 0 ≤ c.len ∧ c.len ≤ 268435456 ∧ (c.loc.length : Int) = min c.len 60 ∧ (c.len ≤ 60 → c.ov = 0) ∧ (60 < c.len → 2 ≤ c.ov ∧ c.ov ≤ 2000)
/-- The k-th cell's key is greater than the one ahead. -/
def RisAt (l : List Cel) (k : Nat) : Prop := ∀ (h : k < l.length) (h0 : 0 < k), Op.bytesLess (l[k - 1]'(by omega)).key l[k].key = true
def KidOk (k : Int) : Prop := 2 ≤ k ∧ k ≤ 2000
def RightN (n : Nod) : Prop :=
  (∀ k (h : k < n.cells.length), CelOk n.leaf n.cells[k] ∧ RisAt n.cells k) ∧ (∀ k (h : k < n.kids.length), KidOk n.kids[k]) ∧ n.cells.length < 65536 ∧ (n.leaf = true → n.kids.length = 0) ∧ (n.leaf = false → n.kids.length = n.cells.length + 1)
open Classical in
noncomputable def rightB (n : Nod) : Bool := decide (RightN n)
theorem right_yes {n : Nod} (h : RightN n) : rightB n = true := by unfold rightB; simp [h]
theorem right_no {n : Nod} (h : ¬ RightN n) : rightB n = false := by unfold rightB; simp [h]
def kidsL : List Int → List UInt8
  | [] => []
  | k :: t => fourL k.toNat ++ kidsL t
def cellL (leaf : Bool) (c : Cel) : List UInt8 :=
  putLV c.key.length ++ c.key ++ if leaf = true then putLV c.len.toNat ++ c.loc ++ (if 60 < c.len then fourL c.ov.toNat else []) else []
def cellsL (leaf : Bool) : List Cel → List UInt8
  | [] => []
  | c :: t => cellL leaf c ++ cellsL leaf t
def headL (n : Nod) : List UInt8 := [if n.leaf = true then 1 else 2, (n.cells.length / 256).toUInt8, (n.cells.length % 256).toUInt8]
def encN (n : Nod) : List UInt8 := headL n ++ kidsL n.kids ++ cellsL n.leaf n.cells
theorem kids_snoc (l : List Int) (k : Int) : kidsL (l ++ [k]) = kidsL l ++ fourL k.toNat := by
  induction l with
  | nil => simp [kidsL]
  | cons x t ih => simp [kidsL, ih, List.append_assoc]
theorem cells_snoc (b : Bool) (l : List Cel) (c : Cel) : cellsL b (l ++ [c]) = cellsL b l ++ cellL b c := by
  induction l with
  | nil => simp [cellsL]
  | cons x t ih => simp [cellsL, ih, List.append_assoc]
theorem cell_no (c : Cel) : cellL false c = putLV c.key.length ++ c.key := by unfold cellL; simp
theorem cell_yes (c : Cel) : cellL true c = putLV c.key.length ++ c.key ++ (putLV c.len.toNat ++ c.loc ++ if 60 < c.len then fourL c.ov.toNat else []) := by unfold cellL; simp
theorem four_len (k : Nat) : (fourL k).length = 4 := by simp [fourL]
theorem kids_len (l : List Int) : (kidsL l).length = 4 * l.length := by
  induction l with
  | nil => rfl
  | cons x t ih => rw [kidsL, List.length_append, ih, four_len, List.length_cons]; omega
theorem cell_len {b : Bool} {c : Cel} (h : CelOk b c) : (cellL b c).length ≤ 182 := by
  obtain ⟨h1, -, h2, h3, h4, -, -⟩ := h
  have h5 := lenN_le c.key.length
  have h6 := lenN_le c.len.toNat
  unfold cellL
  rw [List.length_append, List.length_append, putL_length]
  cases b with
  | false => simp; omega
  | true =>
    rw [if_pos rfl, List.length_append, List.length_append, putL_length]
    have h7 : (if 60 < c.len then fourL c.ov.toNat else []).length ≤ 4 := by split <;> simp [four_len]
    omega
end Go.Proofs.Ytdpjmijdlheajaa
