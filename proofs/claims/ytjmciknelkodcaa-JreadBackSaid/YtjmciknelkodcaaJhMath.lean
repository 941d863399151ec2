/-
  Layer 8 on lists of bytes: the encoding of a header, what is read from any bytes, and the laws between them. No program text is walked here.
-/
import Derived.Test.YtjmciknelkodcaaVarFixed
import Derived.Test.YtjmciknelkodcaaSumTurn
namespace Go.Proofs.Ytjmciknelkodcaa

def j8F : List UInt8 := [97, 110, 110, 120, 106, 114, 110, 108]
def j8L : List UInt8 := [108, 110, 114, 106, 120, 110, 110, 97]
def hdL (a b c : Int) : List UInt8 := j8F ++ fourL a.toNat ++ fourL b.toNat ++ fourL c.toNat
def enL (a b c : Int) : List UInt8 := hdL a b c ++ fourL (sumZ 7 (hdL a b c)).toNat ++ j8L
def okH (a b c : Int) : Bool := decide (0 ≤ a ∧ a ≤ 2000 ∧ 0 ≤ b ∧ b ≤ 2000 ∧ 0 ≤ c ∧ c ≤ 4294967295)
def wrH (a b c : Int) : List UInt8 × Int := if okH a b c = true then (enL a b c, 0) else ([], 3)
def nmL (l : List UInt8) : Int := (numR l).1
structure H8 where
  a : Int
  b : Int
  c : Int
def rdH (l : List UInt8) : H8 × Int :=
  if l.length < 32 then (⟨0, 0, 0⟩, 1)
  else if l.take 8 = j8F ∧ (l.drop 24).take 8 = j8L then
    if nmL (l.drop 20) = sumZ 7 (l.take 20) then
      if okH (nmL (l.drop 8)) (nmL (l.drop 12)) (nmL (l.drop 16)) = true then (⟨nmL (l.drop 8), nmL (l.drop 12), nmL (l.drop 16)⟩, 0) else (⟨0, 0, 0⟩, 3)
    else (⟨0, 0, 0⟩, 5)
  else (⟨0, 0, 0⟩, 4)

theorem okH_iff {a b c : Int} : okH a b c = true ↔ 0 ≤ a ∧ a ≤ 2000 ∧ 0 ≤ b ∧ b ≤ 2000 ∧ 0 ≤ c ∧ c ≤ 4294967295 := by unfold okH; exact decide_eq_true_iff
theorem four_len (n : Nat) : (fourL n).length = 4 := rfl
theorem hdL_len (a b c : Int) : (hdL a b c).length = 20 := rfl
theorem enL_len (a b c : Int) : (enL a b c).length = 32 := rfl
theorem u8_small {n : Nat} (h : n < 256) : (n.toUInt8).toNat = n := by
  show n % 256 = n
  omega
theorem nm_four {n : Int} (h0 : 0 ≤ n) (h1 : n ≤ 4294967295) (m : List UInt8) : nmL (fourL n.toNat ++ m) = n := by
  have e := congrArg Prod.fst (num_fix ⟨h0, h1⟩)
  unfold nmL
  rw [numR, if_neg (by rw [List.length_append, four_len]; omega)]
  rw [numR, if_neg (by rw [four_len]; omega)] at e
  exact e
/-- Four bytes are their number's. -/
theorem four_nm (l : List UInt8) (h : 4 ≤ l.length) : fourL (nmL l).toNat = l.take 4 := by
  match l, h with
  | a :: b :: c :: d :: m, _ =>
    have ha := a.toNat_lt; have hb := b.toNat_lt; have hc := c.toNat_lt; have hd := d.toNat_lt
    have e : (nmL (a :: b :: c :: d :: m)).toNat = a.toNat * 16777216 + b.toNat * 65536 + c.toNat * 256 + d.toNat := by
      unfold nmL
      rw [numR, if_neg (by simp)]
      show ((_ : Nat) : Int).toNat = _
      rfl
    rw [e]
    show [_, _, _, _] = [a, b, c, d]
    have e1 : (a.toNat * 16777216 + b.toNat * 65536 + c.toNat * 256 + d.toNat) / 16777216 = a.toNat := by omega
    have e2 : (a.toNat * 16777216 + b.toNat * 65536 + c.toNat * 256 + d.toNat) / 65536 % 256 = b.toNat := by omega
    have e3 : (a.toNat * 16777216 + b.toNat * 65536 + c.toNat * 256 + d.toNat) / 256 % 256 = c.toNat := by omega
    have e4 : (a.toNat * 16777216 + b.toNat * 65536 + c.toNat * 256 + d.toNat) % 256 = d.toNat := by omega
    rw [e1, e2, e3, e4]
    refine congr (congrArg List.cons ?_) (congr (congrArg List.cons ?_) (congr (congrArg List.cons ?_) (congr (congrArg List.cons ?_) rfl))) <;> exact UInt8.toNat_inj.1 (u8_small (by assumption))
theorem nmL_bd (l : List UInt8) : 0 ≤ nmL l ∧ nmL l ≤ 4294967295 := by
  unfold nmL numR
  split
  · exact ⟨Int.le_refl _, by show (0 : Int) ≤ _; omega⟩
  · have ha := (l.getD 0 0).toNat_lt; have hb := (l.getD 1 0).toNat_lt; have hc := (l.getD 2 0).toNat_lt; have hd := (l.getD 3 0).toNat_lt
    show 0 ≤ ((_ : Nat) : Int) ∧ ((_ : Nat) : Int) ≤ _
    omega
theorem nmL_take (l : List UInt8) (h : 4 ≤ l.length) : nmL (l.take 4) = nmL l := by
  match l, h with
  | a :: b :: c :: d :: m, _ =>
    unfold nmL
    rw [numR, if_neg (by simp), numR, if_neg (by simp)]
    rfl
theorem nmL_eq {l : List UInt8} (h : 4 ≤ l.length) {n : Int} (h0 : 0 ≤ n) (h1 : n ≤ 4294967295) : nmL l = n ↔ l.take 4 = fourL n.toNat := by
  constructor
  · rintro rfl; exact (four_nm l h).symm
  · intro e
    have := nm_four h0 h1 []
    rw [List.append_nil, ← e, nmL_take l h] at this
    exact this

/-- The parts of an encoding. -/
theorem en_parts (a b c : Int) (m : List UInt8) :
    (enL a b c ++ m).take 8 = j8F ∧ ((enL a b c ++ m).drop 24).take 8 = j8L ∧ (enL a b c ++ m).take 20 = hdL a b c ∧ (enL a b c ++ m).drop 20 = fourL (sumZ 7 (hdL a b c)).toNat ++ (j8L ++ m)
    ∧ (enL a b c ++ m).drop 8 = fourL a.toNat ++ (fourL b.toNat ++ (fourL c.toNat ++ (fourL (sumZ 7 (hdL a b c)).toNat ++ (j8L ++ m)))) ∧ (enL a b c ++ m).drop 12 = fourL b.toNat ++ (fourL c.toNat ++ (fourL (sumZ 7 (hdL a b c)).toNat ++ (j8L ++ m)))
    ∧ (enL a b c ++ m).drop 16 = fourL c.toNat ++ (fourL (sumZ 7 (hdL a b c)).toNat ++ (j8L ++ m)) := ⟨rfl, rfl, rfl, rfl, rfl, rfl, rfl⟩
theorem rd_wr {a b c : Int} (h : okH a b c = true) (m : List UInt8) : rdH (enL a b c ++ m) = (⟨a, b, c⟩, 0) := by
  obtain ⟨p1, p2, p3, p4, p5, p6, p7⟩ := en_parts a b c m
  have hs := sumZ_bd 7 (hdL a b c)
  have h' := okH_iff.1 h
  have n1 := nm_four h'.1 (by omega) (fourL b.toNat ++ (fourL c.toNat ++ (fourL (sumZ 7 (hdL a b c)).toNat ++ (j8L ++ m))))
  have n2 := nm_four h'.2.2.1 (by omega) (fourL c.toNat ++ (fourL (sumZ 7 (hdL a b c)).toNat ++ (j8L ++ m)))
  have n3 := nm_four h'.2.2.2.2.1 (by omega) (fourL (sumZ 7 (hdL a b c)).toNat ++ (j8L ++ m))
  rw [rdH, if_neg (by rw [List.length_append, enL_len]; omega), if_pos ⟨p1, p2⟩, p4, p3, nm_four hs.1 hs.2, if_pos rfl, p5, p6, p7, n1, n2, n3, if_pos h]
/-- A proper beginning, filled up with noughts. -/
theorem rd_torn (a b c : Int) {k : Nat} (hk : k < 32) : rdH ((enL a b c).take k ++ List.replicate (32 - k) 0) = (⟨0, 0, 0⟩, 4) := by
  have hl : ((enL a b c).take k ++ List.replicate (32 - k) 0).length = 32 := by rw [List.length_append, List.length_take, enL_len, List.length_replicate]; omega
  rw [rdH, if_neg (by omega), if_neg]
  rintro ⟨-, h⟩
  have h1 : ((enL a b c).take k ++ List.replicate (32 - k) 0)[31]'(by omega) = 97 := by
    have := congrArg (fun l : List UInt8 => l[7]?) h
    simp only [List.getElem?_take, List.getElem?_drop, if_pos (show 7 < 8 by decide), j8L] at this
    rw [List.getElem?_eq_getElem (by omega)] at this
    exact Option.some.inj this
  rw [List.getElem_append_right (by rw [List.length_take]; omega), List.getElem_replicate] at h1
  exact absurd h1 (by decide)
end Go.Proofs.Ytjmciknelkodcaa
