/-
  Plain functions of numbers and bytes: what layer 2's functions are to return, and the chapter's consequences about them. No program here.
-/
namespace Go.Proofs.Ytdpjmijdlheajaa

/-- How many bytes a number has. -/
def lenN (n : Nat) : Nat :=
  if n < 128 then 1 else if n < 16384 then 2 else if n < 2097152 then 3 else if n < 268435456 then 4 else if n < 34359738368 then 5
  else if n < 4398046511104 then 6 else if n < 562949953421312 then 7 else if n < 72057594037927936 then 8 else 9
/-- k groups of seven bits, the most significant one first, each with the flag. -/
def grp : Nat → Nat → List UInt8
  | 0, _ => []
  | k + 1, n => grp k (n / 128) ++ [(128 + n % 128).toUInt8]
def putLV (n : Nat) : List UInt8 :=
  if n < 72057594037927936 then grp (lenN n - 1) (n / 128) ++ [(n % 128).toUInt8] else grp 8 (n / 256) ++ [(n % 256).toUInt8]
/-- What is read from byte i on, with n read before: the number, how many bytes, the error. -/
def scanF : Nat → Nat → List UInt8 → Nat × Nat × Int
  | _, _, [] => (0, 0, 1)
  | i, n, c :: t => if i = 8 then (n * 256 + c.toNat, 9, 0) else if c.toNat < 128 then (n * 128 + c.toNat, i + 1, 0) else scanF (i + 1) (n * 128 + c.toNat % 128) t
def getR (l : List UInt8) : Nat × Nat × Int :=
  if (scanF 0 0 l).2.2 = 0 then (if (scanF 0 0 l).2.1 = lenN (scanF 0 0 l).1 then scanF 0 0 l else (0, 0, 4)) else (0, 0, 1)

theorem lenN_ge (n : Nat) : 1 ≤ lenN n := by unfold lenN; repeat' split
                                             all_goals omega
theorem lenN_le (n : Nat) : lenN n ≤ 9 := by unfold lenN; repeat' split
                                             all_goals omega
theorem lenN_small {n : Nat} (h : n < 72057594037927936) : lenN n ≤ 8 := by
  unfold lenN; repeat' split
  all_goals omega
theorem lenN_big {n : Nat} (h : 72057594037927936 ≤ n) : lenN n = 9 := by
  unfold lenN; repeat' split
  all_goals omega
theorem lenN_lt {n : Nat} (h : lenN n ≤ 8) : n < 72057594037927936 := by
  unfold lenN at h
  repeat' split at h
  all_goals omega
theorem lenN_step {n : Nat} (h : 128 ≤ n) (h2 : n < 72057594037927936) : lenN n = lenN (n / 128) + 1 := by
  have h1 : lenN n = lenN (n / 128) + 1 := by
    rcases Nat.lt_or_ge n 16384 with a | a
    · simp only [lenN]; rw [if_neg (by omega), if_pos (by omega), if_pos (by omega)]
    rcases Nat.lt_or_ge n 2097152 with b | b
    · simp only [lenN]; rw [if_neg (by omega), if_neg (by omega), if_pos (by omega), if_neg (by omega), if_pos (by omega)]
    rcases Nat.lt_or_ge n 268435456 with c | c
    · simp only [lenN]; rw [if_neg (by omega), if_neg (by omega), if_neg (by omega), if_pos (by omega), if_neg (by omega), if_neg (by omega), if_pos (by omega)]
    rcases Nat.lt_or_ge n 34359738368 with d | d
    · simp only [lenN]; rw [if_neg (by omega), if_neg (by omega), if_neg (by omega), if_neg (by omega), if_pos (by omega), if_neg (by omega), if_neg (by omega), if_neg (by omega), if_pos (by omega)]
    rcases Nat.lt_or_ge n 4398046511104 with e | e
    · simp only [lenN]; rw [if_neg (by omega), if_neg (by omega), if_neg (by omega), if_neg (by omega), if_neg (by omega), if_pos (by omega), if_neg (by omega), if_neg (by omega), if_neg (by omega), if_neg (by omega), if_pos (by omega)]
    rcases Nat.lt_or_ge n 562949953421312 with f | f
    · simp only [lenN]; rw [if_neg (by omega), if_neg (by omega), if_neg (by omega), if_neg (by omega), if_neg (by omega), if_neg (by omega), if_pos (by omega), if_neg (by omega), if_neg (by omega), if_neg (by omega), if_neg (by omega), if_neg (by omega), if_pos (by omega)]
    · simp only [lenN]; rw [if_neg (by omega), if_neg (by omega), if_neg (by omega), if_neg (by omega), if_neg (by omega), if_neg (by omega), if_neg (by omega), if_pos (by omega), if_neg (by omega), if_neg (by omega), if_neg (by omega), if_neg (by omega), if_neg (by omega), if_neg (by omega), if_pos (by omega)]
  exact h1
theorem lenN_one {n : Nat} (h : n < 128) : lenN n = 1 := by rw [lenN, if_pos h]
theorem lenN_mono : ∀ {m n : Nat}, n ≤ m → lenN n ≤ lenN m := by
  intro m
  induction m using Nat.strongRecOn with
  | ind m ih =>
    intro n h
    by_cases hm : m < 72057594037927936
    · by_cases hn : n < 128
      · rw [lenN_one hn]; exact lenN_ge m
      · rw [lenN_step (n := n) (by omega) (by omega), lenN_step (n := m) (by omega) hm]
        have := ih (m / 128) (by omega) (n := n / 128) (by omega)
        omega
    · rw [lenN_big (n := m) (by omega)]; exact lenN_le n
theorem lenN_even (k : Nat) : lenN (2 * k) = lenN (2 * k + 1) := by
  by_cases h : 2 * k < 72057594037927936
  · by_cases h1 : 2 * k < 128
    · rw [lenN_one h1, lenN_one (by omega)]
    · rw [lenN_step (n := 2 * k) (by omega) h, lenN_step (n := 2 * k + 1) (by omega) (by omega), show (2 * k + 1) / 128 = 2 * k / 128 by omega]
  · rw [lenN_big (by omega), lenN_big (by omega)]
theorem lt_pow {n : Nat} (h : n < 72057594037927936) : n < 128 ^ lenN n := by
  unfold lenN
  repeat' split
  all_goals omega

theorem u8_of {n : Nat} (h : n < 256) : (n.toUInt8).toNat = n := by
  show n % 256 = n
  omega
theorem u8_back (c : UInt8) : (c.toNat).toUInt8 = c := by simp
theorem grp_length (k n : Nat) : (grp k n).length = k := by
  induction k generalizing n with
  | zero => rfl
  | succ k ih => simp [grp, ih]
theorem grp_hi (k n : Nat) : ∀ c ∈ grp k n, 128 ≤ c.toNat := by
  induction k generalizing n with
  | zero => intro c h; cases h
  | succ k ih =>
    intro c h
    rw [grp, List.mem_append, List.mem_singleton] at h
    rcases h with h | rfl
    · exact ih _ c h
    · rw [u8_of (by omega)]; omega
theorem putL_length (n : Nat) : (putLV n).length = lenN n := by
  unfold putLV
  have := lenN_ge n
  by_cases h : n < 72057594037927936
  · rw [if_pos h]; simp [grp_length]; omega
  · rw [if_neg h, lenN_big (by omega)]; simp [grp_length]

theorem scan_nil (i n : Nat) : scanF i n [] = (0, 0, 1) := by rw [scanF]
theorem scan_nine (n : Nat) (c : UInt8) (t : List UInt8) : scanF 8 n (c :: t) = (n * 256 + c.toNat, 9, 0) := by rw [scanF, if_pos rfl]
theorem scan_last {i : Nat} (n : Nat) {c : UInt8} (t : List UInt8) (hi : i ≠ 8) (hc : c.toNat < 128) : scanF i n (c :: t) = (n * 128 + c.toNat, i + 1, 0) := by rw [scanF, if_neg hi, if_pos hc]
theorem scan_more {i : Nat} (n : Nat) {c : UInt8} (t : List UInt8) (hi : i ≠ 8) (hc : 128 ≤ c.toNat) : scanF i n (c :: t) = scanF (i + 1) (n * 128 + c.toNat % 128) t := by rw [scanF, if_neg hi, if_neg (by omega)]

/-- What a reading that ends well says of the bytes read. -/
theorem scan_form (l : List UInt8) : ∀ (i n m k : Nat) (_ : i ≤ 8), scanF i n l = (m, k, 0) →
    i < k ∧ k ≤ 9 ∧ k ≤ i + l.length ∧ (k ≤ 8 → grp (k - 1) (m / 128) ++ [(m % 128).toUInt8] = grp i n ++ l.take (k - i)) ∧ (k = 9 → grp 8 (m / 256) ++ [(m % 256).toUInt8] = grp i n ++ l.take (k - i)) := by
  induction l with
  | nil => intro i n m k _ h; rw [scan_nil] at h; cases h
  | cons c t ih =>
    intro i n m k hi h
    have hc := c.toNat_lt
    by_cases h8 : i = 8
    · subst h8
      rw [scan_nine] at h
      cases h
      refine ⟨by omega, by omega, by simp; omega, fun h => by omega, fun _ => ?_⟩
      rw [show (n * 256 + c.toNat) / 256 = n by omega, show (n * 256 + c.toNat) % 256 = c.toNat by omega, u8_back]
      simp
    · by_cases hl : c.toNat < 128
      · rw [scan_last n t h8 hl] at h
        cases h
        refine ⟨by omega, by omega, by simp, fun _ => ?_, fun h => by omega⟩
        rw [show (n * 128 + c.toNat) / 128 = n by omega, show (n * 128 + c.toNat) % 128 = c.toNat by omega, u8_back]
        simp
      · rw [scan_more n t h8 (by omega)] at h
        obtain ⟨h1, h2, h3, h4, h5⟩ := ih (i + 1) _ m k (by omega) h
        have e : grp (i + 1) (n * 128 + c.toNat % 128) = grp i n ++ [c] := by
          rw [grp, show (n * 128 + c.toNat % 128) / 128 = n by omega, show 128 + (n * 128 + c.toNat % 128) % 128 = c.toNat by omega, u8_back]
        have e2 : (c :: t).take (k - i) = c :: t.take (k - (i + 1)) := by
          rw [show k - i = (k - (i + 1)) + 1 by omega, List.take_succ_cons]
        refine ⟨by omega, h2, by simp; omega, fun hk => ?_, fun hk => ?_⟩
        · rw [h4 hk, e, e2]; simp
        · rw [h5 hk, e, e2]; simp
theorem scan_zero {l : List UInt8} {i n m k : Nat} {e : Int} (h : scanF i n l = (m, k, e)) : e = 0 ∨ (m = 0 ∧ k = 0 ∧ e = 1) := by
  induction l generalizing i n with
  | nil => rw [scan_nil] at h; cases h; exact .inr ⟨rfl, rfl, rfl⟩
  | cons c t ih =>
    rw [scanF] at h
    split at h
    · cases h; exact .inl rfl
    · split at h
      · cases h; exact .inl rfl
      · exact ih h

theorem scan_lt (l : List UInt8) : ∀ (i n : Nat), i ≤ 8 → n < 128 ^ i → (scanF i n l).1 < 18446744073709551616 := by
  induction l with
  | nil => intro i n _ _; rw [scan_nil]; decide
  | cons c t ih =>
    intro i n hi hn
    have hc : c.toNat < 256 := c.toNat_lt
    have e8 : (128 : Nat) ^ 8 = 72057594037927936 := by decide
    have h8 : n < 128 ^ 8 := Nat.lt_of_lt_of_le hn (Nat.pow_le_pow_right (by decide) hi)
    by_cases h : i = 8
    · subst h; rw [scan_nine]; show n * 256 + c.toNat < _; omega
    · by_cases hl : c.toNat < 128
      · rw [scan_last n t h hl]; show n * 128 + c.toNat < _; omega
      · rw [scan_more n t h (by omega)]
        exact ih (i + 1) _ (by omega) (by rw [Nat.pow_succ]; omega)
theorem scan_len (l : List UInt8) : ∀ (i n : Nat), i ≤ 8 → (scanF i n l).2.1 ≤ 9 := by
  induction l with
  | nil => intro i n _; rw [scan_nil]; decide
  | cons c t ih =>
    intro i n hi
    rw [scanF]
    split
    · exact Nat.le_refl _
    · split
      · show i + 1 ≤ 9; omega
      · exact ih _ _ (by omega)

/-- The bytes read are the encoding of the number just where their count is the encoding's. -/
theorem scan_put {l : List UInt8} {m k : Nat} (h : scanF 0 0 l = (m, k, 0)) : putLV m = l.take k ↔ k = lenN m := by
  obtain ⟨h1, h2, h3, h4, h5⟩ := scan_form l 0 0 m k (by omega) h
  constructor
  · intro e
    have := congrArg List.length e
    rw [putL_length, List.length_take] at this
    omega
  · intro e
    by_cases hk : k = 9
    · have hm : ¬ m < 72057594037927936 := fun hm => by have := lenN_small hm; omega
      rw [putLV, if_neg hm, h5 hk]
      simp [grp]
    · have hm := lenN_lt (n := m) (by omega)
      rw [putLV, if_pos hm, ← e, h4 (by omega)]
      simp [grp]

theorem scan_grp (j : Nat) : ∀ (i m x : Nat) (l : List UInt8), i + j ≤ 8 → scanF i m (grp j x ++ l) = scanF (i + j) (m * 128 ^ j + x % 128 ^ j) l := by
  induction j with
  | zero => intro i m x l _; simp [grp, Nat.mod_one]
  | succ j ih =>
    intro i m x l h
    rw [grp, List.append_assoc, ih i m (x / 128) _ (by omega), List.singleton_append, scan_more _ _ (by omega) (by rw [u8_of (by omega)]; omega), u8_of (by omega)]
    have e : (m * 128 ^ j + x / 128 % 128 ^ j) * 128 + (128 + x % 128) % 128 = m * 128 ^ (j + 1) + x % 128 ^ (j + 1) := by
      rw [show 128 ^ (j + 1) = 128 * 128 ^ j by rw [Nat.pow_succ, Nat.mul_comm], Nat.mod_mul, Nat.add_mul, Nat.mul_assoc, Nat.mul_comm (128 ^ j) 128, Nat.mul_comm (x / 128 % 128 ^ j) 128]
      omega
    rw [e, Nat.add_assoc]
/-- WHAT IS PUT IS GOT, whatever follows. -/
theorem scan_back (n : Nat) (hn : n < 18446744073709551616) (more : List UInt8) : scanF 0 0 (putLV n ++ more) = (n, lenN n, 0) := by
  unfold putLV
  by_cases h : n < 72057594037927936
  · have h8 := lenN_small h
    have h1 := lenN_ge n
    rw [if_pos h, List.append_assoc, scan_grp _ 0 0 _ _ (by omega), List.singleton_append, scan_last _ _ (by omega) (by rw [u8_of (by omega)]; omega), u8_of (by omega)]
    have hp := lt_pow h
    rw [show lenN n = (lenN n - 1) + 1 by omega, Nat.pow_succ] at hp
    have hd : n / 128 < 128 ^ (lenN n - 1) := Nat.div_lt_of_lt_mul (by rw [Nat.mul_comm]; exact hp)
    rw [Nat.mod_eq_of_lt hd, Nat.zero_mul, Nat.zero_add, Nat.zero_add]
    refine Prod.ext ?_ (Prod.ext ?_ rfl)
    · show n / 128 * 128 + n % 128 = n; omega
    · show lenN n - 1 + 1 = lenN n; omega
  · rw [if_neg h, List.append_assoc, scan_grp 8 0 0 _ _ (by omega), List.singleton_append, scan_nine, u8_of (by omega), lenN_big (by omega)]
    have hd : n / 256 < 128 ^ 8 := by
      have : (128 : Nat) ^ 8 = 72057594037927936 := by decide
      omega
    rw [Nat.mod_eq_of_lt hd, Nat.zero_mul, Nat.zero_add]
    refine Prod.ext ?_ rfl
    show n / 256 * 256 + n % 256 = n; omega
theorem get_back (n : Nat) (hn : n < 18446744073709551616) (more : List UInt8) : getR (putLV n ++ more) = (n, lenN n, 0) := by
  rw [getR, scan_back n hn more, if_pos rfl, if_pos rfl]
theorem put_inj {n m : Nat} (hn : n < 18446744073709551616) (hm : m < 18446744073709551616) (h : putLV n = putLV m) : n = m := by
  have a := scan_back n hn []
  rw [h, scan_back m hm []] at a
  exact (congrArg Prod.fst a).symm
theorem put_prefix {n m : Nat} (hn : n < 18446744073709551616) (hm : m < 18446744073709551616) (h : (putLV m).take (lenN n) = putLV n) : n = m := by
  have a := scan_back m hm []
  rw [List.append_nil, ← List.take_append_drop (lenN n) (putLV m), h, scan_back n hn] at a
  exact congrArg Prod.fst a
theorem scan_cut (l : List UInt8) : ∀ (i n : Nat), (∀ c ∈ l, 128 ≤ c.toNat) → i + l.length ≤ 8 → scanF i n l = (0, 0, 1) := by
  induction l with
  | nil => intro i n _ _; exact scan_nil i n
  | cons c t ih =>
    intro i n h hl
    simp at hl
    rw [scan_more n t (by omega) (h c (by simp))]
    exact ih _ _ (fun c hc => h c (by simp [hc])) (by omega)
theorem put_cut (n j : Nat) (h : j < lenN n) : getR ((putLV n).take j) = (0, 0, 1) := by
  have e : scanF 0 0 ((putLV n).take j) = (0, 0, 1) := by
    have h9 := lenN_le n
    unfold putLV
    by_cases hn : n < 72057594037927936
    · rw [if_pos hn, List.take_append_of_le_length (by rw [grp_length]; omega)]
      refine scan_cut _ 0 0 (fun c hc => grp_hi _ _ c (List.mem_of_mem_take hc)) (by rw [List.length_take, grp_length]; omega)
    · rw [if_neg hn, List.take_append_of_le_length (by rw [grp_length]; omega)]
      refine scan_cut _ 0 0 (fun c hc => grp_hi _ _ c (List.mem_of_mem_take hc)) (by rw [List.length_take, grp_length]; omega)
  rw [getR, e]; rfl
end Go.Proofs.Ytdpjmijdlheajaa
