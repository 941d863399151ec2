/-
  Plain mathematics of layer 1: small letters once more change nothing, a folded text is a name just if the text is one, no number in writing is a name; each parsing function inverts its formatting function.
-/
import Derived.Test.YtadbmjmikoggbaaFigText
namespace Go.Proofs.Ytadbmjmikoggbaa

theorem of256 {P : UInt8 → Prop} (h : ∀ k : Fin 256, P (UInt8.ofNat k.val)) (x : UInt8) : P x := by
  have := h ⟨x.toNat, x.toNat_lt⟩
  simpa using this
theorem lowU_idem : ∀ x : UInt8, lowU (lowU x) = lowU x := of256 (by decide +kernel)
theorem lowU_dig : ∀ x : UInt8, isDigB (lowU x).toNat = isDigB x.toNat := of256 (by decide +kernel)
theorem lowU_ok : ∀ x : UInt8, okChar (lowU x) = okChar x := of256 (by decide +kernel)
theorem foldL_idem (l : List UInt8) : foldL (foldL l) = foldL l := by
  simp only [foldL, List.map_map]
  exact List.map_congr_left fun x _ => lowU_idem x
theorem foldL_length (l : List UInt8) : (foldL l).length = l.length := by simp [foldL]
theorem foldL_name (l : List UInt8) : nameB (foldL l) = nameB l := by
  cases l with
  | nil => rfl
  | cons a t =>
    simp only [nameB, foldL, List.map_cons, List.isEmpty_cons, List.length_cons, List.length_map, List.headD_cons, List.all_cons, List.all_map, lowU_dig, lowU_ok]
    congr 1
    congr 1
    exact congrArg (fun f => List.all t f) (funext fun x => lowU_ok x)

theorem ofNat_dig (k : Nat) (h : k < 10) : isDigB (UInt8.ofNat (48 + k)).toNat = true := by
  have : ∀ k : Fin 10, isDigB (UInt8.ofNat (48 + k.val)).toNat = true := by decide
  exact this ⟨k, h⟩
theorem dec_head : ∀ (m u : Nat), u ≤ m → isDigB ((Lib.decDigits u).headD 0).toNat = true ∧ Lib.decDigits u ≠ [] := by
  intro m
  induction m with
  | zero =>
    intro u h
    rw [Lib.decDigits, dif_pos (by omega)]
    exact ⟨ofNat_dig u (by omega), by simp⟩
  | succ m ih =>
    intro u h
    by_cases h10 : u < 10
    · rw [Lib.decDigits, dif_pos h10]
      exact ⟨ofNat_dig u h10, by simp⟩
    · rw [Lib.decDigits, dif_neg h10]
      obtain ⟨h1, h2⟩ := ih (u / 10) (by omega)
      cases hd : Lib.decDigits (u / 10) with
      | nil => exact absurd hd h2
      | cons a t => rw [hd] at h1; exact ⟨h1, by simp⟩
theorem itoa_name (n : Int) : nameB (Lib.itoa n) = false := by
  unfold Lib.itoa
  split
  · have : okChar 45 = false := by decide
    simp [nameB, this]
  · exact name_no (.inr (.inr (dec_head _ _ (Nat.le_refl _)).1))

theorem dig_val (k : Nat) (h : k < 10) : ((UInt8.ofNat (48 + k)).toNat : Int) - 48 = k := by
  have : ∀ k : Fin 10, ((UInt8.ofNat (48 + k.val)).toNat : Int) - 48 = (k.val : Int) := by decide
  exact this ⟨k, h⟩
theorem dec_read : ∀ (m u : Nat), u ≤ m → (u : Int) ≤ maxI → readF (Lib.decDigits u) = some ((u : Int), false) := by
  intro m
  induction m with
  | zero =>
    intro u h hm
    obtain rfl : u = 0 := by omega
    rw [Lib.decDigits, dif_pos (by omega)]
    decide
  | succ m ih =>
    intro u h hm
    have one : ∀ (p : Nat) (k : Nat), k < 10 → ((p * 10 + k : Nat) : Int) ≤ maxI → readS (some ((p : Int), false)) (UInt8.ofNat (48 + k)) = some (((p * 10 + k : Nat) : Int), false) := by
      intro p k hk hp
      simp only [readS]
      rw [if_pos (ofNat_dig k hk), dig_val k hk, if_neg]
      · congr 1
      · unfold maxI at *
        intro h
        rcases h with h | h
        · cases h
        · omega
    by_cases h10 : u < 10
    · rw [Lib.decDigits, dif_pos h10]
      have := one 0 u h10 (by simpa using hm)
      simpa [readF] using this
    · rw [Lib.decDigits, dif_neg h10, readF_snoc, ih (u / 10) (by omega) (by unfold maxI at *; omega)]
      have := one (u / 10) (u % 10) (by omega) (by rw [show u / 10 * 10 + u % 10 = u by omega]; exact hm)
      rw [this, show u / 10 * 10 + u % 10 = u by omega]
theorem read_text (n : Int) (h0 : 0 ≤ n) (h1 : n ≤ maxI) : readR (Lib.itoa n) = (n, 0) := by
  obtain ⟨u, rfl⟩ := Int.eq_ofNat_of_zero_le h0
  rw [Lib.itoa_nonneg, readR, if_neg (dec_head _ _ (Nat.le_refl _)).2, dec_read u u (Nat.le_refl _) h1]
theorem read_neg (n : Int) (h0 : n < 0) : readR (Lib.itoa n) = (0, 4) := by
  have : readF (Lib.itoa n) = none := by
    rw [Lib.itoa, if_pos h0]
    exact readF_prefix (a := [45]) ⟨_, rfl⟩ (by decide)
  rw [readR, if_neg (by rw [Lib.itoa, if_pos h0]; simp), this]

theorem und_quote (l : List UInt8) : ∀ out, (l.flatMap quoteC).foldl undS (some (false, out)) = some (false, out ++ l) := by
  induction l with
  | nil => intro out; simp
  | cons a t ih =>
    intro out
    rw [List.flatMap_cons, List.foldl_append]
    by_cases h : a = 39
    · rw [show (quoteC a).foldl undS (some (false, out)) = some (false, out ++ [a]) by simp [quoteC, h, undS], ih]; simp
    · rw [show (quoteC a).foldl undS (some (false, out)) = some (false, out ++ [a]) by simp [quoteC, h, undS], ih]; simp
theorem last_snoc (a z : UInt8) (l : List UInt8) : (a :: l ++ [z]).getLastD 0 = z := by
  rw [List.getLastD_eq_getLast?, List.getLast?_append]; rfl
theorem mid_quote (l : List UInt8) : mid (39 :: l ++ [39]) = l := by simp [mid]
theorem unq_quote (l : List UInt8) : unqR (quoteL l) = (l, 0) := by
  have h1 : quoteL l = 39 :: l.flatMap quoteC ++ [39] := by simp [quoteL, quoteM]
  rw [h1, unqR, if_neg (by simp), if_pos ⟨rfl, last_snoc _ _ _⟩, mid_quote, undR, undF, und_quote]
  simp
theorem und_back (l : List UInt8) : ∀ (op0 : Bool) (out0 : List UInt8) op out, l.foldl undS (some (op0, out0)) = some (op, out) → out0.flatMap quoteC ++ (if op0 then [39] else []) ++ l = out.flatMap quoteC ++ (if op then [39] else []) := by
  induction l with
  | nil => intro op0 out0 op out h; simp at h; rw [h.1, h.2]; simp
  | cons a t ih =>
    intro op0 out0 op out h
    rw [List.foldl_cons] at h
    cases op0 with
    | true =>
      by_cases e : a = 39
      · rw [show undS (some (true, out0)) a = some (false, out0 ++ [39]) by simp [undS, e]] at h
        rw [← ih _ _ _ _ h, e]; simp [quoteC]
      · rw [show undS (some (true, out0)) a = none by simp [undS, e], undS_none] at h; cases h
    | false =>
      by_cases e : a = 39
      · rw [show undS (some (false, out0)) a = some (true, out0) by simp [undS, e]] at h
        rw [← ih _ _ _ _ h, e]; simp
      · rw [show undS (some (false, out0)) a = some (false, out0 ++ [a]) by simp [undS, e]] at h
        rw [← ih _ _ _ _ h]; simp [quoteC, e]
theorem mid_back (l : List UInt8) (h2 : 2 ≤ l.length) (h0 : l.headD 0 = 39) (h1 : l.getLastD 0 = 39) : 39 :: mid l ++ [39] = l := by
  cases l with
  | nil => simp at h2
  | cons a t =>
    simp only [List.headD_cons] at h0
    subst h0
    cases ht : t.reverse with
    | nil => rw [List.reverse_eq_nil_iff] at ht; subst ht; simp at h2
    | cons z r =>
      have : t = r.reverse ++ [z] := by rw [← List.reverse_reverse t, ht]; simp
      subst this
      have h1' := last_snoc 39 z r.reverse
      rw [List.cons_append, h1] at h1'
      subst h1'
      simp [mid]
theorem unq_back (l : List UInt8) : ((unqR l).2 ≠ 0 ∧ (unqR l).1 = []) ∨ ((unqR l).2 = 0 ∧ quoteL (unqR l).1 = l) := by
  unfold unqR
  split
  · exact .inl ⟨by decide, rfl⟩
  · rename_i h2
    split
    · rename_i h
      unfold undR
      cases hu : undF (mid l) with
      | none => exact .inl ⟨by decide, rfl⟩
      | some p =>
        obtain ⟨op, out⟩ := p
        cases op with
        | true => exact .inl ⟨by simp, rfl⟩
        | false =>
          refine .inr ⟨rfl, ?_⟩
          have := und_back (mid l) false [] false out hu
          simp at this
          show 39 :: out.flatMap quoteC ++ [39] = l
          rw [← this]
          exact mid_back l (by omega) h.1 h.2
    · exact .inl ⟨by decide, rfl⟩

theorem hv_hexD (k : Nat) (h : k < 16) : hv (hexD k) = k := by
  have : ∀ k : Fin 16, hv (hexD k.val) = (k.val : Int) := by decide +kernel
  exact this ⟨k, h⟩
theorem unh_hex (l : List UInt8) : ∀ h out, ∃ h', (hexL l).foldl unhS (some (h, false, out)) = some (h', false, out ++ l) := by
  induction l with
  | nil => intro h out; exact ⟨h, by simp [hexL]⟩
  | cons a t ih =>
    intro h out
    have ha := a.toNat_lt
    have e : (hexC a).foldl unhS (some (h, false, out)) = some (((a.toNat % 16 : Nat) : Int), false, out ++ [a]) := by
      have e1 : unhS (some (h, false, out)) (hexD (a.toNat / 16)) = some (((a.toNat / 16 : Nat) : Int), true, out) := by
        simp only [unhS, hv_hexD (a.toNat / 16) (by omega)]
        rw [if_neg (by omega)]; rfl
      have e2 : unhS (some (((a.toNat / 16 : Nat) : Int), true, out)) (hexD (a.toNat % 16)) = some (((a.toNat % 16 : Nat) : Int), false, out ++ [a]) := by
        simp only [unhS, hv_hexD (a.toNat % 16) (by omega)]
        rw [if_neg (by omega), show (((a.toNat / 16 : Nat) : Int) * 16 + ((a.toNat % 16 : Nat) : Int)).toNat = a.toNat by omega]
        simp
      simp only [hexC, List.foldl_cons, List.foldl_nil, e1, e2]
    obtain ⟨h', hh⟩ := ih ((a.toNat % 16 : Nat) : Int) (out ++ [a])
    refine ⟨h', ?_⟩
    rw [hexL, List.flatMap_cons, List.foldl_append, e]
    rw [hexL] at hh
    rw [hh]; simp
theorem unhex_hex (l : List UInt8) : unhR (hexL l) = (l, 0) := by
  obtain ⟨h', hh⟩ := unh_hex l 0 []
  rw [unhR, if_pos (by rw [hexL_length]; omega), unhF, hh]
  simp
end Go.Proofs.Ytadbmjmikoggbaa
