/-
  Layer 5, plain functions of values and bytes: the encoding of a row, what is read from bytes, and the chapter's consequences about them (5.3). No program here.
-/
import Derived.Test.YtpkhbafgepdogaaVarMath
import Derived.Test.YtpkhbafgepdogaaVarLeaf
namespace Go.Proofs.Ytpkhbafgepdogaa

/-- A value of the program. -/
structure Val where
  k : Int
  n : Int
  s : ByteArray
def val0 : Val := ⟨0, 0, ⟨#[]⟩⟩
/-- What is wrong with a value: 7 (its kind), 12 (too long), 0. -/
def checkZ (k n : Int) (s : ByteArray) : Int :=
  if k < 0 ∨ 3 < k ∨ (k ≠ 1 ∧ n ≠ 0) ∨ (k < 2 ∧ s.size ≠ 0) then 7 else if 1000 < s.size then 12 else 0
/-- An int's range. -/
def I64 (n : Int) : Prop := -9223372036854775808 ≤ n ∧ n ≤ 9223372036854775807

def markN (v : Val) : Nat := if v.k = 1 then 1 else if v.k = 2 then 2 + 2 * v.s.size else if v.k = 3 then 3 + 2 * v.s.size else 0
def dataL (v : Val) : List UInt8 := if v.k = 1 then putL (foldZ v.n).toNat else v.s.data.toList
def encM : List Val → List UInt8
  | [] => []
  | v :: t => putL (markN v) ++ encM t
def encD : List Val → List UInt8
  | [] => []
  | v :: t => dataL v ++ encD t
def encL (l : List Val) : List UInt8 := putL l.length ++ (encM l ++ encD l)
def checks : List Val → Int
  | [] => 0
  | v :: t => if checkZ v.k v.n v.s = 0 then checks t else checkZ v.k v.n v.s
def errE (l : List Val) : Int := if 16 < l.length then 18 else checks l
def encR (l : List Val) : List UInt8 × Int := if errE l = 0 then (encL l, 0) else ([], errE l)

def kindM (m : Nat) : Int := if m = 0 then 0 else if m = 1 then 1 else if m % 2 = 1 then 3 else 2
def sizeM (m : Nat) : Nat := (m - 2) / 2
/-- One mark: it, the rest, the error. -/
def markS (l : List UInt8) : Nat × List UInt8 × Int :=
  if (getR l).2.2 = 0 then (if 2003 < (getR l).1 then (0, l.drop (getR l).2.1, 12) else ((getR l).1, l.drop (getR l).2.1, 0)) else (0, l, (getR l).2.2)
def marksS : Nat → List Nat → List UInt8 → List Nat × List UInt8 × Int
  | 0, ms, l => (ms, l, 0)
  | n + 1, ms, l => if (markS l).2.2 = 0 then marksS n (ms ++ [(markS l).1]) (markS l).2.1 else ([], [], (markS l).2.2)
/-- One value: it, the rest, the error. -/
def valS (m : Nat) (l : List UInt8) : Val × List UInt8 × Int :=
  if m = 0 then (val0, l, 0)
  else if m = 1 then (if (getR l).2.2 = 0 then (⟨1, unfoldZ (getR l).1, ⟨#[]⟩⟩, l.drop (getR l).2.1, 0) else (val0, l, (getR l).2.2))
  else if l.length < sizeM m then (val0, l, 1) else (⟨kindM m, 0, ⟨(l.take (sizeM m)).toArray⟩⟩, l.drop (sizeM m), 0)
def valsS : List Nat → List Val → List UInt8 → List Val × List UInt8 × Int
  | [], vs, l => (vs, l, 0)
  | m :: ms, vs, l => if (valS m l).2.2 = 0 then valsS ms (vs ++ [(valS m l).1]) (valS m l).2.1 else ([], [], (valS m l).2.2)
def lastR (r : List Val × List UInt8 × Int) : List Val × Int := if r.2.2 = 0 then (if r.2.1 = [] then (r.1, 0) else ([], 2)) else ([], r.2.2)
def finR (r : List Nat × List UInt8 × Int) : List Val × Int := if r.2.2 = 0 then lastR (valsS r.1 [] r.2.1) else ([], r.2.2)
def decR (l : List UInt8) : List Val × Int :=
  if (getR l).2.2 = 0 then (if 16 < (getR l).1 then ([], 18) else finR (marksS (getR l).1 [] (l.drop (getR l).2.1))) else ([], (getR l).2.2)

theorem fold_bd {n : Int} (h : I64 n) : 0 ≤ foldZ n ∧ foldZ n ≤ 18446744073709551615 := by
  unfold foldZ I64 at *; split <;> omega
theorem unfold_bd {m : Int} (h1 : 0 ≤ m) (h2 : m ≤ 18446744073709551615) : I64 (unfoldZ m) := by
  unfold unfoldZ I64; split <;> omega
theorem unfold_fold (n : Int) : unfoldZ (foldZ n) = n := by
  unfold foldZ unfoldZ; split <;> split <;> omega
theorem fold_unfold {m : Int} (h1 : 0 ≤ m) : foldZ (unfoldZ m) = m := by
  unfold foldZ unfoldZ; split <;> split <;> omega
theorem check_ok {v : Val} (h : checkZ v.k v.n v.s = 0) : 0 ≤ v.k ∧ v.k ≤ 3 ∧ (v.k ≠ 1 → v.n = 0) ∧ (v.k < 2 → v.s.size = 0) ∧ v.s.size ≤ 1000 := by
  unfold checkZ at h
  split at h
  · cases h
  · split at h
    · cases h
    · omega
theorem ok_check {v : Val} (h : 0 ≤ v.k ∧ v.k ≤ 3 ∧ (v.k ≠ 1 → v.n = 0) ∧ (v.k < 2 → v.s.size = 0) ∧ v.s.size ≤ 1000) : checkZ v.k v.n v.s = 0 := by
  unfold checkZ
  rw [if_neg (by omega), if_neg (by omega)]
theorem size_nil {s : ByteArray} (h : s.size = 0) : s = ⟨#[]⟩ := ByteArray.ext (Array.eq_empty_of_size_eq_zero h)
theorem size_list (s : ByteArray) : s.data.toList.length = s.size := by simp
theorem mark_le {v : Val} (h : checkZ v.k v.n v.s = 0) : markN v ≤ 2003 := by
  obtain ⟨h1, h2, h3, h4, h5⟩ := check_ok h
  unfold markN
  repeat' split
  all_goals omega

/-- What is read well is the number's own bytes. -/
theorem get_form {l : List UInt8} (h : (getR l).2.2 = 0) : l = putL (getR l).1 ++ l.drop (getR l).2.1 ∧ (getR l).1 < 18446744073709551616 ∧ (getR l).2.1 = lenN (getR l).1 ∧ (getR l).2.1 ≤ l.length := by
  by_cases e : (scanF 0 0 l).2.2 = 0
  · by_cases e2 : (scanF 0 0 l).2.1 = lenN (scanF 0 0 l).1
    · have hg : getR l = scanF 0 0 l := by rw [getR, if_pos e, if_pos e2]
      have hs : scanF 0 0 l = ((scanF 0 0 l).1, (scanF 0 0 l).2.1, 0) := Prod.ext rfl (Prod.ext rfl e)
      have hp := (scan_put hs).2 e2
      have hf := scan_form l 0 0 _ _ (by omega) hs
      rw [hg]
      refine ⟨?_, scan_lt l 0 0 (by omega) (by decide), e2, by omega⟩
      rw [hp, List.take_append_drop]
    · rw [getR, if_pos e, if_neg e2] at h; cases h
  · rw [getR, if_neg e] at h; cases h
theorem get_none {l : List UInt8} (h : (getR l).2.2 ≠ 0) : (getR l).1 = 0 ∧ (getR l).2.1 = 0 := by
  unfold getR at *
  split at h
  · split at h
    · exact absurd ‹_› h
    · simp_all
  · simp_all
theorem put_lt (n : Nat) (r : List UInt8) : (putL n ++ r).drop (lenN n) = r := by
  rw [← putL_length, List.drop_left]

theorem mark_back {m : Nat} (h : m ≤ 2003) (r : List UInt8) : markS (putL m ++ r) = (m, r, 0) := by
  have e := get_back m (by omega) r
  rw [markS, e, if_pos rfl, if_neg (by simp; omega)]
  simp only [put_lt]
theorem marks_back (l : List Val) (h : ∀ v ∈ l, checkZ v.k v.n v.s = 0) : ∀ (ms : List Nat) (r : List UInt8), marksS l.length ms (encM l ++ r) = (ms ++ l.map markN, r, 0) := by
  induction l with
  | nil => intro ms r; simp [marksS, encM]
  | cons v t ih =>
    intro ms r
    rw [List.length_cons, marksS, encM, List.append_assoc, mark_back (mark_le (h v (by simp)))]
    simp only [if_true]
    rw [ih (fun x hx => h x (by simp [hx]))]
    simp
theorem val_back {v : Val} (h : checkZ v.k v.n v.s = 0) (hn : I64 v.n) (r : List UInt8) : valS (markN v) (dataL v ++ r) = (v, r, 0) := by
  obtain ⟨h1, h2, h3, h4, h5⟩ := check_ok h
  obtain ⟨k, n, s⟩ := v
  simp only at h1 h2 h3 h4 h5 hn
  by_cases e0 : k = 0
  · subst e0
    rw [show n = 0 from h3 (by omega), size_nil (h4 (by omega))]
    simp [markN, valS, dataL, val0]
  by_cases e1 : k = 1
  · subst e1
    rw [size_nil (h4 (by omega))]
    have hb := fold_bd hn
    have e := get_back (foldZ n).toNat (by omega) r
    simp only [markN, dataL, if_true]
    rw [valS, if_neg (by omega), if_pos rfl, e, if_pos rfl]
    simp only [put_lt]
    rw [show (((foldZ n).toNat : Nat) : Int) = foldZ n by omega, unfold_fold]
  have hz : n = 0 := h3 e1
  subst hz
  have hl := size_list s
  have fin : ∀ (m : Nat), 2 ≤ m → sizeM m = s.size → kindM m = k → valS m (s.data.toList ++ r) = (⟨k, 0, s⟩, r, 0) := by
    intro m hm hs hk
    rw [valS, if_neg (by omega), if_neg (by omega), if_neg (by rw [hs, List.length_append]; omega), hs, hk, ← hl, List.take_left, List.drop_left]
  by_cases e2 : k = 2
  · subst e2
    have em : markN ⟨2, 0, s⟩ = 2 + 2 * s.size := rfl
    have ed : dataL ⟨2, 0, s⟩ = s.data.toList := rfl
    rw [em, ed]
    exact fin _ (by omega) (by unfold sizeM; omega) (by unfold kindM; rw [if_neg (by omega), if_neg (by omega), if_neg (by omega)])
  · have e3 : k = 3 := by omega
    subst e3
    have em : markN ⟨3, 0, s⟩ = 3 + 2 * s.size := rfl
    have ed : dataL ⟨3, 0, s⟩ = s.data.toList := rfl
    rw [em, ed]
    exact fin _ (by omega) (by unfold sizeM; omega) (by unfold kindM; rw [if_neg (by omega), if_neg (by omega), if_pos (by omega)])
theorem vals_back (l : List Val) (h : ∀ v ∈ l, checkZ v.k v.n v.s = 0) (hn : ∀ v ∈ l, I64 v.n) : ∀ (vs : List Val) (r : List UInt8), valsS (l.map markN) vs (encD l ++ r) = (vs ++ l, r, 0) := by
  induction l with
  | nil => intro vs r; simp [valsS, encD]
  | cons v t ih =>
    intro vs r
    rw [List.map_cons, valsS, encD, List.append_assoc, val_back (h v (by simp)) (hn v (by simp))]
    simp only [if_true]
    rw [ih (fun x hx => h x (by simp [hx])) (fun x hx => hn x (by simp [hx]))]
    simp
theorem checks_all {l : List Val} : checks l = 0 ↔ ∀ v ∈ l, checkZ v.k v.n v.s = 0 := by
  induction l with
  | nil => simp [checks]
  | cons v t ih =>
    rw [checks]
    split
    · rw [ih]; simp_all
    · simp_all
theorem err_all {l : List Val} : errE l = 0 ↔ l.length ≤ 16 ∧ ∀ v ∈ l, checkZ v.k v.n v.s = 0 := by
  rw [errE]
  split
  · simp; omega
  · rw [checks_all]; simp; intro _; omega
/-- Decode inverts Encode, and what follows is seen. -/
theorem dec_enc {l : List Val} (h : errE l = 0) (hn : ∀ v ∈ l, I64 v.n) (r : List UInt8) : decR (encL l ++ r) = if r = [] then (l, 0) else ([], 2) := by
  obtain ⟨h16, hc⟩ := err_all.1 h
  have e : encL l ++ r = putL l.length ++ (encM l ++ (encD l ++ r)) := by simp [encL]
  have g := get_back l.length (by omega) (encM l ++ (encD l ++ r))
  rw [e, decR, g]
  simp only [put_lt, if_true]
  rw [if_neg (by omega), marks_back l hc [] (encD l ++ r), finR]
  simp only [if_true, List.nil_append]
  rw [vals_back l hc hn [] r, lastR]
  simp

theorem marks_form : ∀ (n : Nat) (ms : List Nat) (l : List UInt8) (rs : List Nat) (r : List UInt8), marksS n ms l = (rs, r, 0) →
    ∃ t, rs = ms ++ t ∧ t.length = n ∧ (∀ m ∈ t, m ≤ 2003) ∧ l = (t.map putL).flatten ++ r := by
  intro n
  induction n with
  | zero => intro ms l rs r h; simp [marksS] at h; exact ⟨[], by simp [h.1], rfl, by simp, by simp [h.2]⟩
  | succ n ih =>
    intro ms l rs r h
    rw [marksS] at h
    split at h
    · rename_i h0
      obtain ⟨t, h1, h2, h3, h4⟩ := ih _ _ _ _ h
      unfold markS at h0 h1 h4
      split at h0
      · rename_i hg
        split at h0
        · cases h0
        · rename_i hm
          rw [if_pos hg, if_neg hm] at h1 h4
          simp only at h1 h4
          obtain ⟨f1, f2, f3⟩ := get_form hg
          refine ⟨(getR l).1 :: t, by rw [h1]; simp, by simp [h2], ?_, ?_⟩
          · intro m hm'
            rcases List.mem_cons.1 hm' with rfl | hx
            · omega
            · exact h3 m hx
          · rw [List.map_cons, List.flatten_cons, List.append_assoc, ← h4]; exact f1
      · exact absurd h0 (by assumption)
    · rename_i h0
      simp only [Prod.mk.injEq] at h
      exact absurd h.2.2 h0
theorem val_form {m : Nat} {l : List UInt8} (hm : m ≤ 2003) (h : (valS m l).2.2 = 0) :
    checkZ (valS m l).1.k (valS m l).1.n (valS m l).1.s = 0 ∧ I64 (valS m l).1.n ∧ markN (valS m l).1 = m ∧ l = dataL (valS m l).1 ++ (valS m l).2.1 := by
  by_cases h0 : m = 0
  · subst h0
    exact ⟨rfl, (show I64 0 from ⟨by decide, by decide⟩), rfl, rfl⟩
  by_cases h1 : m = 1
  · subst h1
    rw [valS, if_neg h0, if_pos rfl] at h ⊢
    split at h
    · rename_i hg
      rw [if_pos hg]
      obtain ⟨f1, f2, f3, -⟩ := get_form hg
      have hb := unfold_bd (m := ((getR l).1 : Int)) (by omega) (by omega)
      refine ⟨ok_check ⟨by simp, by simp, fun h => absurd rfl h, fun _ => rfl, Nat.zero_le _⟩, hb, by simp [markN], ?_⟩
      simp only [dataL, if_true]
      rw [fold_unfold (by omega), Int.toNat_natCast]
      exact f1
    · rename_i hg; exact absurd h hg
  · rw [valS, if_neg h0, if_neg h1] at h ⊢
    split at h
    · cases h
    · rename_i hl
      rw [if_neg hl]
      have hs : (ByteArray.mk (l.take (sizeM m)).toArray).size = sizeM m := by
        rw [← size_list]; simp; omega
      have hk : kindM m = 2 ∨ kindM m = 3 := by
        unfold kindM; rw [if_neg h0, if_neg h1]; split
        · exact .inr rfl
        · exact .inl rfl
      have hz : sizeM m ≤ 1000 := by unfold sizeM; omega
      refine ⟨ok_check ⟨?_, ?_, ?_, ?_, ?_⟩, ⟨by simp, by simp⟩, ?_, ?_⟩
      · simp only; omega
      · simp only; omega
      · intro _; rfl
      · simp only; omega
      · simp only [hs]; exact hz
      · simp only [markN, hs]
        rcases hk with hk | hk
        · have hm2 : ¬ m % 2 = 1 := fun e => by rw [kindM, if_neg h0, if_neg h1, if_pos e] at hk; cases hk
          rw [hk, if_neg (by omega), if_pos rfl]; unfold sizeM; omega
        · have hm2 : m % 2 = 1 := Classical.byContradiction fun e => by rw [kindM, if_neg h0, if_neg h1, if_neg e] at hk; cases hk
          rw [hk, if_neg (by omega), if_neg (by omega), if_pos rfl]; unfold sizeM; omega
      · simp only [dataL]
        rw [if_neg (by omega)]
        simp
theorem vals_form : ∀ (ms : List Nat) (vs : List Val) (l : List UInt8) (rs : List Val) (r : List UInt8), (∀ m ∈ ms, m ≤ 2003) → valsS ms vs l = (rs, r, 0) →
    ∃ t, rs = vs ++ t ∧ t.map markN = ms ∧ (∀ v ∈ t, checkZ v.k v.n v.s = 0) ∧ (∀ v ∈ t, I64 v.n) ∧ l = encD t ++ r := by
  intro ms
  induction ms with
  | nil => intro vs l rs r _ h; simp [valsS] at h; exact ⟨[], by simp [h.1], rfl, by simp, by simp, by simp [encD, h.2]⟩
  | cons m ms ih =>
    intro vs l rs r hle h
    rw [valsS] at h
    split at h
    · rename_i h0
      obtain ⟨t, h1, h2, h3, h4, h5⟩ := ih _ _ _ _ (fun x hx => hle x (by simp [hx])) h
      obtain ⟨f1, f2, f3, f4⟩ := val_form (hle m (by simp)) h0
      refine ⟨(valS m l).1 :: t, by rw [h1]; simp, by rw [List.map_cons, f3, h2], ?_, ?_, ?_⟩
      · intro v hv
        rcases List.mem_cons.1 hv with rfl | hx
        · exact f1
        · exact h3 v hx
      · intro v hv
        rcases List.mem_cons.1 hv with rfl | hx
        · exact f2
        · exact h4 v hx
      · rw [encD, List.append_assoc, ← h5]; exact f4
    · rename_i h0
      simp only [Prod.mk.injEq] at h
      exact absurd h.2.2 h0
theorem encM_map (l : List Val) : encM l = ((l.map markN).map putL).flatten := by
  induction l with
  | nil => rfl
  | cons v t ih => rw [encM, ih]; simp
/-- Every encoding that is accepted is the row's own. -/
theorem enc_dec {s : List UInt8} {x : List Val} (h : decR s = (x, 0)) : encL x = s ∧ errE x = 0 ∧ ∀ v ∈ x, I64 v.n := by
  rw [decR] at h
  split at h
  · rename_i hg
    split at h
    · simp at h
    · rename_i h16
      obtain ⟨f1, f2, f3, -⟩ := get_form hg
      obtain ⟨rs, hr⟩ : ∃ rs, marksS (getR s).1 [] (s.drop (getR s).2.1) = rs := ⟨_, rfl⟩
      rw [hr, finR] at h
      split at h
      · rename_i h0
        obtain ⟨t, t1, t2, t3, t4⟩ := marks_form _ _ _ rs.1 rs.2.1 (hr.trans (Prod.ext rfl (Prod.ext rfl h0)))
        obtain ⟨vs, hv⟩ : ∃ vs, valsS rs.1 [] rs.2.1 = vs := ⟨_, rfl⟩
        rw [hv, lastR] at h
        split at h
        · rename_i h1
          split at h
          · rename_i h2
            simp only [Prod.mk.injEq, and_true] at h
            obtain ⟨u, u1, u2, u3, u4, u5⟩ := vals_form _ _ _ vs.1 vs.2.1 (by rw [t1]; simpa using t3) (hv.trans (Prod.ext rfl (Prod.ext rfl h1)))
            have hx : x = u := by rw [← h, u1]; rfl
            subst hx
            have ht : t = x.map markN := by rw [u2, t1]; rfl
            have hl : x.length = (getR s).1 := by rw [← t2, ht, List.length_map]
            refine ⟨?_, err_all.2 ⟨by omega, u3⟩, u4⟩
            rw [encL, hl, encM_map, ← ht]
            rw [h2, List.append_nil] at u5
            rw [← u5, ← t4]
            exact f1.symm
          · simp at h
        · rename_i h1; simp only [Prod.mk.injEq] at h; exact absurd h.2 h1
      · rename_i h1; simp only [Prod.mk.injEq] at h; exact absurd h.2 h1
  · rename_i h1; simp only [Prod.mk.injEq] at h; exact absurd h.2 h1
/-- Beside an error there is no row. -/
theorem dec_none {s : List UInt8} (h : (decR s).2 ≠ 0) : (decR s).1 = [] := by
  have hl : ∀ r : List Val × List UInt8 × Int, (lastR r).2 ≠ 0 → (lastR r).1 = [] := by
    intro r h
    unfold lastR at *
    by_cases e : r.2.2 = 0
    · by_cases e2 : r.2.1 = []
      · simp [e, e2] at h
      · simp [e, e2]
    · simp [e]
  have hf : ∀ r : List Nat × List UInt8 × Int, (finR r).2 ≠ 0 → (finR r).1 = [] := by
    intro r h
    unfold finR at *
    by_cases e : r.2.2 = 0
    · rw [if_pos e] at h ⊢; exact hl _ h
    · rw [if_neg e]
  unfold decR at *
  by_cases e : (getR s).2.2 = 0
  · rw [if_pos e] at h ⊢
    by_cases e2 : 16 < (getR s).1
    · rw [if_pos e2]
    · rw [if_neg e2] at h ⊢; exact hf _ h
  · rw [if_neg e]
/-- Different rows have different encodings. -/
theorem enc_inj {a b : List Val} (ha : errE a = 0) (hb : errE b = 0) (hna : ∀ v ∈ a, I64 v.n) (hnb : ∀ v ∈ b, I64 v.n) (h : encL a = encL b) : a = b := by
  have e := dec_enc ha hna []
  rw [h, dec_enc hb hnb [], if_pos rfl, if_pos rfl] at e
  exact (congrArg Prod.fst e).symm
/-- A proper beginning of an encoding is rejected. -/
theorem dec_cut {a : List Val} (ha : errE a = 0) (hna : ∀ v ∈ a, I64 v.n) (k : Nat) (hk : k < (encL a).length) : (decR ((encL a).take k)).2 ≠ 0 := by
  intro h
  obtain ⟨x, hx⟩ : ∃ x, (decR ((encL a).take k)).1 = x := ⟨_, rfl⟩
  obtain ⟨f1, f2, f3⟩ := enc_dec (x := x) (Prod.ext hx h)
  have e := dec_enc ha hna []
  have g := dec_enc f2 f3 ((encL a).drop k)
  rw [f1, List.take_append_drop, if_neg (by rw [← List.length_eq_zero_iff, List.length_drop]; omega)] at g
  rw [List.append_nil, g, if_pos rfl] at e
  have := congrArg Prod.snd e
  simp at this
end Go.Proofs.Ytpkhbafgepdogaa
