/-
  Layer 10 on lists of bytes: super-journals and trailers, what is read from any bytes, and the laws between them. No program text is walked here.
-/
import Derived.Test.YtjmciknelkodcaaJhTurnM
namespace Go.Proofs.Ytjmciknelkodcaa

def ba (l : List UInt8) : ByteArray := ⟨l.toArray⟩
theorem ba_size (l : List UInt8) : (ba l).size = l.length := by simp [ba, ByteArray.size]
theorem ba_list (l : List UInt8) : (ba l).data.toList = l := rfl
theorem ba_back (s : ByteArray) : ba s.data.toList = s := rfl
theorem ba_inj {a b : List UInt8} : ba a = ba b ↔ a = b := ⟨fun h => by have := congrArg (fun s : ByteArray => s.data.toList) h; exact this, fun h => by rw [h]⟩
theorem ba_app (a b : List UInt8) : ba a ++ ba b = ba (a ++ b) := by
  apply ByteArray.ext
  simp [ba]

def okS (p : List UInt8) : Bool := decide (1 ≤ p.length ∧ p.length ≤ 40)
theorem okS_iff {p : List UInt8} : okS p = true ↔ 1 ≤ p.length ∧ p.length ≤ 40 := by unfold okS; exact decide_eq_true_iff
def txS (p : List UInt8) : List UInt8 := fourL p.length ++ p
def sjF : List UInt8 := [97, 110, 110, 120, 115, 117, 112, 114]
def sjL : List UInt8 := [114, 112, 117, 115, 120, 110, 110, 97]
def stF : List UInt8 := [97, 110, 110, 120, 110, 97, 109, 101]
def stL : List UInt8 := [101, 109, 97, 110, 120, 110, 110, 97]
def bdS : List (List UInt8) → List UInt8
  | [] => []
  | p :: t => txS p ++ bdS t
def hdS (L : List (List UInt8)) : List UInt8 := sjF ++ fourL L.length ++ bdS L
def seS (s : List UInt8) (k : Int) (m : List UInt8) : List UInt8 := s ++ fourL (sumZ k s).toNat ++ m
def ckS (L : List (List UInt8)) : Int := if L.length < 2 ∨ 12 < L.length then 18 else if L.all okS = false then 13 else if L.Nodup then 0 else 9
def encS (L : List (List UInt8)) : List UInt8 × Int := if ckS L = 0 then (seS (hdS L) 11 sjL, 0) else ([], ckS L)
def trS (p : List UInt8) : List UInt8 × Int := if okS p = true then (seS (stF ++ txS p) 13 stL, 0) else ([], 13)

def pthP (l : List UInt8) : List UInt8 × List UInt8 := if 40 < nmL l then ([], l.drop 4) else ((l.drop 4).take (nmL l).toNat, (l.drop 4).drop (nmL l).toNat)
def pths : Nat → List UInt8 → List (List UInt8) × List UInt8
  | 0, r => ([], r)
  | k + 1, r => ((pths k r).1 ++ [(pthP (pths k r).2).1], (pthP (pths k r).2).2)
def flP (s : List UInt8) : List (List UInt8) := if 12 < nmL (s.drop 8) then [] else (pths (nmL (s.drop 8)).toNat (s.drop 12)).1
def nmP (s : List UInt8) : List UInt8 := (pthP (s.drop 8)).1
def tkD (s : List UInt8) (a : Int) : List UInt8 × Int :=
  if a < 0 ∨ s.length < a then ([], -1)
  else if s.length - a < 4 ∨ 40 < nmL (s.drop a.toNat) ∨ s.length - a - 4 < nmL (s.drop a.toNat) then ([], -1)
  else ((s.drop (a.toNat + 4)).take (nmL (s.drop a.toNat)).toNat, a + 4 + nmL (s.drop a.toNat))
def tks (s : List UInt8) : Nat → List (List UInt8) × Int
  | 0 => ([], 12)
  | k + 1 => ((tks s k).1 ++ [(tkD s (tks s k).2).1], (tkD s (tks s k).2).2)
def flD (s : List UInt8) : List (List UInt8) := (tks s (min (nmL (s.drop 8)).toNat 13)).1
def decS (s : List UInt8) : List (List UInt8) × Int := if encS (flP s) = (s, 0) then (flP s, 0) else ([], 4)
def decD (s : List UInt8) : List (List UInt8) × Int := if s.length < 12 then ([], 4) else if encS (flD s) = (s, 0) then (flD s, 0) else ([], 4)
def namS (s : List UInt8) : List UInt8 × Int := if trS (nmP s) = (s, 0) then (nmP s, 0) else ([], 4)
def namD (s : List UInt8) : List UInt8 × Int := if trS (tkD s 8).1 = (s, 0) then ((tkD s 8).1, 0) else ([], 4)

theorem txS_len (p : List UInt8) : (txS p).length = 4 + p.length := by rw [txS, List.length_append, four_len]
theorem seS_len (s : List UInt8) (k : Int) (m : List UInt8) : (seS s k m).length = s.length + 4 + m.length := by rw [seS, List.length_append, List.length_append, four_len]
theorem bdS_app (a b : List (List UInt8)) : bdS (a ++ b) = bdS a ++ bdS b := by
  induction a with
  | nil => rfl
  | cons p t ih => rw [List.cons_append, bdS, bdS, ih, List.append_assoc]
theorem bdS_len (L : List (List UInt8)) (h : ∀ p ∈ L, p.length ≤ 40) : (bdS L).length ≤ 44 * L.length := by
  induction L with
  | nil => exact Nat.le_refl _
  | cons p t ih =>
    have h1 := h p (List.mem_cons_self ..)
    have h2 := ih fun q hq => h q (List.mem_cons_of_mem _ hq)
    rw [bdS, List.length_append, txS_len, List.length_cons]; omega
theorem hdS_len (L : List (List UInt8)) : (hdS L).length = 12 + (bdS L).length := by rw [hdS, List.length_append, List.length_append, four_len]; rfl
theorem ckS_ok {L : List (List UInt8)} : ckS L = 0 ↔ 2 ≤ L.length ∧ L.length ≤ 12 ∧ (∀ p ∈ L, okS p = true) ∧ L.Nodup := by
  unfold ckS
  split
  · exact ⟨fun h => absurd h (by decide), fun h => by omega⟩
  · split
    · rename_i h; rw [List.all_eq_false] at h
      obtain ⟨p, hp, hq⟩ := h
      exact ⟨fun h => absurd h (by decide), fun h => absurd (h.2.2.1 p hp) hq⟩
    · rename_i h
      have h' : L.all okS = true := by simpa using h
      rw [List.all_eq_true] at h'
      split
      · rename_i hn; exact ⟨fun _ => ⟨by omega, by omega, h', hn⟩, fun _ => rfl⟩
      · rename_i hn; exact ⟨fun h => absurd h (by decide), fun h => absurd h.2.2.2 hn⟩
theorem enc_ok {L : List (List UInt8)} {s : List UInt8} (h : encS L = (s, 0)) : ckS L = 0 ∧ s = seS (hdS L) 11 sjL := by
  unfold encS at h
  split at h
  · rename_i hk; exact ⟨hk, (Prod.mk.inj h).1.symm⟩
  · rename_i hk; exact absurd (Prod.mk.inj h).2 hk
theorem tr_ok {p s : List UInt8} (h : trS p = (s, 0)) : okS p = true ∧ s = seS (stF ++ txS p) 13 stL := by
  unfold trS at h
  split at h
  · rename_i hk; exact ⟨hk, (Prod.mk.inj h).1.symm⟩
  · exact absurd (Prod.mk.inj h).2 (by decide)

theorem nm_tx {p : List UInt8} (h : p.length ≤ 4294967295) (m : List UInt8) : nmL (txS p ++ m) = p.length := by
  rw [txS, List.append_assoc]
  exact nm_four (n := (p.length : Int)) (by omega) (by omega) _
theorem tx_drop (p m : List UInt8) : (txS p ++ m).drop 4 = p ++ m := by
  rw [txS, List.append_assoc, List.drop_append_of_le_length (by rw [four_len]; omega), List.drop_of_length_le (by rw [four_len]; omega), List.nil_append]
theorem pth_tx {p : List UInt8} (h : p.length ≤ 40) (m : List UInt8) : pthP (txS p ++ m) = (p, m) := by
  have e := nm_tx (p := p) (by omega) m
  rw [pthP, e, if_neg (by omega), tx_drop]
  simp
theorem bd_drop {L : List (List UInt8)} {k : Nat} (hk : k < L.length) : bdS (L.drop k) = txS L[k] ++ bdS (L.drop (k + 1)) := by
  rw [List.drop_eq_getElem_cons hk, bdS]
theorem pths_bd {L : List (List UInt8)} (h : ∀ p ∈ L, p.length ≤ 40) (m : List UInt8) (k : Nat) (hk : k ≤ L.length) : pths k (bdS L ++ m) = (L.take k, bdS (L.drop k) ++ m) := by
  induction k with
  | zero => rfl
  | succ k ih =>
    have ih := ih (by omega)
    rw [pths, ih, bd_drop (by omega : k < L.length), List.append_assoc, pth_tx (h _ (List.getElem_mem _)), List.take_succ_eq_append_getElem (by omega)]
theorem tkD_at {s pre p m : List UInt8} (hs : s = pre ++ (txS p ++ m)) (h : p.length ≤ 40) : tkD s pre.length = (p, (((pre ++ txS p).length : Nat) : Int)) := by
  have e1 : s.drop pre.length = txS p ++ m := by rw [hs]; simp
  have e2 : s.drop (pre.length + 4) = p ++ m := by rw [← List.drop_drop, e1, tx_drop]
  have hl : s.length = pre.length + (4 + p.length + m.length) := by rw [hs, List.length_append, List.length_append, txS_len]
  have e := nm_tx (p := p) (by omega) m
  rw [tkD, if_neg (by omega), Int.toNat_natCast, e1, e, if_neg (by omega), Int.toNat_natCast, e2, List.length_append, txS_len]
  refine Prod.ext ?_ ?_
  · simp
  · show (pre.length : Int) + 4 + p.length = ((pre.length + (4 + p.length) : Nat) : Int)
    omega
theorem tks_bd {s pre : List UInt8} {L : List (List UInt8)} {m : List UInt8} (hs : s = pre ++ (bdS L ++ m)) (hp : pre.length = 12) (h : ∀ p ∈ L, p.length ≤ 40) (k : Nat) (hk : k ≤ L.length) : tks s k = (L.take k, (((pre ++ bdS (L.take k)).length : Nat) : Int)) := by
  induction k with
  | zero =>
    rw [tks, List.take_zero, bdS, List.append_nil, hp]; rfl
  | succ k ih =>
    have ih := ih (by omega)
    have hk' : k < L.length := by omega
    have e : bdS L = bdS (L.take k) ++ (txS L[k] ++ bdS (L.drop (k + 1))) := by rw [← bd_drop hk', ← bdS_app, List.take_append_drop]
    have := tkD_at (s := s) (pre := pre ++ bdS (L.take k)) (p := L[k]) (m := bdS (L.drop (k + 1)) ++ m) (by rw [hs, e]; simp only [List.append_assoc]) (h _ (List.getElem_mem _))
    rw [tks, ih, this, List.take_succ_eq_append_getElem hk', bdS_app, bdS, bdS, List.append_nil, List.append_assoc]
/-- What is encoded is read back, both ways. -/
theorem fl_enc {L : List (List UInt8)} {s : List UInt8} (h : encS L = (s, 0)) : 12 ≤ s.length ∧ flP s = L ∧ flD s = L := by
  obtain ⟨hk, hs⟩ := enc_ok h
  obtain ⟨h2, h12, hok, -⟩ := ckS_ok.1 hk
  have h40 : ∀ p ∈ L, p.length ≤ 40 := fun p hp => (okS_iff.1 (hok p hp)).2
  obtain ⟨m, hm⟩ : ∃ m, m = fourL (sumZ 11 (hdS L)).toNat ++ sjL := ⟨_, rfl⟩
  have e : s = (sjF ++ fourL L.length) ++ (bdS L ++ m) := by
    have e0 : seS (hdS L) 11 sjL = hdS L ++ m := by rw [seS, hm, List.append_assoc]
    rw [hs, e0, hdS, List.append_assoc]
  have hp : (sjF ++ fourL L.length).length = 12 := rfl
  have e8 : s.drop 8 = fourL L.length ++ (bdS L ++ m) := by rw [e, List.append_assoc]; rfl
  have e12 : s.drop 12 = bdS L ++ m := by rw [e]; rfl
  have en : nmL (s.drop 8) = L.length := by rw [e8]; exact nm_four (n := (L.length : Int)) (by omega) (by omega) _
  refine ⟨?_, ?_, ?_⟩
  · rw [e, List.length_append, hp]; omega
  · rw [flP, en, if_neg (by omega), Int.toNat_natCast, e12, pths_bd h40 m _ (Nat.le_refl _), List.take_length]
  · rw [flD, en, Int.toNat_natCast, Nat.min_eq_left (by omega), tks_bd e hp h40 _ (Nat.le_refl _), List.take_length]
theorem dec_enc {L : List (List UInt8)} {s : List UInt8} (h : encS L = (s, 0)) : decS s = (L, 0) := by
  rw [decS, (fl_enc h).2.1, if_pos h]
theorem dec_none {s : List UInt8} (h : ∀ L, encS L ≠ (s, 0)) : decS s = ([], 4) := by rw [decS, if_neg (h _)]
theorem decD_eq (s : List UInt8) : decD s = decS s := by
  by_cases h : ∃ L, encS L = (s, 0)
  · obtain ⟨L, h⟩ := h
    obtain ⟨h1, h2, h3⟩ := fl_enc h
    rw [decD, if_neg (by omega), h3, if_pos h, dec_enc h]
  · have h' : ∀ L, encS L ≠ (s, 0) := fun L e => h ⟨L, e⟩
    rw [dec_none h', decD, if_neg (h' _)]
    split <;> rfl
theorem nam_tr {p s : List UInt8} (h : trS p = (s, 0)) : nmP s = p ∧ (tkD s 8).1 = p := by
  obtain ⟨hk, hs⟩ := tr_ok h
  have h40 := (okS_iff.1 hk).2
  obtain ⟨m, hm⟩ : ∃ m, m = fourL (sumZ 13 (stF ++ txS p)).toNat ++ stL := ⟨_, rfl⟩
  have e : s = stF ++ (txS p ++ m) := by rw [hs, seS, hm]; simp only [List.append_assoc]
  have e8 : s.drop 8 = txS p ++ m := by rw [e]; rfl
  exact ⟨by rw [nmP, e8, pth_tx h40], by have := tkD_at (pre := stF) e h40; exact congrArg Prod.fst this⟩
theorem named_tr {p s : List UInt8} (h : trS p = (s, 0)) : namS s = (p, 0) := by rw [namS, (nam_tr h).1, if_pos h]
theorem named_none {s : List UInt8} (h : ∀ p, trS p ≠ (s, 0)) : namS s = ([], 4) := by rw [namS, if_neg (h _)]
theorem namD_eq (s : List UInt8) : namD s = namS s := by
  by_cases h : ∃ p, trS p = (s, 0)
  · obtain ⟨p, h⟩ := h
    rw [namD, (nam_tr h).2, if_pos h, named_tr h]
  · have h' : ∀ p, trS p ≠ (s, 0) := fun p e => h ⟨p, e⟩
    rw [named_none h', namD, if_neg (h' _)]

/-- What ends with a nought is no encoding. -/
theorem se_last {t : List UInt8} (s : List UInt8) (k : Int) (m : List UInt8) (x : UInt8) (h : seS s k (m ++ [x]) = t) : t.getLast? = some x := by
  rw [← h, seS, ← List.append_assoc]; simp
theorem zeros_last {l : List UInt8} {n : Nat} (h : 0 < n) : (l ++ List.replicate n 0).getLast? = some (0 : UInt8) := by
  obtain ⟨n, rfl⟩ : ∃ m, n = m + 1 := ⟨n - 1, by omega⟩
  rw [List.replicate_succ', ← List.append_assoc]; simp
theorem dec_torn {l : List UInt8} {n : Nat} (h : 0 < n) : decS (l ++ List.replicate n 0) = ([], 4) := by
  refine dec_none fun L e => ?_
  have := se_last _ _ [114, 112, 117, 115, 120, 110, 110] 97 (enc_ok e).2.symm
  rw [zeros_last h] at this
  exact absurd (Option.some.inj this) (by decide)
theorem named_torn {l : List UInt8} {n : Nat} (h : 0 < n) : namS (l ++ List.replicate n 0) = ([], 4) := by
  refine named_none fun p e => ?_
  have := se_last _ _ [101, 109, 97, 110, 120, 110, 110] 97 (tr_ok e).2.symm
  rw [zeros_last h] at this
  exact absurd (Option.some.inj this) (by decide)
theorem dec_empty : decS [] = ([], 4) := by
  refine dec_none fun L e => ?_
  have := congrArg List.length (enc_ok e).2
  rw [seS_len, List.length_nil] at this
  omega
theorem named_empty : namS [] = ([], 4) := by
  refine named_none fun L e => ?_
  have := congrArg List.length (tr_ok e).2
  rw [seS_len, List.length_nil] at this
  omega

/-- One byte of what is sealed. -/
theorem se_turned {s t : List UInt8} {k : Int} {m : List UInt8} {i : Nat} {c : UInt8} (hi : i < (seS t k m).length) (hc : c ≠ (seS t k m)[i]) : seS s k m ≠ (seS t k m).set i c := by
  intro h
  have hl := congrArg List.length h
  rw [List.length_set, seS_len, seS_len] at hl
  have hst : s.length = t.length := by omega
  rw [seS_len] at hi
  have b1 := sumZ_bd k s; have b2 := sumZ_bd k t
  have four_inj : ∀ {a b : Int}, 0 ≤ a → a ≤ 4294967295 → 0 ≤ b → b ≤ 4294967295 → fourL a.toNat = fourL b.toNat → a = b := by
    intro a b a0 a1 q0 q1 e
    have x1 := nm_four a0 a1 []
    have x2 := nm_four q0 q1 []
    rw [e] at x1
    exact x1.symm.trans x2
  by_cases c1 : i < t.length
  · have e1 : s = t.set i c := by
      have := congrArg (List.take t.length) h
      rw [List.take_set, seS, seS, List.append_assoc, List.append_assoc, List.take_append_of_le_length (by omega), List.take_append_of_le_length (by omega), List.take_of_length_le (by omega), List.take_of_length_le (by omega)] at this
      exact this
    have e2 : fourL (sumZ k s).toNat ++ m = fourL (sumZ k t).toNat ++ m := by
      have := congrArg (List.drop t.length) h
      rw [List.drop_set_of_lt c1, seS, seS, List.append_assoc, List.append_assoc, List.drop_append_of_le_length (by omega), List.drop_append_of_le_length (by omega), List.drop_of_length_le (by omega), List.drop_of_length_le (by omega), List.nil_append, List.nil_append] at this
      exact this
    have e3 := four_inj b1.1 b1.2 b2.1 b2.2 (List.append_cancel_right e2)
    rw [e1] at e3
    have hg : t[i] = (seS t k m)[i]'(by rw [seS_len]; omega) := by
      simp only [seS, List.append_assoc]
      rw [List.getElem_append_left c1]
    exact sum_turned k t i c c1 (fun e => hc (e.trans hg)) e3
  · have e1 : s = t := by
      have := congrArg (List.take t.length) h
      rw [List.take_set_of_le (by omega), seS, seS, List.append_assoc, List.append_assoc, List.take_append_of_le_length (by omega), List.take_append_of_le_length (by omega), List.take_of_length_le (by omega), List.take_of_length_le (by omega)] at this
      exact this
    rw [e1] at h
    have := congrArg (fun l : List UInt8 => l[i]?) h
    rw [List.getElem?_set_self (by rw [seS_len]; omega), List.getElem?_eq_getElem (by rw [seS_len]; omega)] at this
    exact hc (Option.some.inj this).symm
theorem dec_turned {L : List (List UInt8)} {s : List UInt8} (h : encS L = (s, 0)) {i : Nat} (hi : i < s.length) {c : UInt8} (hc : c ≠ s[i]) : decS (s.set i c) = ([], 4) := by
  obtain ⟨-, rfl⟩ := enc_ok h
  exact dec_none fun L' e => se_turned hi hc (enc_ok e).2.symm
theorem named_turned {p s : List UInt8} (h : trS p = (s, 0)) {i : Nat} (hi : i < s.length) {c : UInt8} (hc : c ≠ s[i]) : namS (s.set i c) = ([], 4) := by
  obtain ⟨-, rfl⟩ := tr_ok h
  exact named_none fun p' e => se_turned hi hc (tr_ok e).2.symm
end Go.Proofs.Ytjmciknelkodcaa
