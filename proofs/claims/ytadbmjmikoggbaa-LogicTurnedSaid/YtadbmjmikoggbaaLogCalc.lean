/-
  Layer 6, the pieces of Binary that make values: divide, calculate, concatenate: each returns its plain function and changes nothing that was there. Condition: the numbers are ints, the strings have at most 2^47 - 4096 bytes.
-/
import Derived.Test.YtadbmjmikoggbaaLogBin
namespace Go.Proofs.Ytadbmjmikoggbaa
open Go.RowKit

/-- A value and an error. -/
structure Out where
  k : Int
  n : Int
  s : ByteArray
  e : Int
def fitR (z : Int) : Out := ⟨if fitE z = 0 then 1 else 0, fitN z, ⟨#[]⟩, fitE z⟩
def nulR (e : Int) : Out := ⟨0, 0, ⟨#[]⟩, e⟩
def divR (op : ByteArray) (a b : Int) : Out := if b = 0 then nulR 0 else if op = ⟨#[37]⟩ then fitR (a.tmod b) else fitR (a.tdiv b)
def calcR (op : ByteArray) (a b : Int) : Out :=
  if op = ⟨#[43]⟩ then fitR (a + b) else if op = ⟨#[45]⟩ then fitR (a - b) else if op = ⟨#[42]⟩ then fitR (a * b) else divR op a b
def catR (k1 : Int) (s1 : ByteArray) (k2 : Int) (s2 : ByteArray) : Out :=
  if k1 ≠ 2 ∨ k2 ≠ 2 then nulR 14 else if 1000 < s1.size + s2.size then nulR 12 else ⟨2, 0, s1 ++ s2, 0⟩
theorem fit_in {z : Int} (h : -9223372036854775808 ≤ z ∧ z ≤ 9223372036854775807) : fitN z = z ∧ fitE z = 0 := ⟨by rw [fitN, if_pos h], by rw [fitE, if_pos h]⟩
theorem fitR_in {z : Int} (h : -9223372036854775808 ≤ z ∧ z ≤ 9223372036854775807) : fitR z = ⟨1, z, ⟨#[]⟩, 0⟩ := by
  rw [fitR, (fit_in h).1, (fit_in h).2]; rfl
theorem fit_n (z : Int) : (if fitE z = 0 then fitN z else 0) = fitN z := by unfold fitE fitN; split <;> simp
theorem lfit_any (z p q : Int) (w : World) (hp : p = fitN z) (hq : q = fitE z) : Calls Try.prog 37 #[.int .i64 p, .int .i64 q] w fun e' w' => e' = .returned (.tuple #[.agg #[.int .i64 (fitR z).k, .int .i64 (fitR z).n, .string (fitR z).s], .int .i64 (fitR z).e]) ∧ Below w.heap.size w w' := by
  have h := lnumber_any p q w
  subst hp hq
  rw [fit_n] at h
  exact h
theorem tdiv_fits {a b : Int} (ha : -9223372036854775808 ≤ a ∧ a ≤ 9223372036854775807) (h0 : b ≠ 0) (h1 : b ≠ -1) : -9223372036854775808 ≤ a.tdiv b ∧ a.tdiv b ≤ 9223372036854775807 := by
  have hq : (a.tdiv b).natAbs = a.natAbs / b.natAbs := Int.natAbs_tdiv _ _
  by_cases hb : b = 1
  · subst hb; rw [Int.tdiv_one]; exact ha
  · have : a.natAbs / b.natAbs ≤ a.natAbs / 2 := Nat.div_le_div_left (by omega) (by omega)
    omega
theorem tmod_fits {a b : Int} (hb : -9223372036854775808 ≤ b ∧ b ≤ 9223372036854775807) (h0 : b ≠ 0) : -9223372036854775808 ≤ a.tmod b ∧ a.tmod b ≤ 9223372036854775807 := by
  have hr : (a.tmod b).natAbs < b.natAbs := by rw [Int.natAbs_tmod]; exact Nat.mod_lt _ (by omega)
  omega
theorem tdiv_minus (a : Int) : a.tdiv (-1) = a * -1 := by rw [Int.tdiv_neg, Int.tdiv_one]; omega
/-- The complement of an int. -/
theorem i64_compl (b : Int) (hb : -9223372036854775808 ≤ b ∧ b ≤ 9223372036854775807) : bits .xor .i64 (-1) b = -1 - b := by
  show IntKind.i64.wrap ((BitVec.ofInt 64 (-1) ^^^ BitVec.ofInt 64 b).toNat : Int) = _
  have h1 : BitVec.ofInt 64 (-1) = BitVec.allOnes 64 := by decide
  have h2 : (BitVec.ofInt 64 b).toNat = (b % 18446744073709551616).toNat := BitVec.toNat_ofInt b
  rw [h1, BitVec.allOnes_xor, BitVec.toNat_not, h2, IntKind.wrap_i64]
  omega
/-- A result's cell, behind a call that made memory behind it. -/
theorem res_row {w w' : World} (hb : Below (w.alloc (.cells #[.int .i64 0, .int .i64 0, .string ⟨#[]⟩] 23)).heap.size (w.alloc (.cells #[.int .i64 0, .int .i64 0, .string ⟨#[]⟩] 23)) w') :
    Blk w' w.heap.size 23 #[.int .i64 0, .int .i64 0, .string ⟨#[]⟩] ∧ Hid (Below w.heap.size w w') := ⟨blk_below (blk_new _ _ _) hb, Lib.hid (blw_new hb)⟩

set_option maxHeartbeats 1000000 in
theorem divide_any (op : ByteArray) (a b : Int) (w : World) (ha : -9223372036854775808 ≤ a ∧ a ≤ 9223372036854775807) (hb : -9223372036854775808 ≤ b ∧ b ≤ 9223372036854775807) (hop : op = ⟨#[47]⟩ ∨ op = ⟨#[37]⟩) :
    Calls Try.prog 49 #[.string op, .int .i64 a, .int .i64 b] w fun e w' => e = .returned (.tuple #[.agg #[.int .i64 (divR op a b).k, .int .i64 (divR op a b).n, .string (divR op a b).s], .int .i64 (divR op a b).e]) ∧ Below w.heap.size w w' := by
  by_cases b0 : b = 0
  · subst b0
    rw [show divR op a 0 = nulR 0 from by rw [divR, if_pos rfl]]
    clear ha hb
    rcases hop with rfl | rfl
    all_goals
      go_enter Try.func49, Try.ntmps49
      go_wp2
      refine bodyPost_ret (results_pair rfl _ _ w.heap.size _ _ _ rfl (blk_new _ _ _) Try.underlying23 rfl (by kernel_rfl)) rfl ?_
      exact ⟨rfl, blw1 _ _⟩
  have t0 : (b == 0) = false := by simpa using b0
  rcases hop with rfl | rfl
  · by_cases b1 : b = -1
    · subst b1
      obtain ⟨p, hp⟩ : ∃ p, p = fitN (a * -1) := ⟨_, rfl⟩
      obtain ⟨q, hq⟩ : ∃ q, q = fitE (a * -1) := ⟨_, rfl⟩
      rw [show divR ⟨#[47]⟩ a (-1) = fitR (a * -1) from by rw [divR, if_neg (by omega), if_neg (by decide), tdiv_minus]]
      obtain ⟨r, hr⟩ : ∃ r, r = fitR (a * -1) := ⟨_, rfl⟩
      rw [← hr]
      have HP := Lib.hid hp; have HQ := Lib.hid hq; have HA := Lib.hid ha; have HR := Lib.hid hr
      clear hp hq ha hb b0 hr
      go_enter Try.func49, Try.ntmps49
      go_wp2_with fail
      refine (mul_any a (-1) _ HA.out (by omega)).mono ?_
      rw [← HP.out, ← HQ.out]
      rintro e w' ⟨rfl, rfl⟩
      go_wp2_with fail
      refine (lfit_any (a * -1) p q _ HP.out HQ.out).mono ?_
      rw [← HR.out]
      rintro e w' ⟨rfl, hb⟩
      obtain ⟨hrow, HB⟩ := res_row hb
      clear hb
      have f0 := blk_frozen hrow 0; have f1 := blk_frozen hrow 1; have f2 := blk_frozen hrow 2
      have c0 := blk_cell hrow 0 rfl; have c1 := blk_cell hrow 1 rfl; have c2 := blk_cell hrow 2 rfl
      go_wp2_with fail
      refine bodyPost_ret (results_pair rfl _ _ w.heap.size _ _ _ rfl (blk_set (blk_set (blk_set hrow 0 _) 1 _) 2 _) Try.underlying23 rfl (by kernel_rfl)) rfl ?_
      exact ⟨rfl, blw_set (blw_set (blw_set HB.out (by omega) _ _) (by omega) _ _) (by omega) _ _⟩
    · have t1 : (b == -1) = false := by simpa using b1
      have hf := tdiv_fits ha b0 b1
      obtain ⟨z, hz⟩ : ∃ z, z = a.tdiv b := ⟨_, rfl⟩
      have hw : wrap64 (a.tdiv b) = z := by rw [mul_wrap hf, hz]
      rw [show divR ⟨#[47]⟩ a b = ⟨1, z, ⟨#[]⟩, 0⟩ from by rw [divR, if_neg b0, if_neg (by decide), ← hz, fitR_in (hz ▸ hf)]]
      clear hf hz ha hb b1
      go_enter Try.func49, Try.ntmps49
      go_wp2_with fail
      refine (lnum_any z _).mono ?_
      rintro e w' ⟨rfl, hb⟩
      obtain ⟨hrow, HB⟩ := res_row hb
      clear hb
      have f0 := blk_frozen hrow 0; have f1 := blk_frozen hrow 1; have f2 := blk_frozen hrow 2
      have c0 := blk_cell hrow 0 rfl; have c1 := blk_cell hrow 1 rfl; have c2 := blk_cell hrow 2 rfl
      go_wp2_with fail
      refine bodyPost_ret (results_pair rfl _ _ w.heap.size _ _ _ rfl (blk_set (blk_set (blk_set hrow 0 _) 1 _) 2 _) Try.underlying23 rfl (by kernel_rfl)) rfl ?_
      exact ⟨rfl, blw_set (blw_set (blw_set HB.out (by omega) _ _) (by omega) _ _) (by omega) _ _⟩
  · have hf := tmod_fits (a := a) hb b0
    obtain ⟨z, hz⟩ : ∃ z, z = a.tmod b := ⟨_, rfl⟩
    have hw : wrap64 (a.tmod b) = z := by rw [mul_wrap hf, hz]
    rw [show divR ⟨#[37]⟩ a b = ⟨1, z, ⟨#[]⟩, 0⟩ from by rw [divR, if_neg b0, if_pos rfl, ← hz, fitR_in (hz ▸ hf)]]
    have hz' := hz.symm
    clear hf hz ha hb
    go_enter Try.func49, Try.ntmps49
    go_wp2_with fail
    refine (lnum_any z _).mono ?_
    rintro e w' ⟨rfl, hb⟩
    obtain ⟨hrow, HB⟩ := res_row hb
    clear hb
    have f0 := blk_frozen hrow 0; have f1 := blk_frozen hrow 1; have f2 := blk_frozen hrow 2
    have c0 := blk_cell hrow 0 rfl; have c1 := blk_cell hrow 1 rfl; have c2 := blk_cell hrow 2 rfl
    go_wp2_with fail
    refine bodyPost_ret (results_pair rfl _ _ w.heap.size _ _ _ rfl (blk_set (blk_set (blk_set hrow 0 _) 1 _) 2 _) Try.underlying23 rfl (by kernel_rfl)) rfl ?_
    exact ⟨rfl, blw_set (blw_set (blw_set HB.out (by omega) _ _) (by omega) _ _) (by omega) _ _⟩
set_option maxHeartbeats 1000000 in
theorem calc_add (a b : Int) (w : World) (ha : -9223372036854775808 ≤ a ∧ a ≤ 9223372036854775807) (hb : -9223372036854775808 ≤ b ∧ b ≤ 9223372036854775807) :
    Calls Try.prog 41 #[.string ⟨#[43]⟩, .int .i64 a, .int .i64 b] w fun e w' => e = .returned (.tuple #[.agg #[.int .i64 (fitR (a + b)).k, .int .i64 (fitR (a + b)).n, .string (fitR (a + b)).s], .int .i64 (fitR (a + b)).e]) ∧ Below w.heap.size w w' := by
  obtain ⟨p, hp⟩ : ∃ p, p = fitN (a + b) := ⟨_, rfl⟩
  obtain ⟨q, hq⟩ : ∃ q, q = fitE (a + b) := ⟨_, rfl⟩
  obtain ⟨r, hr⟩ : ∃ r, r = fitR (a + b) := ⟨_, rfl⟩
  rw [← hr]
  have HP := Lib.hid hp; have HQ := Lib.hid hq; have HA := Lib.hid ha; have HBB := Lib.hid hb; have HR := Lib.hid hr
  clear hp hq ha hb hr
  have HCC : ∀ w, Calls Try.prog 35 #[.int .i64 a, .int .i64 b, .int .i64 0] w fun e w' => e = .returned (.tuple #[.int .i64 p, .int .i64 q]) ∧ w = w' := by
    intro w
    have hc := carry_any a b 0 w HA.out HBB.out (by omega)
    rw [Int.add_zero, ← HP.out, ← HQ.out] at hc
    exact hc
  have HCC := Lib.hid HCC
  go_enter Try.func41, Try.ntmps41
  go_wp2_with fail
  refine (HCC.out _).mono ?_
  rintro e w' ⟨rfl, rfl⟩
  go_wp2_with fail
  refine (lfit_any (a + b) p q _ HP.out HQ.out).mono ?_
  rw [← HR.out]
  rintro e w' ⟨rfl, hb⟩
  obtain ⟨hrow, HB⟩ := res_row hb
  clear hb
  have f0 := blk_frozen hrow 0; have f1 := blk_frozen hrow 1; have f2 := blk_frozen hrow 2
  have c0 := blk_cell hrow 0 rfl; have c1 := blk_cell hrow 1 rfl; have c2 := blk_cell hrow 2 rfl
  go_wp2_with fail
  refine bodyPost_ret (results_pair rfl _ _ w.heap.size _ _ _ rfl (blk_set (blk_set (blk_set hrow 0 _) 1 _) 2 _) Try.underlying23 rfl (by kernel_rfl)) rfl ?_
  exact ⟨rfl, blw_set (blw_set (blw_set HB.out (by omega) _ _) (by omega) _ _) (by omega) _ _⟩
set_option maxHeartbeats 1000000 in
theorem calc_sub (a b : Int) (w : World) (ha : -9223372036854775808 ≤ a ∧ a ≤ 9223372036854775807) (hb : -9223372036854775808 ≤ b ∧ b ≤ 9223372036854775807) :
    Calls Try.prog 41 #[.string ⟨#[45]⟩, .int .i64 a, .int .i64 b] w fun e w' => e = .returned (.tuple #[.agg #[.int .i64 (fitR (a - b)).k, .int .i64 (fitR (a - b)).n, .string (fitR (a - b)).s], .int .i64 (fitR (a - b)).e]) ∧ Below w.heap.size w w' := by
  obtain ⟨p, hp⟩ : ∃ p, p = fitN (a - b) := ⟨_, rfl⟩
  obtain ⟨q, hq⟩ : ∃ q, q = fitE (a - b) := ⟨_, rfl⟩
  obtain ⟨r, hr⟩ : ∃ r, r = fitR (a - b) := ⟨_, rfl⟩
  rw [← hr]
  have HP := Lib.hid hp; have HQ := Lib.hid hq; have HA := Lib.hid ha; have HBB := Lib.hid hb; have HR := Lib.hid hr
  clear hp hq ha hb hr
  obtain ⟨c, hc⟩ : ∃ c, c = -1 - b := ⟨_, rfl⟩
  have e1 : bits .xor .i64 (-1) b = c := by rw [i64_compl b HBB.out, hc]
  have HC := Lib.hid (show (-9223372036854775808 ≤ c ∧ c ≤ 9223372036854775807) ∧ a + c + 1 = a - b from by have := HBB.out; omega)
  clear hc
  have HCC : ∀ w, Calls Try.prog 35 #[.int .i64 a, .int .i64 c, .int .i64 1] w fun e w' => e = .returned (.tuple #[.int .i64 p, .int .i64 q]) ∧ w = w' := by
    intro w
    have hc := carry_any a c 1 w HA.out HC.out.1 (by omega)
    rw [HC.out.2, ← HP.out, ← HQ.out] at hc
    exact hc
  have HCC := Lib.hid HCC
  go_enter Try.func41, Try.ntmps41
  go_wp2_with fail
  refine (HCC.out _).mono ?_
  rintro e w' ⟨rfl, rfl⟩
  go_wp2_with fail
  refine (lfit_any (a - b) p q _ HP.out HQ.out).mono ?_
  rw [← HR.out]
  rintro e w' ⟨rfl, hb⟩
  obtain ⟨hrow, HB⟩ := res_row hb
  clear hb
  have f0 := blk_frozen hrow 0; have f1 := blk_frozen hrow 1; have f2 := blk_frozen hrow 2
  have c0 := blk_cell hrow 0 rfl; have c1 := blk_cell hrow 1 rfl; have c2 := blk_cell hrow 2 rfl
  go_wp2_with fail
  refine bodyPost_ret (results_pair rfl _ _ w.heap.size _ _ _ rfl (blk_set (blk_set (blk_set hrow 0 _) 1 _) 2 _) Try.underlying23 rfl (by kernel_rfl)) rfl ?_
  exact ⟨rfl, blw_set (blw_set (blw_set HB.out (by omega) _ _) (by omega) _ _) (by omega) _ _⟩
set_option maxHeartbeats 1000000 in
theorem calc_mul (a b : Int) (w : World) (ha : -9223372036854775808 ≤ a ∧ a ≤ 9223372036854775807) (hb : -9223372036854775808 ≤ b ∧ b ≤ 9223372036854775807) :
    Calls Try.prog 41 #[.string ⟨#[42]⟩, .int .i64 a, .int .i64 b] w fun e w' => e = .returned (.tuple #[.agg #[.int .i64 (fitR (a * b)).k, .int .i64 (fitR (a * b)).n, .string (fitR (a * b)).s], .int .i64 (fitR (a * b)).e]) ∧ Below w.heap.size w w' := by
  obtain ⟨p, hp⟩ : ∃ p, p = fitN (a * b) := ⟨_, rfl⟩
  obtain ⟨q, hq⟩ : ∃ q, q = fitE (a * b) := ⟨_, rfl⟩
  obtain ⟨r, hr⟩ : ∃ r, r = fitR (a * b) := ⟨_, rfl⟩
  rw [← hr]
  have HP := Lib.hid hp; have HQ := Lib.hid hq; have HA := Lib.hid ha; have HBB := Lib.hid hb; have HR := Lib.hid hr
  clear hp hq ha hb hr
  have HCC : ∀ w, Calls Try.prog 23 #[.int .i64 a, .int .i64 b] w fun e w' => e = .returned (.tuple #[.int .i64 p, .int .i64 q]) ∧ w = w' := by
    intro w
    have hc := mul_any a b w HA.out HBB.out
    rw [← HP.out, ← HQ.out] at hc
    exact hc
  have HCC := Lib.hid HCC
  go_enter Try.func41, Try.ntmps41
  go_wp2_with fail
  refine (HCC.out _).mono ?_
  rintro e w' ⟨rfl, rfl⟩
  go_wp2_with fail
  refine (lfit_any (a * b) p q _ HP.out HQ.out).mono ?_
  rw [← HR.out]
  rintro e w' ⟨rfl, hb⟩
  obtain ⟨hrow, HB⟩ := res_row hb
  clear hb
  have f0 := blk_frozen hrow 0; have f1 := blk_frozen hrow 1; have f2 := blk_frozen hrow 2
  have c0 := blk_cell hrow 0 rfl; have c1 := blk_cell hrow 1 rfl; have c2 := blk_cell hrow 2 rfl
  go_wp2_with fail
  refine bodyPost_ret (results_pair rfl _ _ w.heap.size _ _ _ rfl (blk_set (blk_set (blk_set hrow 0 _) 1 _) 2 _) Try.underlying23 rfl (by kernel_rfl)) rfl ?_
  exact ⟨rfl, blw_set (blw_set (blw_set HB.out (by omega) _ _) (by omega) _ _) (by omega) _ _⟩
set_option maxHeartbeats 1000000 in
theorem calc_div (op : ByteArray) (a b : Int) (w : World) (ha : -9223372036854775808 ≤ a ∧ a ≤ 9223372036854775807) (hb : -9223372036854775808 ≤ b ∧ b ≤ 9223372036854775807) (hop : op = ⟨#[47]⟩ ∨ op = ⟨#[37]⟩) :
    Calls Try.prog 41 #[.string op, .int .i64 a, .int .i64 b] w fun e w' => e = .returned (.tuple #[.agg #[.int .i64 (divR op a b).k, .int .i64 (divR op a b).n, .string (divR op a b).s], .int .i64 (divR op a b).e]) ∧ Below w.heap.size w w' := by
  obtain ⟨r, hr⟩ : ∃ r, r = divR op a b := ⟨_, rfl⟩
  have hd := fun w => divide_any op a b w ha hb hop
  rw [← hr] at hd ⊢
  clear hr ha hb
  rcases hop with rfl | rfl
  all_goals
    go_enter Try.func41, Try.ntmps41
    go_wp2_with fail
    refine (hd _).mono ?_
    rintro e w' ⟨rfl, hb⟩
    obtain ⟨hrow, HB⟩ := res_row hb
    clear hb
    have f0 := blk_frozen hrow 0; have f1 := blk_frozen hrow 1; have f2 := blk_frozen hrow 2
    have c0 := blk_cell hrow 0 rfl; have c1 := blk_cell hrow 1 rfl; have c2 := blk_cell hrow 2 rfl
    go_wp2_with fail
    refine bodyPost_ret (results_pair rfl _ _ w.heap.size _ _ _ rfl (blk_set (blk_set (blk_set hrow 0 _) 1 _) 2 _) Try.underlying23 rfl (by kernel_rfl)) rfl ?_
    exact ⟨rfl, blw_set (blw_set (blw_set HB.out (by omega) _ _) (by omega) _ _) (by omega) _ _⟩
theorem calc_any (op : ByteArray) (a b : Int) (w : World) (ha : -9223372036854775808 ≤ a ∧ a ≤ 9223372036854775807) (hb : -9223372036854775808 ≤ b ∧ b ≤ 9223372036854775807) (hop : classZ op = 2) :
    Calls Try.prog 41 #[.string op, .int .i64 a, .int .i64 b] w fun e w' => e = .returned (.tuple #[.agg #[.int .i64 (calcR op a b).k, .int .i64 (calcR op a b).n, .string (calcR op a b).s], .int .i64 (calcR op a b).e]) ∧ Below w.heap.size w w' := by
  rcases class_two hop with rfl | rfl | rfl | h
  · rw [calcR, if_pos rfl]; exact calc_add a b w ha hb
  · rw [calcR, if_neg (by decide), if_pos rfl]; exact calc_sub a b w ha hb
  · rw [calcR, if_neg (by decide), if_neg (by decide), if_pos rfl]; exact calc_mul a b w ha hb
  · have h' : op ≠ ⟨#[43]⟩ ∧ op ≠ ⟨#[45]⟩ ∧ op ≠ ⟨#[42]⟩ := by rcases h with rfl | rfl <;> decide
    rw [calcR, if_neg h'.1, if_neg h'.2.1, if_neg h'.2.2]; exact calc_div op a b w ha hb h
/-- Two values in boxes of our own and a result's cell, behind what was there. -/
structure Box (w : World) (k1 n1 : Int) (s1 : ByteArray) (k2 n2 : Int) (s2 : ByteArray) (w' : World) : Prop where
  a0 : w'.cell? ⟨w.heap.size, 0, none⟩ = some (.int .i64 k1)
  a1 : w'.cell? ⟨w.heap.size, 1, none⟩ = some (.int .i64 n1)
  a2 : w'.cell? ⟨w.heap.size, 2, none⟩ = some (.string s1)
  b0 : w'.cell? ⟨w.heap.size + 1, 0, none⟩ = some (.int .i64 k2)
  b1 : w'.cell? ⟨w.heap.size + 1, 1, none⟩ = some (.int .i64 n2)
  b2 : w'.cell? ⟨w.heap.size + 1, 2, none⟩ = some (.string s2)
  row : Blk w' (w.heap.size + 2) 23 #[.int .i64 0, .int .i64 0, .string ⟨#[]⟩]
  size : w.heap.size + 3 ≤ w'.heap.size
  below : Below w.heap.size w w'
section
variable {w : World} {k1 n1 : Int} {s1 : ByteArray} {k2 n2 : Int} {s2 : ByteArray} {a b : World}
theorem box_new (w : World) (k1 n1 : Int) (s1 : ByteArray) (k2 n2 : Int) (s2 : ByteArray) : Box w k1 n1 s1 k2 n2 s2 (((w.alloc (.cells #[.int .i64 k1, .int .i64 n1, .string s1] 23)).alloc (.cells #[.int .i64 k2, .int .i64 n2, .string s2] 23)).alloc (.cells #[.int .i64 0, .int .i64 0, .string ⟨#[]⟩] 23)) := by
  have h1 : Blk (w.alloc (.cells #[.int .i64 k1, .int .i64 n1, .string s1] 23)) w.heap.size 23 #[.int .i64 k1, .int .i64 n1, .string s1] := blk_new _ _ _
  have h1' := blk_alloc (blk_alloc h1 (.cells #[.int .i64 k2, .int .i64 n2, .string s2] 23)) (.cells #[.int .i64 0, .int .i64 0, .string ⟨#[]⟩] 23)
  have h2 : Blk ((w.alloc (.cells #[.int .i64 k1, .int .i64 n1, .string s1] 23)).alloc (.cells #[.int .i64 k2, .int .i64 n2, .string s2] 23)) (w.heap.size + 1) 23 #[.int .i64 k2, .int .i64 n2, .string s2] := blk_at (by simp)
  have h2' := blk_alloc h2 (.cells #[.int .i64 0, .int .i64 0, .string ⟨#[]⟩] 23)
  exact ⟨blk_cell h1' 0 rfl, blk_cell h1' 1 rfl, blk_cell h1' 2 rfl, blk_cell h2' 0 rfl, blk_cell h2' 1 rfl, blk_cell h2' 2 rfl, blk_at (by simp), by simp, (blw2 w _ _).alloc (by simp; omega) _⟩
theorem box_next (h : Box w k1 n1 s1 k2 n2 s2 a) (hb : Below a.heap.size a b) : Box w k1 n1 s1 k2 n2 s2 b := by
  have hz := h.size
  have l0 : w.heap.size < a.heap.size := by omega
  have l1 : w.heap.size + 1 < a.heap.size := by omega
  exact ⟨(hb.cell l0).trans h.a0, (hb.cell l0).trans h.a1, (hb.cell l0).trans h.a2, (hb.cell l1).trans h.b0, (hb.cell l1).trans h.b1, (hb.cell l1).trans h.b2, blk_below h.row hb, Nat.le_trans hz hb.size, h.below.trans (hb.mono (by omega))⟩
theorem box_drew (h : Box w k1 n1 s1 k2 n2 s2 a) : Box w k1 n1 s1 k2 n2 s2 a.drew := ⟨h.a0, h.a1, h.a2, h.b0, h.b1, h.b2, h.row, h.size, h.below.drew⟩
theorem box_drewN (h : Box w k1 n1 s1 k2 n2 s2 a) (q : Nat) : Box w k1 n1 s1 k2 n2 s2 (a.drewN q) := ⟨h.a0, h.a1, h.a2, h.b0, h.b1, h.b2, h.row, h.size, ⟨h.below.os, h.below.tape, h.below.output, h.below.size, h.below.block⟩⟩
theorem box_fin (h : Box w k1 n1 s1 k2 n2 s2 a) (x y z : Value) : Below w.heap.size w (((a.setCell ⟨w.heap.size + 2, 0, none⟩ x).setCell ⟨w.heap.size + 2, 1, none⟩ y).setCell ⟨w.heap.size + 2, 2, none⟩ z) :=
  blw_set (blw_set (blw_set h.below (by omega) _ _) (by omega) _ _) (by omega) _ _
end
theorem blw3 (w : World) (o o' o'' : Obj) : Below w.heap.size w (((w.alloc o).alloc o').alloc o'') := (blw2 w o o').alloc (by simp; omega) _
set_option maxHeartbeats 1000000 in
theorem cat_any (k1 n1 : Int) (s1 : ByteArray) (k2 n2 : Int) (s2 : ByteArray) (w : World) (h1 : s1.size ≤ 140737488351232) (h2 : s2.size ≤ 140737488351232) :
    Calls Try.prog 42 #[.agg #[.int .i64 k1, .int .i64 n1, .string s1], .agg #[.int .i64 k2, .int .i64 n2, .string s2]] w fun e w' => e = .returned (.tuple #[.agg #[.int .i64 (catR k1 s1 k2 s2).k, .int .i64 (catR k1 s1 k2 s2).n, .string (catR k1 s1 k2 s2).s], .int .i64 (catR k1 s1 k2 s2).e]) ∧ Below w.heap.size w w' := by
  by_cases hk : k1 ≠ 2 ∨ k2 ≠ 2
  · rw [show catR k1 s1 k2 s2 = nulR 14 from by rw [catR, if_pos hk]]
    have hc : (k1 != 2) = true ∨ (k1 != 2) = false ∧ (k2 != 2) = true := by
      by_cases e : k1 = 2
      · refine .inr ⟨by simpa using e, ?_⟩; simpa [e] using hk
      · exact .inl (by simpa using e)
    clear hk
    rcases hc with t1 | ⟨t1, t2⟩
    all_goals
      go_enter Try.func42, Try.ntmps42
      go_wp2
      refine bodyPost_ret (results_pair rfl _ _ (w.heap.size + 2) _ _ _ rfl (blk_at (by simp)) Try.underlying23 rfl (by kernel_rfl)) rfl ?_
      exact ⟨rfl, blw3 _ _ _ _⟩
  · obtain ⟨rfl, rfl⟩ : k1 = 2 ∧ k2 = 2 := by omega
    by_cases hl : 1000 < s1.size + s2.size
    · rw [show catR 2 s1 2 s2 = nulR 12 from by rw [catR, if_neg hk, if_pos hl]]
      clear hk
      go_enter Try.func42, Try.ntmps42
      go_wp2
      refine bodyPost_ret (results_pair rfl _ _ (w.heap.size + 2) _ _ _ rfl (blk_at (by simp)) Try.underlying23 rfl (by kernel_rfl)) rfl ?_
      exact ⟨rfl, blw3 _ _ _ _⟩
    · rw [show catR 2 s1 2 s2 = ⟨2, 0, s1 ++ s2, 0⟩ from by rw [catR, if_neg hk, if_neg hl]]
      clear hk
      have HX := Lib.hid (box_new w 2 n1 s1 2 n2 s2)
      go_enter Try.func42, Try.ntmps42
      go_wp2_with fail
      refine (ltext_any (s1 ++ s2) _).mono ?_
      rintro e w' ⟨rfl, hb⟩
      have HY := Lib.hid (box_next HX.out hb)
      clear hb
      have hrow := HY.out.row
      have f0 := blk_frozen hrow 0; have f1 := blk_frozen hrow 1; have f2 := blk_frozen hrow 2
      have c0 := blk_cell hrow 0 rfl; have c1 := blk_cell hrow 1 rfl; have c2 := blk_cell hrow 2 rfl
      go_wp2_with fail
      refine bodyPost_ret (results_pair rfl _ _ (w.heap.size + 2) _ _ _ rfl (blk_set (blk_set (blk_set hrow 0 _) 1 _) 2 _) Try.underlying23 rfl (by kernel_rfl)) rfl ?_
      exact ⟨rfl, box_fin HY.out _ _ _⟩
end Go.Proofs.Ytadbmjmikoggbaa
