/-
  Fixed and Number of layer 2, and the document's answers for them: each returns its plain function and changes nothing that was there. Condition: the number is an int; the string has at most 2^63 - 1 bytes.
-/
import Derived.Test.YtdpjmijdlheajaaVarRefGet
import Derived.WalkSmall
namespace Go.Proofs.Ytdpjmijdlheajaa
open Go.RowKit

def fourL (n : Nat) : List UInt8 := [(n / 16777216).toUInt8, (n / 65536 % 256).toUInt8, (n / 256 % 256).toUInt8, (n % 256).toUInt8]
def fixR (n : Int) : List UInt8 × Int := if 0 ≤ n ∧ n ≤ 4294967295 then (fourL n.toNat, 0) else ([], 3)
def numR (l : List UInt8) : Int × Int := if l.length < 4 then (0, 1) else (((l.getD 0 0).toNat * 16777216 + (l.getD 1 0).toNat * 65536 + (l.getD 2 0).toNat * 256 + (l.getD 3 0).toNat : Nat), 0)
theorem num_fix {n : Int} (h : 0 ≤ n ∧ n ≤ 4294967295) : numR (fourL n.toNat) = (n, 0) := by
  have hl : (fourL n.toNat).length = 4 := rfl
  rw [numR, if_neg (by omega)]
  refine Prod.ext ?_ rfl
  show (((n.toNat / 16777216).toUInt8.toNat * 16777216 + (n.toNat / 65536 % 256).toUInt8.toNat * 65536 + (n.toNat / 256 % 256).toUInt8.toNat * 256 + (n.toNat % 256).toUInt8.toNat : Nat) : Int) = n
  rw [u8_of (by omega), u8_of (by omega), u8_of (by omega), u8_of (by omega)]
  omega

theorem new4 (W : World) (a b c d : Value) (t : TypeId) (j : Nat) (hj : j < 4) : (W.alloc (.cells #[a, b, c, d] t)).cell? ⟨W.heap.size, j, none⟩ = some ([a, b, c, d].getD j a) :=
  (World.rowIs_alloc W #[a, b, c, d] t (fun j => [a, b, c, d].getD j a) (fun i hi => by
    match i, hi with
    | 0, _ => rfl
    | 1, _ => rfl
    | 2, _ => rfl
    | 3, _ => rfl
    | i + 4, hi => simp at hi; omega)).cell hj
theorem four_str (w : World) (a b c d : Int) (n : Nat) (ha : a = ((n / 16777216 : Nat) : Int)) (hb : b = ((n / 65536 % 256 : Nat) : Int)) (hc : c = ((n / 256 % 256 : Nat) : Int)) (hd : d = ((n % 256 : Nat) : Int)) (hn : n < 4294967296) :
    (convert 56 9 (.slice (some ⟨w.heap.size, 0, none⟩) 4 4)).run Try.prog (w.alloc (.cells #[.int .u8 a, .int .u8 b, .int .u8 c, .int .u8 d] 5)) = .ok (.string ⟨(fourL n).toArray⟩) (w.alloc (.cells #[.int .u8 a, .int .u8 b, .int .u8 c, .int .u8 d] 5)) := by
  refine run_convert_bytes_back (P := Try.prog) (w.alloc (.cells #[.int .u8 a, .int .u8 b, .int .u8 c, .int .u8 d] 5)) 56 9 5 ⟨w.heap.size, 0, none⟩ 4 (fourL n) Try.underlying56 Try.underlying5 Try.underlying9 (fun j hj => ?_)
  have hj4 : j < 4 := hj
  rw [Addr.add_lit, Nat.zero_add, new4 _ _ _ _ _ _ j hj4]
  match j, hj4, hj with
  | 0, _, _ => show some (Value.int .u8 a) = some (.int .u8 ((n / 16777216).toUInt8.toNat : Int)); rw [u8_of (by omega), ha]
  | 1, _, _ => show some (Value.int .u8 b) = some (.int .u8 ((n / 65536 % 256).toUInt8.toNat : Int)); rw [u8_of (by omega), hb]
  | 2, _, _ => show some (Value.int .u8 c) = some (.int .u8 ((n / 256 % 256).toUInt8.toNat : Int)); rw [u8_of (by omega), hc]
  | 3, _, _ => show some (Value.int .u8 d) = some (.int .u8 ((n % 256).toUInt8.toNat : Int)); rw [u8_of (by omega), hd]

theorem ret_fix {a : ByteArray} {c : Int} {r : List UInt8 × Int} (h : a = ⟨r.1.toArray⟩) (h2 : c = r.2) : Ending.returned (.tuple #[.string a, .int .i64 c]) = .returned (.tuple #[.string ⟨r.1.toArray⟩, .int .i64 r.2]) := by rw [h, h2]
theorem ret_num {a c : Int} {r : Int × Int} (h : a = r.1) (h2 : c = r.2) : Ending.returned (.tuple #[.int .i64 a, .int .i64 c]) = .returned (.tuple #[.int .i64 r.1, .int .i64 r.2]) := by rw [h, h2]

set_option maxHeartbeats 2000000 in
set_option maxRecDepth 100000 in
theorem vfixed_any (n : Int) (h1 : -9223372036854775808 ≤ n) (h2 : n ≤ 9223372036854775807) (w : World) :
    Calls Try.prog 55 #[.int .i64 n] w fun e w' => e = .returned (.tuple #[.string ⟨(fixR n).1.toArray⟩, .int .i64 (fixR n).2]) ∧ Below w.heap.size w w' := by
  obtain ⟨r, hr⟩ : ∃ r, r = fixR n := ⟨_, rfl⟩
  rw [← hr]
  by_cases hn : n < 0
  · have HR := Lib.hid (show r = ([], 3) by rw [hr, fixR, if_neg (by omega)]); clear hr
    go_enter Try.func55, Try.ntmps55
    go_wp2
    go_ret2
    exact ⟨ret_fix (by rw [HR.out]) (by rw [HR.out]), Below.refl _ _⟩
  · by_cases hm : 4294967295 < n
    · have HR := Lib.hid (show r = ([], 3) by rw [hr, fixR, if_neg (by omega)]); clear hr
      go_enter Try.func55, Try.ntmps55
      go_wp2
      go_ret2
      exact ⟨ret_fix (by rw [HR.out]) (by rw [HR.out]), Below.refl _ _⟩
    · have HR := Lib.hid (show r = (fourL n.toNat, 0) by rw [hr, fixR, if_pos (by omega)]); clear hr
      have w2 : IntKind.u8.wrap (n / 65536) = n / 65536 % 256 := IntKind.wrap_u8 _
      have w3 : IntKind.u8.wrap (n / 256) = n / 256 % 256 := IntKind.wrap_u8 _
      have w4 : IntKind.u8.wrap n = n % 256 := IntKind.wrap_u8 _
      have hc := four_str w (n / 16777216) (n / 65536 % 256) (n / 256 % 256) (n % 256) n.toNat (by omega) (by omega) (by omega) (by omega) (by omega)
      go_enter Try.func55, Try.ntmps55
      go_wp2
      go_ret2
      exact ⟨ret_fix (by rw [HR.out]) (by rw [HR.out]), (Below.refl _ _).alloc (Nat.le_refl _) _⟩

theorem four_app (n : Int) (h0 : 0 ≤ n) (h1 : n ≤ 4294967295) : (⟨#[(n / 16777216).toNat.toUInt8]⟩ : ByteArray) ++ ⟨#[(n / 65536 % 256).toNat.toUInt8]⟩ ++ ⟨#[(n / 256 % 256).toNat.toUInt8]⟩ ++ ⟨#[(n % 256).toNat.toUInt8]⟩ = ⟨(fourL n.toNat).toArray⟩ := by
  apply WideShapes.bytes_inj
  rw [app_data, app_data, app_data, fourL, show (n / 16777216).toNat = n.toNat / 16777216 by omega, show (n / 65536 % 256).toNat = n.toNat / 65536 % 256 by omega, show (n / 256 % 256).toNat = n.toNat / 256 % 256 by omega, show (n % 256).toNat = n.toNat % 256 by omega]
  rfl

set_option maxHeartbeats 4000000 in
set_option maxRecDepth 100000 in
theorem rfixed_any (n : Int) (h1 : -9223372036854775808 ≤ n) (h2 : n ≤ 9223372036854775807) (w : World) :
    Calls Try.prog 61 #[.int .i64 n] w fun e w' => e = .returned (.tuple #[.string ⟨(fixR n).1.toArray⟩, .int .i64 (fixR n).2]) ∧ Below w.heap.size w w' := by
  obtain ⟨r, hr⟩ : ∃ r, r = fixR n := ⟨_, rfl⟩
  rw [← hr]
  by_cases hn : n < 0
  · have HR := Lib.hid (show r = ([], 3) by rw [hr, fixR, if_neg (by omega)]); clear hr
    go_enter Try.func61, Try.ntmps61
    go_wp2
    go_ret2
    exact ⟨ret_fix (by rw [HR.out]) (by rw [HR.out]), Below.refl _ _⟩
  · by_cases hm : 4294967295 < n
    · have HR := Lib.hid (show r = ([], 3) by rw [hr, fixR, if_neg (by omega)]); clear hr
      go_enter Try.func61, Try.ntmps61
      go_wp2
      go_ret2
      exact ⟨ret_fix (by rw [HR.out]) (by rw [HR.out]), Below.refl _ _⟩
    · have HR := Lib.hid (show r = (fourL n.toNat, 0) by rw [hr, fixR, if_pos (by omega)]); clear hr
      have HF := Lib.hid (four_app n (by omega) (by omega))
      have hB := Below.refl w.heap.size w
      go_enter Try.func61, Try.ntmps61
      go_wp2_with (go_at_call 62; refine (one_any _ (by omega) (by omega) _).mono ?_; rintro e w1 ⟨rfl, b1⟩; replace hB := hB.trans (b1.mono hB.size); clear b1)
      go_ret2
      exact ⟨ret_fix (by rw [HR.out, HF.out]) (by rw [HR.out]), hB⟩

def numK (s : ByteArray) : Nat → Nat
  | 0 => 0
  | k + 1 => numK s k * 256 + (s.data.toList.getD k 0).toNat
theorem numK_lt (s : ByteArray) (k : Nat) : numK s k < 256 ^ k := by
  induction k with
  | zero => exact Nat.zero_lt_one
  | succ k ih =>
    have : (s.data.toList.getD k 0).toNat < 256 := (s.data.toList.getD k 0).toNat_lt
    rw [numK, Nat.pow_succ]; omega
theorem num_K {s : ByteArray} (h : 4 ≤ s.size) : numR s.data.toList = (((numK s 4 : Nat) : Int), 0) := by
  rw [numR, if_neg (by rw [ba_len]; omega)]
  refine Prod.ext ?_ rfl
  show ((_ : Nat) : Int) = ((numK s 4 : Nat) : Int)
  refine congrArg (Nat.cast : Nat → Int) ?_
  simp only [numK]
  omega
theorem getD_at (s : ByteArray) (k : Nat) (h : k < s.size) : s.data.toList.getD k 0 = s[k] := by
  obtain ⟨⟨l⟩⟩ := s
  show l.getD k 0 = l[k]'h
  rw [List.getD_eq_getElem?_getD, List.getElem?_eq_getElem h, Option.getD_some]
theorem wraps_i63 (n : Int) (h₀ : 0 ≤ n) (h₁ : n < 2 ^ 63) : IntKind.i64.wrap n = n := IntWalk.i64_in _ (by omega)
theorem i64_j8 {x y : Int} (hx₀ : 0 ≤ x) (hx₁ : x < 72057594037927936 / 2) (h₀ : 0 ≤ y) (h₁ : y < 256) : bits .or .i64 (x * 256) y = x * 256 + y :=
  bits_join .i64 63 (by decide) wraps_i63 8 (x * 256) y (by omega) (by omega) (by omega) h₀ (by omega) (by omega)

set_option maxHeartbeats 2000000 in
set_option maxRecDepth 100000 in
theorem vnumber_any (s : ByteArray) (hs : s.size ≤ 9223372036854775807) (w : World) :
    Calls Try.prog 66 #[.string s] w fun e w' => e = .returned (.tuple #[.int .i64 (numR s.data.toList).1, .int .i64 (numR s.data.toList).2]) ∧ w = w' := by
  obtain ⟨r, hr⟩ : ∃ r, r = numR s.data.toList := ⟨_, rfl⟩
  rw [← hr]
  by_cases h4 : s.size < 4
  · have HR := Lib.hid (show r = (0, 1) by rw [hr, numR, if_pos (by rw [ba_len]; exact h4)]); clear hr
    go_enter Try.func66, Try.ntmps66
    go_wp2
    go_ret2
    exact ⟨ret_num (by rw [HR.out]) (by rw [HR.out]), rfl⟩
  · have HR := Lib.hid (show r = (((numK s 4 : Nat) : Int), 0) by rw [hr, num_K (by omega)]); clear hr
    go_enter Try.func66, Try.ntmps66
    go_wp2
    go_loop [4, 9] (fun x i => ∃ (k : Nat) (y : Int), k ≤ 4 ∧ i = .int .i64 k ∧ x = .int .i64 y ∧ 0 ≤ y ∧ y ≤ 4294967295 ∧ Hid (y = (numK s k : Nat))) (fun _ i => 4 - (intOf i).toNat)
    case atStart => exact ⟨0, 0, by omega, rfl, rfl, by omega, by omega, Lib.hid rfl⟩
    case round =>
      obtain ⟨k, y, hk, rfl, rfl, hy0, hy1, hI⟩ := hrel
      by_cases hlt : k < 4
      · have hks : k < s.size := by omega
        obtain ⟨hc0, hc1⟩ := byte_bd s[k]
        have hw1 : IntKind.i64.wrap ((s[k]).toNat : Int) = ((s[k]).toNat : Int) := IntWalk.i64_in _ ⟨by omega, by omega⟩
        have hj := i64_j8 hy0 (by omega) hc0 (by omega)
        have HN := Lib.hid (show y * 256 + ((s[k]).toNat : Int) = (numK s (k + 1) : Nat) by rw [numK, getD_at s k hks, hI.out]; omega)
        have HL := Lib.hid (show (numK s (k + 1) : Nat) ≤ 4294967295 by
          have h1 := numK_lt s (k + 1)
          have h2 : 256 ^ (k + 1) ≤ 256 ^ 4 := Nat.pow_le_pow_right (by decide) (by omega)
          have h3 : (256 : Nat) ^ 4 = 4294967296 := by decide
          omega)
        go_wp2
        go_round
        case rel => exact ⟨k + 1, _, by omega, by go_num, rfl, by omega, by have := HN.out; have := HL.out; omega, Lib.hid HN.out⟩
        case measure => simp [intOf]; omega
      · go_wp2
        go_ret2
        exact ⟨ret_num (by rw [HR.out, hI.out, show k = 4 by omega]) (by rw [HR.out]), rfl⟩

set_option maxHeartbeats 2000000 in
set_option maxRecDepth 100000 in
theorem rnumber_any (s : ByteArray) (hs : s.size ≤ 9223372036854775807) (w : World) :
    Calls Try.prog 27 #[.string s] w fun e w' => e = .returned (.tuple #[.int .i64 (numR s.data.toList).1, .int .i64 (numR s.data.toList).2]) ∧ Below w.heap.size w w' := by
  obtain ⟨r, hr⟩ : ∃ r, r = numR s.data.toList := ⟨_, rfl⟩
  rw [← hr]
  by_cases h4 : s.size < 4
  · have HR := Lib.hid (show r = (0, 1) by rw [hr, numR, if_pos (by rw [ba_len]; exact h4)]); clear hr
    go_enter Try.func27, Try.ntmps27
    go_wp2
    go_ret2
    exact ⟨ret_num (by rw [HR.out]) (by rw [HR.out]), Below.refl _ _⟩
  · have h0 : (0 : Int) < s.size := by omega
    have h1 : (1 : Int) < s.size := by omega
    have h2 : (2 : Int) < s.size := by omega
    have h3 : (3 : Int) < s.size := by omega
    have n0 : 0 < s.size := by omega
    have n1 : 1 < s.size := by omega
    have n2 : 2 < s.size := by omega
    have n3 : 3 < s.size := by omega
    have b0 := byte_bd (s[0]'(by omega))
    have b1 := byte_bd (s[1]'(by omega))
    have b2 := byte_bd (s[2]'(by omega))
    have b3 := byte_bd (s[3]'(by omega))
    have HR := Lib.hid (show r = (((s[0]'(by omega)).toNat : Int) * 16777216 + ((s[1]'(by omega)).toNat : Int) * 65536 + ((s[2]'(by omega)).toNat : Int) * 256 + ((s[3]'(by omega)).toNat : Int), 0) by
      rw [hr, numR, if_neg (by rw [ba_len]; exact h4), getD_at s 0 (by omega), getD_at s 1 (by omega), getD_at s 2 (by omega), getD_at s 3 (by omega)]
      refine Prod.ext ?_ rfl
      show ((_ : Nat) : Int) = _
      omega); clear hr
    go_enter Try.func27, Try.ntmps27
    go_wp2
    go_quiet (fail)
    go_wp2
    go_ret2
    exact ⟨ret_num (by rw [HR.out]; show _ = _ + _; omega) (by rw [HR.out]), below_drewN (Below.refl _ _) _⟩
end Go.Proofs.Ytdpjmijdlheajaa
