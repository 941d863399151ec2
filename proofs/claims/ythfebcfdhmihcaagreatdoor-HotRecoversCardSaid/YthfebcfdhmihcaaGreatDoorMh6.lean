/-
  The library's own contract of slices.Sorted(maps.Keys(m)), laid at this seat's numbers: a new slice that holds the map's keys, sorted, and nothing that was there has turned; conditions: those that each theorem states (sizes).
  Sum of layer 3, the document's answer for it, and works: each returns its plain function of the nonce and the bytes and changes nothing that was there. Condition: the nonce is an int; the string has at most 2^63 - 1 bytes. And the statement SumOf as a walk.
  Layer 8 on lists of bytes: the encoding of a header, what is read from any bytes, and the laws between them. No program text is walked here.
  Layer 9 on lists of bytes: the encoding of a page, what is read from any bytes, and the laws between them. No program text is walked here.
  Layer 10 on lists of bytes: super-journals and trailers, what is read from any bytes, and the laws between them. No program text is walked here.
  Layer 11 on lists of bytes: segments, what any bytes say as a journal, and the laws between them. No program text is walked here.
  Layer 6, truth values: Truth, Of, Not, And, Or and the document's answers for them: each returns its plain function and changes nothing that was there. Condition: none.
  Layer 11, Apply on lists of bytes, the program's way and the document's; and 'copy' of a string into a part of a block of bytes of our own. No function of the program is walked here.
  Layer 13: files as a list of paths and bytes: what the document asks of a super-journal's path, a file's state, fresh paths, and of a file that is restored (mathematics only). Condition: none (definitions).
  Layer 13, the disk as hot sees it: a disk that is up, whose pending changes lead from what is durable to what is seen; what each call makes of the files that are seen (mathematics only). Condition: none.
  Layer 13: files in the order of their paths; one put among them; the document's 'with' is the same (mathematics only). Condition: the paths rise.
  Layer 13: what each counted call makes of a calm disk: its answer, and the files that are seen behind it (mathematics only). Condition: the disk is calm, the sizes fit.
-/
import Derived.Laws.IdiomStrings
import Derived.WalkKit
import Derived.Lib.Hide
import Derived.Deep.QuietTactic
import Derived.BigQuiet
import Derived.Below
import Derived.Deep.Light
import Derived.Handy
import Derived.KernelRfl
import Derived.Deep.RegionHeld3
import Derived.Laws.Rows
import Derived.Deep.RegionLaw
import Derived.Laws.CopyOwn
import Derived.Lib.AppendStr
import Derived.Lib.UnsafeStr
import Derived.Shelf.SlIter.Nil
import Derived.Shelf.SortM.Plain
import Derived.Shelf.SortM.SortNone
import Derived.Ground.GgzProg
import Derived.Ground.SlgmProg
import Derived.Test.YthfebcfdhmihcaaGreatDoorProg
import Derived.Test.YthfebcfdhmihcaaGreatDoorMh5
import Derived.Test.YthfebcfdhmihcaaGreatDoorMh1
import Derived.Test.YthfebcfdhmihcaaGreatDoorMh4
import Derived.Test.YthfebcfdhmihcaaGreatDoorMh3
namespace Go.Proofs.YthfebcfdhmihcaaGreatDoor
open Go.RowKit

theorem row_new (w : World) (n : Int) : (w.alloc (.cells #[.int .i64 (startZ n), .int .i64 0] 278)).rowIs w.heap.size 278 2 (pair2 (startZ n, 0)) :=
  World.rowIs_alloc w _ 278 _ fun i hi => by
    match i, hi with
    | 0, _ => rfl
    | 1, _ => rfl

set_option maxHeartbeats 2000000 in
set_option maxRecDepth 100000 in
theorem ssum_any (n : Int) (h1 : -9223372036854775808 ≤ n) (h2 : n ≤ 9223372036854775807) (s : ByteArray) (hs : s.size ≤ 9223372036854775807) (w : World) :
    Calls Tryz.prog 192 #[.int .i64 n, .string s] w fun e w' => e = .returned (.int .i64 (sumZ n s.data.toList)) ∧ Below w.heap.size w w' := by
  go_enter Tryz.func192, Tryz.ntmps192
  go_wp2_with fail
  refine (sumnew_any n h1 h2 _).mono ?_
  rintro e w1 ⟨rfl, hw1⟩
  have B1 : Below w.heap.size w w1 := by rw [hw1]; exact (Below.refl _ _).alloc (Nat.le_refl _) _
  have R1 : w1.rowIs w.heap.size 278 2 (pair2 (startZ n, 0)) := by rw [hw1]; exact row_new w n
  have HB1 := Lib.hid B1; have HR1 := Lib.hid R1
  clear hw1 B1 R1
  go_wp2_with fail
  refine (add_any _ _ s hs _ HR1.out (start_in n)).mono ?_
  rintro e w2 ⟨rfl, r2, b2, z2⟩
  have HB2 := Lib.hid (HB1.out.trans b2); have HR2 := Lib.hid r2
  clear r2 b2 z2
  go_wp2_with fail
  refine (run_any _ _ _ HR2.out (adl_in _ _ (start_in n))).mono ?_
  rintro e w3 ⟨rfl, b3, z3⟩
  have HB3 := Lib.hid (b3 w.heap.size); clear b3 z3
  go_wp2_with fail
  go_ret
  exact ⟨rfl, HB2.out.trans HB3.out⟩

set_option maxHeartbeats 2000000 in
set_option maxRecDepth 100000 in
theorem rsum_any (n : Int) (h1 : -9223372036854775808 ≤ n) (h2 : n ≤ 9223372036854775807) (s : ByteArray) (hs : s.size ≤ 9223372036854775807) (w : World) :
    Calls Tryz.prog 146 #[.int .i64 n, .string s] w fun e w' => e = .returned (.int .i64 (sumZ n s.data.toList)) ∧ w = w' := by
  obtain ⟨r, hr⟩ : ∃ r, r = sumZ n s.data.toList := ⟨_, rfl⟩
  rw [← hr]
  have HR := Lib.hid hr; clear hr
  have HS := Lib.hid (start_tmod n)
  have hst := startZ_bd n
  have hb := tmod_bd n
  by_cases h : n.tmod 65521 < 0
  · go_enter Tryz.func146, Tryz.ntmps146
    go_wp2
    go_loop [5, 6, 7] (fun a b i => ∃ (k : Nat) (x y : Int), k ≤ s.size ∧ i = .int .i64 k ∧ a = .int .i64 x ∧ b = .int .i64 y ∧ 0 ≤ x ∧ x < 65521 ∧ 0 ≤ y ∧ y < 65521 ∧ Hid (r = endZ (adl (x, y) (s.data.toList.drop k)))) (fun _ _ i => s.size - (intOf i).toNat)
    case atStart => exact ⟨0, _, 0, by omega, rfl, rfl, rfl, by omega, by omega, by omega, by omega, Lib.hid (by rw [HR.out, sumZ, HS.out, if_pos h]; rfl)⟩
    case round =>
      obtain ⟨k, x, y, hk, rfl, rfl, rfl, hx0, hx1, hy0, hy1, hI⟩ := hrel
      by_cases hlt : k < s.size
      · obtain ⟨hc0, hc1⟩ := byte_bd s[k]
        have HD := Lib.hid (drop_at s k hlt)
        have e1 := tmod_pos (x := x + ((s[k]).toNat : Int)) (by omega)
        have e2 := tmod_pos (x := y + (x + ((s[k]).toNat : Int)) % 65521) (by omega)
        go_wp2
        go_round
        case rel => exact ⟨k + 1, _, _, by omega, by go_num, rfl, rfl, by omega, by omega, by omega, by omega, Lib.hid (by rw [hI.out, HD.out, adl_cons, stp_eq])⟩
        case measure => simp [intOf]; omega
      · go_wp2
        go_ret
        exact ⟨ret_int (by rw [hI.out, drop_all s k (by omega)]; rfl), rfl⟩
  · go_enter Tryz.func146, Tryz.ntmps146
    go_wp2
    go_loop [5, 6, 7] (fun a b i => ∃ (k : Nat) (x y : Int), k ≤ s.size ∧ i = .int .i64 k ∧ a = .int .i64 x ∧ b = .int .i64 y ∧ 0 ≤ x ∧ x < 65521 ∧ 0 ≤ y ∧ y < 65521 ∧ Hid (r = endZ (adl (x, y) (s.data.toList.drop k)))) (fun _ _ i => s.size - (intOf i).toNat)
    case atStart => exact ⟨0, _, 0, by omega, rfl, rfl, rfl, by omega, by omega, by omega, by omega, Lib.hid (by rw [HR.out, sumZ, HS.out, if_neg (by omega)]; rfl)⟩
    case round =>
      obtain ⟨k, x, y, hk, rfl, rfl, rfl, hx0, hx1, hy0, hy1, hI⟩ := hrel
      by_cases hlt : k < s.size
      · obtain ⟨hc0, hc1⟩ := byte_bd s[k]
        have HD := Lib.hid (drop_at s k hlt)
        have e1 := tmod_pos (x := x + ((s[k]).toNat : Int)) (by omega)
        have e2 := tmod_pos (x := y + (x + ((s[k]).toNat : Int)) % 65521) (by omega)
        go_wp2
        go_round
        case rel => exact ⟨k + 1, _, _, by omega, by go_num, rfl, rfl, by omega, by omega, by omega, by omega, Lib.hid (by rw [hI.out, HD.out, adl_cons, stp_eq])⟩
        case measure => simp [intOf]; omega
      · go_wp2
        go_ret
        exact ⟨ret_int (by rw [hI.out, drop_all s k (by omega)]; rfl), rfl⟩

end Go.Proofs.YthfebcfdhmihcaaGreatDoor

namespace Go.Proofs.YthfebcfdhmihcaaGreatDoor

def j8F : List UInt8 := [97, 110, 110, 120, 106, 114, 110, 108]
def j8L : List UInt8 := [108, 110, 114, 106, 120, 110, 110, 97]
def okH (a b c : Int) : Bool := decide (0 ≤ a ∧ a ≤ 2000 ∧ 0 ≤ b ∧ b ≤ 2000 ∧ 0 ≤ c ∧ c ≤ 4294967295)
def nmL (l : List UInt8) : Int := (numR l).1
structure H8 where
  a : Int
  b : Int
  c : Int
def rdH (l : List UInt8) : H8 × Int :=
  if l.length < 32 then (⟨0, 0, 0⟩, 1)
  else if l.take 8 = j8F ∧ (l.drop 24).take 8 = j8L then
    if nmL (l.drop 20) = sumZ 7 (l.take 20) then
      if okH (nmL (l.drop 8)) (nmL (l.drop 12)) (nmL (l.drop 16)) = true then (⟨nmL (l.drop 8), nmL (l.drop 12), nmL (l.drop 16)⟩, 0) else (⟨0, 0, 0⟩, 3)
    else (⟨0, 0, 0⟩, 5)
  else (⟨0, 0, 0⟩, 4)

theorem okH_iff {a b c : Int} : okH a b c = true ↔ 0 ≤ a ∧ a ≤ 2000 ∧ 0 ≤ b ∧ b ≤ 2000 ∧ 0 ≤ c ∧ c ≤ 4294967295 := by unfold okH; exact decide_eq_true_iff
theorem four_len (n : Nat) : (fourL n).length = 4 := rfl
theorem u8_small {n : Nat} (h : n < 256) : (n.toUInt8).toNat = n := by
  show n % 256 = n
  omega
theorem nm_four {n : Int} (h0 : 0 ≤ n) (h1 : n ≤ 4294967295) (m : List UInt8) : nmL (fourL n.toNat ++ m) = n := by
  have e := congrArg Prod.fst (num_fix ⟨h0, h1⟩)
  unfold nmL
  rw [numR, if_neg (by rw [List.length_append, four_len]; omega)]
  rw [numR, if_neg (by rw [four_len]; omega)] at e
  exact e
/-- Four bytes are their number's. -/
theorem four_nm (l : List UInt8) (h : 4 ≤ l.length) : fourL (nmL l).toNat = l.take 4 := by
  match l, h with
  | a :: b :: c :: d :: m, _ =>
    have ha := a.toNat_lt; have hb := b.toNat_lt; have hc := c.toNat_lt; have hd := d.toNat_lt
    have e : (nmL (a :: b :: c :: d :: m)).toNat = a.toNat * 16777216 + b.toNat * 65536 + c.toNat * 256 + d.toNat := by
      unfold nmL
      rw [numR, if_neg (by simp)]
      show ((_ : Nat) : Int).toNat = _
      rfl
    rw [e]
    show [_, _, _, _] = [a, b, c, d]
    have e1 : (a.toNat * 16777216 + b.toNat * 65536 + c.toNat * 256 + d.toNat) / 16777216 = a.toNat := by omega
    have e2 : (a.toNat * 16777216 + b.toNat * 65536 + c.toNat * 256 + d.toNat) / 65536 % 256 = b.toNat := by omega
    have e3 : (a.toNat * 16777216 + b.toNat * 65536 + c.toNat * 256 + d.toNat) / 256 % 256 = c.toNat := by omega
    have e4 : (a.toNat * 16777216 + b.toNat * 65536 + c.toNat * 256 + d.toNat) % 256 = d.toNat := by omega
    rw [e1, e2, e3, e4]
    refine congr (congrArg List.cons ?_) (congr (congrArg List.cons ?_) (congr (congrArg List.cons ?_) (congr (congrArg List.cons ?_) rfl))) <;> exact UInt8.toNat_inj.1 (u8_small (by assumption))
theorem nmL_bd (l : List UInt8) : 0 ≤ nmL l ∧ nmL l ≤ 4294967295 := by
  unfold nmL numR
  split
  · exact ⟨Int.le_refl _, by show (0 : Int) ≤ _; omega⟩
  · have ha := (l.getD 0 0).toNat_lt; have hb := (l.getD 1 0).toNat_lt; have hc := (l.getD 2 0).toNat_lt; have hd := (l.getD 3 0).toNat_lt
    show 0 ≤ ((_ : Nat) : Int) ∧ ((_ : Nat) : Int) ≤ _
    omega
theorem nmL_take (l : List UInt8) (h : 4 ≤ l.length) : nmL (l.take 4) = nmL l := by
  match l, h with
  | a :: b :: c :: d :: m, _ =>
    unfold nmL
    rw [numR, if_neg (by simp), numR, if_neg (by simp)]
    rfl
theorem nmL_eq {l : List UInt8} (h : 4 ≤ l.length) {n : Int} (h0 : 0 ≤ n) (h1 : n ≤ 4294967295) : nmL l = n ↔ l.take 4 = fourL n.toNat := by
  constructor
  · rintro rfl; exact (four_nm l h).symm
  · intro e
    have := nm_four h0 h1 []
    rw [List.append_nil, ← e, nmL_take l h] at this
    exact this

end Go.Proofs.YthfebcfdhmihcaaGreatDoor

namespace Go.Proofs.YthfebcfdhmihcaaGreatDoor

def okP (n : Int) : Bool := decide (1 ≤ n ∧ n ≤ 2000)
structure P9 where
  n : Int
  d : List UInt8
  e : Int
def rdP (l : List UInt8) (k : Int) : P9 :=
  if l.length < 520 then ⟨0, [], 1⟩
  else if nmL (l.drop 516) = sumZ k (l.take 516) then
    (if okP (nmL l) = true then ⟨nmL l, (l.drop 4).take 512, 0⟩ else ⟨0, [], 3⟩)
  else ⟨0, [], 5⟩

theorem okP_iff {n : Int} : okP n = true ↔ 1 ≤ n ∧ n ≤ 2000 := by unfold okP; exact decide_eq_true_iff
end Go.Proofs.YthfebcfdhmihcaaGreatDoor

namespace Go.Proofs.YthfebcfdhmihcaaGreatDoor

def ba (l : List UInt8) : ByteArray := ⟨l.toArray⟩
theorem ba_size (l : List UInt8) : (ba l).size = l.length := by simp [ba, ByteArray.size]
theorem ba_list (l : List UInt8) : (ba l).data.toList = l := rfl
theorem ba_back (s : ByteArray) : ba s.data.toList = s := rfl
theorem ba_inj {a b : List UInt8} : ba a = ba b ↔ a = b := ⟨fun h => by have := congrArg (fun s : ByteArray => s.data.toList) h; exact this, fun h => by rw [h]⟩
theorem ba_app (a b : List UInt8) : ba a ++ ba b = ba (a ++ b) := by
  apply ByteArray.ext
  simp [ba]

def okS (p : List UInt8) : Bool := decide (1 ≤ p.length ∧ p.length ≤ 40)
theorem okS_iff {p : List UInt8} : okS p = true ↔ 1 ≤ p.length ∧ p.length ≤ 40 := by unfold okS; exact decide_eq_true_iff
def txS (p : List UInt8) : List UInt8 := fourL p.length ++ p
def sjF : List UInt8 := [97, 110, 110, 120, 115, 117, 112, 114]
def sjL : List UInt8 := [114, 112, 117, 115, 120, 110, 110, 97]
def stF : List UInt8 := [97, 110, 110, 120, 110, 97, 109, 101]
def stL : List UInt8 := [101, 109, 97, 110, 120, 110, 110, 97]
def bdS : List (List UInt8) → List UInt8
  | [] => []
  | p :: t => txS p ++ bdS t
def hdS (L : List (List UInt8)) : List UInt8 := sjF ++ fourL L.length ++ bdS L
def seS (s : List UInt8) (k : Int) (m : List UInt8) : List UInt8 := s ++ fourL (sumZ k s).toNat ++ m
def ckS (L : List (List UInt8)) : Int := if L.length < 2 ∨ 12 < L.length then 18 else if L.all okS = false then 13 else if L.Nodup then 0 else 9
def encS (L : List (List UInt8)) : List UInt8 × Int := if ckS L = 0 then (seS (hdS L) 11 sjL, 0) else ([], ckS L)
def trS (p : List UInt8) : List UInt8 × Int := if okS p = true then (seS (stF ++ txS p) 13 stL, 0) else ([], 13)

def pthP (l : List UInt8) : List UInt8 × List UInt8 := if 40 < nmL l then ([], l.drop 4) else ((l.drop 4).take (nmL l).toNat, (l.drop 4).drop (nmL l).toNat)
def pths : Nat → List UInt8 → List (List UInt8) × List UInt8
  | 0, r => ([], r)
  | k + 1, r => ((pths k r).1 ++ [(pthP (pths k r).2).1], (pthP (pths k r).2).2)
def flP (s : List UInt8) : List (List UInt8) := if 12 < nmL (s.drop 8) then [] else (pths (nmL (s.drop 8)).toNat (s.drop 12)).1
def nmP (s : List UInt8) : List UInt8 := (pthP (s.drop 8)).1
def tkD (s : List UInt8) (a : Int) : List UInt8 × Int :=
  if a < 0 ∨ s.length < a then ([], -1)
  else if s.length - a < 4 ∨ 40 < nmL (s.drop a.toNat) ∨ s.length - a - 4 < nmL (s.drop a.toNat) then ([], -1)
  else ((s.drop (a.toNat + 4)).take (nmL (s.drop a.toNat)).toNat, a + 4 + nmL (s.drop a.toNat))
def tks (s : List UInt8) : Nat → List (List UInt8) × Int
  | 0 => ([], 12)
  | k + 1 => ((tks s k).1 ++ [(tkD s (tks s k).2).1], (tkD s (tks s k).2).2)
def flD (s : List UInt8) : List (List UInt8) := (tks s (min (nmL (s.drop 8)).toNat 13)).1
def decS (s : List UInt8) : List (List UInt8) × Int := if encS (flP s) = (s, 0) then (flP s, 0) else ([], 4)
def decD (s : List UInt8) : List (List UInt8) × Int := if s.length < 12 then ([], 4) else if encS (flD s) = (s, 0) then (flD s, 0) else ([], 4)
def namS (s : List UInt8) : List UInt8 × Int := if trS (nmP s) = (s, 0) then (nmP s, 0) else ([], 4)
def namD (s : List UInt8) : List UInt8 × Int := if trS (tkD s 8).1 = (s, 0) then ((tkD s 8).1, 0) else ([], 4)

theorem txS_len (p : List UInt8) : (txS p).length = 4 + p.length := by rw [txS, List.length_append, four_len]
theorem bdS_app (a b : List (List UInt8)) : bdS (a ++ b) = bdS a ++ bdS b := by
  induction a with
  | nil => rfl
  | cons p t ih => rw [List.cons_append, bdS, bdS, ih, List.append_assoc]
theorem bdS_len (L : List (List UInt8)) (h : ∀ p ∈ L, p.length ≤ 40) : (bdS L).length ≤ 44 * L.length := by
  induction L with
  | nil => exact Nat.le_refl _
  | cons p t ih =>
    have h1 := h p (List.mem_cons_self ..)
    have h2 := ih fun q hq => h q (List.mem_cons_of_mem _ hq)
    rw [bdS, List.length_append, txS_len, List.length_cons]; omega
theorem hdS_len (L : List (List UInt8)) : (hdS L).length = 12 + (bdS L).length := by rw [hdS, List.length_append, List.length_append, four_len]; rfl
theorem ckS_ok {L : List (List UInt8)} : ckS L = 0 ↔ 2 ≤ L.length ∧ L.length ≤ 12 ∧ (∀ p ∈ L, okS p = true) ∧ L.Nodup := by
  unfold ckS
  split
  · exact ⟨fun h => absurd h (by decide), fun h => by omega⟩
  · split
    · rename_i h; rw [List.all_eq_false] at h
      obtain ⟨p, hp, hq⟩ := h
      exact ⟨fun h => absurd h (by decide), fun h => absurd (h.2.2.1 p hp) hq⟩
    · rename_i h
      have h' : L.all okS = true := by simpa using h
      rw [List.all_eq_true] at h'
      split
      · rename_i hn; exact ⟨fun _ => ⟨by omega, by omega, h', hn⟩, fun _ => rfl⟩
      · rename_i hn; exact ⟨fun h => absurd h (by decide), fun h => absurd h.2.2.2 hn⟩
theorem enc_ok {L : List (List UInt8)} {s : List UInt8} (h : encS L = (s, 0)) : ckS L = 0 ∧ s = seS (hdS L) 11 sjL := by
  unfold encS at h
  split at h
  · rename_i hk; exact ⟨hk, (Prod.mk.inj h).1.symm⟩
  · rename_i hk; exact absurd (Prod.mk.inj h).2 hk
theorem tr_ok {p s : List UInt8} (h : trS p = (s, 0)) : okS p = true ∧ s = seS (stF ++ txS p) 13 stL := by
  unfold trS at h
  split at h
  · rename_i hk; exact ⟨hk, (Prod.mk.inj h).1.symm⟩
  · exact absurd (Prod.mk.inj h).2 (by decide)

theorem nm_tx {p : List UInt8} (h : p.length ≤ 4294967295) (m : List UInt8) : nmL (txS p ++ m) = p.length := by
  rw [txS, List.append_assoc]
  exact nm_four (n := (p.length : Int)) (by omega) (by omega) _
theorem tx_drop (p m : List UInt8) : (txS p ++ m).drop 4 = p ++ m := by
  rw [txS, List.append_assoc, List.drop_append_of_le_length (by rw [four_len]; omega), List.drop_of_length_le (by rw [four_len]; omega), List.nil_append]
theorem pth_tx {p : List UInt8} (h : p.length ≤ 40) (m : List UInt8) : pthP (txS p ++ m) = (p, m) := by
  have e := nm_tx (p := p) (by omega) m
  rw [pthP, e, if_neg (by omega), tx_drop]
  simp
theorem bd_drop {L : List (List UInt8)} {k : Nat} (hk : k < L.length) : bdS (L.drop k) = txS L[k] ++ bdS (L.drop (k + 1)) := by
  rw [List.drop_eq_getElem_cons hk, bdS]
theorem pths_bd {L : List (List UInt8)} (h : ∀ p ∈ L, p.length ≤ 40) (m : List UInt8) (k : Nat) (hk : k ≤ L.length) : pths k (bdS L ++ m) = (L.take k, bdS (L.drop k) ++ m) := by
  induction k with
  | zero => rfl
  | succ k ih =>
    have ih := ih (by omega)
    rw [pths, ih, bd_drop (by omega : k < L.length), List.append_assoc, pth_tx (h _ (List.getElem_mem _)), List.take_succ_eq_append_getElem (by omega)]
theorem tkD_at {s pre p m : List UInt8} (hs : s = pre ++ (txS p ++ m)) (h : p.length ≤ 40) : tkD s pre.length = (p, (((pre ++ txS p).length : Nat) : Int)) := by
  have e1 : s.drop pre.length = txS p ++ m := by rw [hs]; simp
  have e2 : s.drop (pre.length + 4) = p ++ m := by rw [← List.drop_drop, e1, tx_drop]
  have hl : s.length = pre.length + (4 + p.length + m.length) := by rw [hs, List.length_append, List.length_append, txS_len]
  have e := nm_tx (p := p) (by omega) m
  rw [tkD, if_neg (by omega), Int.toNat_natCast, e1, e, if_neg (by omega), Int.toNat_natCast, e2, List.length_append, txS_len]
  refine Prod.ext ?_ ?_
  · simp
  · show (pre.length : Int) + 4 + p.length = ((pre.length + (4 + p.length) : Nat) : Int)
    omega
theorem tks_bd {s pre : List UInt8} {L : List (List UInt8)} {m : List UInt8} (hs : s = pre ++ (bdS L ++ m)) (hp : pre.length = 12) (h : ∀ p ∈ L, p.length ≤ 40) (k : Nat) (hk : k ≤ L.length) : tks s k = (L.take k, (((pre ++ bdS (L.take k)).length : Nat) : Int)) := by
  induction k with
  | zero =>
    rw [tks, List.take_zero, bdS, List.append_nil, hp]; rfl
  | succ k ih =>
    have ih := ih (by omega)
    have hk' : k < L.length := by omega
    have e : bdS L = bdS (L.take k) ++ (txS L[k] ++ bdS (L.drop (k + 1))) := by rw [← bd_drop hk', ← bdS_app, List.take_append_drop]
    have := tkD_at (s := s) (pre := pre ++ bdS (L.take k)) (p := L[k]) (m := bdS (L.drop (k + 1)) ++ m) (by rw [hs, e]; simp only [List.append_assoc]) (h _ (List.getElem_mem _))
    rw [tks, ih, this, List.take_succ_eq_append_getElem hk', bdS_app, bdS, bdS, List.append_nil, List.append_assoc]
/-- What is encoded is read back, both ways. -/
theorem fl_enc {L : List (List UInt8)} {s : List UInt8} (h : encS L = (s, 0)) : 12 ≤ s.length ∧ flP s = L ∧ flD s = L := by
  obtain ⟨hk, hs⟩ := enc_ok h
  obtain ⟨h2, h12, hok, -⟩ := ckS_ok.1 hk
  have h40 : ∀ p ∈ L, p.length ≤ 40 := fun p hp => (okS_iff.1 (hok p hp)).2
  obtain ⟨m, hm⟩ : ∃ m, m = fourL (sumZ 11 (hdS L)).toNat ++ sjL := ⟨_, rfl⟩
  have e : s = (sjF ++ fourL L.length) ++ (bdS L ++ m) := by
    have e0 : seS (hdS L) 11 sjL = hdS L ++ m := by rw [seS, hm, List.append_assoc]
    rw [hs, e0, hdS, List.append_assoc]
  have hp : (sjF ++ fourL L.length).length = 12 := rfl
  have e8 : s.drop 8 = fourL L.length ++ (bdS L ++ m) := by rw [e, List.append_assoc]; rfl
  have e12 : s.drop 12 = bdS L ++ m := by rw [e]; rfl
  have en : nmL (s.drop 8) = L.length := by rw [e8]; exact nm_four (n := (L.length : Int)) (by omega) (by omega) _
  refine ⟨?_, ?_, ?_⟩
  · rw [e, List.length_append, hp]; omega
  · rw [flP, en, if_neg (by omega), Int.toNat_natCast, e12, pths_bd h40 m _ (Nat.le_refl _), List.take_length]
  · rw [flD, en, Int.toNat_natCast, Nat.min_eq_left (by omega), tks_bd e hp h40 _ (Nat.le_refl _), List.take_length]
theorem dec_enc {L : List (List UInt8)} {s : List UInt8} (h : encS L = (s, 0)) : decS s = (L, 0) := by
  rw [decS, (fl_enc h).2.1, if_pos h]
theorem dec_none {s : List UInt8} (h : ∀ L, encS L ≠ (s, 0)) : decS s = ([], 4) := by rw [decS, if_neg (h _)]
theorem decD_eq (s : List UInt8) : decD s = decS s := by
  by_cases h : ∃ L, encS L = (s, 0)
  · obtain ⟨L, h⟩ := h
    obtain ⟨h1, h2, h3⟩ := fl_enc h
    rw [decD, if_neg (by omega), h3, if_pos h, dec_enc h]
  · have h' : ∀ L, encS L ≠ (s, 0) := fun L e => h ⟨L, e⟩
    rw [dec_none h', decD, if_neg (h' _)]
    split <;> rfl
theorem nam_tr {p s : List UInt8} (h : trS p = (s, 0)) : nmP s = p ∧ (tkD s 8).1 = p := by
  obtain ⟨hk, hs⟩ := tr_ok h
  have h40 := (okS_iff.1 hk).2
  obtain ⟨m, hm⟩ : ∃ m, m = fourL (sumZ 13 (stF ++ txS p)).toNat ++ stL := ⟨_, rfl⟩
  have e : s = stF ++ (txS p ++ m) := by rw [hs, seS, hm]; simp only [List.append_assoc]
  have e8 : s.drop 8 = txS p ++ m := by rw [e]; rfl
  exact ⟨by rw [nmP, e8, pth_tx h40], by have := tkD_at (pre := stF) e h40; exact congrArg Prod.fst this⟩
theorem named_tr {p s : List UInt8} (h : trS p = (s, 0)) : namS s = (p, 0) := by rw [namS, (nam_tr h).1, if_pos h]
theorem named_none {s : List UInt8} (h : ∀ p, trS p ≠ (s, 0)) : namS s = ([], 4) := by rw [namS, if_neg (h _)]
theorem namD_eq (s : List UInt8) : namD s = namS s := by
  by_cases h : ∃ p, trS p = (s, 0)
  · obtain ⟨p, h⟩ := h
    rw [namD, (nam_tr h).2, if_pos h, named_tr h]
  · have h' : ∀ p, trS p ≠ (s, 0) := fun p e => h ⟨p, e⟩
    rw [named_none h', namD, if_neg (h' _)]

end Go.Proofs.YthfebcfdhmihcaaGreatDoor

namespace Go.Proofs.YthfebcfdhmihcaaGreatDoor

structure R11 where
  n : Int
  d : List UInt8
def okR (r : R11) : Prop := 1 ≤ r.n ∧ r.n ≤ 2000 ∧ r.d.length = 512
def sgR (k : Int) (l : List UInt8) : Nat → Option (List R11)
  | 0 => some []
  | n + 1 => match sgR k l n with
    | none => none
    | some L => if (rdP (l.drop (520 * n)) k).e = 0 then some (L ++ [⟨(rdP (l.drop (520 * n)) k).n, (rdP (l.drop (520 * n)) k).d⟩]) else none
structure S11 where
  p : Int
  L : List R11
  t : List UInt8
def fsS (s : List UInt8) : Option S11 :=
  if (rdH s).2 = 0 then
    match sgR (rdH s).1.c (s.drop 32) (rdH s).1.a.toNat with
    | none => none
    | some L => some ⟨(rdH s).1.b, L, s.drop (32 + 520 * (rdH s).1.a.toNat)⟩
  else none
def hasR (L : List R11) (n : Int) : Bool := L.any (fun r => decide (r.n = n))
def putR (L : List R11) (r : R11) : List R11 := if hasR L r.n = true then L else L ++ [r]
def addR (L M : List R11) : List R11 := M.foldl putR L
def pageR : List R11 → Int → List UInt8 × Bool
  | [], _ => ([], false)
  | r :: t, n => if r.n = n then (r.d, true) else pageR t n
structure Q11 where
  k : Nat
  p : Int
  L : List R11
def rdG : Nat → List UInt8 → Q11 → Q11 × List UInt8
  | 0, s, j => (j, s)
  | f + 1, s, j => match fsS s with
    | none => (j, s)
    | some g => if 0 < j.k ∧ g.p ≠ j.p then (j, s) else rdG f g.t ⟨j.k + 1, g.p, addR j.L g.L⟩
structure J11 where
  k : Nat
  p : Int
  L : List R11
  s : List UInt8
def endJ (x : Q11 × List UInt8) : J11 := ⟨x.1.k, x.1.p, x.1.L, if 0 < x.1.k then (namS x.2).1 else []⟩
def rdJ (s : List UInt8) : J11 := endJ (rdG (s.length + 1) s ⟨0, 0, []⟩)

theorem rdP_ok {l : List UInt8} {k : Int} (h : (rdP l k).e = 0) : okR ⟨(rdP l k).n, (rdP l k).d⟩ ∧ 520 ≤ l.length := by
  unfold rdP at h ⊢
  by_cases c1 : l.length < 520
  · rw [if_pos c1] at h; exact absurd h (by decide)
  · rw [if_neg c1] at h ⊢
    by_cases c2 : nmL (l.drop 516) = sumZ k (l.take 516)
    · rw [if_pos c2] at h ⊢
      by_cases c3 : okP (nmL l) = true
      · rw [if_pos c3] at h ⊢
        have := okP_iff.1 c3
        exact ⟨⟨this.1, this.2, by rw [List.length_take, List.length_drop]; omega⟩, by omega⟩
      · rw [if_neg c3] at h; exact absurd h (by decide)
    · rw [if_neg c2] at h; exact absurd h (by decide)
theorem rdH_ok {s : List UInt8} (h : (rdH s).2 = 0) : 32 ≤ s.length ∧ (0 ≤ (rdH s).1.a ∧ (rdH s).1.a ≤ 2000) ∧ (0 ≤ (rdH s).1.b ∧ (rdH s).1.b ≤ 2000) ∧ (0 ≤ (rdH s).1.c ∧ (rdH s).1.c ≤ 4294967295) := by
  unfold rdH at h ⊢
  by_cases c1 : s.length < 32
  · rw [if_pos c1] at h; exact absurd h (by decide)
  · rw [if_neg c1] at h ⊢
    by_cases c2 : s.take 8 = j8F ∧ (s.drop 24).take 8 = j8L
    · rw [if_pos c2] at h ⊢
      by_cases c3 : nmL (s.drop 20) = sumZ 7 (s.take 20)
      · rw [if_pos c3] at h ⊢
        by_cases c4 : okH (nmL (s.drop 8)) (nmL (s.drop 12)) (nmL (s.drop 16)) = true
        · rw [if_pos c4] at h ⊢
          have := okH_iff.1 c4
          exact ⟨by omega, ⟨this.1, this.2.1⟩, ⟨this.2.2.1, this.2.2.2.1⟩, this.2.2.2.2.1, this.2.2.2.2.2⟩
        · rw [if_neg c4] at h; exact absurd h (by decide)
      · rw [if_neg c3] at h; exact absurd h (by decide)
    · rw [if_neg c2] at h; exact absurd h (by decide)
theorem sgR_succ (k : Int) (l : List UInt8) (n : Nat) : sgR k l (n + 1) = match sgR k l n with
    | none => none
    | some L => if (rdP (l.drop (520 * n)) k).e = 0 then some (L ++ [⟨(rdP (l.drop (520 * n)) k).n, (rdP (l.drop (520 * n)) k).d⟩]) else none := rfl
theorem sgR_ok {k : Int} {l : List UInt8} : ∀ {n : Nat} {L : List R11}, sgR k l n = some L → L.length = n ∧ (∀ r ∈ L, okR r) ∧ 520 * n ≤ l.length := by
  intro n
  induction n with
  | zero => intro L h; cases h; exact ⟨rfl, (fun r hr => by cases hr), Nat.zero_le _⟩
  | succ n ih =>
    intro L h
    rw [sgR_succ] at h
    cases hp : sgR k l n with
    | none => rw [hp] at h; cases h
    | some M =>
      rw [hp] at h
      obtain ⟨h1, h2, h3⟩ := ih hp
      by_cases he : (rdP (l.drop (520 * n)) k).e = 0
      · simp only [if_pos he] at h
        cases h
        obtain ⟨o1, o2⟩ := rdP_ok he
        rw [List.length_drop] at o2
        refine ⟨by rw [List.length_append, h1]; rfl, fun r hr => ?_, by omega⟩
        rcases List.mem_append.1 hr with hr | hr
        · exact h2 r hr
        · rw [List.mem_singleton] at hr; rw [hr]; exact o1
      · simp only [if_neg he] at h; cases h
theorem sgR_none {k : Int} {l : List UInt8} {n : Nat} (h : sgR k l n = none) (m : Nat) : sgR k l (n + m) = none := by
  induction m with
  | zero => exact h
  | succ m ih => rw [← Nat.add_assoc, sgR_succ, ih]
theorem sgR_bad {k : Int} {l : List UInt8} {n m : Nat} (h : n < m) (he : (rdP (l.drop (520 * n)) k).e ≠ 0) : sgR k l m = none := by
  have : sgR k l (n + 1) = none := by
    rw [sgR_succ]
    cases sgR k l n with
    | none => rfl
    | some L => simp only [if_neg he]
  have := sgR_none this (m - (n + 1))
  rwa [show n + 1 + (m - (n + 1)) = m by omega] at this
theorem sgR_next {k : Int} {l : List UInt8} {n : Nat} {L : List R11} (h : sgR k l n = some L) (he : (rdP (l.drop (520 * n)) k).e = 0) : sgR k l (n + 1) = some (L ++ [⟨(rdP (l.drop (520 * n)) k).n, (rdP (l.drop (520 * n)) k).d⟩]) := by
  rw [sgR_succ, h]
  exact if_pos he
theorem sgR_short {k : Int} {l : List UInt8} {n : Nat} (h : l.length < 520 * n) : sgR k l n = none := by
  cases hp : sgR k l n with
  | none => rfl
  | some L => have := (sgR_ok hp).2.2; omega
theorem fsS_some {s : List UInt8} (h : (rdH s).2 = 0) {L : List R11} (hL : sgR (rdH s).1.c (s.drop 32) (rdH s).1.a.toNat = some L) : fsS s = some ⟨(rdH s).1.b, L, s.drop (32 + 520 * (rdH s).1.a.toNat)⟩ := by
  rw [fsS, if_pos h, hL]
theorem fsS_none {s : List UInt8} (h : (rdH s).2 ≠ 0 ∨ sgR (rdH s).1.c (s.drop 32) (rdH s).1.a.toNat = none) : fsS s = none := by
  rw [fsS]
  by_cases c : (rdH s).2 = 0
  · rw [if_pos c]
    rcases h with h | h
    · exact absurd c h
    · rw [h]
  · rw [if_neg c]
theorem fsS_ok {s : List UInt8} {g : S11} (h : fsS s = some g) : (0 ≤ g.p ∧ g.p ≤ 2000) ∧ g.L.length ≤ 2000 ∧ (∀ r ∈ g.L, okR r) ∧ g.t = s.drop (32 + 520 * g.L.length) ∧ 32 + 520 * g.L.length ≤ s.length := by
  unfold fsS at h
  by_cases c : (rdH s).2 = 0
  · rw [if_pos c] at h
    obtain ⟨h1, h2, h3, h4⟩ := rdH_ok c
    cases hp : sgR (rdH s).1.c (s.drop 32) (rdH s).1.a.toNat with
    | none => rw [hp] at h; cases h
    | some L =>
      rw [hp] at h
      cases h
      obtain ⟨o1, o2, o3⟩ := sgR_ok hp
      rw [List.length_drop] at o3
      exact ⟨h3, by show L.length ≤ 2000; omega, o2, by show s.drop _ = s.drop (32 + 520 * L.length); rw [o1], by show 32 + 520 * L.length ≤ _; omega⟩
  · rw [if_neg c] at h; cases h
theorem fsS_lt {s : List UInt8} {g : S11} (h : fsS s = some g) : g.t.length + 32 ≤ s.length := by
  obtain ⟨-, -, -, h1, h2⟩ := fsS_ok h
  rw [h1, List.length_drop]; omega

theorem hasR_app (L : List R11) (r : R11) (n : Int) : hasR (L ++ [r]) n = (hasR L n || decide (r.n = n)) := by
  unfold hasR; simp
theorem has_page (L : List R11) (n : Int) : (pageR L n).2 = hasR L n := by
  induction L with
  | nil => rfl
  | cons r t ih =>
    unfold hasR at ih ⊢
    rw [pageR, List.any_cons]
    by_cases h : r.n = n
    · rw [if_pos h, decide_eq_true h]; rfl
    · rw [if_neg h, decide_eq_false h, ih]; rfl
theorem addR_snoc (L : List R11) {M : List R11} {k : Nat} (h : k < M.length) : addR L (M.take (k + 1)) = putR (addR L (M.take k)) M[k] := by
  rw [List.take_succ_eq_append_getElem h, addR, addR, List.foldl_append]; rfl
theorem addR_all (L : List R11) {M : List R11} {k : Nat} (h : M.length ≤ k) : addR L (M.take k) = addR L M := by rw [List.take_of_length_le h]
theorem putR_len (L : List R11) (r : R11) : (putR L r).length ≤ L.length + 1 := by
  unfold putR; split
  · omega
  · rw [List.length_append]; exact Nat.le_refl _
theorem addR_len (M : List R11) : ∀ L : List R11, (addR L M).length ≤ L.length + M.length := by
  induction M with
  | nil => intro L; exact Nat.le_refl _
  | cons r t ih =>
    intro L
    have h1 := ih (putR L r)
    have h2 := putR_len L r
    show (addR (putR L r) t).length ≤ _
    rw [List.length_cons]; omega

theorem rdG_none {s : List UInt8} (h : fsS s = none) (f : Nat) (j : Q11) : rdG f s j = (j, s) := by
  cases f with
  | zero => rfl
  | succ f => rw [rdG, h]
theorem rdG_stop {s : List UInt8} {g : S11} (h : fsS s = some g) {j : Q11} (hj : 0 < j.k ∧ g.p ≠ j.p) (f : Nat) : rdG f s j = (j, s) := by
  cases f with
  | zero => rfl
  | succ f => rw [rdG, h]; exact if_pos hj
theorem rdG_step {s : List UInt8} {g : S11} (h : fsS s = some g) {j : Q11} (hj : ¬ (0 < j.k ∧ g.p ≠ j.p)) {f : Nat} (hf : s.length < f) : ∃ f', g.t.length < f' ∧ rdG f s j = rdG f' g.t ⟨j.k + 1, g.p, addR j.L g.L⟩ := by
  have hl := fsS_lt h
  match f, hf with
  | f + 1, hf => exact ⟨f, by omega, by rw [rdG, h]; exact if_neg hj⟩

end Go.Proofs.YthfebcfdhmihcaaGreatDoor

namespace Go.Proofs.YthfebcfdhmihcaaGreatDoor
open Go.RowKit

theorem results_pair {P : Program} {fn : Func} {p u : Tmp} {ty : TypeId} (h : fn.results = #[.cell p ty, .tmp u]) (tmps : Array Value) (w : World) (g : Nat) (t : TypeId) (cs : Array Value) (d : TypeDesc)
    (hp : tmps.getD p undef = .pointer (some ⟨g, 0, none⟩)) (hg : Blk w g t cs)
    (hu : P.underlying ty = some d) (hd : (match d with | .struct _ | .array _ _ => true | _ => false) = true) (hi : (P.info? ty).map (·.size) = some cs.size) :
    (results fn tmps).run P w = .ok (.tuple #[.agg cs, tmps.getD u undef]) w := by
  have hp' : tmps[p]?.getD undef = .pointer (some ⟨g, 0, none⟩) := by simpa using hp
  have hl := run_loadVar_row (P := P) w g t ty cs (0, 0) d hg hu hd hi
  simp [results, h, hp', asAddr, hl]
/-- A block of our own at its place: a world that has grown by it and by what came behind. -/
theorem blw_set {w w' : World} (h : Below w.heap.size w w') {g : Nat} (hg : w.heap.size ≤ g) (i : Nat) (v : Value) : Below w.heap.size w (w'.setCell ⟨g, i, none⟩ v) := h.setCell (p := ⟨g, i, none⟩) hg v
theorem blw_new {w w' : World} {o : Obj} (h : Below (w.alloc o).heap.size (w.alloc o) w') : Below w.heap.size w w' := (blw1 w o).trans (h.mono (by simp))

end Go.Proofs.YthfebcfdhmihcaaGreatDoor

namespace Go.Proofs.YthfebcfdhmihcaaGreatDoor
open Go.RowKit

def putD (l : List UInt8) (o : Nat) (d : List UInt8) : List UInt8 := l.take o ++ (d ++ l.drop (o + d.length))
def okA (N : Nat) (r : R11) : Bool := decide (1 ≤ r.n ∧ r.n ≤ N ∧ r.d.length = 512)
def atA (r : R11) : Nat := (r.n.toNat - 1) * 512
def stP (N : Nat) (b : List UInt8) (r : R11) : List UInt8 := if okA N r = true then putD b (atA r) r.d else b
def fitL (m : Nat) (s : List UInt8) : List UInt8 := (s ++ List.replicate (m - s.length) 0).take m
def clN (p : Int) : Nat := (max 0 (min p 2000)).toNat
def apL (p : Int) (L : List R11) (s : List UInt8) : List UInt8 := L.foldl (stP (clN p)) (fitL (clN p * 512) s)
def stD (s : List UInt8) (r : R11) : List UInt8 := if okA 2000 r = true then putD (s ++ List.replicate (atA r + 512 - s.length) 0) (atA r) r.d else s
def apD (p : Int) (L : List R11) (s : List UInt8) : List UInt8 := fitL (clN p * 512) (L.foldl stD s)
def gB (l : List UInt8) (i : Nat) : UInt8 := (l[i]?).getD 0

theorem okA_iff {N : Nat} {r : R11} : okA N r = true ↔ 1 ≤ r.n ∧ r.n ≤ N ∧ r.d.length = 512 := by unfold okA; exact decide_eq_true_iff
theorem clN_le (p : Int) : clN p ≤ 2000 := by unfold clN; omega
theorem putD_len {l : List UInt8} {o : Nat} {d : List UInt8} (h : o + d.length ≤ l.length) : (putD l o d).length = l.length := by
  unfold putD
  rw [List.length_append, List.length_append, List.length_take, List.length_drop]; omega
theorem putD_get {l : List UInt8} {o : Nat} {d : List UInt8} (h : o ≤ l.length) (i : Nat) : (putD l o d)[i]? = if o ≤ i ∧ i < o + d.length then d[i - o]? else l[i]? := by
  unfold putD
  have ho : (l.take o).length = o := by rw [List.length_take]; omega
  rw [List.getElem?_append, ho]
  by_cases h1 : i < o
  · rw [if_pos h1, if_neg (by omega), List.getElem?_take, if_pos h1]
  · rw [if_neg h1, List.getElem?_append]
    by_cases h2 : i - o < d.length
    · rw [if_pos h2, if_pos (by omega)]
    · rw [if_neg h2, if_neg (by omega), List.getElem?_drop]
      congr 1; omega
theorem putD_g {l : List UInt8} {o : Nat} {d : List UInt8} (h : o ≤ l.length) (i : Nat) : gB (putD l o d) i = if o ≤ i ∧ i < o + d.length then gB d (i - o) else gB l i := by
  unfold gB
  rw [putD_get h]
  split <;> rfl
theorem gB_out {l : List UInt8} {i : Nat} (h : l.length ≤ i) : gB l i = 0 := by
  unfold gB; rw [List.getElem?_eq_none h]; rfl
theorem gB_app (s : List UInt8) (m i : Nat) : gB (s ++ List.replicate m 0) i = gB s i := by
  unfold gB
  rw [List.getElem?_append]
  by_cases h : i < s.length
  · rw [if_pos h]
  · rw [if_neg h, List.getElem?_eq_none (by omega : s.length ≤ i), List.getElem?_replicate]
    split <;> rfl
theorem fit_len (m : Nat) (s : List UInt8) : (fitL m s).length = m := by
  unfold fitL
  rw [List.length_take, List.length_append, List.length_replicate]; omega
theorem fit_g (m : Nat) (s : List UInt8) (i : Nat) : gB (fitL m s) i = if i < m then gB s i else 0 := by
  by_cases h : i < m
  · rw [if_pos h, ← gB_app s (m - s.length) i]
    unfold fitL gB
    rw [List.getElem?_take, if_pos h]
  · rw [if_neg h, gB_out (by rw [fit_len]; omega)]
theorem gB_ext {a b : List UInt8} (hl : a.length = b.length) (h : ∀ i, i < a.length → gB a i = gB b i) : a = b := by
  refine List.ext_getElem hl fun i h1 h2 => ?_
  have := h i h1
  unfold gB at this
  rw [List.getElem?_eq_getElem h1, List.getElem?_eq_getElem h2] at this
  exact this
theorem atA_le {N : Nat} {r : R11} (h : okA N r = true) : atA r + 512 ≤ N * 512 := by
  have := okA_iff.1 h
  unfold atA; omega
theorem stP_len {N : Nat} {b : List UInt8} (hb : b.length = N * 512) (r : R11) : (stP N b r).length = N * 512 := by
  unfold stP
  split
  · rename_i h
    have h1 := atA_le h
    have h2 := (okA_iff.1 h).2.2
    rw [putD_len (by omega), hb]
  · exact hb
theorem fold_len {N : Nat} (L : List R11) : ∀ {b : List UInt8}, b.length = N * 512 → (L.foldl (stP N) b).length = N * 512 := by
  induction L with
  | nil => intro b hb; exact hb
  | cons r t ih => intro b hb; exact ih (stP_len hb r)
theorem apL_len (p : Int) (L : List R11) (s : List UInt8) : (apL p L s).length = clN p * 512 := fold_len L (fit_len _ _)
theorem stP_g {N : Nat} {b : List UInt8} (hb : b.length = N * 512) (r : R11) (i : Nat) : gB (stP N b r) i = if okA N r = true ∧ atA r ≤ i ∧ i < atA r + 512 then gB r.d (i - atA r) else gB b i := by
  unfold stP
  by_cases h : okA N r = true
  · have h1 := atA_le h
    have h2 := (okA_iff.1 h).2.2
    rw [if_pos h, putD_g (by omega), h2]
    by_cases h3 : atA r ≤ i ∧ i < atA r + 512
    · rw [if_pos h3, if_pos ⟨h, h3⟩]
    · rw [if_neg h3, if_neg (fun e => h3 e.2)]
  · rw [if_neg h, if_neg (fun e => h e.1)]
theorem stD_g (s : List UInt8) (r : R11) (i : Nat) : gB (stD s r) i = if okA 2000 r = true ∧ atA r ≤ i ∧ i < atA r + 512 then gB r.d (i - atA r) else gB s i := by
  unfold stD
  by_cases h : okA 2000 r = true
  · have h2 := (okA_iff.1 h).2.2
    rw [if_pos h, putD_g (by rw [List.length_append, List.length_replicate]; omega), h2, gB_app]
    by_cases h3 : atA r ≤ i ∧ i < atA r + 512
    · rw [if_pos h3, if_pos ⟨h, h3⟩]
    · rw [if_neg h3, if_neg (fun e => h3 e.2)]
  · rw [if_neg h, if_neg (fun e => h e.1)]
theorem fit_step {N : Nat} (hN : N ≤ 2000) (s : List UInt8) (r : R11) : fitL (N * 512) (stD s r) = stP N (fitL (N * 512) s) r := by
  refine gB_ext (by rw [fit_len, stP_len (fit_len _ _)]) fun i hi => ?_
  rw [fit_len] at hi
  rw [fit_g, if_pos hi, stD_g, stP_g (fit_len _ _), fit_g, if_pos hi]
  by_cases h : okA N r = true
  · have h' : okA 2000 r = true := by have := okA_iff.1 h; exact okA_iff.2 ⟨this.1, by omega, this.2.2⟩
    simp only [h, h', true_and]
  · have hR : ¬ (okA N r = true ∧ atA r ≤ i ∧ i < atA r + 512) := fun e => h e.1
    rw [if_neg hR]
    have hL : ¬ (okA 2000 r = true ∧ atA r ≤ i ∧ i < atA r + 512) := by
      rintro ⟨h2, h5, -⟩
      have h3 := okA_iff.1 h2
      have h4 : (N : Int) < r.n := by
        by_cases h5 : r.n ≤ N
        · exact absurd (okA_iff.2 ⟨h3.1, h5, h3.2.2⟩) h
        · omega
      unfold atA at h5
      omega
    rw [if_neg hL]
theorem fit_fold {N : Nat} (hN : N ≤ 2000) (L : List R11) : ∀ s : List UInt8, fitL (N * 512) (L.foldl stD s) = L.foldl (stP N) (fitL (N * 512) s) := by
  induction L with
  | nil => intro s; rfl
  | cons r t ih => intro s; rw [List.foldl_cons, List.foldl_cons, ih, fit_step hN]
/-- The two ways lead to the same bytes. -/
theorem apD_eq (p : Int) (L : List R11) (s : List UInt8) : apD p L s = apL p L s := fit_fold (clN_le p) L s
theorem apL_snoc {N : Nat} {b : List UInt8} {M : List R11} {k : Nat} (h : k < M.length) : (M.take (k + 1)).foldl (stP N) b = stP N ((M.take k).foldl (stP N) b) M[k] := by
  rw [List.take_succ_eq_append_getElem h, List.foldl_append]; rfl
theorem apD_snoc {s : List UInt8} {M : List R11} {k : Nat} (h : k < M.length) : (M.take (k + 1)).foldl stD s = stD ((M.take k).foldl stD s) M[k] := by
  rw [List.take_succ_eq_append_getElem h, List.foldl_append]; rfl

theorem strCells_take (s : ByteArray) (m : Nat) : ((s.extract 0 m).data.map fun b => Value.int .u8 b.toNat) = ((Lib.strCells s).take m).toArray := by
  apply Array.ext'
  simp [Lib.strCells, ByteArray.data_extract]
theorem run_copy_str {P : Program} (w : World) (dT sT ty elem : TypeId) (g o dLen dCap : Nat) (s : ByteArray) (cur : Array Value) (t : TypeId)
    (hu : P.underlying dT = some (.slice elem)) (hs : (P.info? elem).map (·.size) = some 1) (hg : w.heap[g]? = some (.cells cur t (0, 0))) (m : Nat) (hm : Nat.min s.size dLen = m) (hfit : o + m ≤ cur.size) :
    (Builtin.copy_ #[dT, sT] ty #[.slice (some ⟨g, o, none⟩) dLen dCap, .string s]).run P w =
      .ok (goInt m) (w.setRow g (cur.toList.take o ++ ((Lib.strCells s).take m ++ cur.toList.drop (o + m))).toArray) := by
  have hl : ((Lib.strCells s).take m).length = m := by
    rw [List.length_take, Lib.strCells_length]
    have : m ≤ s.size := by rw [← hm]; exact Nat.min_le_left _ _
    omega
  have hst := run_storeCells_at P g o t ((Lib.strCells s).take m) 0 cur w hg (by rw [hl]; simpa using hfit) (by intro v hv; have := List.mem_of_mem_take hv; simp only [Lib.strCells, List.mem_map] at this; obtain ⟨b, _, rfl⟩ := this; rfl)
  simp only [Nat.add_zero, hl, List.append_assoc] at hst
  have hx := strCells_take s m
  cases hq : P.info? elem with
  | none => simp [hq] at hs
  | some i =>
    have hf : (Builtin.firstCells i.size (Nat.min s.size dLen) (.string s)).run P w = .ok ((Lib.strCells s).take m).toArray w := by
      rw [hm, Builtin.firstCells, hx]; rfl
    have hst' : (storeCells ⟨g, o, none⟩ ((Lib.strCells s).take m)).run P w = .ok () (w.setRow g (cur.toList.take o ++ ((Lib.strCells s).take m ++ cur.toList.drop (o + m))).toArray) := hst
    have hgo : goInt (Nat.min s.size dLen) = goInt m := by rw [hm]
    clear hx hst
    simp [Builtin.copy_, run_underlying hu, Builtin.lenOf, sizeOf, typeInfo, hq, hf, hst', hgo]
theorem bytes_put (l : List UInt8) (o m : Nat) (s : ByteArray) (hm : m ≤ s.size) :
    ((Lib.byteCells l).take o ++ ((Lib.strCells s).take m ++ (Lib.byteCells l).drop (o + m))) = Lib.byteCells (putD l o (s.data.toList.take m)) := by
  have hl : (s.data.toList.take m).length = m := by rw [List.length_take]; have : s.data.toList.length = s.size := by simp
                                                    omega
  unfold putD
  rw [hl]
  simp only [Lib.byteCells, Lib.strCells, List.map_append, List.map_take, List.map_drop]
/-- A copy into a part of a block of bytes of our own. -/
theorem run_copy_bytes {P : Program} (w : World) (dT sT ty elem : TypeId) (g o dLen dCap : Nat) (s : ByteArray) (l : List UInt8) (t : TypeId)
    (hu : P.underlying dT = some (.slice elem)) (hs : (P.info? elem).map (·.size) = some 1) (hg : Blk w g t (Lib.byteCells l).toArray) (m : Nat) (hm : Nat.min s.size dLen = m) (hfit : o + m ≤ l.length) :
    (Builtin.copy_ #[dT, sT] ty #[.slice (some ⟨g, o, none⟩) dLen dCap, .string s]).run P w = .ok (goInt m) (w.setRow g (Lib.byteCells (putD l o (s.data.toList.take m))).toArray) := by
  have h := run_copy_str (P := P) w dT sT ty elem g o dLen dCap s (Lib.byteCells l).toArray t hu hs hg m hm (by rw [List.size_toArray, Lib.byteCells_length]; exact hfit)
  rw [h, bytes_put l o m s (by rw [← hm]; exact Nat.min_le_left _ _)]
theorem blk_row {w : World} {g : Nat} {t : TypeId} {cs : Array Value} (h : Blk w g t cs) (cs' : Array Value) : Blk (w.setRow g cs') g t cs' := setRow_heap w g cs cs' t _ h
theorem step_copy_bytes {P : Program} {ops : Array Oper} {o : Oper} {a : Act} {w : World} {K : Act → World → Prop} {Q : Exit → Act → World → Prop} {E : Prop} (hgd : o.guard = none) (d s : Operand) (dT sT : TypeId)
    (ho : o.op = .call { callee := .builtin .copy, args := #[d, s], argTypes := #[dT, sT] }) (elem : TypeId) (hu : P.underlying dT = some (.slice elem)) (hsz : (P.info? elem).map (·.size) = some 1)
    (g off dLen dCap : Nat) (x : ByteArray) (hd : a.eval d = .slice (some ⟨g, off, none⟩) dLen dCap) (hs : a.eval s = .string x) (l : List UInt8) (t : TypeId) (hg : Blk w g t (Lib.byteCells l).toArray) (m : Nat) (hm : Nat.min x.size dLen = m) (hfit : off + m ≤ l.length)
    (h : K (a.put o.dst (goInt m)) (w.setRow g (Lib.byteCells (putD l off (x.data.toList.take m))).toArray)) :
    if Region.wanted o (yielded ops a.tmps) = true then Oper.wp P o a w K Q else E := by
  have hw : Region.wanted o (yielded ops a.tmps) = true := by simp [Region.wanted, hgd]
  rw [if_pos hw]
  have hrun := run_copy_bytes (P := P) w dT sT o.type elem g off dLen dCap x l t hu hsz hg m hm hfit
  unfold Oper.wp
  simp [execOp, ho, resolve, invoke, builtin, hd, hs, hrun, Result.andThen]
  exact h
end Go.Proofs.YthfebcfdhmihcaaGreatDoor

namespace Go.Proofs.YthfebcfdhmihcaaGreatDoor
open Go.RowKit

abbrev F13 := List UInt8 × List UInt8
def jx : List UInt8 := [45, 106]
def sx : List UInt8 := [45, 115]
def numOk (t : List UInt8) : Bool := decide ((readR t).2 = 0 ∧ 1 ≤ (readR t).1 ∧ Lib.itoa (readR t).1 = t)
/-- Super, from the i-th byte down. -/
def supA (p : List UInt8) : Nat → List UInt8 × Bool
  | 0 => ([], false)
  | i + 1 => if (p.drop (i + 1)).take 2 = sx then (if numOk (p.drop (i + 3)) = true then (p.take (i + 1), true) else ([], false)) else supA p i
def supD (p : List UInt8) : List UInt8 × Bool := supA p (p.length - 2)
def fndI (l : List F13) (p : List UInt8) : Int := match l.findIdx? (fun f => f.1 == p) with
  | some k => k
  | none => -1
def lookF (l : List F13) (p : List UInt8) : Option (List UInt8) := (l.find? fun f => f.1 == p).map (·.2)
def namF (l : List F13) (p : List UInt8) : List UInt8 := match lookF l (p ++ jx) with
  | none => []
  | some d => (rdJ d).s
def hotF (l : List F13) (d : List UInt8) : Bool := decide (0 < (rdJ d).k) && ((rdJ d).s == [] || (lookF l (rdJ d).s).isSome)
def staF (l : List F13) (p : List UInt8) : Int := match lookF l (p ++ jx) with
  | none => 0
  | some d => if hotF l d = true then 1 else 2
def wtoF (l : List F13) (p : List UInt8) : List F13 := l.filter fun f => !(f.1 == p)
def wstF (f : F13) (a : List F13 × Bool) (x : F13) : List F13 × Bool :=
  ((a.1 ++ if a.2 = true ∧ bytesBefore x.1 f.1 = false then [f] else []) ++ (if x.1 = f.1 then [] else [x]), a.2 && bytesBefore x.1 f.1)
def wendF (f : F13) (a : List F13 × Bool) : List F13 := if a.2 = true then a.1 ++ [f] else a.1
def witF (l : List F13) (f : F13) : List F13 := wendF f (l.foldl (wstF f) ([], true))
def goeF (l : List F13) (x : F13) (p : List UInt8) : Bool :=
  if (supD x.1).2 = false then false
  else if (decS x.2).2 ≠ 0 then (supD x.1).1 == p
  else (decS x.2).1.all (fun c => !(namF l c == x.1)) && (decS x.2).1.any (fun c => c == p)
def hotL (l : List F13) (p : List UInt8) : List F13 :=
  if staF l p = 1 then witF l (p, apD (rdJ ((lookF l (p ++ jx)).getD [])).p (rdJ ((lookF l (p ++ jx)).getD [])).L ((lookF l p).getD [])) else l
def gstF (l : List F13) (p : List UInt8) (out : List F13) (x : F13) : List F13 := if goeF l x p = true then wtoF out x.1 else out
def gonF (l : List F13) (p : List UInt8) : List F13 := l.foldl (gstF l p) l
def recF (l : List F13) (p : List UInt8) : List F13 := gonF (wtoF (hotL l p) (p ++ jx)) p
def freS (p : List UInt8) (n : Nat) : List UInt8 := p ++ sx ++ Lib.itoa n
/-- Is a file no journal that names the path s? -/
def nonF (s : List UInt8) (f : F13) : Bool := decide (f.1.length < 3) || !(f.1.drop (f.1.length - 2) == jx) || !((rdJ f.2).s == s)
def freB (l : List F13) (s : List UInt8) : Bool := (lookF l s).isNone && l.all (nonF s)
def freA (l : List F13) (p : List UInt8) : Nat → Nat → List UInt8
  | 0, _ => []
  | k + 1, n => if freB l (freS p n) = true then freS p n else freA l p k (n + 1)
def freF (l : List F13) (p : List UInt8) : List UInt8 := freA l p 1000 1

theorem fnd_hit {l : List F13} {p : List UInt8} {k : Nat} (hk : k < l.length) (h : l[k].1 = p) (hn : ∀ j (hj : j < l.length), j < k → l[j].1 ≠ p) : fndI l p = k := by
  unfold fndI
  rw [show l.findIdx? (fun f => f.1 == p) = some k from List.findIdx?_eq_some_iff_getElem.2 ⟨hk, by simpa using h, fun j hj => by simpa using hn j (Nat.lt_trans hj hk) hj⟩]
theorem fnd_miss {l : List F13} {p : List UInt8} (hn : ∀ j (hj : j < l.length), l[j].1 ≠ p) : fndI l p = -1 := by
  unfold fndI
  rw [show l.findIdx? (fun f => f.1 == p) = none from List.findIdx?_eq_none_iff.2 fun x hx => by
    obtain ⟨j, hj, rfl⟩ := List.getElem_of_mem hx
    simpa using hn j hj]
theorem fnd_look (l : List F13) (p : List UInt8) : (fndI l p = -1 ∧ lookF l p = none ∧ ∀ f ∈ l, f.1 ≠ p) ∨ ∃ (k : Nat) (hk : k < l.length), fndI l p = k ∧ lookF l p = some l[k].2 ∧ l[k].1 = p := by
  unfold fndI lookF
  cases h : l.findIdx? (fun f => f.1 == p) with
  | none =>
    rw [List.findIdx?_eq_none_iff] at h
    refine .inl ⟨rfl, ?_, fun f hf => by simpa using h f hf⟩
    rw [List.find?_eq_none.2 (fun x hx => by simpa using h x hx)]; rfl
  | some k =>
    obtain ⟨hk, h1, h2⟩ := List.findIdx?_eq_some_iff_getElem.1 h
    refine .inr ⟨k, hk, rfl, ?_, by simpa using h1⟩
    have hf : l.find? (fun f => f.1 == p) = some l[k] := List.find?_eq_some_iff_getElem.2 ⟨h1, k, hk, rfl, fun j hj => by simpa using h2 j hj⟩
    rw [hf]; rfl
theorem fnd_lt (l : List F13) (p : List UInt8) : fndI l p < 0 ↔ lookF l p = none := by
  rcases fnd_look l p with ⟨h1, h2, -⟩ | ⟨k, hk, h1, h2, -⟩
  · rw [h1, h2]; simp
  · rw [h1, h2]; simp
theorem fnd_ge (l : List F13) (p : List UInt8) : 0 ≤ fndI l p ↔ (lookF l p).isSome = true := by
  rcases fnd_look l p with ⟨h1, h2, -⟩ | ⟨k, hk, h1, h2, -⟩
  · rw [h1, h2]; simp
  · rw [h1, h2]; simp
end Go.Proofs.YthfebcfdhmihcaaGreatDoor

namespace Go.Proofs.YthfebcfdhmihcaaGreatDoor
open Go.RowKit

/-- The files that are seen. -/
def seeS (S : DS) : List F13 := (S.dirs false).map fun q => (q.1, S.con false q.2)
def repC1 (i : Nat) (x : List UInt8) : Chg → List UInt8
  | .write j o d => if j = i then overL x o d else x
  | .trunc j z => if j = i then resizeL x z else x
  | _ => x
def repD1 (x : List (List UInt8 × Nat)) : Chg → List (List UInt8 × Nat)
  | .create n i => putL x n i
  | .remove n => delL x n
  | _ => x
def repC (i : Nat) (x : List UInt8) (l : List Chg) : List UInt8 := l.foldl (repC1 i) x
def repD (x : List (List UInt8 × Nat)) (l : List Chg) : List (List UInt8 × Nat) := l.foldl repD1 x

structure Cal (S : DS) : Prop where
  down : S.down = false
  flt : S.flt = fun _ => 0
  crash : S.crash = 0
  room : S.room = 4000000
  keys : KeysS S
  sort : SortS S
  inj : ((S.dirs false).map (·.2)).Nodup
  nf : ∀ q, q ∈ S.dirs false → q.2 < S.nf
  pc : ∀ c, c ∈ S.pend → ∀ i, ofFile i c = true → i < S.nf
  dur : ∀ i, i < S.nf → repC i (S.con true i) S.pend = S.con false i
  durD : repD (S.dirs true) S.pend = S.dirs false

theorem repC_snoc (i : Nat) (x : List UInt8) (l : List Chg) (c : Chg) : repC i x (l ++ [c]) = repC1 i (repC i x l) c := by unfold repC; rw [List.foldl_append]; rfl
theorem repD_snoc (x : List (List UInt8 × Nat)) (l : List Chg) (c : Chg) : repD x (l ++ [c]) = repD1 (repD x l) c := by unfold repD; rw [List.foldl_append]; rfl
theorem repC1_no {i : Nat} {c : Chg} (h : ofFile i c = false) (x : List UInt8) : repC1 i x c = x := by
  cases c with
  | create _ _ => rfl
  | remove _ => rfl
  | write j o d =>
    show (if j = i then overL x o d else x) = x
    rw [if_neg (by simpa [ofFile] using h)]
  | trunc j z =>
    show (if j = i then resizeL x z else x) = x
    rw [if_neg (by simpa [ofFile] using h)]
theorem repD1_no {c : Chg} (h : ofDir c = false) (x : List (List UInt8 × Nat)) : repD1 x c = x := by
  cases c with
  | create _ _ => cases h
  | remove _ => cases h
  | write _ _ _ => rfl
  | trunc _ _ => rfl
theorem repC_no {i : Nat} : ∀ {l : List Chg}, (∀ c, c ∈ l → ofFile i c = false) → ∀ x, repC i x l = x
  | [], _, _ => rfl
  | c :: l, h, x => by
    show repC i (repC1 i x c) l = x
    rw [repC1_no (h c (List.mem_cons_self ..)), repC_no (fun c' hc => h c' (List.mem_cons_of_mem _ hc))]
theorem repD_no : ∀ {l : List Chg}, (∀ c, c ∈ l → ofDir c = false) → ∀ x, repD x l = x
  | [], _, _ => rfl
  | c :: l, h, x => by
    show repD (repD1 x c) l = x
    rw [repD1_no (h c (List.mem_cons_self ..)), repD_no (fun c' hc => h c' (List.mem_cons_of_mem _ hc))]
theorem repC_filter {i : Nat} {q : Chg → Bool} (hq : ∀ c, ofFile i c = true → q c = true) : ∀ (l : List Chg) (x : List UInt8), repC i x (l.filter q) = repC i x l
  | [], _ => rfl
  | c :: l, x => by
    by_cases h : q c = true
    · rw [List.filter_cons_of_pos h]; exact repC_filter hq l _
    · rw [List.filter_cons_of_neg h, repC_filter hq l]
      show repC i x l = repC i (repC1 i x c) l
      rw [repC1_no (by cases e : ofFile i c with
        | true => exact absurd (hq c e) h
        | false => rfl)]
theorem repD_filter {q : Chg → Bool} (hq : ∀ c, ofDir c = true → q c = true) : ∀ (l : List Chg) (x : List (List UInt8 × Nat)), repD x (l.filter q) = repD x l
  | [], _ => rfl
  | c :: l, x => by
    by_cases h : q c = true
    · rw [List.filter_cons_of_pos h]; exact repD_filter hq l _
    · rw [List.filter_cons_of_neg h, repD_filter hq l]
      show repD x l = repD (repD1 x c) l
      rw [repD1_no (by cases e : ofDir c with
        | true => exact absurd (hq c e) h
        | false => rfl)]
theorem apply_con (s : Bool) (c : Chg) (S : DS) (t : Bool) (i : Nat) : (applyS s c S).con t i = if t = s then repC1 i (S.con t i) c else S.con t i := by
  cases c with
  | create _ _ => show S.con t i = if t = s then S.con t i else S.con t i; simp
  | remove _ => show S.con t i = if t = s then S.con t i else S.con t i; simp
  | write j o d =>
    show (if t = s ∧ i = j then overL (S.con s j) o d else S.con t i) = if t = s then (if j = i then overL (S.con t i) o d else S.con t i) else S.con t i
    by_cases h1 : t = s
    · subst h1
      by_cases h2 : i = j
      · subst h2; simp
      · simp [h2, Ne.symm h2]
    · simp [h1]
  | trunc j z =>
    show (if t = s ∧ i = j then resizeL (S.con s j) z else S.con t i) = if t = s then (if j = i then resizeL (S.con t i) z else S.con t i) else S.con t i
    by_cases h1 : t = s
    · subst h1
      by_cases h2 : i = j
      · subst h2; simp
      · simp [h2, Ne.symm h2]
    · simp [h1]
theorem apply_dirs (s : Bool) (c : Chg) (S : DS) (t : Bool) : (applyS s c S).dirs t = if t = s then repD1 (S.dirs t) c else S.dirs t := by
  cases c with
  | create nm i =>
    show (if t = s then putL (S.dirs s) nm i else S.dirs t) = if t = s then putL (S.dirs t) nm i else S.dirs t
    by_cases h1 : t = s
    · subst h1; rfl
    · simp [h1]
  | remove nm =>
    show (if t = s then delL (S.dirs s) nm else S.dirs t) = if t = s then delL (S.dirs t) nm else S.dirs t
    by_cases h1 : t = s
    · subst h1; rfl
    · simp [h1]
  | write _ _ _ => show S.dirs t = if t = s then S.dirs t else S.dirs t; simp
  | trunc _ _ => show S.dirs t = if t = s then S.dirs t else S.dirs t; simp
theorem apply_rest (s : Bool) (c : Chg) (S : DS) : (applyS s c S).room = S.room ∧ (applyS s c S).flt = S.flt ∧ (applyS s c S).crash = S.crash ∧ (applyS s c S).down = S.down ∧ (applyS s c S).ops = S.ops := by
  cases c <;> exact ⟨rfl, rfl, rfl, rfl, rfl⟩
theorem fold_is (q : Chg → Bool) : ∀ (l : List Chg) (S : DS), (foldP q S l).room = S.room ∧ (foldP q S l).flt = S.flt ∧ (foldP q S l).crash = S.crash ∧ (foldP q S l).down = S.down ∧ (foldP q S l).dirs false = S.dirs false ∧ (∀ i, (foldP q S l).con false i = S.con false i) ∧ (foldP q S l).dirs true = repD (S.dirs true) (l.filter q) ∧ ∀ i, (foldP q S l).con true i = repC i (S.con true i) (l.filter q)
  | [], S => ⟨rfl, rfl, rfl, rfl, rfl, fun _ => rfl, rfl, fun _ => rfl⟩
  | c :: l, S => by
    obtain ⟨h1, h2, h3, h4, h5, h6, h7, h8⟩ := fold_is q l (stepP q S c)
    by_cases hc : q c = true
    · have e : stepP q S c = applyS true c S := by unfold stepP; rw [if_pos hc]
      obtain ⟨a1, a2, a3, a4, -⟩ := apply_rest true c S
      rw [List.filter_cons_of_pos hc]
      show (foldP q (stepP q S c) l).room = _ ∧ (foldP q (stepP q S c) l).flt = _ ∧ (foldP q (stepP q S c) l).crash = _ ∧ (foldP q (stepP q S c) l).down = _ ∧ (foldP q (stepP q S c) l).dirs false = _ ∧ (∀ i, (foldP q (stepP q S c) l).con false i = _) ∧ (foldP q (stepP q S c) l).dirs true = repD (repD1 (S.dirs true) c) _ ∧ ∀ i, (foldP q (stepP q S c) l).con true i = repC i (repC1 i (S.con true i) c) _
      refine ⟨h1.trans (by rw [e, a1]), h2.trans (by rw [e, a2]), h3.trans (by rw [e, a3]), h4.trans (by rw [e, a4]), h5.trans (by rw [e, apply_dirs]; rfl), fun i => (h6 i).trans (by rw [e, apply_con]; rfl), h7.trans (by rw [e, apply_dirs]; rfl), fun i => (h8 i).trans (by rw [e, apply_con]; rfl)⟩
    · have e : stepP q S c = S := by unfold stepP; rw [if_neg hc]
      rw [List.filter_cons_of_neg hc]
      rw [e] at h1 h2 h3 h4 h5 h6 h7 h8
      show (foldP q (stepP q S c) l).room = _ ∧ (foldP q (stepP q S c) l).flt = _ ∧ (foldP q (stepP q S c) l).crash = _ ∧ (foldP q (stepP q S c) l).down = _ ∧ (foldP q (stepP q S c) l).dirs false = _ ∧ (∀ i, (foldP q (stepP q S c) l).con false i = _) ∧ (foldP q (stepP q S c) l).dirs true = _ ∧ ∀ i, (foldP q (stepP q S c) l).con true i = _
      rw [e]
      exact ⟨h1, h2, h3, h4, h5, h6, h7, h8⟩

theorem cal_beg {S : DS} (h : Cal S) : begS S = cntS S := by
  unfold begS cntS
  rw [h.crash, h.down, show decide (((S.ops + 1 : Nat) : Int) = 0) = false from decide_eq_false (by omega)]
theorem cal_cnt {S : DS} (h : Cal S) : Cal (cntS S) := ⟨h.down, h.flt, h.crash, h.room, h.keys, h.sort, h.inj, h.nf, h.pc, h.dur, h.durD⟩
theorem cal_flt {S : DS} (h : Cal S) (k : Int) : S.flt k = 0 := by rw [h.flt]
theorem cal_cut {S : DS} (h : Cal S) (x : Int) : cutE S x = x := by unfold cutE; rw [if_neg (by rw [h.down]; simp)]
theorem see_look (S : DS) (p : List UInt8) : lookF (seeS S) p = (findL (S.dirs false) p).map (S.con false) := by
  unfold lookF seeS findL
  induction S.dirs false with
  | nil => rfl
  | cons q l ih =>
    rw [List.map_cons]
    by_cases h : q.1 = p
    · rw [List.find?_cons_of_pos (by simpa using h), List.find?_cons_of_pos (by simpa using h)]; rfl
    · rw [List.find?_cons_of_neg (by simpa using h), List.find?_cons_of_neg (by simpa using h)]; exact ih
/-- A change of the contents of a file. -/
def setF (l : List F13) (p x : List UInt8) : List F13 := l.map fun f => if f.1 = p then (f.1, x) else f
theorem cal_perf {S : DS} (h : Cal S) (c : Chg) (hc : ∀ i, ofFile i c = true → i < S.nf) (hi : ((repD1 (S.dirs false) c).map (·.2)).Nodup) (hn : ∀ q, q ∈ repD1 (S.dirs false) c → q.2 < S.nf) : Cal (perfS c S) := by
  obtain ⟨a1, a2, a3, a4, -⟩ := apply_rest false c S
  have hd : (perfS c S).dirs false = repD1 (S.dirs false) c := by show (applyS false c S).dirs false = _; rw [apply_dirs]; rfl
  have hd2 : (perfS c S).dirs true = S.dirs true := by show (applyS false c S).dirs true = _; rw [apply_dirs]; rfl
  have hf : (perfS c S).nf = S.nf := applyS_nf false c S
  refine ⟨a4.trans h.down, a2.trans h.flt, a3.trans h.crash, a1.trans h.room, keys_perf h.keys c, sorts_perf h.sort c, by rw [hd]; exact hi, fun q hq => ?_, fun c' hc' i e => ?_, fun i hi => ?_, ?_⟩
  · rw [hf]; rw [hd] at hq; exact hn q hq
  · rw [hf]
    rcases List.mem_append.1 hc' with hc' | hc'
    · exact h.pc c' hc' i e
    · rw [List.mem_singleton.1 hc'] at e; exact hc i e
  · show repC i ((applyS false c S).con true i) (S.pend ++ [c]) = (applyS false c S).con false i
    rw [apply_con, apply_con, if_neg (by decide), if_pos rfl, repC_snoc, h.dur i (by rw [← hf]; exact hi)]
  · rw [hd, hd2]
    show repD (S.dirs true) (S.pend ++ [c]) = _
    rw [repD_snoc, h.durD]
theorem mem_find {l : List (List UInt8 × Nat)} (hk : Keys l) {p : List UInt8} {i : Nat} (h : (p, i) ∈ l) : findL l p = some i := by
  unfold findL
  induction l with
  | nil => cases h
  | cons q t ih =>
    unfold Keys at hk
    rw [List.map_cons, List.nodup_cons] at hk
    rcases List.mem_cons.1 h with rfl | h'
    · simp
    · have hne : q.1 ≠ p := fun e => hk.1 (by rw [e]; exact List.mem_map_of_mem (f := (·.1)) h')
      rw [List.find?_cons_of_neg (by simpa using hne)]
      exact ih hk.2 h'
theorem snd_inj {l : List (List UInt8 × Nat)} (h : (l.map (·.2)).Nodup) {a b : List UInt8 × Nat} (ha : a ∈ l) (hb : b ∈ l) (e : a.2 = b.2) : a = b := by
  induction l with
  | nil => cases ha
  | cons q t ih =>
    rw [List.map_cons, List.nodup_cons] at h
    rcases List.mem_cons.1 ha with rfl | ha'
    · rcases List.mem_cons.1 hb with rfl | hb'
      · rfl
      · exact absurd (by rw [e]; exact List.mem_map_of_mem (f := (·.2)) hb') h.1
    · rcases List.mem_cons.1 hb with rfl | hb'
      · exact absurd (by rw [← e]; exact List.mem_map_of_mem (f := (·.2)) ha') h.1
      · exact ih h.2 ha' hb'
theorem see_con {S T : DS} (h : Cal S) {p : List UInt8} {i : Nat} (hi : findL (S.dirs false) p = some i) (x : List UInt8) (hd : T.dirs false = S.dirs false) (hx : T.con false i = x) (ho : ∀ j, j ≠ i → T.con false j = S.con false j) : seeS T = setF (seeS S) p x := by
  unfold seeS setF
  rw [hd, List.map_map]
  refine List.map_congr_left fun q hq => ?_
  have hm := findL_mem hi
  show (q.1, T.con false q.2) = if q.1 = p then (q.1, x) else (q.1, S.con false q.2)
  by_cases e : q.1 = p
  · have hq2 : findL (S.dirs false) q.1 = some q.2 := mem_find (h.keys false) hq
    rw [e, hi] at hq2
    rw [if_pos e, ← Option.some.inj hq2, hx]
  · rw [if_neg e, ho _ (fun e2 => e (by rw [snd_inj h.inj hq hm e2]))]
end Go.Proofs.YthfebcfdhmihcaaGreatDoor

namespace Go.Proofs.YthfebcfdhmihcaaGreatDoor
open Go.RowKit

def SrtF (l : List F13) : Prop := l.Pairwise fun a b => a.1 < b.1
def insF (f : F13) : List F13 → List F13
  | [] => [f]
  | y :: r => if y.1 < f.1 then y :: insF f r else if y.1 = f.1 then f :: r else f :: y :: r
def totF (l : List F13) : Nat := (l.map fun f => f.2.length).sum

theorem lt_or (a b : List UInt8) : a < b ∨ a = b ∨ b < a := by
  by_cases h1 : a < b
  · exact .inl h1
  · by_cases h2 : b < a
    · exact .inr (.inr h2)
    · exact .inr (.inl (List.le_antisymm (List.not_lt.1 h2) (List.not_lt.1 h1)))
theorem ins_mem {f x : F13} : ∀ {l : List F13}, x ∈ insF f l → x = f ∨ x ∈ l
  | [], h => by simpa [insF] using h
  | y :: r, h => by
    unfold insF at h
    split at h
    · rcases List.mem_cons.1 h with h | h
      · exact .inr (by simp [h])
      · rcases ins_mem h with h | h
        · exact .inl h
        · exact .inr (List.mem_cons_of_mem _ h)
    · split at h
      · rcases List.mem_cons.1 h with h | h
        · exact .inl h
        · exact .inr (List.mem_cons_of_mem _ h)
      · rcases List.mem_cons.1 h with h | h
        · exact .inl h
        · exact .inr h
theorem ins_srt {f : F13} : ∀ {l : List F13}, SrtF l → SrtF (insF f l)
  | [], _ => List.pairwise_singleton _ _
  | y :: r, h => by
    have h2 := List.pairwise_cons.1 h
    unfold insF
    split
    · rename_i hlt
      refine List.pairwise_cons.2 ⟨fun x hx => ?_, ins_srt h2.2⟩
      rcases ins_mem hx with rfl | hx
      · exact hlt
      · exact h2.1 x hx
    · split
      · rename_i he
        exact List.pairwise_cons.2 ⟨fun x hx => by rw [← he]; exact h2.1 x hx, h2.2⟩
      · rename_i h1 h3
        have hgt : f.1 < y.1 := by
          rcases lt_or y.1 f.1 with h4 | h4 | h4
          · exact absurd h4 h1
          · exact absurd h4 h3
          · exact h4
        refine List.pairwise_cons.2 ⟨fun x hx => ?_, h⟩
        rcases List.mem_cons.1 hx with rfl | hx
        · exact hgt
        · exact List.lt_trans hgt (h2.1 x hx)
theorem ins_len (f : F13) : ∀ l : List F13, (insF f l).length ≤ l.length + 1
  | [] => Nat.le_refl _
  | y :: r => by
    unfold insF
    split
    · simpa using ins_len f r
    · split <;> simp
theorem ins_tot (f : F13) : ∀ l : List F13, totF (insF f l) ≤ totF l + f.2.length
  | [] => by simp [insF, totF]
  | y :: r => by
    have := ins_tot f r
    unfold insF
    split
    · simp only [totF, List.map_cons, List.sum_cons] at *; omega
    · split
      · simp only [totF, List.map_cons, List.sum_cons]; omega
      · simp only [totF, List.map_cons, List.sum_cons]; omega
theorem set_no {p x : List UInt8} : ∀ {l : List F13}, (∀ f, f ∈ l → f.1 ≠ p) → setF l p x = l
  | [], _ => rfl
  | y :: r, h => by
    show (if y.1 = p then (y.1, x) else y) :: setF r p x = _
    rw [if_neg (h y (List.mem_cons_self ..)), set_no (fun f hf => h f (List.mem_cons_of_mem _ hf))]
theorem set_set (l : List F13) (p x y : List UInt8) : setF (setF l p x) p y = setF l p y := by
  unfold setF
  rw [List.map_map]
  refine List.map_congr_left fun f _ => ?_
  show (if (if f.1 = p then (f.1, x) else f).1 = p then ((if f.1 = p then (f.1, x) else f).1, y) else if f.1 = p then (f.1, x) else f) = _
  by_cases e : f.1 = p <;> simp [e]
theorem srt_ne {y : F13} {r : List F13} (h : SrtF (y :: r)) : ∀ f, f ∈ r → f.1 ≠ y.1 := fun f hf e => by
  have := (List.pairwise_cons.1 h).1 f hf
  rw [e] at this
  exact List.lt_irrefl _ this
theorem set_ins {p x : List UInt8} : ∀ {l : List F13}, SrtF l → (∃ f, f ∈ l ∧ f.1 = p) → setF l p x = insF (p, x) l
  | [], _, h => by obtain ⟨f, hf, _⟩ := h; cases hf
  | y :: r, hs, h => by
    have h2 := List.pairwise_cons.1 hs
    show (if y.1 = p then (y.1, x) else y) :: setF r p x = if y.1 < p then y :: insF (p, x) r else if y.1 = p then (p, x) :: r else (p, x) :: y :: r
    by_cases e : y.1 = p
    · rw [if_pos e, if_neg (by rw [e]; exact List.lt_irrefl _), if_pos e, set_no (by rw [← e]; exact srt_ne hs), e]
    · obtain ⟨f, hf, hp⟩ := h
      have hf' : f ∈ r := by
        rcases List.mem_cons.1 hf with rfl | hf
        · exact absurd hp e
        · exact hf
      rw [if_neg e, if_pos (by rw [← hp]; exact h2.1 f hf'), set_ins h2.2 ⟨f, hf', hp⟩]
theorem set_ins2 {p x z : List UInt8} : ∀ {l : List F13}, SrtF l → setF (insF (p, z) l) p x = insF (p, x) l
  | [], _ => by simp [insF, setF]
  | y :: r, hs => by
    have h2 := List.pairwise_cons.1 hs
    unfold insF
    by_cases h1 : y.1 < p
    · rw [if_pos h1, if_pos h1, ← set_ins2 h2.2 (z := z) (x := x)]
      show (if y.1 = p then (y.1, x) else y) :: setF (insF (p, z) r) p x = _
      rw [if_neg (fun e => by rw [e] at h1; exact List.lt_irrefl _ h1)]
    · rw [if_neg h1, if_neg h1]
      by_cases e : y.1 = p
      · rw [if_pos e, if_pos e]
        show (if p = p then (p, x) else (p, z)) :: setF r p x = _
        rw [if_pos rfl, set_no (by rw [← e]; exact srt_ne hs)]
      · rw [if_neg e, if_neg e]
        have hgt : p < y.1 := by
          rcases lt_or y.1 p with h4 | h4 | h4
          · exact absurd h4 h1
          · exact absurd h4 e
          · exact h4
        show (if p = p then (p, x) else (p, z)) :: setF (y :: r) p x = _
        rw [if_pos rfl, set_no (fun f hf => by
          intro e2
          rcases List.mem_cons.1 hf with rfl | hf
          · exact e e2
          · have := List.lt_trans hgt (h2.1 f hf)
            rw [e2] at this
            exact List.lt_irrefl _ this)]
theorem before_false {a b : List UInt8} (h : ¬ a < b) : bytesBefore a b = false := by
  cases e : bytesBefore a b with
  | true => exact absurd ((before_lt a b).1 e) h
  | false => rfl
/-- The document's 'with'. -/
theorem with_done {f : F13} : ∀ (l : List F13) (a : List F13), (∀ x, x ∈ l → f.1 < x.1) → l.foldl (wstF f) (a, false) = (a ++ l, false)
  | [], a, _ => by simp
  | y :: r, a, h => by
    have hy : f.1 < y.1 := h y (List.mem_cons_self ..)
    have e : wstF f (a, false) y = (a ++ [y], false) := by
      unfold wstF
      simp only [Bool.false_eq_true, false_and, if_false, List.append_nil, Bool.false_and]
      rw [if_neg (fun e => by rw [e] at hy; exact List.lt_irrefl _ hy)]
    rw [List.foldl_cons, e, with_done r _ (fun x hx => h x (List.mem_cons_of_mem _ hx))]
    simp
theorem with_go {f : F13} : ∀ (l : List F13) (a : List F13), SrtF l → wendF f (l.foldl (wstF f) (a, true)) = a ++ insF f l
  | [], a, _ => rfl
  | y :: r, a, h => by
    have h2 := List.pairwise_cons.1 h
    rw [List.foldl_cons]
    unfold insF
    by_cases h1 : y.1 < f.1
    · have e : wstF f (a, true) y = (a ++ [y], true) := by
        unfold wstF
        rw [(before_lt y.1 f.1).2 h1, if_neg (fun e : y.1 = f.1 => by rw [e] at h1; exact List.lt_irrefl _ h1)]
        simp
      rw [if_pos h1, e, with_go r _ h2.2]
      simp
    · rw [if_neg h1]
      by_cases he : y.1 = f.1
      · have e : wstF f (a, true) y = (a ++ [f], false) := by
          unfold wstF
          rw [before_false h1, if_pos he]
          simp
        rw [if_pos he, e, with_done r _ (fun x hx => by rw [← he]; exact h2.1 x hx)]
        simp [wendF]
      · have e : wstF f (a, true) y = (a ++ [f, y], false) := by
          unfold wstF
          rw [before_false h1, if_neg he]
          simp
        have hgt : f.1 < y.1 := by
          rcases lt_or y.1 f.1 with h4 | h4 | h4
          · exact absurd h4 h1
          · exact absurd h4 he
          · exact h4
        rw [if_neg he, e, with_done r _ (fun x hx => List.lt_trans hgt (h2.1 x hx))]
        simp [wendF]
theorem with_is {l : List F13} (h : SrtF l) (f : F13) : witF l f = insF f l := by
  unfold witF
  rw [with_go l [] h]
  rfl
theorem wto_srt {l : List F13} (h : SrtF l) (p : List UInt8) : SrtF (wtoF l p) := List.Pairwise.sublist List.filter_sublist h
theorem wto_tot (l : List F13) (p : List UInt8) : totF (wtoF l p) ≤ totF l := by
  unfold wtoF
  induction l with
  | nil => exact Nat.le_refl _
  | cons y r ih =>
    rw [List.filter_cons]
    split
    · simp only [totF, List.map_cons, List.sum_cons] at *; omega
    · simp only [totF, List.map_cons, List.sum_cons] at *; omega
theorem wto_len (l : List F13) (p : List UInt8) : (wtoF l p).length ≤ l.length := List.length_filter_le _ _
theorem look_mem {l : List F13} {p d : List UInt8} (h : lookF l p = some d) : ∃ f, f ∈ l ∧ f.1 = p ∧ f.2 = d := by
  unfold lookF at h
  obtain ⟨f, hf, e⟩ := Option.map_eq_some_iff.1 h
  exact ⟨f, List.mem_of_find?_eq_some hf, by simpa using List.find?_some hf, e⟩
theorem look_none {l : List F13} {p : List UInt8} (h : lookF l p = none) : ∀ f, f ∈ l → f.1 ≠ p := by
  unfold lookF at h
  intro f hf e
  have := List.find?_eq_none.1 (Option.map_eq_none_iff.1 h) f hf
  simp [e] at this
theorem mem_look {l : List F13} (h : SrtF l) {f : F13} (hf : f ∈ l) : lookF l f.1 = some f.2 := by
  unfold lookF
  induction l with
  | nil => cases hf
  | cons y r ih =>
    rcases List.mem_cons.1 hf with rfl | hf'
    · simp
    · rw [List.find?_cons_of_neg (by simpa using (srt_ne h f hf').symm)]
      exact ih (List.pairwise_cons.1 h).2 hf'
theorem set_look {l : List F13} (h : SrtF l) {p x : List UInt8} (hf : (lookF l p).isSome = true) : lookF (setF l p x) p = some x := by
  obtain ⟨d, hd⟩ := Option.isSome_iff_exists.1 hf
  obtain ⟨f, hm, hp, -⟩ := look_mem hd
  have hs : SrtF (setF l p x) := by rw [set_ins h ⟨f, hm, hp⟩]; exact ins_srt h
  have := mem_look hs (f := (p, x)) (List.mem_map.2 ⟨f, hm, by rw [if_pos hp, hp]⟩)
  exact this
theorem set_id {l : List F13} (h : SrtF l) {p x : List UInt8} (hx : lookF l p = some x) : setF l p x = l := by
  unfold setF
  conv => rhs; rw [← List.map_id l]
  refine List.map_congr_left fun f hf => ?_
  by_cases e : f.1 = p
  · have := mem_look h hf
    rw [e, hx] at this
    rw [if_pos e]
    exact Prod.ext rfl (Option.some.inj this)
  · rw [if_neg e]; rfl
theorem set_tot {l : List F13} (h : SrtF l) (p x : List UInt8) : totF (setF l p x) ≤ totF l + x.length := by
  by_cases he : ∃ f, f ∈ l ∧ f.1 = p
  · rw [set_ins h he]; exact ins_tot (p, x) l
  · rw [set_no (fun f hf e => he ⟨f, hf, e⟩)]; omega
end Go.Proofs.YthfebcfdhmihcaaGreatDoor

namespace Go.Proofs.YthfebcfdhmihcaaGreatDoor
open Go.RowKit

theorem see_srt {S : DS} (h : Cal S) : SrtF (seeS S) := by
  unfold seeS SrtF
  rw [List.pairwise_map]
  have h1 := h.sort false
  have h2 := h.keys false
  unfold Srt at h1
  unfold Keys List.Nodup at h2
  rw [List.pairwise_map] at h2
  refine List.Pairwise.imp₂ (fun a b hab hne => ?_) h1 h2
  rcases lt_or a.1 b.1 with h | h | h
  · exact h
  · exact absurd h hne
  · exact absurd h (List.not_lt.2 hab)
theorem see_len (S : DS) : (seeS S).length = (S.dirs false).length := List.length_map _
theorem see_tot (S : DS) : usedN S = totF (seeS S) := by
  unfold usedN totF seeS
  rw [List.map_map]
  rfl
theorem see_none {S : DS} {p : List UInt8} (h : lookF (seeS S) p = none) : findL (S.dirs false) p = none := by
  rw [see_look] at h
  exact Option.map_eq_none_iff.1 h
theorem see_some {S : DS} {p x : List UInt8} (h : lookF (seeS S) p = some x) : ∃ i, findL (S.dirs false) p = some i ∧ S.con false i = x := by
  rw [see_look] at h
  obtain ⟨i, h1, h2⟩ := Option.map_eq_some_iff.1 h
  exact ⟨i, h1, h2⟩
theorem see_cont (S : DS) (p : List UInt8) : contZ S p = (lookF (seeS S) p).getD [] := by
  rw [see_look]
  unfold contZ
  cases findL (S.dirs false) p <;> rfl
theorem see_has (S : DS) (p : List UInt8) : hasZ S p = (lookF (seeS S) p).isSome := by
  rw [see_look]
  unfold hasZ
  cases findL (S.dirs false) p <;> rfl

theorem del_ins_no {l : List (List UInt8 × Nat)} {p : List UInt8} (h : findL l p = none) : delL l p = l := by
  unfold delL
  rw [List.filter_eq_self]
  intro q hq
  unfold findL at h
  have := List.find?_eq_none.1 (Option.map_eq_none_iff.1 h) q hq
  simpa using this
theorem cal_delete {S : DS} (h : Cal S) {p x : List UInt8} (hp : lookF (seeS S) p = some x) : (deleteZ S p).1 = 0 ∧ Cal (deleteZ S p).2 ∧ seeS (deleteZ S p).2 = wtoF (seeS S) p ∧ (deleteZ S p).2.pend = S.pend ++ [.remove p] := by
  obtain ⟨i, hi, -⟩ := see_some hp
  unfold deleteZ
  rw [hi]
  simp only
  rw [cal_beg h]
  have hc : Cal (perfS (.remove p) (cntS S)) := by
    refine cal_perf (cal_cnt h) _ (fun j e => by cases e) ?_ (fun q hq => h.nf q (List.mem_filter.1 hq).1)
    exact h.inj.sublist (List.Sublist.map _ List.filter_sublist)
  refine ⟨cal_cut hc 0, hc, ?_, rfl⟩
  show ((delL (S.dirs false) p).map fun q => (q.1, S.con false q.2)) = _
  unfold seeS wtoF delL
  rw [List.filter_map]
  rfl
theorem ins_see (f : Nat → List UInt8) (p : List UInt8) (i : Nat) : ∀ l : List (List UInt8 × Nat), (∀ q, q ∈ l → q.1 ≠ p) → ((insL (p, i) l).map fun q => (q.1, f q.2)) = insF (p, f i) (l.map fun q => (q.1, f q.2))
  | [], _ => rfl
  | y :: r, h => by
    unfold insL
    rw [List.map_cons]
    unfold insF
    have hy : y.1 ≠ p := h y (List.mem_cons_self ..)
    have ih := ins_see f p i r (fun q hq => h q (List.mem_cons_of_mem _ hq))
    rcases lt_or y.1 p with h1 | h1 | h1
    · rw [if_pos h1, if_neg (fun e => by have := List.lt_trans ((before_lt p y.1).1 e) h1; exact List.lt_irrefl _ this), List.map_cons, ih]
    · exact absurd h1 hy
    · rw [if_pos ((before_lt p y.1).2 h1), if_neg (fun e => List.lt_irrefl _ (List.lt_trans e h1)), if_neg hy]
      rfl
theorem newfile_cal {S : DS} (h : Cal S) : Cal (newFile S) := by
  refine ⟨h.down, h.flt, h.crash, h.room, h.keys, h.sort, h.inj, fun q hq => Nat.lt_succ_of_lt (h.nf q hq), fun c hc i e => Nat.lt_succ_of_lt (h.pc c hc i e), fun i hi => ?_, h.durD⟩
  show repC i (if i = S.nf then [] else S.con true i) S.pend = if i = S.nf then [] else S.con false i
  by_cases e : i = S.nf
  · rw [if_pos e, if_pos e]
    refine repC_no (fun c hc => ?_) []
    cases hf : ofFile i c with
    | false => rfl
    | true => exact absurd (h.pc c hc i hf) (by omega)
  · rw [if_neg e, if_neg e]
    exact h.dur i (by have : i < S.nf + 1 := hi; omega)
theorem cal_create {S : DS} (h : Cal S) {p : List UInt8} (hp : lookF (seeS S) p = none) (hl : (seeS S).length < 60) (hb : pathB p = true) : (createZ S p).1 = 0 ∧ Cal (createZ S p).2 ∧ seeS (createZ S p).2 = insF (p, []) (seeS S) ∧ (createZ S p).2.pend = S.pend ++ [.create p S.nf] ∧ findL ((createZ S p).2.dirs false) p = some S.nf := by
  have hn := see_none hp
  have hlen : (S.dirs false).length < 60 := by rw [← see_len]; exact hl
  have hin : createIn (cntS S) p = (0, perfS (.create p S.nf) (newFile (cntS S))) := by
    unfold createIn
    rw [if_neg (by rw [hb]; decide)]
    show (match findL (S.dirs false) p with | some _ => _ | none => _) = _
    rw [hn]
    simp only
    rw [if_neg (by show ¬ 60 ≤ (S.dirs false).length; omega)]
    rfl
  unfold createZ
  rw [cal_beg h, hin]
  simp only
  have hk : ∀ q, q ∈ S.dirs false → q.1 ≠ p := fun q hq e => by
    unfold findL at hn
    have := List.find?_eq_none.1 (Option.map_eq_none_iff.1 hn) q hq
    simp [e] at this
  have hdel := del_ins_no hn
  have hput : repD1 ((newFile (cntS S)).dirs false) (.create p S.nf) = insL (p, S.nf) (S.dirs false) := by
    show putL (S.dirs false) p S.nf = _
    unfold putL
    rw [hdel]
  have hc : Cal (perfS (.create p S.nf) (newFile (cntS S))) := by
    refine cal_perf (newfile_cal (cal_cnt h)) _ (fun j e => by cases e) ?_ (fun q hq => ?_)
    · rw [hput]
      have hp2 := (insL_perm (p, S.nf) (S.dirs false)).map (·.2)
      rw [hp2.nodup_iff]
      exact List.nodup_cons.2 ⟨fun hm => by
        obtain ⟨q, hq, e⟩ := List.mem_map.1 hm
        have := h.nf q hq
        simp only at e
        omega, h.inj⟩
    · rw [hput] at hq
      rcases insL_mem hq with rfl | hq
      · exact Nat.lt_succ_self _
      · exact Nat.lt_succ_of_lt (h.nf q hq)
  refine ⟨cal_cut hc 0, hc, ?_, rfl, ?_⟩
  · show ((putL (S.dirs false) p S.nf).map fun q => (q.1, if q.2 = S.nf then [] else S.con false q.2)) = _
    unfold putL
    rw [hdel, ins_see (fun i => if i = S.nf then [] else S.con false i) p S.nf _ hk]
    simp only [if_true]
    congr 1
    unfold seeS
    refine List.map_congr_left fun q hq => ?_
    have := h.nf q hq
    rw [if_neg (by omega)]
  · show findL (putL (S.dirs false) p S.nf) p = _
    refine mem_find (keys_put (h.keys false) p S.nf) ?_
    unfold putL
    exact (insL_perm _ _).mem_iff.2 (List.mem_cons_self ..)
theorem cal_create_bad {S : DS} (h : Cal S) {p : List UInt8} (hb : pathB p = false) : createZ S p = (13, cntS S) := by
  unfold createZ
  rw [cal_beg h]
  have hin : createIn (cntS S) p = (13, cntS S) := by
    unfold createIn
    rw [if_pos hb]
  rw [hin]
  simp only
  rw [cal_cut (cal_cnt h)]
theorem cal_create_twice {S : DS} (h : Cal S) {p x : List UInt8} (hb : pathB p = true) (hp : lookF (seeS S) p = some x) : createZ S p = (9, cntS S) := by
  obtain ⟨i, hi, -⟩ := see_some hp
  unfold createZ
  rw [cal_beg h]
  have hin : createIn (cntS S) p = (9, cntS S) := by
    unfold createIn
    rw [if_neg (by rw [hb]; decide)]
    show (match findL (S.dirs false) p with | some _ => _ | none => _) = _
    rw [hi]
  rw [hin]
  simp only
  rw [cal_cut (cal_cnt h)]
theorem cal_chg {S : DS} (h : Cal S) {p : List UInt8} {i : Nat} (hi : findL (S.dirs false) p = some i) (c : Chg) (hf : ∀ j, ofFile j c = true → j = i) (hd : ofDir c = false) : Cal (perfS c (cntS S)) ∧ seeS (perfS c (cntS S)) = setF (seeS S) p (repC1 i (S.con false i) c) := by
  have hm := findL_mem hi
  have hr : repD1 (S.dirs false) c = S.dirs false := repD1_no hd _
  refine ⟨cal_perf (cal_cnt h) c (fun j e => by rw [hf j e]; exact h.nf _ hm) (by show ((repD1 (S.dirs false) c).map (·.2)).Nodup; rw [hr]; exact h.inj) (fun q hq => h.nf q (by rw [← hr]; exact hq)), ?_⟩
  refine see_con h hi _ ?_ ?_ (fun j hj => ?_)
  · show (applyS false c (cntS S)).dirs false = _
    rw [apply_dirs, if_pos rfl]; exact hr
  · show (applyS false c (cntS S)).con false i = _
    rw [apply_con, if_pos rfl]; rfl
  · show (applyS false c (cntS S)).con false j = _
    rw [apply_con, if_pos rfl]
    refine repC1_no ?_ _
    cases e : ofFile j c with
    | false => rfl
    | true => exact absurd (hf j e) hj
theorem cal_write {S : DS} (h : Cal S) {p x : List UInt8} (hp : lookF (seeS S) p = some x) (o : Nat) (d : List UInt8) (ho : o ≤ x.length) (hne : d ≠ []) (ht : totF (seeS S) + d.length ≤ 4000000) (hx : o + d.length ≤ 4000000) :
    (writeZ S p o d).1 = 0 ∧ Cal (writeZ S p o d).2 ∧ seeS (writeZ S p o d).2 = setF (seeS S) p (overL x o d) ∧ ∃ i, findL (S.dirs false) p = some i ∧ (writeZ S p o d).2.pend = S.pend ++ [.write i o d] ∧ (writeZ S p o d).2.dirs = S.dirs := by
  obtain ⟨i, hi, rfl⟩ := see_some hp
  have hin : writeIn (cntS S) i o d = (0, perfS (.write i o d) (cntS S)) := by
    unfold writeIn
    rw [if_neg (by omega), if_neg hne]
    have he : excB (cntS S) i ((o : Int) + (d.length : Int)) = false := by
      unfold excB
      have hu : usedN (cntS S) = totF (seeS S) := see_tot (cntS S)
      rw [hu]
      show (decide (0 < (o : Int) + (d.length : Int) - ((S.con false i).length : Int)) && decide ((S.room : Int) < (totF (seeS S) : Int) + ((o : Int) + (d.length : Int) - ((S.con false i).length : Int)))) = false
      rw [h.room, show decide (((4000000 : Nat) : Int) < (totF (seeS S) : Int) + ((o : Int) + (d.length : Int) - ((S.con false i).length : Int))) = false from decide_eq_false (by omega), Bool.and_false]
    rw [he, if_neg (by decide)]
    rfl
  unfold writeZ
  rw [hi]
  simp only
  rw [cal_beg h, hin]
  obtain ⟨h1, h2⟩ := cal_chg h hi (.write i o d) (fun j e => by have : (i == j) = true := e; simpa using (beq_iff_eq.1 this).symm) rfl
  refine ⟨cal_cut h1 0, h1, ?_, i, rfl, rfl, rfl⟩
  rw [h2]
  show setF (seeS S) p (if i = i then _ else _) = _
  rw [if_pos rfl]
theorem cal_write_nil {S : DS} (h : Cal S) {p x : List UInt8} (hp : lookF (seeS S) p = some x) : writeZ S p 0 [] = (0, cntS S) := by
  obtain ⟨i, hi, rfl⟩ := see_some hp
  have hin : writeIn (cntS S) i 0 [] = (0, cntS S) := by
    unfold writeIn
    rw [if_neg (by simp), if_pos rfl]
  unfold writeZ
  rw [hi]
  simp only
  rw [cal_beg h, hin]
  simp only
  rw [cal_cut (cal_cnt h)]
theorem cal_trunc {S : DS} (h : Cal S) {p x : List UInt8} (hp : lookF (seeS S) p = some x) (z : Nat) (hz : z ≤ x.length) (hz2 : z ≤ 4000000) :
    (truncZ S p z).1 = 0 ∧ Cal (truncZ S p z).2 ∧ seeS (truncZ S p z).2 = setF (seeS S) p (x.take z) ∧ ∃ i, findL (S.dirs false) p = some i ∧ (truncZ S p z).2.pend = S.pend ++ [.trunc i z] ∧ (truncZ S p z).2.dirs = S.dirs := by
  obtain ⟨i, hi, rfl⟩ := see_some hp
  have hin : truncIn (cntS S) i z = (0, perfS (.trunc i z) (cntS S)) := by
    unfold truncIn
    rw [if_neg (by omega)]
    have he : excB (cntS S) i (z : Int) = false := by
      unfold excB
      show (decide (0 < (z : Int) - ((S.con false i).length : Int)) && _) = false
      rw [show decide (0 < (z : Int) - ((S.con false i).length : Int)) = false from decide_eq_false (by omega), Bool.false_and]
    rw [he, if_neg (by decide)]
    rfl
  unfold truncZ
  rw [hi]
  simp only
  rw [cal_beg h, hin]
  obtain ⟨h1, h2⟩ := cal_chg h hi (.trunc i z) (fun j e => by have : (i == j) = true := e; simpa using (beq_iff_eq.1 this).symm) rfl
  refine ⟨cal_cut h1 0, h1, ?_, i, rfl, rfl, rfl⟩
  rw [h2]
  show setF (seeS S) p (if i = i then _ else _) = _
  rw [if_pos rfl]
  unfold resizeL
  rw [if_pos hz]
theorem cal_settle {S : DS} (h : Cal S) (q : Chg → Bool) (hq : (∃ f, q = ofFile f) ∨ q = ofDir) : Cal (settleS q S) ∧ seeS (settleS q S) = seeS S ∧ (settleS q S).pend = keptL q S.pend ∧ (settleS q S).dirs false = S.dirs false := by
  obtain ⟨h1, h2, h3, h4, h5, h6, h7, h8⟩ := fold_is q S.pend S
  have hd : (settleS q S).dirs false = S.dirs false := h5
  have hf : (settleS q S).nf = S.nf := foldP_nf q S S.pend
  have hcf : ∀ i c, ofFile i c = true → q c = false → ∀ f, q = ofFile f → i ≠ f := fun i c e1 e2 f e3 e4 => by
    subst e3 e4
    rw [e1] at e2; cases e2
  refine ⟨⟨h4.trans h.down, h2.trans h.flt, h3.trans h.crash, h1.trans h.room, keys_settle h.keys q, sorts_settle h.sort q, by rw [hd]; exact h.inj, fun p hp => by rw [hf]; exact h.nf p (by rw [← hd]; exact hp), fun c hc i e => by rw [hf]; exact h.pc c (keptL_mem hc) i e, fun i hi => ?_, ?_⟩, ?_, rfl, hd⟩
  · show repC i ((foldP q S S.pend).con true i) (keptL q S.pend) = (foldP q S S.pend).con false i
    rw [h6, h8, ← h.dur i (by rw [← hf]; exact hi)]
    unfold keptL
    rcases hq with ⟨f, rfl⟩ | rfl
    · by_cases e : i = f
      · subst e
        rw [repC_filter (fun _ h => h), repC_no (fun c hc => by simpa using (List.mem_filter.1 hc).2)]
      · rw [repC_no (l := S.pend.filter (ofFile f)) (fun c hc => by
          have hc2 := (List.mem_filter.1 hc).2
          cases c with
          | create _ _ => rfl
          | remove _ => rfl
          | write j _ _ =>
            have : (j == f) = true := hc2
            show (j == i) = false
            rw [beq_iff_eq.1 this]; simpa using fun e2 => e e2.symm
          | trunc j _ =>
            have : (j == f) = true := hc2
            show (j == i) = false
            rw [beq_iff_eq.1 this]; simpa using fun e2 => e e2.symm)]
        refine repC_filter (fun c hc => ?_) _ _
        cases c with
        | create _ _ => cases hc
        | remove _ => cases hc
        | write j _ _ =>
          have : (j == i) = true := hc
          show (!(j == f)) = true
          rw [beq_iff_eq.1 this]; simpa using e
        | trunc j _ =>
          have : (j == i) = true := hc
          show (!(j == f)) = true
          rw [beq_iff_eq.1 this]; simpa using e
    · rw [repC_no (l := S.pend.filter ofDir) (fun c hc => by
        have hc2 := (List.mem_filter.1 hc).2
        cases c with
        | create _ _ => rfl
        | remove _ => rfl
        | write _ _ _ => cases hc2
        | trunc _ _ => cases hc2)]
      refine repC_filter (fun c hc => ?_) _ _
      cases c with
      | create _ _ => cases hc
      | remove _ => cases hc
      | write _ _ _ => rfl
      | trunc _ _ => rfl
  · show repD ((foldP q S S.pend).dirs true) (keptL q S.pend) = (foldP q S S.pend).dirs false
    rw [h5, h7, ← h.durD]
    unfold keptL
    rcases hq with ⟨f, rfl⟩ | rfl
    · rw [repD_no (l := S.pend.filter (ofFile f)) (fun c hc => by
        have hc2 := (List.mem_filter.1 hc).2
        cases c with
        | create _ _ => cases hc2
        | remove _ => cases hc2
        | write _ _ _ => rfl
        | trunc _ _ => rfl)]
      refine repD_filter (fun c hc => ?_) _ _
      cases c with
      | create _ _ => rfl
      | remove _ => rfl
      | write _ _ _ => cases hc
      | trunc _ _ => cases hc
    · rw [repD_filter (fun _ h => h), repD_no (fun c hc => by simpa using (List.mem_filter.1 hc).2)]
  · show ((foldP q S S.pend).dirs false).map (fun p => (p.1, (foldP q S S.pend).con false p.2)) = _
    rw [h5]
    unfold seeS
    exact List.map_congr_left fun p _ => by rw [h6]
theorem cal_sync {S : DS} (h : Cal S) {p : List UInt8} {i : Nat} (hi : findL (S.dirs false) p = some i) : (syncZ S p).1 = 0 ∧ Cal (syncZ S p).2 ∧ seeS (syncZ S p).2 = seeS S ∧ (syncZ S p).2.pend = keptL (ofFile i) S.pend ∧ (syncZ S p).2.dirs false = S.dirs false := by
  unfold syncZ
  rw [hi]
  simp only
  rw [cal_beg h]
  have e : syncIn (cntS S) i = settleS (ofFile i) (cntS S) := by unfold syncIn; rw [if_neg (by show ¬ S.down = true; rw [h.down]; decide)]
  rw [e]
  obtain ⟨h1, h2, h3, h4⟩ := cal_settle (cal_cnt h) (ofFile i) (.inl ⟨i, rfl⟩)
  exact ⟨cal_cut h1 0, h1, h2, h3, h4⟩
theorem cal_dirsync {S : DS} (h : Cal S) : (dirsyncZ S).1 = 0 ∧ Cal (dirsyncZ S).2 ∧ seeS (dirsyncZ S).2 = seeS S ∧ (dirsyncZ S).2.pend = keptL ofDir S.pend := by
  unfold dirsyncZ
  rw [cal_beg h]
  have e : dirsyncIn (cntS S) = settleS ofDir (cntS S) := by unfold dirsyncIn; rw [if_neg (by show ¬ S.down = true; rw [h.down]; decide)]
  rw [e]
  obtain ⟨h1, h2, h3, -⟩ := cal_settle (cal_cnt h) ofDir (.inr rfl)
  exact ⟨cal_cut h1 0, h1, h2, h3⟩
theorem kept_dir {l : List Chg} (h : ∀ c, c ∈ l → ofDir c = true) : keptL ofDir l = [] := by
  unfold keptL
  rw [List.filter_eq_nil_iff]
  intro c hc
  rw [h c hc]; decide
theorem kept_file {l : List Chg} {i : Nat} (h : ∀ c, c ∈ l → ofDir c = true ∨ ofFile i c = true) : ∀ c, c ∈ keptL (ofFile i) l → ofDir c = true := fun c hc => by
  have h2 := (List.mem_filter.1 hc).2
  rcases h c (List.mem_filter.1 hc).1 with h | h
  · exact h
  · rw [h] at h2; cases h2
theorem cal_restart {S : DS} (h : Cal S) (hp : S.pend = []) (u : Nat → Nat) : Cal (restartS u S) ∧ seeS (restartS u S) = seeS S ∧ (restartS u S).pend = [] := by
  have hD : S.dirs true = S.dirs false := by have := h.durD; rw [hp] at this; exact this
  have hC : ∀ i, i < S.nf → S.con true i = S.con false i := fun i hi => by have := h.dur i hi; rw [hp] at this; exact this
  have e : restartS u S = { S with dirs := upd S.dirs false (S.dirs true), pend := [], con := fun s i => if s = false ∧ (S.dirs true).any (fun p => p.2 == i) = true then S.con true i else S.con s i, flt := fun _ => 0, crash := 0, down := false } := by
    unfold restartS
    rw [hp]
    rfl
  have hdirs : upd S.dirs false (S.dirs true) = S.dirs := by
    funext s
    unfold upd
    cases s with
    | false => rw [if_pos rfl, hD]
    | true => rfl
  have hcon : ∀ s i, i < S.nf → (if s = false ∧ (S.dirs true).any (fun p => p.2 == i) = true then S.con true i else S.con s i) = S.con s i := fun s i hi => by
    split
    · rename_i hh; rw [hh.1, hC i hi]
    · rfl
  rw [e, hdirs]
  refine ⟨⟨rfl, rfl, rfl, h.room, h.keys, h.sort, h.inj, h.nf, fun c hc => absurd (show c ∈ ([] : List Chg) from hc) (by simp), fun i hi => ?_, hD⟩, ?_, rfl⟩
  · show (if true = false ∧ (S.dirs true).any (fun p => p.2 == i) = true then S.con true i else S.con true i) = (if false = false ∧ (S.dirs true).any (fun p => p.2 == i) = true then S.con true i else S.con false i)
    rw [hcon false i hi, hcon true i hi, hC i hi]
  · unfold seeS
    refine List.map_congr_left fun q hq => ?_
    show (q.1, if false = false ∧ (S.dirs true).any (fun p => p.2 == q.2) = true then S.con true q.2 else S.con false q.2) = _
    rw [hcon false q.2 (h.nf q hq)]
theorem cal_new : Cal (newS (-1)) ∧ seeS (newS (-1)) = [] ∧ (newS (-1)).pend = [] := by
  refine ⟨⟨rfl, rfl, rfl, rfl, fun s => ?_, fun s => ?_, List.nodup_nil, fun q hq => (nomatch hq), fun c hc => (nomatch hc), fun i hi => absurd hi (Nat.not_lt_zero i), rfl⟩, rfl, rfl⟩
  · exact List.nodup_nil
  · exact List.Pairwise.nil
end Go.Proofs.YthfebcfdhmihcaaGreatDoor

namespace Go.Proofs
open Go.RowKit Go.Maps Go.Sort Go.Shelf
open Go.Shelf
def Tryz.keys57_ren : Go.Shelf.Ren := ⟨fun | 7 => 57 | 10 => 100 | n => n, fun | 23 => 88 | 26 => 9 | 3 => 94 | 28 => 108 | 0 => 0 | 27 => 107 | 33 => 70 | 4 => 4 | n => n, fun | n => n⟩
theorem Tryz.keys57 : Go.Proofs.SlLaysZ.n7 Tryz.prog Tryz.keys57_ren := {
  mixed := by kernel_rfl
  f7 := ⟨Tryz.f57.name, by decide, Tryz.func57.trans (congrArg some (by kernel_rfl))⟩
  f10 := ⟨Tryz.f100.name, by decide, Tryz.func100.trans (congrArg some (by kernel_rfl))⟩
  t0 := Tryz.underlying0
  a0 := Tryz.isAgg0
  z0 := Tryz.sizeOf0
  v0 := Tryz.zeroValue0
  t4 := Tryz.underlying4
  a4 := Tryz.isAgg4
  z4 := Tryz.sizeOf4
  v4 := Tryz.zeroValue4
  t23 := Tryz.underlying88
  a23 := Tryz.isAgg88
  z23 := Tryz.sizeOf88
  v23 := Tryz.zeroValue88
  t26 := Tryz.underlying9
  a26 := Tryz.isAgg9
  z26 := Tryz.sizeOf9
  v26 := Tryz.zeroValue9
  t27 := Tryz.underlying107
  a27 := Tryz.isAgg107
  z27 := Tryz.sizeOf107
  v27 := Tryz.zeroValue107
  t28 := Tryz.underlying108
  a28 := Tryz.isAgg108
  z28 := Tryz.sizeOf108
  v28 := Tryz.zeroValue108
  t33 := Tryz.underlying70
  a33 := Tryz.isAgg70
  z33 := Tryz.sizeOf70
  v33 := Tryz.zeroValue70 }
def Tryz.sorted56_ren : Go.Shelf.Ren := ⟨fun | 6 => 56 | 8 => 98 | 9 => 99 | 11 => 132 | 13 => 134 | 12 => 133 | 23 => 165 | 24 => 166 | 14 => 156 | 15 => 157 | 16 => 158 | 17 => 159 | 18 => 160 | 19 => 161 | 20 => 162 | 21 => 163 | 22 => 164 | 25 => 184 | 26 => 185 | 27 => 186 | 28 => 187 | 29 => 188 | 30 => 189 | 31 => 206 | n => n, fun | 26 => 9 | 28 => 108 | 24 => 43 | 0 => 0 | 3 => 3 | 37 => 204 | 48 => 186 | 50 => 98 | 4 => 4 | 40 => 231 | 39 => 230 | 45 => 128 | 5 => 5 | 9 => 9 | 51 => 249 | 55 => 253 | 57 => 270 | 58 => 271 | 33 => 70 | n => n, fun | n => n⟩
theorem Tryz.sorted56 : Go.Proofs.SlLaysZ.n6 Tryz.prog Tryz.sorted56_ren := {
  mixed := by kernel_rfl
  f6 := ⟨Tryz.f56.name, by decide, Tryz.func56.trans (congrArg some (by kernel_rfl))⟩
  f8 := ⟨Tryz.f98.name, by decide, Tryz.func98.trans (congrArg some (by kernel_rfl))⟩
  f11 := ⟨Tryz.f132.name, by decide, Tryz.func132.trans (congrArg some (by kernel_rfl))⟩
  t0 := Tryz.underlying0
  a0 := Tryz.isAgg0
  z0 := Tryz.sizeOf0
  v0 := Tryz.zeroValue0
  t24 := Tryz.underlying43
  a24 := Tryz.isAgg43
  z24 := Tryz.sizeOf43
  v24 := Tryz.zeroValue43
  t26 := Tryz.underlying9
  a26 := Tryz.isAgg9
  z26 := Tryz.sizeOf9
  v26 := Tryz.zeroValue9
  t28 := Tryz.underlying108
  a28 := Tryz.isAgg108
  z28 := Tryz.sizeOf108
  v28 := Tryz.zeroValue108
  i26 := by kernel_rfl }
def Tryz.sort99_ren : Go.Shelf.Ren := ⟨fun | 6 => 99 | 8 => 134 | 9 => 133 | 19 => 165 | 20 => 166 | 21 => 156 | 22 => 157 | 23 => 158 | 24 => 159 | 25 => 160 | 26 => 161 | 27 => 162 | 28 => 163 | 29 => 164 | 36 => 184 | 31 => 185 | 32 => 186 | 37 => 187 | 38 => 188 | 39 => 189 | 41 => 206 | n => n, fun | 27 => 43 | 29 => 9 | 3 => 3 | 32 => 204 | 26 => 43 | 0 => 0 | 44 => 186 | 46 => 98 | 4 => 4 | 36 => 231 | 35 => 230 | 41 => 128 | 5 => 5 | 9 => 9 | 53 => 249 | 57 => 253 | 63 => 270 | 64 => 271 | n => n, fun | n => n⟩
theorem Tryz.sort99 : Go.Proofs.SlLaysM.n6 Tryz.prog Tryz.sort99_ren := {
  mixed := by kernel_rfl
  f6 := ⟨Tryz.f99.name, by decide, Tryz.func99.trans (congrArg some (by kernel_rfl))⟩
  f8 := Tryz.func134.trans (congrArg some (by kernel_rfl))
  f9 := ⟨Tryz.f133.name, by decide, Tryz.func133.trans (congrArg some (by kernel_rfl))⟩
  f19 := Tryz.func165.trans (congrArg some (by kernel_rfl))
  f20 := Tryz.func166.trans (congrArg some (by kernel_rfl))
  f21 := ⟨Tryz.f156.name, by decide, Tryz.func156.trans (congrArg some (by kernel_rfl))⟩
  f22 := ⟨Tryz.f157.name, by decide, Tryz.func157.trans (congrArg some (by kernel_rfl))⟩
  f23 := ⟨Tryz.f158.name, by decide, Tryz.func158.trans (congrArg some (by kernel_rfl))⟩
  f24 := ⟨Tryz.f159.name, by decide, Tryz.func159.trans (congrArg some (by kernel_rfl))⟩
  f25 := ⟨Tryz.f160.name, by decide, Tryz.func160.trans (congrArg some (by kernel_rfl))⟩
  f26 := ⟨Tryz.f161.name, by decide, Tryz.func161.trans (congrArg some (by kernel_rfl))⟩
  f27 := ⟨Tryz.f162.name, by decide, Tryz.func162.trans (congrArg some (by kernel_rfl))⟩
  f28 := ⟨Tryz.f163.name, by decide, Tryz.func163.trans (congrArg some (by kernel_rfl))⟩
  f29 := ⟨Tryz.f164.name, by decide, Tryz.func164.trans (congrArg some (by kernel_rfl))⟩
  f31 := Tryz.func185.trans (congrArg some (by kernel_rfl))
  f32 := Tryz.func186.trans (congrArg some (by kernel_rfl))
  f36 := ⟨Tryz.f184.name, by decide, Tryz.func184.trans (congrArg some (by kernel_rfl))⟩
  f37 := ⟨Tryz.f187.name, by decide, Tryz.func187.trans (congrArg some (by kernel_rfl))⟩
  f38 := ⟨Tryz.f188.name, by decide, Tryz.func188.trans (congrArg some (by kernel_rfl))⟩
  f39 := ⟨Tryz.f189.name, by decide, Tryz.func189.trans (congrArg some (by kernel_rfl))⟩
  f41 := ⟨Tryz.f206.name, by decide, Tryz.func206.trans (congrArg some (by kernel_rfl))⟩
  t0 := Tryz.underlying0
  a0 := Tryz.isAgg0
  z0 := Tryz.sizeOf0
  v0 := Tryz.zeroValue0
  t3 := Tryz.underlying3
  a3 := Tryz.isAgg3
  z3 := Tryz.sizeOf3
  v3 := Tryz.zeroValue3
  t4 := Tryz.underlying4
  a4 := Tryz.isAgg4
  z4 := Tryz.sizeOf4
  v4 := Tryz.zeroValue4
  t5 := Tryz.underlying5
  a5 := Tryz.isAgg5
  z5 := Tryz.sizeOf5
  v5 := Tryz.zeroValue5
  t9 := Tryz.underlying9
  a9 := Tryz.isAgg9
  z9 := Tryz.sizeOf9
  v9 := Tryz.zeroValue9
  t26 := Tryz.underlying43
  a26 := Tryz.isAgg43
  z26 := Tryz.sizeOf43
  v26 := Tryz.zeroValue43
  t27 := Tryz.underlying43
  a27 := Tryz.isAgg43
  z27 := Tryz.sizeOf43
  v27 := Tryz.zeroValue43
  t29 := Tryz.underlying9
  a29 := Tryz.isAgg9
  z29 := Tryz.sizeOf9
  v29 := Tryz.zeroValue9
  t32 := Tryz.underlying204
  a32 := Tryz.isAgg204
  z32 := Tryz.sizeOf204
  v32 := Tryz.zeroValue204
  t35 := Tryz.underlying230
  a35 := Tryz.isAgg230
  z35 := Tryz.sizeOf230
  v35 := Tryz.zeroValue230
  t36 := Tryz.underlying231
  a36 := Tryz.isAgg231
  z36 := Tryz.sizeOf231
  v36 := Tryz.zeroValue231
  t41 := Tryz.underlying128
  a41 := Tryz.isAgg128
  z41 := Tryz.sizeOf128
  v41 := Tryz.zeroValue128
  t44 := Tryz.underlying186
  a44 := Tryz.isAgg186
  z44 := Tryz.sizeOf186
  v44 := Tryz.zeroValue186
  t46 := Tryz.underlying98
  a46 := Tryz.isAgg98
  z46 := Tryz.sizeOf98
  v46 := Tryz.zeroValue98
  t53 := Tryz.underlying249
  a53 := Tryz.isAgg249
  z53 := Tryz.sizeOf249
  v53 := Tryz.zeroValue249
  t57 := Tryz.underlying253
  a57 := Tryz.isAgg253
  z57 := Tryz.sizeOf253
  v57 := Tryz.zeroValue253
  t63 := Tryz.underlying270
  a63 := Tryz.isAgg270
  z63 := Tryz.sizeOf270
  v63 := Tryz.zeroValue270
  t64 := Tryz.underlying271
  a64 := Tryz.isAgg271
  z64 := Tryz.sizeOf271
  v64 := Tryz.zeroValue271 }
theorem Tryz.sorts56 (m : Nat) : AnyZ.SortsIn Tryz.prog Tryz.sorted56_ren Fence.wide m :=
  ⟨fun blk off cap ss W hH hblk hsz => callsIn_wide.2 (AnyM.slices_Sort_string Tryz.sort99 blk off cap ss W hH hblk hsz),
   fun p cap W => callsIn_wide.2 (AnyM.slices_Sort_string_none Tryz.sort99 p cap W)⟩

theorem Tryz.maps_Keys_57 (mb : Option Nat) (W : World) : CallsIn Fence.wide 5 Tryz.prog 57 #[.map mb] W fun e w' => e = .returned (.func (.func 100) #[] #[.pointer (some ⟨W.heap.size, 0, none⟩)]) ∧ w' = W.alloc (.cells #[.map mb] 88) :=
  AnyZ.keys_in Tryz.keys57 Fence.wide 5 trivial rfl mb W

set_option maxHeartbeats 1000000 in
theorem Tryz.slices_Sorted_keys_56_57 {H : Type} (b nn : Nat) (D0 : DataW H) (R : Value → Option (DataW H × List MemPlace)) (w : World) (hown : w.ownsMap Tryz.prog 9 R b nn D0) (hmax : Maps.size D0 ≤ maxLen) (hbytes : Maps.size D0 * 16 ≤ 140737488355328) :
    CallsIn Fence.wide 5 Tryz.prog 56 #[.func (.func 100) #[] #[.pointer (some ⟨w.heap.size, 0, none⟩)]] (w.alloc (.cells #[.map (some b)] 88)) fun e w' => ∃ (v : Value) (ss : List (List UInt8)), e = .returned v ∧ ss.Perm (strKeys D0) ∧
      w'.ownsRow (w.alloc (.cells #[.map (some b)] 88)).heap.size 9 1 v ss.length ((ss.mergeSort (fun x y => decide (x ≤ y))).map encStr) ∧ (v = .slice none 0 0 ↔ ss = []) ∧ Below (w.alloc (.cells #[.map (some b)] 88)).heap.size (w.alloc (.cells #[.map (some b)] 88)) w' := by
  have hbl := hown.lt
  have hseq : SeqGives Fence.wide 2 Tryz.prog 100 #[.pointer (some ⟨w.heap.size, 0, none⟩)] encStr (fun ss => ss.Perm (strKeys D0)) (Maps.size D0) (w.alloc (.cells #[.map (some b)] 88)) :=
    AnyZ.keys_gives (ρ := Tryz.keys57_ren) { Tryz.keys57 with } Fence.wide _ trivial rfl (by omega) w.heap.size b nn D0 _ (by simp) (by simp) (by
      obtain ⟨es, clock, hb, Ft, hs, hD⟩ := hown
      exact ⟨es, clock, (Below.heap_alloc _ _ b hbl).trans hb, Ft, hs, hD⟩)
  exact AnyZ.sorted_in Tryz.sorted56 Fence.wide 5 trivial trivial trivial trivial rfl (by omega) (Tryz.sorts56 _) (enters_of Tryz.func99 (by kernel_rfl) rfl) 100 #[.pointer (some ⟨w.heap.size, 0, none⟩)] trivial (enters_of Tryz.func100 (by kernel_rfl) rfl) _ _ hmax hbytes _ hseq

set_option maxHeartbeats 1000000 in
theorem Tryz.slices_Sorted_keys_nil_56_57 (w : World) :
    CallsIn Fence.wide 5 Tryz.prog 56 #[.func (.func 100) #[] #[.pointer (some ⟨w.heap.size, 0, none⟩)]] (w.alloc (.cells #[.map none] 88)) fun e w' => ∃ (v : Value) (ss : List (List UInt8)), e = .returned v ∧ ss = [] ∧
      w'.ownsRow (w.alloc (.cells #[.map none] 88)).heap.size 9 1 v ss.length ((ss.mergeSort (fun x y => decide (x ≤ y))).map encStr) ∧ (v = .slice none 0 0 ↔ ss = []) ∧ Below (w.alloc (.cells #[.map none] 88)).heap.size (w.alloc (.cells #[.map none] 88)) w' := by
  have hseq : SeqGives Fence.wide 2 Tryz.prog 100 #[.pointer (some ⟨w.heap.size, 0, none⟩)] encStr (fun ss : List (List UInt8) => ss = []) 0 (w.alloc (.cells #[.map none] 88)) :=
    AnyZ.keys_gives_nil (ρ := Tryz.keys57_ren) { Tryz.keys57 with } Fence.wide _ trivial rfl w.heap.size _ (by simp) (by simp)
  exact AnyZ.sorted_in Tryz.sorted56 Fence.wide 5 trivial trivial trivial trivial rfl (by omega) (Tryz.sorts56 _) (enters_of Tryz.func99 (by kernel_rfl) rfl) 100 #[.pointer (some ⟨w.heap.size, 0, none⟩)] trivial (enters_of Tryz.func100 (by kernel_rfl) rfl) _ 0 (Nat.zero_le _) (by omega) _ hseq



end Go.Proofs
