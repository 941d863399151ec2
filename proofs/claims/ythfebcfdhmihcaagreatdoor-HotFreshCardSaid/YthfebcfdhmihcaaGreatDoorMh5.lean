/-
  The two methods of a running checksum of layer 3: Add goes on with the bytes and changes the running checksum alone, and Sum returns the checksum so far; at nil they do nothing and return 0. Condition: the two numbers are below 65521; the string has at most 2^63 - 1 bytes.
  The document's answers Quote and Unquote of layer 1: each returns its plain function of the bytes ('quoteL', 'unqR') and changes nothing that was there. Condition: the string has at most 30000 bytes.
  The document's answer Read of layer 1: it returns the number or the error ('readR') and changes nothing that was there. Condition: the string has at most 30000 bytes.
  Plain functions of numbers and bytes: what layer 2's functions are to return, and the chapter's consequences about them. No program here.
  The functions of layer 2 without a loop (Fold, Unfold and the document's answers for them): each returns its plain function of the number, and leaves the world alone. Condition: the number is one of its kind.
  scan and Get of layer 2: each returns its plain function of the bytes ('scanF', 'getR') and leaves the world alone. Condition: the string has at most 2^63 - 1 bytes.
  Put of layer 2 returns 'putL' of the number and changes nothing that was there. Condition: the number is a uint64.
  The document's answers one, Put and Get of layer 2: each returns its plain function and changes nothing that was there. Condition: the number is a uint64; the string has at most 2^63 - 1 bytes.
  The document's answer Get of layer 2 returns 'getR' of the bytes and changes nothing that was there. Condition: the string has at most 2^63 - 1 bytes.
  Fixed and Number of layer 2, and the document's answers for them: each returns its plain function and changes nothing that was there. Condition: the number is an int; the string has at most 2^63 - 1 bytes.
  The checksum of layer 3 as a plain function of the nonce and the bytes: its two numbers stay below 65521; it goes on piece by piece; one changed byte, or two unlike neighbours that change places, give another checksum.
  start, New and the two methods of a running checksum of layer 3: each returns its plain function of the nonce and the bytes; Add changes the running checksum alone. Condition: the numbers are ints; the string has at most 2^63 - 1 bytes.
-/
import Derived.Test.YthfebcfdhmihcaaGreatDoorProg
import Derived.WalkKit
import Derived.Lib.Hide
import Derived.Deep.QuietTactic
import Derived.BigQuiet
import Derived.Handy
import Derived.Lib.EndianBits
import Derived.WalkArith
import Derived.Deep.OwnRows
import Derived.Laws.IdiomStrings
import Derived.Below
import Derived.Deep.RegionWith
import Derived.Lib.Strings
import Derived.WalkSmall
import Derived.BigRegion
import Derived.Test.YthfebcfdhmihcaaGreatDoorMh4
namespace Go.Proofs.YthfebcfdhmihcaaGreatDoor
open Go.RowKit

theorem fapp_data (a b : ByteArray) : (a ++ b).data.toList = a.data.toList ++ b.data.toList := by simp
theorem fapp_size (a b : ByteArray) : (a ++ b).size = a.size + b.size := by simp
theorem fone_size (x : UInt8) : (⟨#[x]⟩ : ByteArray).size = 1 := rfl
end Go.Proofs.YthfebcfdhmihcaaGreatDoor

namespace Go.Proofs.YthfebcfdhmihcaaGreatDoor
open Go.RowKit

def digs (l : List UInt8) : Bool := l.all fun x => isDigB x.toNat
theorem digs_take (s : ByteArray) (k : Nat) (h : k < s.size) : digs (s.data.toList.take (k + 1)) = (digs (s.data.toList.take k) && isDigB (s[k]).toNat) := by
  simp only [digs]; rw [ftake_snoc s k h, List.all_append]; simp
theorem read_nodig (l : List UInt8) : ∀ n o, digs l = false → l.foldl readS (some (n, o)) = none := by
  induction l with
  | nil => intro n o h; simp [digs] at h
  | cons a t ih =>
    intro n o h
    rw [List.foldl_cons]
    cases hd : isDigB a.toNat with
    | false => rw [show readS (some (n, o)) a = none by simp [readS, hd], readS_none]
    | true =>
      have ht : digs t = false := by simp only [digs, List.all_cons, hd, Bool.true_and] at h; exact h
      by_cases ho : o = true ∨ (maxI - ((a.toNat : Int) - 48)) / 10 < n
      · rw [show readS (some (n, o)) a = some (n, true) by simp only [readS, if_pos hd, if_pos ho]]; exact ih _ _ ht
      · rw [show readS (some (n, o)) a = some (n * 10 + ((a.toNat : Int) - 48), false) by simp only [readS, if_pos hd, if_neg ho]]; exact ih _ _ ht
theorem read_over (l : List UInt8) : ∀ n, digs l = true → l.foldl readS (some (n, true)) = some (n, true) := by
  induction l with
  | nil => intro n _; rfl
  | cons a t ih =>
    intro n h
    simp only [digs, List.all_cons, Bool.and_eq_true] at h
    rw [List.foldl_cons, show readS (some (n, true)) a = some (n, true) by simp [readS, h.1]]
    exact ih n h.2
theorem readF_over {l a b : List UInt8} {n : Int} (hl : l = a ++ b) (h : readF a = some (n, true)) (hd : digs b = true) : readF l = some (n, true) := by
  rw [hl, readF, List.foldl_append, show a.foldl readS (some (0, false)) = _ from h, read_over b n hd]
theorem readF_take (s : ByteArray) (k : Nat) (h : k < s.size) : readF (s.data.toList.take (k + 1)) = readS (readF (s.data.toList.take k)) s[k] := by
  rw [ftake_snoc s k h, readF_snoc]
theorem ret_ii {a b c d : Int} (h : (a, c) = (b, d)) : Ending.returned (.tuple #[.int .i64 a, .int .i64 c]) = .returned (.tuple #[.int .i64 b, .int .i64 d]) := by
  cases h; rfl

set_option maxRecDepth 100000 in
set_option maxHeartbeats 4000000 in
theorem rread_loop (s : ByteArray) (w : World) (hs : s.size ≤ 30000) (te : s.toList.isEmpty = false) (te' : ¬ s.toList = []) (hne : Hid (s.data.toList ≠ [])) (m e0 : Int) (hr : Hid (readR s.data.toList = (m, e0))) :
    Calls Tryz.prog 39 #[.string s] w fun e w' => e = .returned (.tuple #[.int .i64 m, .int .i64 e0]) ∧ w = w' := by
  go_enter Tryz.func39, Tryz.ntmps39
  go_wp2
  go_loop [4] (fun i => ∃ k : Nat, k ≤ s.size ∧ i = .int .i64 k ∧ Hid (digs (s.data.toList.take k) = true)) (fun i => s.size - (intOf i).toNat)
  case atStart => exact ⟨0, Nat.zero_le _, rfl, Lib.hid (by simp [digs])⟩
  case round =>
    obtain ⟨k, hk, rfl, hall⟩ := hrel
    by_cases hlt : k < s.size
    · have HS := Lib.hid (digs_take s k hlt)
      have bad : isDigB (s[k]).toNat = false → readR s.data.toList = (0, 4) := by
        intro h
        have h1 : digs s.data.toList = false := by
          have e : digs s.data.toList = (digs (s.data.toList.take (k + 1)) && digs (s.data.toList.drop (k + 1))) := by
            simp only [digs]; rw [← List.all_append, List.take_append_drop]
          rw [e, HS.out, h]; simp
        rw [readR, if_neg hne.out, readF, read_nodig _ _ _ h1]
      have BAD := Lib.hid bad; clear bad
      by_cases h1 : ((s[k]).toNat : Int) < 48
      · have t1 : decide (((s[k]).toNat : Int) < 48) = true := by simpa using h1
        have HB := Lib.hid (BAD.out (decide_eq_false (by omega)))
        go_wp2
        go_ret2
        exact ⟨ret_ii (HB.out.symm.trans hr.out), rfl⟩
      · have t1 : decide (((s[k]).toNat : Int) < 48) = false := by simpa using h1
        by_cases h2 : 57 < ((s[k]).toNat : Int)
        · have t2 : decide (57 < ((s[k]).toNat : Int)) = true := by simpa using h2
          have HB := Lib.hid (BAD.out (decide_eq_false (by omega)))
          go_wp2
          go_ret2
          exact ⟨ret_ii (HB.out.symm.trans hr.out), rfl⟩
        · have t2 : decide (57 < ((s[k]).toNat : Int)) = false := by simpa using h2
          have HD := Lib.hid (show isDigB (s[k]).toNat = true from decide_eq_true (by omega))
          go_wp2
          go_round
          case rel => exact ⟨k + 1, by omega, by go_num, Lib.hid (by rw [HS.out, hall.out, HD.out]; rfl)⟩
          case measure => simp [intOf]; omega
    · have hdd : digs s.data.toList = true := by rw [← hall.out, List.take_of_length_le (by simp; omega)]
      have HDD := Lib.hid hdd; clear hdd hall
      go_wp2
      go_loop [5, 6] (fun o i => ∃ (k : Nat) (n : Int), k ≤ s.size ∧ i = .int .i64 k ∧ o = .int .i64 n ∧ Hid (readF (s.data.toList.take k) = some (n, false)) ∧ 0 ≤ n ∧ n ≤ 9223372036854775807) (fun _ i => s.size - (intOf i).toNat)
      case atStart => exact ⟨0, 0, Nat.zero_le _, rfl, rfl, Lib.hid (by simp [readF]), by omega, by omega⟩
      case round =>
        obtain ⟨j, n, hj, rfl, rfl, hn, hn0, hn1⟩ := hrel
        by_cases hlj : j < s.size
        · have hdj : isDigB (s[j]).toNat = true := by
            have h := HDD.out
            simp only [digs, List.all_eq_true] at h
            exact h _ (by
              obtain ⟨⟨l⟩⟩ := s
              exact List.getElem_mem (show j < l.length from hlj))
          have hb := isDig_bd hdj
          have HDJ := Lib.hid hdj; clear hdj
          have HT := Lib.hid (readF_take s j hlj)
          obtain ⟨hb0, hb1⟩ := hb
          by_cases ho : (9223372036854775807 - (((s[j]).toNat : Int) - 48)) / 10 < n
          · have HO := Lib.hid (show readF s.data.toList = some (n, true) from
              readF_over (a := s.data.toList.take (j + 1)) (b := s.data.toList.drop (j + 1)) (List.take_append_drop _ _).symm
                (by rw [HT.out, hn.out]; simp only [readS]; rw [if_pos HDJ.out, if_pos (.inr ho)])
                (by
                  have h := HDD.out
                  simp only [digs, List.all_eq_true] at h ⊢
                  exact fun x hx => h x (List.mem_of_mem_drop hx)))
            have to : decide ((9223372036854775807 - (((s[j]).toNat : Int) - 48)) / 10 < n) = true := by simpa using ho
            go_wp2
            go_ret2
            exact ⟨ret_ii (by rw [← hr.out, readR, if_neg hne.out, HO.out]), rfl⟩
          · have HO := Lib.hid (show readF (s.data.toList.take (j + 1)) = some (n * 10 + (((s[j]).toNat : Int) - 48), false) by
              rw [HT.out, hn.out]; simp only [readS]; rw [if_pos HDJ.out, if_neg (fun h => h.elim (fun e => by cases e) ho)])
            have to : decide ((9223372036854775807 - (((s[j]).toNat : Int) - 48)) / 10 < n) = false := by simpa using ho
            go_wp2
            go_round
            case rel => exact ⟨j + 1, 10 * n + (((s[j]).toNat : Int) - 48), by omega, by go_num, rfl, Lib.hid (by rw [HO.out, Int.mul_comm]), by omega, by omega⟩
            case measure => simp [intOf]; omega
        · go_wp2
          go_ret2
          exact ⟨ret_ii (by
            rw [← hr.out, readR, if_neg hne.out, ← List.take_of_length_le (l := s.data.toList) (i := j) (by simp; omega), hn.out]), rfl⟩

theorem rread_empty (s : ByteArray) (w : World) (te : s.toList.isEmpty = true) (te' : s.toList = []) :
    Calls Tryz.prog 39 #[.string s] w fun e w' => e = .returned (.tuple #[.int .i64 0, .int .i64 1]) ∧ w = w' := by
  go_enter Tryz.func39, Tryz.ntmps39
  go_wp2
  go_ret2
  exact ⟨rfl, rfl⟩
theorem rread_any (s : ByteArray) (w : World) (hs : s.size ≤ 30000) :
    Calls Tryz.prog 39 #[.string s] w fun e w' => e = .returned (.tuple #[.int .i64 (readR s.data.toList).1, .int .i64 (readR s.data.toList).2]) ∧ w = w' := by
  by_cases h0 : s.size = 0
  · obtain ⟨te, te'⟩ := empty_yes h0
    refine (rread_empty s w te te').mono fun e w' ⟨he, hb⟩ => ⟨?_, hb⟩
    rw [ByteArray.toList_eq] at te'
    rw [he, readR, if_pos te']
  · obtain ⟨te, te'⟩ := empty_no (s := s) (by omega)
    have te2 := te'
    rw [ByteArray.toList_eq] at te2
    exact rread_loop s w hs te te' (Lib.hid te2) _ _ (Lib.hid rfl)
end Go.Proofs.YthfebcfdhmihcaaGreatDoor

namespace Go.Proofs.YthfebcfdhmihcaaGreatDoor

theorem u8_of {n : Nat} (h : n < 256) : (n.toUInt8).toNat = n := by
  show n % 256 = n
  omega
end Go.Proofs.YthfebcfdhmihcaaGreatDoor

namespace Go.Proofs.YthfebcfdhmihcaaGreatDoor
open Go.RowKit

theorem ret_bool {a b : Bool} (h : a = b) : Ending.returned (.bool a) = .returned (.bool b) := by rw [h]
theorem ret_int {k : IntKind} {a b : Int} (h : a = b) : Ending.returned (.int k a) = .returned (.int k b) := by rw [h]

end Go.Proofs.YthfebcfdhmihcaaGreatDoor

namespace Go.Proofs.YthfebcfdhmihcaaGreatDoor
open Go.RowKit

theorem byte_bd (x : UInt8) : 0 ≤ (x.toNat : Int) ∧ (x.toNat : Int) ≤ 255 := by have := x.toNat_lt; omega
theorem drop_at (s : ByteArray) (k : Nat) (h : k < s.size) : s.data.toList.drop k = s[k] :: s.data.toList.drop (k + 1) := by
  obtain ⟨⟨l⟩⟩ := s
  exact List.drop_eq_getElem_cons h
theorem drop_all (s : ByteArray) (k : Nat) (h : s.size ≤ k) : s.data.toList.drop k = [] := by
  obtain ⟨⟨l⟩⟩ := s
  exact List.drop_eq_nil_of_le h

end Go.Proofs.YthfebcfdhmihcaaGreatDoor

namespace Go.Proofs.YthfebcfdhmihcaaGreatDoor
open Go.RowKit

theorem infoU8 : (Tryz.prog.info? 5).map (fun i => (i.zero, i.size, i.bytes)) = some (some (.int .u8 0), 1, 1) := by kernel_rfl
end Go.Proofs.YthfebcfdhmihcaaGreatDoor

namespace Go.Proofs.YthfebcfdhmihcaaGreatDoor
open Go.RowKit

theorem box1 {W : World} {B : Nat} {v : Value} {t : TypeId} (h : W.heap[B]? = some (.cells #[v] t (0, 0))) : W.cell? ⟨B, 0, none⟩ = some v ∧ W.frozen? ⟨B, 0, none⟩ = false := by
  constructor <;> simp [World.cell?, World.frozen?, h]
theorem new1 (W : World) (v : Value) (t : TypeId) : (W.alloc (.cells #[v] t)).cell? ⟨W.heap.size, 0, none⟩ = some v ∧ (W.alloc (.cells #[v] t)).frozen? ⟨W.heap.size, 0, none⟩ = false :=
  box1 (Deep.blk_alloc_new _ _)
theorem one_str (w : World) (c : Int) (x : UInt8) (hx : (x.toNat : Int) = c) :
    (convert 100 9 (.slice (some ⟨w.heap.size, 0, none⟩) 1 1)).run Tryz.prog (w.alloc (.cells #[.int .u8 c] 5)) = .ok (.string ⟨#[x]⟩) (w.alloc (.cells #[.int .u8 c] 5)) := by
  have := run_convert_bytes_back (P := Tryz.prog) (w.alloc (.cells #[.int .u8 c] 5)) 100 9 5 ⟨w.heap.size, 0, none⟩ 1 [x] Tryz.underlying100 Tryz.underlying5 Tryz.underlying9 (fun j hj => by
    obtain rfl : j = 0 := by simp at hj; omega
    rw [Addr.add_lit, (new1 w (.int .u8 c) 5).1]
    simp [hx])
  exact this
theorem app_data (a b : ByteArray) : (a ++ b).data.toList = a.data.toList ++ b.data.toList := by simp
theorem app_size (a b : ByteArray) : (a ++ b).size = a.size + b.size := by simp
theorem ba_len (b : ByteArray) : b.data.toList.length = b.size := by simp
theorem one_any (z : Int) (h0 : 0 ≤ z) (h : z < 256) (w : World) :
    Calls Tryz.prog 202 #[.int .u64 z] w fun e w' => e = .returned (.string ⟨#[z.toNat.toUInt8]⟩) ∧ Below w.heap.size w w' := by
  have hc := one_str w z z.toNat.toUInt8 (by rw [u8_of (by omega)]; omega)
  go_enter Tryz.func202, Tryz.ntmps202
  go_wp2
  go_ret
  exact ⟨rfl, (Below.refl _ _).alloc (Nat.le_refl _) _⟩

end Go.Proofs.YthfebcfdhmihcaaGreatDoor

namespace Go.Proofs.YthfebcfdhmihcaaGreatDoor
open Go.RowKit

theorem ext_data (s : ByteArray) (k : Nat) : (s.extract 0 k).data.toList = s.data.toList.take k := by
  rw [Lib.extract_data]; simp

end Go.Proofs.YthfebcfdhmihcaaGreatDoor

namespace Go.Proofs.YthfebcfdhmihcaaGreatDoor
open Go.RowKit

def fourL (n : Nat) : List UInt8 := [(n / 16777216).toUInt8, (n / 65536 % 256).toUInt8, (n / 256 % 256).toUInt8, (n % 256).toUInt8]
def fixR (n : Int) : List UInt8 × Int := if 0 ≤ n ∧ n ≤ 4294967295 then (fourL n.toNat, 0) else ([], 3)
def numR (l : List UInt8) : Int × Int := if l.length < 4 then (0, 1) else (((l.getD 0 0).toNat * 16777216 + (l.getD 1 0).toNat * 65536 + (l.getD 2 0).toNat * 256 + (l.getD 3 0).toNat : Nat), 0)
theorem num_fix {n : Int} (h : 0 ≤ n ∧ n ≤ 4294967295) : numR (fourL n.toNat) = (n, 0) := by
  have hl : (fourL n.toNat).length = 4 := rfl
  rw [numR, if_neg (by omega)]
  refine Prod.ext ?_ rfl
  show (((n.toNat / 16777216).toUInt8.toNat * 16777216 + (n.toNat / 65536 % 256).toUInt8.toNat * 65536 + (n.toNat / 256 % 256).toUInt8.toNat * 256 + (n.toNat % 256).toUInt8.toNat : Nat) : Int) = n
  rw [u8_of (by omega), u8_of (by omega), u8_of (by omega), u8_of (by omega)]
  omega

theorem new4 (W : World) (a b c d : Value) (t : TypeId) (j : Nat) (hj : j < 4) : (W.alloc (.cells #[a, b, c, d] t)).cell? ⟨W.heap.size, j, none⟩ = some ([a, b, c, d].getD j a) :=
  (World.rowIs_alloc W #[a, b, c, d] t (fun j => [a, b, c, d].getD j a) (fun i hi => by
    match i, hi with
    | 0, _ => rfl
    | 1, _ => rfl
    | 2, _ => rfl
    | 3, _ => rfl
    | i + 4, hi => simp at hi; omega)).cell hj
theorem four_str (w : World) (a b c d : Int) (n : Nat) (ha : a = ((n / 16777216 : Nat) : Int)) (hb : b = ((n / 65536 % 256 : Nat) : Int)) (hc : c = ((n / 256 % 256 : Nat) : Int)) (hd : d = ((n % 256 : Nat) : Int)) (hn : n < 4294967296) :
    (convert 100 9 (.slice (some ⟨w.heap.size, 0, none⟩) 4 4)).run Tryz.prog (w.alloc (.cells #[.int .u8 a, .int .u8 b, .int .u8 c, .int .u8 d] 5)) = .ok (.string ⟨(fourL n).toArray⟩) (w.alloc (.cells #[.int .u8 a, .int .u8 b, .int .u8 c, .int .u8 d] 5)) := by
  refine run_convert_bytes_back (P := Tryz.prog) (w.alloc (.cells #[.int .u8 a, .int .u8 b, .int .u8 c, .int .u8 d] 5)) 100 9 5 ⟨w.heap.size, 0, none⟩ 4 (fourL n) Tryz.underlying100 Tryz.underlying5 Tryz.underlying9 (fun j hj => ?_)
  have hj4 : j < 4 := hj
  rw [Addr.add_lit, Nat.zero_add, new4 _ _ _ _ _ _ j hj4]
  match j, hj4, hj with
  | 0, _, _ => show some (Value.int .u8 a) = some (.int .u8 ((n / 16777216).toUInt8.toNat : Int)); rw [u8_of (by omega), ha]
  | 1, _, _ => show some (Value.int .u8 b) = some (.int .u8 ((n / 65536 % 256).toUInt8.toNat : Int)); rw [u8_of (by omega), hb]
  | 2, _, _ => show some (Value.int .u8 c) = some (.int .u8 ((n / 256 % 256).toUInt8.toNat : Int)); rw [u8_of (by omega), hc]
  | 3, _, _ => show some (Value.int .u8 d) = some (.int .u8 ((n % 256).toUInt8.toNat : Int)); rw [u8_of (by omega), hd]

theorem ret_fix {a : ByteArray} {c : Int} {r : List UInt8 × Int} (h : a = ⟨r.1.toArray⟩) (h2 : c = r.2) : Ending.returned (.tuple #[.string a, .int .i64 c]) = .returned (.tuple #[.string ⟨r.1.toArray⟩, .int .i64 r.2]) := by rw [h, h2]
theorem ret_num {a c : Int} {r : Int × Int} (h : a = r.1) (h2 : c = r.2) : Ending.returned (.tuple #[.int .i64 a, .int .i64 c]) = .returned (.tuple #[.int .i64 r.1, .int .i64 r.2]) := by rw [h, h2]

set_option maxHeartbeats 2000000 in
set_option maxRecDepth 100000 in
theorem vfixed_any (n : Int) (h1 : -9223372036854775808 ≤ n) (h2 : n ≤ 9223372036854775807) (w : World) :
    Calls Tryz.prog 212 #[.int .i64 n] w fun e w' => e = .returned (.tuple #[.string ⟨(fixR n).1.toArray⟩, .int .i64 (fixR n).2]) ∧ Below w.heap.size w w' := by
  obtain ⟨r, hr⟩ : ∃ r, r = fixR n := ⟨_, rfl⟩
  rw [← hr]
  by_cases hn : n < 0
  · have HR := Lib.hid (show r = ([], 3) by rw [hr, fixR, if_neg (by omega)]); clear hr
    go_enter Tryz.func212, Tryz.ntmps212
    go_wp2
    go_ret2
    exact ⟨ret_fix (by rw [HR.out]) (by rw [HR.out]), Below.refl _ _⟩
  · by_cases hm : 4294967295 < n
    · have HR := Lib.hid (show r = ([], 3) by rw [hr, fixR, if_neg (by omega)]); clear hr
      go_enter Tryz.func212, Tryz.ntmps212
      go_wp2
      go_ret2
      exact ⟨ret_fix (by rw [HR.out]) (by rw [HR.out]), Below.refl _ _⟩
    · have HR := Lib.hid (show r = (fourL n.toNat, 0) by rw [hr, fixR, if_pos (by omega)]); clear hr
      have w2 : IntKind.u8.wrap (n / 65536) = n / 65536 % 256 := IntKind.wrap_u8 _
      have w3 : IntKind.u8.wrap (n / 256) = n / 256 % 256 := IntKind.wrap_u8 _
      have w4 : IntKind.u8.wrap n = n % 256 := IntKind.wrap_u8 _
      have hc := four_str w (n / 16777216) (n / 65536 % 256) (n / 256 % 256) (n % 256) n.toNat (by omega) (by omega) (by omega) (by omega) (by omega)
      go_enter Tryz.func212, Tryz.ntmps212
      go_wp2
      go_ret2
      exact ⟨ret_fix (by rw [HR.out]) (by rw [HR.out]), (Below.refl _ _).alloc (Nat.le_refl _) _⟩

theorem four_app (n : Int) (h0 : 0 ≤ n) (h1 : n ≤ 4294967295) : (⟨#[(n / 16777216).toNat.toUInt8]⟩ : ByteArray) ++ ⟨#[(n / 65536 % 256).toNat.toUInt8]⟩ ++ ⟨#[(n / 256 % 256).toNat.toUInt8]⟩ ++ ⟨#[(n % 256).toNat.toUInt8]⟩ = ⟨(fourL n.toNat).toArray⟩ := by
  apply WideShapes.bytes_inj
  rw [app_data, app_data, app_data, fourL, show (n / 16777216).toNat = n.toNat / 16777216 by omega, show (n / 65536 % 256).toNat = n.toNat / 65536 % 256 by omega, show (n / 256 % 256).toNat = n.toNat / 256 % 256 by omega, show (n % 256).toNat = n.toNat % 256 by omega]
  rfl

set_option maxHeartbeats 4000000 in
set_option maxRecDepth 100000 in
theorem rfixed_any (n : Int) (h1 : -9223372036854775808 ≤ n) (h2 : n ≤ 9223372036854775807) (w : World) :
    Calls Tryz.prog 179 #[.int .i64 n] w fun e w' => e = .returned (.tuple #[.string ⟨(fixR n).1.toArray⟩, .int .i64 (fixR n).2]) ∧ Below w.heap.size w w' := by
  obtain ⟨r, hr⟩ : ∃ r, r = fixR n := ⟨_, rfl⟩
  rw [← hr]
  by_cases hn : n < 0
  · have HR := Lib.hid (show r = ([], 3) by rw [hr, fixR, if_neg (by omega)]); clear hr
    go_enter Tryz.func179, Tryz.ntmps179
    go_wp2
    go_ret2
    exact ⟨ret_fix (by rw [HR.out]) (by rw [HR.out]), Below.refl _ _⟩
  · by_cases hm : 4294967295 < n
    · have HR := Lib.hid (show r = ([], 3) by rw [hr, fixR, if_neg (by omega)]); clear hr
      go_enter Tryz.func179, Tryz.ntmps179
      go_wp2
      go_ret2
      exact ⟨ret_fix (by rw [HR.out]) (by rw [HR.out]), Below.refl _ _⟩
    · have HR := Lib.hid (show r = (fourL n.toNat, 0) by rw [hr, fixR, if_pos (by omega)]); clear hr
      have HF := Lib.hid (four_app n (by omega) (by omega))
      have hB := Below.refl w.heap.size w
      go_enter Tryz.func179, Tryz.ntmps179
      go_wp2_with (go_at_call 202; refine (one_any _ (by omega) (by omega) _).mono ?_; rintro e w1 ⟨rfl, b1⟩; replace hB := hB.trans (b1.mono hB.size); clear b1)
      go_ret2
      exact ⟨ret_fix (by rw [HR.out, HF.out]) (by rw [HR.out]), hB⟩

def numK (s : ByteArray) : Nat → Nat
  | 0 => 0
  | k + 1 => numK s k * 256 + (s.data.toList.getD k 0).toNat
theorem numK_lt (s : ByteArray) (k : Nat) : numK s k < 256 ^ k := by
  induction k with
  | zero => exact Nat.zero_lt_one
  | succ k ih =>
    have : (s.data.toList.getD k 0).toNat < 256 := (s.data.toList.getD k 0).toNat_lt
    rw [numK, Nat.pow_succ]; omega
theorem num_K {s : ByteArray} (h : 4 ≤ s.size) : numR s.data.toList = (((numK s 4 : Nat) : Int), 0) := by
  rw [numR, if_neg (by rw [ba_len]; omega)]
  refine Prod.ext ?_ rfl
  show ((_ : Nat) : Int) = ((numK s 4 : Nat) : Int)
  refine congrArg (Nat.cast : Nat → Int) ?_
  simp only [numK]
  omega
theorem getD_at (s : ByteArray) (k : Nat) (h : k < s.size) : s.data.toList.getD k 0 = s[k] := by
  obtain ⟨⟨l⟩⟩ := s
  show l.getD k 0 = l[k]'h
  rw [List.getD_eq_getElem?_getD, List.getElem?_eq_getElem h, Option.getD_some]
theorem wraps_i63 (n : Int) (h₀ : 0 ≤ n) (h₁ : n < 2 ^ 63) : IntKind.i64.wrap n = n := IntWalk.i64_in _ (by omega)
theorem i64_j8 {x y : Int} (hx₀ : 0 ≤ x) (hx₁ : x < 72057594037927936 / 2) (h₀ : 0 ≤ y) (h₁ : y < 256) : bits .or .i64 (x * 256) y = x * 256 + y :=
  bits_join .i64 63 (by decide) wraps_i63 8 (x * 256) y (by omega) (by omega) (by omega) h₀ (by omega) (by omega)

set_option maxHeartbeats 2000000 in
set_option maxRecDepth 100000 in
theorem vnumber_any (s : ByteArray) (hs : s.size ≤ 9223372036854775807) (w : World) :
    Calls Tryz.prog 207 #[.string s] w fun e w' => e = .returned (.tuple #[.int .i64 (numR s.data.toList).1, .int .i64 (numR s.data.toList).2]) ∧ w = w' := by
  obtain ⟨r, hr⟩ : ∃ r, r = numR s.data.toList := ⟨_, rfl⟩
  rw [← hr]
  by_cases h4 : s.size < 4
  · have HR := Lib.hid (show r = (0, 1) by rw [hr, numR, if_pos (by rw [ba_len]; exact h4)]); clear hr
    go_enter Tryz.func207, Tryz.ntmps207
    go_wp2
    go_ret2
    exact ⟨ret_num (by rw [HR.out]) (by rw [HR.out]), rfl⟩
  · have HR := Lib.hid (show r = (((numK s 4 : Nat) : Int), 0) by rw [hr, num_K (by omega)]); clear hr
    go_enter Tryz.func207, Tryz.ntmps207
    go_wp2
    go_loop [4, 9] (fun x i => ∃ (k : Nat) (y : Int), k ≤ 4 ∧ i = .int .i64 k ∧ x = .int .i64 y ∧ 0 ≤ y ∧ y ≤ 4294967295 ∧ Hid (y = (numK s k : Nat))) (fun _ i => 4 - (intOf i).toNat)
    case atStart => exact ⟨0, 0, by omega, rfl, rfl, by omega, by omega, Lib.hid rfl⟩
    case round =>
      obtain ⟨k, y, hk, rfl, rfl, hy0, hy1, hI⟩ := hrel
      by_cases hlt : k < 4
      · have hks : k < s.size := by omega
        obtain ⟨hc0, hc1⟩ := byte_bd s[k]
        have hw1 : IntKind.i64.wrap ((s[k]).toNat : Int) = ((s[k]).toNat : Int) := IntWalk.i64_in _ ⟨by omega, by omega⟩
        have hj := i64_j8 hy0 (by omega) hc0 (by omega)
        have HN := Lib.hid (show y * 256 + ((s[k]).toNat : Int) = (numK s (k + 1) : Nat) by rw [numK, getD_at s k hks, hI.out]; omega)
        have HL := Lib.hid (show (numK s (k + 1) : Nat) ≤ 4294967295 by
          have h1 := numK_lt s (k + 1)
          have h2 : 256 ^ (k + 1) ≤ 256 ^ 4 := Nat.pow_le_pow_right (by decide) (by omega)
          have h3 : (256 : Nat) ^ 4 = 4294967296 := by decide
          omega)
        go_wp2
        go_round
        case rel => exact ⟨k + 1, _, by omega, by go_num, rfl, by omega, by have := HN.out; have := HL.out; omega, Lib.hid HN.out⟩
        case measure => simp [intOf]; omega
      · go_wp2
        go_ret2
        exact ⟨ret_num (by rw [HR.out, hI.out, show k = 4 by omega]) (by rw [HR.out]), rfl⟩

set_option maxHeartbeats 2000000 in
set_option maxRecDepth 100000 in
theorem rnumber_any (s : ByteArray) (hs : s.size ≤ 9223372036854775807) (w : World) :
    Calls Tryz.prog 128 #[.string s] w fun e w' => e = .returned (.tuple #[.int .i64 (numR s.data.toList).1, .int .i64 (numR s.data.toList).2]) ∧ Below w.heap.size w w' := by
  obtain ⟨r, hr⟩ : ∃ r, r = numR s.data.toList := ⟨_, rfl⟩
  rw [← hr]
  by_cases h4 : s.size < 4
  · have HR := Lib.hid (show r = (0, 1) by rw [hr, numR, if_pos (by rw [ba_len]; exact h4)]); clear hr
    go_enter Tryz.func128, Tryz.ntmps128
    go_wp2
    go_ret2
    exact ⟨ret_num (by rw [HR.out]) (by rw [HR.out]), Below.refl _ _⟩
  · have h0 : (0 : Int) < s.size := by omega
    have h1 : (1 : Int) < s.size := by omega
    have h2 : (2 : Int) < s.size := by omega
    have h3 : (3 : Int) < s.size := by omega
    have n0 : 0 < s.size := by omega
    have n1 : 1 < s.size := by omega
    have n2 : 2 < s.size := by omega
    have n3 : 3 < s.size := by omega
    have b0 := byte_bd (s[0]'(by omega))
    have b1 := byte_bd (s[1]'(by omega))
    have b2 := byte_bd (s[2]'(by omega))
    have b3 := byte_bd (s[3]'(by omega))
    have HR := Lib.hid (show r = (((s[0]'(by omega)).toNat : Int) * 16777216 + ((s[1]'(by omega)).toNat : Int) * 65536 + ((s[2]'(by omega)).toNat : Int) * 256 + ((s[3]'(by omega)).toNat : Int), 0) by
      rw [hr, numR, if_neg (by rw [ba_len]; exact h4), getD_at s 0 (by omega), getD_at s 1 (by omega), getD_at s 2 (by omega), getD_at s 3 (by omega)]
      refine Prod.ext ?_ rfl
      show ((_ : Nat) : Int) = _
      omega); clear hr
    go_enter Tryz.func128, Tryz.ntmps128
    go_wp2
    go_quiet (fail)
    go_wp2
    go_ret2
    exact ⟨ret_num (by rw [HR.out]; show _ = _ + _; omega) (by rw [HR.out]), below_drewN (Below.refl _ _) _⟩
end Go.Proofs.YthfebcfdhmihcaaGreatDoor

namespace Go.Proofs.YthfebcfdhmihcaaGreatDoor

def stp (p : Int × Int) (c : UInt8) : Int × Int := ((p.1 + (c.toNat : Int)) % 65521, (p.2 + (p.1 + (c.toNat : Int)) % 65521) % 65521)
def adl (p : Int × Int) (l : List UInt8) : Int × Int := l.foldl stp p
def startZ (n : Int) : Int := ((n.natAbs % 65521 : Nat) : Int)
def endZ (p : Int × Int) : Int := 65536 * p.2 + p.1
def sumZ (n : Int) (l : List UInt8) : Int := endZ (adl (startZ n, 0) l)
def InZ (p : Int × Int) : Prop := 0 ≤ p.1 ∧ p.1 < 65521 ∧ 0 ≤ p.2 ∧ p.2 < 65521

theorem startZ_bd (n : Int) : 0 ≤ startZ n ∧ startZ n < 65521 := by unfold startZ; omega
theorem start_in (n : Int) : InZ (startZ n, 0) := by have := startZ_bd n; exact ⟨this.1, this.2, by simp only; omega, by simp only; omega⟩
theorem stp_in (p : Int × Int) (c : UInt8) : InZ (stp p c) := by unfold InZ stp; simp only; omega
theorem adl_in (p : Int × Int) (l : List UInt8) (h : InZ p) : InZ (adl p l) := by
  induction l generalizing p with
  | nil => exact h
  | cons c l ih => exact ih _ (stp_in p c)
theorem adl_cons (p : Int × Int) (c : UInt8) (l : List UInt8) : adl p (c :: l) = adl (stp p c) l := rfl
theorem endZ_bd {p : Int × Int} (h : InZ p) : 0 ≤ endZ p ∧ endZ p ≤ 4294967295 := by obtain ⟨_, _, _, _⟩ := h; unfold endZ; omega
theorem sumZ_bd (n : Int) (l : List UInt8) : 0 ≤ sumZ n l ∧ sumZ n l ≤ 4294967295 := endZ_bd (adl_in _ l (start_in n))
def tot : List UInt8 → Int
  | [] => 0
  | c :: l => (c.toNat : Int) + tot l
theorem start_tmod (n : Int) : startZ n = if n.tmod 65521 < 0 then -(n.tmod 65521) else n.tmod 65521 := by
  unfold startZ
  rcases Int.natAbs_eq n with h | h
  · rw [h, Int.natAbs_natCast, show ((n.natAbs : Int)).tmod 65521 = ((n.natAbs % 65521 : Nat) : Int) from (Int.ofNat_tmod n.natAbs 65521).symm]
    split <;> omega
  · rw [h, Int.natAbs_neg, Int.natAbs_natCast, Int.neg_tmod, show ((n.natAbs : Int)).tmod 65521 = ((n.natAbs % 65521 : Nat) : Int) from (Int.ofNat_tmod n.natAbs 65521).symm]
    split <;> omega
theorem tmod_bd (n : Int) : -65521 < n.tmod 65521 ∧ n.tmod 65521 < 65521 := by
  have := start_tmod n
  have := startZ_bd n
  split at * <;> omega
end Go.Proofs.YthfebcfdhmihcaaGreatDoor

namespace Go.Proofs.YthfebcfdhmihcaaGreatDoor
open Go.RowKit

theorem start_any (n : Int) (h1 : -9223372036854775808 ≤ n) (h2 : n ≤ 9223372036854775807) (w : World) :
    Calls Tryz.prog 216 #[.int .i64 n] w fun e w' => e = .returned (.int .i64 (startZ n)) ∧ w = w' := by
  have hs := start_tmod n
  have hb := tmod_bd n
  have HS := Lib.hid hs; clear hs
  by_cases h : n.tmod 65521 < 0
  · go_enter Tryz.func216, Tryz.ntmps216
    go_wp2
    go_ret
    exact ⟨ret_int (by rw [HS.out, if_pos h]), rfl⟩
  · go_enter Tryz.func216, Tryz.ntmps216
    go_wp2
    go_ret
    exact ⟨ret_int (by rw [HS.out, if_neg (by omega)]), rfl⟩

def pair2 (p : Int × Int) (i : Nat) : Value := if i = 0 then .int .i64 p.1 else .int .i64 p.2

theorem sumnew_any (n : Int) (h1 : -9223372036854775808 ≤ n) (h2 : n ≤ 9223372036854775807) (w : World) :
    Calls Tryz.prog 208 #[.int .i64 n] w fun e w' => e = .returned (.pointer (some ⟨w.heap.size, 0, none⟩)) ∧ w' = w.alloc (.cells #[.int .i64 (startZ n), .int .i64 0] 278) := by
  go_enter Tryz.func208, Tryz.ntmps208
  go_wp2_with (go_at_call 216; refine (start_any n h1 h2 _).mono ?_; rintro e w' ⟨rfl, rfl⟩)
  go_ret
  exact ⟨rfl, rfl⟩
end Go.Proofs.YthfebcfdhmihcaaGreatDoor

namespace Go.Proofs.YthfebcfdhmihcaaGreatDoor
open Go.RowKit

theorem tmod_pos {x : Int} (h : 0 ≤ x) : x.tmod 65521 = x % 65521 := Int.tmod_eq_emod_of_nonneg h

theorem stp_eq (x y : Int) (c : UInt8) : stp (x, y) c = ((x + (c.toNat : Int)) % 65521, (y + (x + (c.toNat : Int))) % 65521) := by
  unfold stp; simp only [Prod.mk.injEq, true_and]; omega
theorem row_two {w : World} {b : Nat} {p : Int × Int} {x y : Int} (h : w.rowIs b 278 2 (pair2 p)) : ((w.setCell ⟨b, 0, none⟩ (.int .i64 x)).setCell ⟨b, 1, none⟩ (.int .i64 y)).rowIs b 278 2 (pair2 (x, y)) := by
  refine ((h.set 0 _).set 1 _).congr fun j hj => ?_
  unfold pair2
  match j, hj with
  | 0, _ => rfl
  | 1, _ => rfl
theorem run_any (b : Nat) (p : Int × Int) (w : World) (hr : w.rowIs b 278 2 (pair2 p)) (hp : InZ p) :
    Calls Tryz.prog 210 #[.pointer (some ⟨b, 0, none⟩)] w fun e w' => e = .returned (.int .i64 (endZ p)) ∧ (∀ B, Below B w w') ∧ w'.heap = w.heap := by
  have c0 := hr.cell (i := 0) (by decide)
  have c1 := hr.cell (i := 1) (by decide)
  obtain ⟨x, y⟩ := p
  obtain ⟨h0, h1, h2, h3⟩ := hp
  simp only [pair2, if_pos, if_neg, Nat.one_ne_zero, if_true, if_false] at c0 c1 h0 h1 h2 h3
  clear hr
  go_enter Tryz.func210, Tryz.ntmps210
  go_wp2
  go_quiet (fail)
  go_wp2
  go_ret
  exact ⟨ret_int (by simp only [endZ]), fun B => ⟨rfl, rfl, rfl, Nat.le_refl _, fun _ _ => rfl⟩, rfl⟩

set_option maxHeartbeats 2000000 in
set_option maxRecDepth 100000 in
theorem add_any (b : Nat) (p : Int × Int) (s : ByteArray) (hs : s.size ≤ 9223372036854775807) (w : World) (hr : w.rowIs b 278 2 (pair2 p)) (hp : InZ p) :
    Calls Tryz.prog 209 #[.pointer (some ⟨b, 0, none⟩), .string s] w fun e w' => e = .returned (.tuple #[]) ∧ w'.rowIs b 278 2 (pair2 (adl p s.data.toList)) ∧ Below b w w' ∧ w'.heap.size = w.heap.size := by
  obtain ⟨r, hr'⟩ : ∃ r, r = adl p s.data.toList := ⟨_, rfl⟩
  rw [← hr']
  have HR := Lib.hid hr'; have HW := Lib.hid hr; have HP := Lib.hid hp; clear hr' hr hp
  go_enter Tryz.func209, Tryz.ntmps209
  go_wp2
  go_loopw [9] (fun i wr => ∃ (k : Nat) (x y : Int), k ≤ s.size ∧ i = .int .i64 k ∧ 0 ≤ x ∧ x < 65521 ∧ 0 ≤ y ∧ y < 65521 ∧ Hid (wr.rowIs b 278 2 (pair2 (x, y))) ∧ Hid (r = adl (x, y) (s.data.toList.drop k)) ∧ Hid (Below b w wr) ∧ Hid (wr.heap.size = w.heap.size)) (fun i _ => s.size - (intOf i).toNat)
  case atStart => exact ⟨0, p.1, p.2, by omega, rfl, HP.out.1, HP.out.2.1, HP.out.2.2.1, HP.out.2.2.2, HW, HR, Lib.hid (Below.refl _ _), Lib.hid rfl⟩
  case round =>
    obtain ⟨k, x, y, hk, rfl, hx0, hx1, hy0, hy1, hw, hI, hB, hz⟩ := hrel
    by_cases hlt : k < s.size
    · have hc := byte_bd s[k]
      have HD := Lib.hid (drop_at s k hlt)
      have c0 := hw.out.cell (i := 0) (by decide)
      have c1 := hw.out.cell (i := 1) (by decide)
      have f0 := hw.out.frozen 0
      have f1 := hw.out.frozen 1
      simp only [pair2, if_pos, if_neg, Nat.one_ne_zero, if_true, if_false] at c0 c1
      obtain ⟨hc0, hc1⟩ := hc
      have e1 := tmod_pos (x := x + ((s[k]).toNat : Int)) (by omega)
      have e2 := tmod_pos (x := y + (x + ((s[k]).toNat : Int)) % 65521) (by omega)
      go_wp2
      go_region
      go_wp2
      go_region
      go_wp2
      go_roundw
      case rel => exact ⟨k + 1, (x + ((s[k]).toNat : Int)) % 65521, (y + (x + ((s[k]).toNat : Int))) % 65521, by omega, by go_num, by omega, by omega, by omega, by omega, Lib.hid ((row_two hw.out).drew.drew), Lib.hid (by rw [hI.out, HD.out, adl_cons, stp_eq]), Lib.hid (((hB.out.setCell (p := ⟨b, 0, none⟩) (Nat.le_refl _) _).setCell (p := ⟨b, 1, none⟩) (Nat.le_refl _) _).drew.drew), Lib.hid (by rw [← hz.out]; simp [World.setCell])⟩
      case measure => simp [intOf]; omega
    · go_wp2
      go_end0
      exact ⟨rfl, by rw [hI.out, drop_all s k (by omega)]; exact hw.out, hB.out, hz.out⟩
end Go.Proofs.YthfebcfdhmihcaaGreatDoor
