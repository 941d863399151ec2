/-
  The document's answer Fold of layer 1: it returns the string with small letters in place of capital ones ('foldL') and changes nothing that was there. Condition: the string has at most 30000 bytes.
  Layer 7: survive: what a choice leaves of a change. Condition: the sizes that the invariant holds, the change is one of this disk's.
  Layer 7: what the choices leave, change by change, and the program's state behind a Restart. Condition: none (definitions).
  The small functions of layer 1 (isDigit, lower, isLetter, Letter, Digit): each returns its plain function of the byte, and leaves the world alone. Condition: the byte is from 0 to 255.
  The iterator bytesOf of layer 1: it hands out the bytes of the string one by one, in order, to whatever loop body keeps the cell in which the string lies; all of them, or a beginning of them where the body stops. Condition: the string is no longer than the model's greatest length.
  The statement 'for c := range bytesOf(s)' of layer 1: what a caller owes is an invariant on its own cells and one walk of its own body. Condition: the string is no longer than the model's greatest length.
  Plain functions of bytes: what layer 1's Name and Fold are to return.
  figure.Name: it returns whether the string is a name ('nameB'), and changes nothing that was there. Condition: the string is no longer than the model's greatest length.
  figure.Read: it returns the number that decimal digits denote, or the error that the chapter names ('readR'), and changes nothing that was there. Condition: the string is no longer than the model's greatest length.
  figure.Unhex: it returns the bytes that hexadecimal digits denote, or the error that the chapter names ('unhR'), and changes nothing that was there. Condition: the string is no longer than the model's greatest length.
  figure.Text: it returns the number in decimal ('Lib.itoa'), and changes nothing that was there. Conditions: the number is an int; strconv's table of powers of ten lies in memory as its initialiser lays it ('Tab').
  Plain mathematics of layer 1: small letters once more change nothing, a folded text is a name just if the text is one, no number in writing is a name; each parsing function inverts its formatting function.
-/
import Derived.Laws.IdiomRangeMap
import Derived.Deep.Cut
import Derived.WalkKit
import Derived.Lib.Hide
import Derived.Deep.QuietTactic
import Derived.BigQuiet
import Derived.RangeFuncNested
import Derived.RangeFuncBound
import Derived.RangeFuncCalls
import Derived.RangeFuncLeaves
import Derived.Shelf.Abstract
import Derived.Shelf.RegionOpen
import Derived.OwnWalkIn
import Derived.TacticsInMore
import Derived.LoopNIn
import Derived.LoopIn
import Derived.Lib.Bytealg
import Derived.Laws.DeepStrings4
import Derived.Lib.Strings
import Derived.WalkSmall
import Derived.Lib.ItoaLen
import Derived.LoopTactic
import Derived.Laws.IdiomStrings
import Derived.Test.YthfebcfdhmihcaaGreatDoorMh3
import Derived.Test.YthfebcfdhmihcaaGreatDoorMh1
namespace Go.Proofs.YthfebcfdhmihcaaGreatDoor
open Go.RowKit
variable {L : Loc} {ρ ρ' : Nat → Option Role} {n : Nat} {S : DS} {w w' : World}

def cutC (k : Nat) : Chg → Chg
  | .write i o d => .write i o (d.take k)
  | c => c
def datL : Chg → List UInt8
  | .write _ _ d => d
  | _ => []
def survC (c : Chg) (u : Nat) : Option Chg := if u % 3 = 0 then none else if u % 3 = 2 then some (cutC (u / 3 % ((datL c).length + 1)) c) else some c
def survS (c : Chg) (u : Nat) (S : DS) : DS := match survC c u with
  | none => S
  | some c' => applyS true c' S
theorem cutC_ok {nf k : Nat} {c : Chg} (h : c.Ok nf) : (cutC k c).Ok nf := by
  cases c with
  | write i o d =>
    refine ⟨h.1, ?_⟩
    have h2 := h.2
    show o + (d.take k).length ≤ 4000000
    rw [List.length_take]
    omega
  | create _ _ => exact h
  | remove _ => exact h
  | trunc _ _ => exact h
theorem chg_cut (F : Nat → Nat) (c : Chg) : ∃ (k : Int) (nm : ByteArray) (fp : Option Addr) (o : Int), ∀ q, (cutC q c).cells F = [.int .i64 k, .string nm, .pointer fp, .int .i64 o, .string (bz ((datL c).take q))] := by
  cases c with
  | write i o d => exact ⟨_, _, _, _, fun _ => rfl⟩
  | create _ _ => exact ⟨_, _, _, _, fun q => by cases q <;> rfl⟩
  | remove _ => exact ⟨_, _, _, _, fun q => by cases q <;> rfl⟩
  | trunc _ _ => exact ⟨_, _, _, _, fun q => by cases q <;> rfl⟩
theorem cutC_all (c : Chg) : cutC (datL c).length c = c := by
  cases c with
  | write i o d => simp [cutC, datL]
  | create _ _ => rfl
  | remove _ => rfl
  | trunc _ _ => rfl
set_option maxHeartbeats 1000000 in
theorem surv_none (c : Chg) (u : Nat) (hu : u % 3 = 0) (hu2 : u < 18446744073709551616) (h : Inv L ρ n S w) :
    Calls Tryz.prog 52 #[.pointer (some ⟨L.b, 0, none⟩), .agg (c.cells L.F).toArray, .int .u64 u] w fun e w' => e = .returned (.tuple #[]) ∧ Inv L ρ n S w' ∧ Step L ρ w L ρ w' := by
  obtain ⟨k, nm, fp, o, hc⟩ := chg_cut L.F c
  have hcc := hc (datL c).length
  rw [cutC_all, List.take_length] at hcc
  rw [hcc]
  have e1 : (u : Int).tmod 3 = 0 := by rw [Int.tmod_eq_emod_of_nonneg (by omega)]; omega
  have hI := Lib.hid (h.alloc (.cells #[.int .i64 k, .string nm, .pointer fp, .int .i64 o, .string (bz (datL c))] 96))
  have hS := Lib.hid (show Step L ρ w L ρ (w.alloc (.cells #[.int .i64 k, .string nm, .pointer fp, .int .i64 o, .string (bz (datL c))] 96)) from Step.below ((Below.refl _ _).alloc (Nat.le_refl _) _))
  generalize bz (datL c) = d at *
  clear h hc hcc hu
  go_enter Tryz.func52, Tryz.ntmps52
  go_wp2
  go_returns
  exact ⟨rfl, hI.out, hS.out⟩
set_option maxHeartbeats 1000000 in
theorem surv_whole (c : Chg) (u : Nat) (hu : u % 3 = 1) (hu2 : u < 18446744073709551616) (h : Inv L ρ n S w) (hok : c.Ok S.nf) (hn : n + 1 ≤ 100000) :
    Calls Tryz.prog 52 #[.pointer (some ⟨L.b, 0, none⟩), .agg (c.cells L.F).toArray, .int .u64 u] w (AppQ L ρ (n + 1) (applyS true c S) w) := by
  obtain ⟨k, nm, fp, o, hc⟩ := chg_cut L.F c
  have hcc := hc (datL c).length
  rw [cutC_all, List.take_length] at hcc
  have e1 : (u : Int).tmod 3 = 1 := by rw [Int.tmod_eq_emod_of_nonneg (by omega)]; omega
  have hA := apply_any true c (h.alloc (.cells #[.int .i64 k, .string nm, .pointer fp, .int .i64 o, .string (bz (datL c))] 96)) hok hn
  rw [hcc] at hA
  rw [show stI true = 1 from rfl] at hA
  rw [hcc]
  have HA := Lib.hid hA
  have hS := Lib.hid (show Step L ρ w L ρ (w.alloc (.cells #[.int .i64 k, .string nm, .pointer fp, .int .i64 o, .string (bz (datL c))] 96)) from Step.below ((Below.refl _ _).alloc (Nat.le_refl _) _))
  generalize bz (datL c) = d at *
  clear h hc hcc hu hA hok
  go_enter Tryz.func52, Tryz.ntmps52
  go_wp2_with (go_at_call 96; (with_reducible refine HA.out.mono ?_); rintro e w1 ⟨rfl, L', ρ', hI1, hS1, hF1, hP1⟩; have HI1 := Lib.hid hI1; have HS1 := Lib.hid hS1; clear hI1 hS1)
  go_returns
  exact ⟨rfl, L', ρ', HI1.out, hS.out.trans HS1.out, hF1, hP1⟩
theorem bz_take (l : List UInt8) (q : Nat) : (bz l).extract 0 q = bz (l.take q) := by
  apply ByteArray.ext
  apply Array.ext'
  simp [bz]
set_option maxHeartbeats 1000000 in
theorem surv_cut (c : Chg) (u : Nat) (hu : u % 3 = 2) (hu2 : u < 18446744073709551616) (h : Inv L ρ n S w) (hok : c.Ok S.nf) (hdl : (datL c).length ≤ 4000000) (hn : n + 1 ≤ 100000) :
    Calls Tryz.prog 52 #[.pointer (some ⟨L.b, 0, none⟩), .agg (c.cells L.F).toArray, .int .u64 u] w (AppQ L ρ (n + 1) (applyS true (cutC (u / 3 % ((datL c).length + 1)) c) S) w) := by
  obtain ⟨k, nm, fp, o, hc⟩ := chg_cut L.F c
  have hcc := hc (datL c).length
  rw [cutC_all, List.take_length] at hcc
  obtain ⟨q, hq⟩ : ∃ q, u / 3 % ((datL c).length + 1) = q := ⟨_, rfl⟩
  have hql : q ≤ (datL c).length := by rw [← hq]; exact Nat.le_of_lt_succ (Nat.mod_lt _ (Nat.succ_pos _))
  rw [hq]
  have hct := hc q
  rw [← bz_take] at hct
  have e1 : (u : Int).tmod 3 = 2 := by rw [Int.tmod_eq_emod_of_nonneg (by omega)]; omega
  have hb2 : Below w.heap.size w (w.alloc (.cells #[.int .i64 k, .string nm, .pointer fp, .int .i64 o, .string ((bz (datL c)).extract 0 q)] 96)).drew := ((Below.refl _ _).alloc (Nat.le_refl _) _).drew
  have hA := apply_any true (cutC q c) (h.below hb2) (cutC_ok hok) hn
  rw [hct] at hA
  rw [show stI true = 1 from rfl] at hA
  rw [hcc]
  have HA := Lib.hid hA
  have hS := Lib.hid (show Step L ρ w L ρ _ from Step.below hb2)
  have hsz := bz_size (datL c)
  have e2 : (u : Int).tdiv 3 = ((u / 3 : Nat) : Int) := by rw [Int.tdiv_eq_ediv_of_nonneg (by omega)]; omega
  have e3 : (((u / 3 : Nat) : Int)).tmod (((datL c).length : Int) + 1) = (q : Int) := by rw [Int.tmod_eq_emod_of_nonneg (by omega), ← hq]; rfl
  have e4 : IntKind.u64.wrap ((u / 3 : Nat) : Int) = ((u / 3 : Nat) : Int) := IntWalk.u64_in _ ⟨by omega, by omega⟩
  generalize bz (datL c) = d at *
  rw [← hsz] at e3 hql hdl
  generalize u / 3 = u3 at *
  clear h hc hcc hu hA hok hct hb2 hq hsz
  go_enter Tryz.func52, Tryz.ntmps52
  go_wp2
  go_region
  go_wp2_with (go_at_call 96; (with_reducible refine HA.out.mono ?_); rintro e w1 ⟨rfl, L', ρ', hI1, hS1, hF1, hP1⟩; have HI1 := Lib.hid hI1; have HS1 := Lib.hid hS1; clear hI1 hS1)
  go_returns
  exact ⟨rfl, L', ρ', HI1.out, hS.out.trans HS1.out, hF1, hP1⟩
theorem datL_len {nf : Nat} {c : Chg} (h : c.Ok nf) : (datL c).length ≤ 4000000 := by
  cases c with
  | write i o d =>
    have h2 := h.2
    show d.length ≤ 4000000
    omega
  | create _ _ => exact Nat.zero_le _
  | remove _ => exact Nat.zero_le _
  | trunc _ _ => exact Nat.zero_le _
theorem survive_any (c : Chg) (u : Nat) (hu2 : u < 18446744073709551616) (h : Inv L ρ n S w) (hok : c.Ok S.nf) (hn : n + 1 ≤ 100000) :
    Calls Tryz.prog 52 #[.pointer (some ⟨L.b, 0, none⟩), .agg (c.cells L.F).toArray, .int .u64 u] w (AppQ L ρ (n + 1) (survS c u S) w) := by
  unfold survS survC
  by_cases h0 : u % 3 = 0
  · rw [if_pos h0]
    exact (surv_none c u h0 hu2 h).mono fun e w1 hq => ⟨hq.1, L, ρ, hq.2.1.mono (Nat.le_succ _) hn, hq.2.2, rfl, rfl⟩
  · rw [if_neg h0]
    by_cases h2 : u % 3 = 2
    · rw [if_pos h2]
      exact surv_cut c u h2 hu2 h hok (datL_len hok) hn
    · rw [if_neg h2]
      exact surv_whole c u (by omega) hu2 h hok hn
end Go.Proofs.YthfebcfdhmihcaaGreatDoor

namespace Go.Proofs.YthfebcfdhmihcaaGreatDoor
open Go.RowKit

theorem upd_same {α : Type} (f : Bool → α) (s : Bool) (x : α) : upd f s x s = x := by simp [upd]
/-- What the choices leave, on the program's side. -/
def survF (u : Nat → Nat) (l : List Chg) (S : DS) : Nat → DS
  | 0 => S
  | k + 1 => match l[k]? with
    | some c => survS c (u k) (survF u l S k)
    | none => survF u l S k
theorem survF_step (u : Nat → Nat) (l : List Chg) (S : DS) (k : Nat) (hk : k < l.length) : survF u l S (k + 1) = survS l[k] (u k) (survF u l S k) := by
  show (match l[k]? with | some c => survS c (u k) (survF u l S k) | none => survF u l S k) = _
  rw [List.getElem?_eq_getElem hk]
theorem survS_nf (c : Chg) (u : Nat) (S : DS) : (survS c u S).nf = S.nf := by
  unfold survS
  split
  · rfl
  · exact applyS_nf _ _ _
theorem survF_nf (u : Nat → Nat) (l : List Chg) (S : DS) : ∀ k, (survF u l S k).nf = S.nf
  | 0 => rfl
  | k + 1 => by
    unfold survF
    split
    · exact (survS_nf _ _ _).trans (survF_nf u l S k)
    · exact survF_nf u l S k
/-- The program's state behind a Restart. -/
def restartS (u : Nat → Nat) (S : DS) : DS :=
  let T := survF u S.pend S S.pend.length
  { T with dirs := upd T.dirs false (T.dirs true), pend := [], con := fun s i => if s = false ∧ (T.dirs true).any (fun p => p.2 == i) = true then T.con true i else T.con s i, flt := fun _ => 0, crash := 0, down := false }
end Go.Proofs.YthfebcfdhmihcaaGreatDoor

namespace Go.Proofs.YthfebcfdhmihcaaGreatDoor
open Go.RowKit

def isDigB (c : Int) : Bool := decide (48 ≤ c ∧ c ≤ 57)
def lowI (c : Int) : Int := if 65 ≤ c ∧ c ≤ 90 then c + 32 else c
set_option maxHeartbeats 400000
theorem fret_bool {a b : Bool} (h : a = b) : Ending.returned (.bool a) = .returned (.bool b) := by rw [h]
theorem isDigit_any (c : Int) (w : World) : Calls Tryz.prog 82 #[.int .u8 c] w fun e w' => e = .returned (.bool (isDigB c)) ∧ w = w' := by
  by_cases h1 : 48 ≤ c
  · by_cases h2 : c ≤ 57
    · have e : isDigB c = true := by simp [isDigB, h1, h2]
      have E := Lib.hid e; clear e
      go_enter Tryz.func82, Tryz.ntmps82
      go_wp2
      go_ret
      exact ⟨fret_bool E.out.symm, rfl⟩
    · have e : isDigB c = false := by simp [isDigB]; omega
      have E := Lib.hid e; clear e
      go_enter Tryz.func82, Tryz.ntmps82
      go_wp2
      go_ret
      exact ⟨fret_bool E.out.symm, rfl⟩
  · have e : isDigB c = false := by simp [isDigB]; omega
    have E := Lib.hid e; clear e
    go_enter Tryz.func82, Tryz.ntmps82
    go_wp2
    go_ret
    exact ⟨fret_bool E.out.symm, rfl⟩

end Go.Proofs.YthfebcfdhmihcaaGreatDoor

namespace Go.Proofs.YthfebcfdhmihcaaGreatDoor
open Go.RowKit Go.Shelf
attribute [local go_sem] Oper.semAt_some

/-- What a round keeps: the block in which the iterator's string lies. -/
def boxOf (s : ByteArray) : Obj := .cells #[.string s] 9 (0, 0)
def KeepC (b : Nat) (s : ByteArray) (W W' : World) : Prop := W.heap[b]? = some (boxOf s) → W'.heap[b]? = some (boxOf s)
theorem keepC_t {b : Nat} {s : ByteArray} {A B C : World} (h : KeepC b s A B) (k : KeepC b s B C) : KeepC b s A C := fun x => k (h x)
theorem keepC_b {b : Nat} {s : ByteArray} {w : World} (W : World) (l : Nat) (o o' : Obj) (_ : w.heap.size ≤ l) (h : W.heap[l]? = some o) (hc : o.isCells = false) (_ : o.isWalk = false) : KeepC b s W (W.putObj l o') := fun x =>
  (World.putObj_heap_other (fun e => by subst e; rw [h] at x; cases x; cases hc)).trans x
theorem keepC_setCell {b : Nat} {s : ByteArray} (W : World) (a : Addr) (x : Value) (h : a.block ≠ b) : KeepC b s W (W.setCell a x) := fun e =>
  (Below.heap_setCell W a x b (fun h' => h h'.symm)).trans e
theorem box_cell {W : World} {b : Nat} {s : ByteArray} (h : W.heap[b]? = some (boxOf s)) : W.cell? ⟨b, 0, none⟩ = some (.string s) := by
  simp [World.cell?, h, boxOf]

theorem ftake_snoc (s : ByteArray) (k : Nat) (h : k < s.size) : s.data.toList.take (k + 1) = s.data.toList.take k ++ [s[k]] := by
  rw [List.take_succ_eq_append_getElem (by simpa using h)]; rfl

set_option maxRecDepth 100000 in
set_option maxHeartbeats 2000000 in
theorem bytes1_in (n : Nat) (hn : 1 ≤ n) (l b : Nat) (s : ByteArray) (hs : s.size ≤ 140737488351232) (J Jx : List UInt8 → World → Prop)
    (hY : ∀ pre x W, J pre W → pre.length < s.size → YieldAt Fence.wide (n - 1) Tryz.prog l #[.int .u8 (x : UInt8).toNat] W fun e W' =>
      (e = .returned (.bool true) ∧ J (pre ++ [x]) W' ∧ KeepC b s W W') ∨ (e = .returned (.bool false) ∧ Jx (pre ++ [x]) W'))
    (W : World) (hB : W.heap[b]? = some (boxOf s)) (h0 : J [] W) :
    CallsIn Fence.wide n Tryz.prog 116 #[.func (.yield l) #[] #[], .pointer (some ⟨b, 0, none⟩)] W fun e W' => (∃ v, e = .returned v) ∧
      ((∃ ys, ys = s.data.toList ∧ J ys W') ∨ (∃ pre, pre <+: s.data.toList ∧ Jx pre W')) := by
  have hb := box_cell hB
  have HB := Lib.hid hB; clear hB
  refine callsIn_of_wp Tryz.func116 rfl trivial ?_ rfl
  simp only [Tryz.ntmps116, List.size_toArray, List.length_cons, List.length_nil, Nat.reduceAdd, Nat.reduceSub, Array.replicate_succ, Array.replicate_zero, List.push_toArray, List.append_toArray, List.nil_append, List.cons_append]
  gi_wp2
  gi_loopw [6] (fun i wr => ∃ k : Nat, k ≤ s.size ∧ i = .int .i64 k ∧ J (s.data.toList.take k) wr ∧ Hid (wr.heap[b]? = some (boxOf s)))
    (fun i _ => s.size - (intOf i).toNat)
  case atStart => exact ⟨0, Nat.zero_le _, rfl, h0, HB⟩
  case round =>
    obtain ⟨k, hk, rfl, hJs, HX⟩ := hrel
    have hcx := box_cell HX.out
    by_cases hlt : k < s.size
    · obtain ⟨fn, tmps, assign, body, hy, hR⟩ := hY _ s[k] wr hJs (by simp; omega)
      have hR' := Lib.hid hR; clear hR
      gi_wp2
      refine hR'.out.mono ?_
      rintro e W3 (⟨rfl, hJ3, hk3⟩ | ⟨rfl, hJx3⟩)
      · have hc3 := Lib.hid (hk3 HX.out)
        have hc4 := box_cell hc3.out
        gi_wp2
        go_roundw
        case rel => exact ⟨k + 1, by omega, by simp, by rw [ftake_snoc s k hlt]; exact hJ3, hc3⟩
        case measure => simp [intOf]; omega
      · gi_wp2
        refine bodyPost_ret (results_none rfl _ _ _) rfl ?_
        exact ⟨⟨_, rfl⟩, .inr ⟨_, by rw [← ftake_snoc s k hlt]; exact List.take_prefix _ _, hJx3⟩⟩
    · obtain rfl : k = s.size := by omega
      gi_wp2
      go_end0
      exact ⟨⟨_, rfl⟩, .inl ⟨_, List.take_of_length_le (by simp), hJs⟩⟩

theorem bytes_stops (n : Nat) (hn : 1 ≤ n) (b : Nat) (s : ByteArray) (hs : s.size ≤ 140737488351232) (w : World) (hb : w.heap[b]? = some (boxOf s)) :
    SeqStopsK Fence.wide n Tryz.prog 116 #[.pointer (some ⟨b, 0, none⟩)] (fun x : UInt8 => #[Value.int .u8 x.toNat]) (KeepC b s) (fun ys => ys = s.data.toList) (fun pre => pre <+: s.data.toList) s.size w := fun l J Jx W hW _ _ hY h0 =>
  bytes1_in n hn l b s hs J Jx hY W ((hW.block b (Array.getElem?_eq_some_iff.1 hb).1).trans hb) h0

theorem bytesOf_in (n : Nat) (s : ByteArray) (w : World) :
    CallsIn Fence.wide n Tryz.prog 81 #[.string s] w fun e w' => e = .returned (.func (.func 116) #[] #[.pointer (some ⟨w.heap.size, 0, none⟩)]) ∧ w' = w.alloc (.cells #[.string s] 9) := by
  refine callsIn_of_wp Tryz.func81 rfl trivial ?_ rfl
  simp only [Tryz.ntmps81, List.size_toArray, List.length_cons, List.length_nil, Nat.reduceAdd, Nat.reduceSub, Array.replicate_succ, Array.replicate_zero, List.push_toArray, List.append_toArray, List.nil_append, List.cons_append]
  gi_wp2
  go_ret
  exact ⟨rfl, rfl⟩
end Go.Proofs.YthfebcfdhmihcaaGreatDoor

namespace Go.Proofs.YthfebcfdhmihcaaGreatDoor
open Go.RowKit Go.Shelf

/-- The loop's frame when the byte x has come: the parameter's slot p and the variable's slot q hold it. -/
def frameAt (a : Act) (p q : Nat) (x : UInt8) : Act := { tmps := (a.tmps.setIfInBounds p (.int .u8 x.toNat)).setIfInBounds q (.int .u8 x.toNat), defers := [] }

theorem wpIn_bytes {n : Nat} {g : Operand} {p : Tmp} {assign body : Code} {Q : Exit → Act → World → Prop} {a : Act} {w : World} (hn : 2 ≤ n) (b q : Nat) (s : ByteArray) (hs : s.size ≤ 140737488351232)
    (hg : a.eval g = .func (.func 116) #[] #[.pointer (some ⟨b, 0, none⟩)]) (hb : w.heap[b]? = some (boxOf s))
    (I : List UInt8 → World → Prop) (Ix : Code → List UInt8 → World → Prop) (hI : OwnFrom w.heap.size I) (hIx : ∀ c, OwnFrom w.heap.size (Ix c)) (h0 : I [] w)
    (hassign : ∀ (l : Nat) (x : UInt8) (W : World) (K : Act → World → Prop), K (frameAt a p q x) W →
      assign.wpIn (Fence.wide.inRound l) (n - 1 - 1) Tryz.prog (Exit.then K (fun _ _ _ => False)) { tmps := a.tmps.setIfInBounds p (.int .u8 x.toNat), defers := [] } W)
    (hbody : ∀ (l : Nat) (pre : List UInt8) (x : UInt8) (W : World), I pre W → pre.length < s.size → body.wpIn (Fence.wide.inRound l) (n - 1 - 1) Tryz.prog (ownPostG w.heap.size (KeepC b s) I Ix (pre ++ [x]) W) (frameAt a p q x) W)
    (hdone : ∀ (D : Nat) (W : World), w.heap.size ≤ D → I s.data.toList W → W.heap[D]? = some (.deferred (some [])) → Q .normal { a with defers := { target := .collected D, args := #[] } :: a.defers } W)
    (hstop : ∀ (D : Nat) (c : Code) (pre : List UInt8) (W : World), w.heap.size ≤ D → pre <+: s.data.toList → Ix c pre W → W.heap[D]? = some (.deferred (some [])) → c.wpIn Fence.wide n Tryz.prog Q { a with defers := { target := .collected D, args := #[] } :: a.defers } W) :
    (Code.rangeFunc g #[p] assign body).wpIn Fence.wide n Tryz.prog Q a w :=
  wpIn_rangeFunc_ownG (F := Fence.wide) rfl (by omega) hg trivial (enters_of Tryz.func116 (by kernel_rfl) rfl) (bytes_stops (n - 1) (by omega) b s hs w hb) keepC_t keepC_b (Below.refl _ _) (fun _ => rfl) I Ix hI hIx h0
    (frameAt a p q) (fun l x W K hK => by simpa using hassign l x W K hK) hbody (fun D xs W hD hS hi hk => by subst hS; exact hdone D W hD hi hk) hstop

theorem fbox1 {W : World} {B : Nat} {v : Value} {t : TypeId} (h : W.heap[B]? = some (.cells #[v] t (0, 0))) : W.cell? ⟨B, 0, none⟩ = some v ∧ W.frozen? ⟨B, 0, none⟩ = false := by
  constructor <;> simp [World.cell?, World.frozen?, h]
theorem fnew1 (W : World) (v : Value) (t : TypeId) : (W.alloc (.cells #[v] t)).cell? ⟨W.heap.size, 0, none⟩ = some v ∧ (W.alloc (.cells #[v] t)).frozen? ⟨W.heap.size, 0, none⟩ = false :=
  fbox1 (World.alloc_heap_new W _)
theorem heap_new (W : World) (o : Obj) : (W.alloc o).heap[W.heap.size]? = some o := World.alloc_heap_new W o
end Go.Proofs.YthfebcfdhmihcaaGreatDoor

namespace Go.Proofs.YthfebcfdhmihcaaGreatDoor
def lowU (x : UInt8) : UInt8 := (lowI x.toNat).toNat.toUInt8
theorem fbyte_bd (x : UInt8) : 0 ≤ (x.toNat : Int) ∧ (x.toNat : Int) ≤ 255 := by have := x.toNat_lt; omega
end Go.Proofs.YthfebcfdhmihcaaGreatDoor

namespace Go.Proofs.YthfebcfdhmihcaaGreatDoor
open Go.RowKit Go.Shelf
attribute [local go_sem] Oper.semAt_some

theorem empty_no {s : ByteArray} (h : 0 < s.size) : s.toList.isEmpty = false ∧ ¬ s.toList = [] := by
  have : s.data.toList ≠ [] := fun e => by have := congrArg List.length e; simp at this; rw [this] at h; simp at h
  rw [ByteArray.toList_eq]
  exact ⟨by simp at this; simpa using this, this⟩
theorem empty_yes {s : ByteArray} (h : s.size = 0) : s.toList.isEmpty = true ∧ s.toList = [] := by
  have : s.data.toList = [] := List.eq_nil_of_length_eq_zero (by simpa using h)
  rw [ByteArray.toList_eq, this]
  exact ⟨rfl, rfl⟩

end Go.Proofs.YthfebcfdhmihcaaGreatDoor

namespace Go.Proofs.YthfebcfdhmihcaaGreatDoor
open Go.RowKit Go.Shelf
attribute [local go_sem] Oper.semAt_some

def maxI : Int := 9223372036854775807
/-- One digit more: the number so far, and whether it has grown too great; none: a byte is no digit. -/
def readS : Option (Int × Bool) → UInt8 → Option (Int × Bool)
  | none, _ => none
  | some (n, over), c => if isDigB c.toNat = true then (if over = true ∨ (maxI - ((c.toNat : Int) - 48)) / 10 < n then some (n, true) else some (n * 10 + ((c.toNat : Int) - 48), false)) else none
def readF (l : List UInt8) : Option (Int × Bool) := l.foldl readS (some (0, false))
theorem readF_snoc (l : List UInt8) (c : UInt8) : readF (l ++ [c]) = readS (readF l) c := by simp [readF, List.foldl_append]
theorem readS_none (l : List UInt8) : l.foldl readS none = none := by
  induction l with
  | nil => rfl
  | cons a t ih => exact ih
theorem readF_prefix {a l : List UInt8} (h : a <+: l) (hn : readF a = none) : readF l = none := by
  obtain ⟨t, rfl⟩ := h
  rw [readF, List.foldl_append, show a.foldl readS (some (0, false)) = none from hn, readS_none]
theorem isDig_bd {c : Int} (h : isDigB c = true) : 48 ≤ c ∧ c ≤ 57 := of_decide_eq_true h
theorem readF_inv (l : List UInt8) : ∀ n o, readF l = some (n, o) → 0 ≤ n ∧ n ≤ maxI := by
  have key : ∀ (l : List UInt8) (n0 : Int) (o0 : Bool), 0 ≤ n0 ∧ n0 ≤ maxI → ∀ n o, l.foldl readS (some (n0, o0)) = some (n, o) → 0 ≤ n ∧ n ≤ maxI := by
    intro l
    induction l with
    | nil => intro n0 o0 hb n o e; simp at e; obtain ⟨rfl, rfl⟩ := e; exact hb
    | cons a t ih =>
      intro n0 o0 hb n o e
      rw [List.foldl_cons] at e
      by_cases hd : isDigB a.toNat = true
      · have hd' := isDig_bd hd
        by_cases ho : o0 = true ∨ (maxI - ((a.toNat : Int) - 48)) / 10 < n0
        · rw [show readS (some (n0, o0)) a = some (n0, true) by simp only [readS, if_pos hd, if_pos ho]] at e
          exact ih _ _ hb _ _ e
        · rw [show readS (some (n0, o0)) a = some (n0 * 10 + ((a.toNat : Int) - 48), false) by simp only [readS, if_pos hd, if_neg ho]] at e
          refine ih _ _ ?_ _ _ e
          have : ¬ (maxI - ((a.toNat : Int) - 48)) / 10 < n0 := fun h => ho (.inr h)
          unfold maxI at *
          omega
      · rw [show readS (some (n0, o0)) a = none by simp only [readS, if_neg hd], readS_none] at e; cases e
  intro n o e
  exact key l 0 false (by unfold maxI; omega) n o e
/-- The two results. -/
def readR (l : List UInt8) : Int × Int :=
  if l = [] then (0, 1) else match readF l with
    | some (n, false) => (n, 0)
    | some (_, true) => (0, 15)
    | none => (0, 4)

/-- What Read's own cells hold between two rounds. -/
def ReadI (w : World) (n : Int) (over : Bool) (W : World) : Prop :=
  Boxed W w.heap.size 3 (.int .i64 0) ∧ Boxed W (w.heap.size + 1) 29 (.int .i64 0) ∧ Boxed W (w.heap.size + 1 + 1) 3 (.int .i64 n) ∧ Boxed W (w.heap.size + 1 + 1 + 1) 4 (.bool over)
theorem readI_own (w : World) (n : Int) (over : Bool) : Own (fun (_ : Unit) W => ReadI w n over W) := fun s A B row hs hg hr =>
  ⟨boxed_own _ _ (fun _ : Unit => _) s A B row hs.1 hg hr, boxed_own _ _ (fun _ : Unit => _) s A B row hs.2.1 hg hr, boxed_own _ _ (fun _ : Unit => _) s A B row hs.2.2.1 hg hr, boxed_own _ _ (fun _ : Unit => _) s A B row hs.2.2.2 hg hr⟩

set_option maxRecDepth 100000 in
set_option maxHeartbeats 4000000 in
theorem read_loop (s : ByteArray) (w : World) (hs : s.size ≤ 140737488351232) (te : s.toList.isEmpty = false) (te' : ¬ s.toList = []) (hne : Hid (s.data.toList ≠ [])) :
    CallsIn Fence.wide 9 Tryz.prog 37 #[.string s] w fun e w' => e = .returned (.tuple #[.int .i64 (readR s.data.toList).1, .int .i64 (readR s.data.toList).2]) ∧ Below w.heap.size w w' := by
  refine callsIn_of_wp_marks Tryz.func37 rfl trivial ?_ rfl
  simp only [Tryz.ntmps37, List.size_toArray, List.length_cons, List.length_nil, Nat.reduceAdd, Nat.reduceSub, Array.replicate_succ, Array.replicate_zero, List.push_toArray, List.append_toArray, List.nil_append, List.cons_append]
  have hmix : Tryz.prog.follows Departure.mixedOrders = true := by kernel_rfl
  gi_wp2_with (refine ⟨trivial, ?_⟩; gi_at_call 81; refine (bytesOf_in _ _ _).mono ?_; rintro e w' ⟨rfl, rfl⟩)
  obtain ⟨W0, hW0⟩ : ∃ W0, ((((w.alloc (.cells #[.int .i64 0] 3)).alloc (.cells #[.int .i64 0] 29)).alloc (.cells #[.int .i64 0] 3)).alloc (.cells #[.bool false] 4)).alloc (.cells #[.string s] 9) = W0 := ⟨_, rfl⟩
  have hsz : W0.heap.size = w.heap.size + 1 + 1 + 1 + 1 + 1 := by rw [← hW0]; simp
  have hI0 : ReadI w 0 false W0 := by
    rw [← hW0]
    refine ⟨((((Boxed.new w 3 (.int .i64 0)).alloc _).alloc _).alloc _).alloc _, ?_, ?_, ?_⟩
    · have := Boxed.new (w.alloc (.cells #[.int .i64 0] 3)) 29 (.int .i64 0)
      rw [World.size_alloc] at this
      exact ((this.alloc _).alloc _).alloc _
    · have := Boxed.new ((w.alloc (.cells #[.int .i64 0] 3)).alloc (.cells #[.int .i64 0] 29)) 3 (.int .i64 0)
      simp only [World.size_alloc] at this
      exact (this.alloc _).alloc _
    · have := Boxed.new (((w.alloc (.cells #[.int .i64 0] 3)).alloc (.cells #[.int .i64 0] 29)).alloc (.cells #[.int .i64 0] 3)) 4 (.bool false)
      simp only [World.size_alloc] at this
      exact this.alloc _
  have hB0 : Below w.heap.size w W0 := by
    rw [← hW0]
    exact ((((((Below.refl _ w).alloc (Nat.le_refl _) _).alloc (by simp) _).alloc (by simp; omega) _).alloc (by simp; omega) _).alloc (by simp; omega) _)
  have hx0 : W0.heap[w.heap.size + 1 + 1 + 1 + 1]? = some (boxOf s) := by
    rw [← hW0]
    have := heap_new ((((w.alloc (.cells #[.int .i64 0] 3)).alloc (.cells #[.int .i64 0] 29)).alloc (.cells #[.int .i64 0] 3)).alloc (.cells #[.bool false] 4)) (boxOf s)
    simp only [World.size_alloc] at this
    exact this
  rw [hW0]
  clear hW0
  have HSZ := Lib.hid hsz; have HX0 := Lib.hid hx0
  have hle0 : w.heap.size + 1 + 1 + 1 + 1 < W0.heap.size := by omega
  clear hsz hx0
  refine wpIn_bytes (by omega) (w.heap.size + 1 + 1 + 1 + 1) 6 s hs rfl HX0.out
    (fun pre W => (∃ n over, readF pre = some (n, over) ∧ ReadI w n over W) ∧ Below w.heap.size w W)
    (fun c pre W => (c = .ret ∧ readF pre = none ∧ Boxed W w.heap.size 3 (.int .i64 0) ∧ Boxed W (w.heap.size + 1) 29 (.int .i64 4)) ∧ Below w.heap.size w W)
    (OwnFrom.and (Own.from (fun s A B row ⟨n, o, hu, hs⟩ hg hr => ⟨n, o, hu, readI_own w n o () A B row hs hg hr⟩) _) (ownFrom_below (Nat.le_refl _) (by omega)))
    (fun c => OwnFrom.and (Own.from (fun s A B row hs hg hr => ⟨hs.1, hs.2.1, boxed_own _ _ (fun _ : Unit => _) () A B row hs.2.2.1 hg hr, boxed_own _ _ (fun _ : Unit => _) () A B row hs.2.2.2 hg hr⟩) _) (ownFrom_below (Nat.le_refl _) (by omega)))
    ⟨⟨0, false, rfl, hI0⟩, hB0⟩ ?assign ?body ?done ?stop
  case assign =>
    intro l x W K hK
    simp only [frameAt] at hK
    gi_wp2
    exact hK
  case body =>
    rintro l pre x W ⟨⟨n, over, hu, hI⟩, hB⟩ hlen
    obtain ⟨hn0, hn1⟩ := readF_inv pre n over hu
    unfold maxI at hn1
    have hxb := fbyte_bd x
    obtain ⟨c, hc⟩ : ∃ c : Int, c = (x.toNat : Int) := ⟨_, rfl⟩
    simp only [frameAt, List.setIfInBounds_toArray, List.set_cons_succ, List.set_cons_zero]
    have HU := Lib.hid hu; have HC := Lib.hid hc
    rw [← hc] at hxb ⊢
    clear hc hu hI0 hB0
    obtain ⟨x0, x1, x2, x3⟩ := hI
    have cc := x2.cell; have cf := x2.frozen
    have ch := x3.cell; have chf := x3.frozen
    cases hdg : isDigB c with
    | false =>
      have HDG := Lib.hid hdg; clear hdg
      have c0 := x0.cell; have c0f := x0.frozen; have c1 := x1.cell; have c1f := x1.frozen
      gi_wp2_with (refine ⟨trivial, ?_⟩; gi_at_call 82; refine (CallsIn.inRound l (callsIn_wide.2 (isDigit_any _ _))).mono ?_; rintro e w' ⟨rfl, rfl⟩; rw [HDG.out])
      exact ⟨((KeepsOthers.setCell _ _ _).trans (KeepsOthers.setCell _ _ _)).from _, ⟨rfl, by rw [readF_snoc, HU.out]; simp only [readS]; rw [← HC.out, HDG.out]; rfl, (x0.set _).other (by omega) _, (x1.other (by omega) _).set _⟩, (hB.setCell (p := ⟨w.heap.size, 0, none⟩) (Nat.le_refl _) _).setCell (p := ⟨w.heap.size + 1, 0, none⟩) (by simp) _⟩
    | true =>
      obtain ⟨hd0, hd1⟩ := isDig_bd hdg
      have HDG := Lib.hid hdg; clear hdg
      cases over with
      | true =>
        gi_wp2_with (refine ⟨trivial, ?_⟩; gi_at_call 82; refine (CallsIn.inRound l (callsIn_wide.2 (isDigit_any _ _))).mono ?_; rintro e w' ⟨rfl, rfl⟩; rw [HDG.out])
        exact ⟨(KeepsOthers.setCell _ _ _).from _, keepC_setCell _ _ _ (by simp), ⟨n, true, by rw [readF_snoc, HU.out]; simp only [readS]; rw [← HC.out, if_pos HDG.out, if_pos (by simp)], x0.other (by omega) _, x1.other (by omega) _, x2.other (by omega) _, x3.set _⟩, hB.setCell (p := ⟨w.heap.size + 1 + 1 + 1, 0, none⟩) (by simp; omega) _⟩
      | false =>
        by_cases ho : (9223372036854775807 - (c - 48)) / 10 < n
        · have to : decide ((9223372036854775807 - (c - 48)) / 10 < n) = true := by simpa using ho
          gi_wp2_with (refine ⟨trivial, ?_⟩; gi_at_call 82; refine (CallsIn.inRound l (callsIn_wide.2 (isDigit_any _ _))).mono ?_; rintro e w' ⟨rfl, rfl⟩; rw [HDG.out])
          exact ⟨(KeepsOthers.setCell _ _ _).from _, keepC_setCell _ _ _ (by simp), ⟨n, true, by rw [readF_snoc, HU.out]; simp only [readS]; rw [← HC.out, if_pos HDG.out, if_pos (.inr ho)], x0.other (by omega) _, x1.other (by omega) _, x2.other (by omega) _, x3.set _⟩, hB.setCell (p := ⟨w.heap.size + 1 + 1 + 1, 0, none⟩) (by simp; omega) _⟩
        · have to : decide ((9223372036854775807 - (c - 48)) / 10 < n) = false := by simpa using ho
          gi_wp2_with (refine ⟨trivial, ?_⟩; gi_at_call 82; refine (CallsIn.inRound l (callsIn_wide.2 (isDigit_any _ _))).mono ?_; rintro e w' ⟨rfl, rfl⟩; rw [HDG.out])
          refine ⟨((KeepsOthers.setCell _ _ _).trans (KeepsOthers.setCell _ _ _)).from _, keepC_t (keepC_setCell _ _ _ (by simp)) (keepC_setCell _ _ _ (by simp)), ⟨n * 10 + (c - 48), false, ?_, (x0.other (by omega) _).other (by omega) _, (x1.other (by omega) _).other (by omega) _, (x2.other (by omega) _).set _, (x3.set _).other (by omega) _⟩, (hB.setCell (p := ⟨w.heap.size + 1 + 1 + 1, 0, none⟩) (by simp; omega) _).setCell (p := ⟨w.heap.size + 1 + 1, 0, none⟩) (by simp; omega) _⟩
          rw [readF_snoc, HU.out]
          simp only [readS]
          rw [← HC.out, if_pos HDG.out, if_neg (fun h => h.elim (fun e => by cases e) (fun e => absurd e (Int.not_lt.2 ho)))]
  case done =>
    rintro D W hD ⟨⟨n, over, hu, x0, x1, x2, x3⟩, hB⟩ hK
    have cc := x3.cell; have cf := x3.frozen; have cn := x2.cell
    have c0 := x0.cell; have c0f := x0.frozen; have c1 := x1.cell; have c1f := x1.frozen
    cases over with
    | true =>
      have HR := Lib.hid (show readR s.data.toList = (0, 15) by rw [readR, if_neg hne.out, hu])
      clear hu
      gi_wp2
      have y0 := (x0.set (.int .i64 0)).other (B' := w.heap.size + 1) (by omega) (.int .i64 15)
      have y1 := (x1.other (B' := w.heap.size) (by omega) (.int .i64 0)).set (.int .i64 15)
      have hK' := (KeepsOthers.setCell (W.setCell ⟨w.heap.size, 0, none⟩ (.int .i64 0)) ⟨w.heap.size + 1, 0, none⟩ (.int .i64 15)).same D _ ((KeepsOthers.setCell W ⟨w.heap.size, 0, none⟩ (.int .i64 0)).same D _ hK rfl) rfl
      refine ⟨by simp, .inl ⟨_, _, rfl, run_takeDeferred hK', ?_⟩⟩
      have z0 := (y0.kept (grownBy_putObj' _ D (.deferred none)) (fun e => by have := Option.some.inj e; omega)).cell
      have z1 := (y1.kept (grownBy_putObj' _ D (.deferred none)) (fun e => by have := Option.some.inj e; omega)).cell
      refine ⟨.tuple #[.int .i64 0, .int .i64 15], ?_, by rw [HR.out], ((hB.setCell (p := ⟨w.heap.size, 0, none⟩) (Nat.le_refl _) _).setCell (p := ⟨w.heap.size + 1, 0, none⟩) (by simp) _).trans (belowK_b (w := w) (Nat.le_refl _) _ D _ _ (by omega) hK' rfl rfl)⟩
      simp [results, Tryz.f37, go_sem, z0, z1]
    | false =>
      have HR := Lib.hid (show readR s.data.toList = (n, 0) by rw [readR, if_neg hne.out, hu])
      clear hu
      gi_wp2
      have y0 := (x0.set (.int .i64 n)).other (B' := w.heap.size + 1) (by omega) (.int .i64 0)
      have y1 := (x1.other (B' := w.heap.size) (by omega) (.int .i64 n)).set (.int .i64 0)
      have hK' := (KeepsOthers.setCell (W.setCell ⟨w.heap.size, 0, none⟩ (.int .i64 n)) ⟨w.heap.size + 1, 0, none⟩ (.int .i64 0)).same D _ ((KeepsOthers.setCell W ⟨w.heap.size, 0, none⟩ (.int .i64 n)).same D _ hK rfl) rfl
      refine ⟨by simp, .inl ⟨_, _, rfl, run_takeDeferred hK', ?_⟩⟩
      have z0 := (y0.kept (grownBy_putObj' _ D (.deferred none)) (fun e => by have := Option.some.inj e; omega)).cell
      have z1 := (y1.kept (grownBy_putObj' _ D (.deferred none)) (fun e => by have := Option.some.inj e; omega)).cell
      refine ⟨.tuple #[.int .i64 n, .int .i64 0], ?_, by rw [HR.out], ((hB.setCell (p := ⟨w.heap.size, 0, none⟩) (Nat.le_refl _) _).setCell (p := ⟨w.heap.size + 1, 0, none⟩) (by simp) _).trans (belowK_b (w := w) (Nat.le_refl _) _ D _ _ (by omega) hK' rfl rfl)⟩
      simp [results, Tryz.f37, go_sem, z0, z1]
  case stop =>
    rintro D c pre W hD hpre ⟨⟨rfl, hu, x0, x1⟩, hB⟩ hK
    have HR := Lib.hid (show readR s.data.toList = (0, 4) by rw [readR, if_neg hne.out, readF_prefix hpre hu])
    clear hu
    gi_wp2
    refine ⟨by simp, .inl ⟨_, _, rfl, run_takeDeferred hK, ?_⟩⟩
    have z0 := (x0.kept (grownBy_putObj' _ D (.deferred none)) (fun e => by have := Option.some.inj e; omega)).cell
    have z1 := (x1.kept (grownBy_putObj' _ D (.deferred none)) (fun e => by have := Option.some.inj e; omega)).cell
    refine ⟨.tuple #[.int .i64 0, .int .i64 4], ?_, by rw [HR.out], hB.trans (belowK_b (w := w) (Nat.le_refl _) W D _ _ (by omega) hK rfl rfl)⟩
    simp [results, Tryz.f37, go_sem, z0, z1]

theorem read_empty (s : ByteArray) (w : World) (te : s.toList.isEmpty = true) (te' : s.toList = []) :
    Calls Tryz.prog 37 #[.string s] w fun e w' => e = .returned (.tuple #[.int .i64 0, .int .i64 1]) ∧ Below w.heap.size w w' := by
  go_enter Tryz.func37, Tryz.ntmps37
  go_wp2
  exact bodyPost_ret (v := .tuple #[.int .i64 0, .int .i64 1]) (by simp [results, Tryz.results37, go_sem]) rfl ⟨rfl, ((Below.refl _ _).alloc (Nat.le_refl _) _).alloc (by simp) _⟩

theorem fread_any (s : ByteArray) (w : World) (hs : s.size ≤ 140737488351232) :
    Calls Tryz.prog 37 #[.string s] w fun e w' => e = .returned (.tuple #[.int .i64 (readR s.data.toList).1, .int .i64 (readR s.data.toList).2]) ∧ Below w.heap.size w w' := by
  by_cases h0 : s.size = 0
  · obtain ⟨te, te'⟩ := empty_yes h0
    refine (read_empty s w te te').mono fun e w' ⟨he, hb⟩ => ⟨?_, hb⟩
    rw [ByteArray.toList_eq] at te'
    rw [he, readR, if_pos te']
  · obtain ⟨te, te'⟩ := empty_no (s := s) (by omega)
    have te2 := te'
    rw [ByteArray.toList_eq] at te2
    exact callsIn_wide.1 (read_loop s w hs te te' (Lib.hid te2))
end Go.Proofs.YthfebcfdhmihcaaGreatDoor

namespace Go.Proofs.YthfebcfdhmihcaaGreatDoor
open Go.RowKit Go.Shelf
attribute [local go_sem] Oper.semAt_some

def hexDigs : ByteArray := ⟨#[48, 49, 50, 51, 52, 53, 54, 55, 56, 57, 97, 98, 99, 100, 101, 102]⟩
/-- What a digit is worth; -1: it is none. -/
def hv (x : UInt8) : Int := Lib.indexByte hexDigs.data.toList (lowU x)
end Go.Proofs.YthfebcfdhmihcaaGreatDoor

namespace Go.Proofs.YthfebcfdhmihcaaGreatDoor
open Go.RowKit Go.Shelf

def Tab (w : World) : Prop := Lib.TabIs Tryz.prog w "internal/strconv.uint64pow10" .u64 Lib.pow10Tab
theorem tab_global : Tryz.prog.globalNamed "internal/strconv.uint64pow10" = some 3 := by kernel_rfl
theorem tab_below {w w' : World} (h : Tab w) (hb : Below w.heap.size w w') : Tab w' := by
  have hlt : 3 < w.heap.size := by
    rcases Nat.lt_or_ge 3 w.heap.size with h' | h'
    · exact h'
    · unfold Tab Lib.TabIs World.var? at h
      rw [tab_global] at h
      simp [Array.getElem?_eq_none h'] at h
  exact var?_below hb tab_global hlt h
theorem grown_below (w : World) (q : Nat) (os : Array Obj) : Below w.heap.size w (Sort.grow (w.drewN q) os) :=
  ⟨rfl, rfl, rfl, by first | (simp [Sort.grow]; done) | (simp [Sort.grow]; omega), fun i hi => by
    show ((w.drewN q).heap ++ os)[i]? = _
    rw [Array.getElem?_append_left (by show i < w.heap.size; omega)]
    rfl⟩

theorem text_any (n : Int) (h0 : -9223372036854775808 ≤ n) (h1 : n ≤ 9223372036854775807) (w : World) (ht : Tab w) :
    Calls Tryz.prog 33 #[.int .i64 n] w fun e w' => e = .returned (.string ⟨(Lib.itoa n).toArray⟩) ∧ Below w.heap.size w w' := by
  have H0 := Lib.hid h0; have H1 := Lib.hid h1; have HT := Lib.hid ht
  clear h0 h1 ht
  go_enter Tryz.func33, Tryz.ntmps33
  go_wp2_with (go_at_call 77; refine (Tryz.strconv_Itoa _ H0.out H1.out _ HT.out).mono ?_; rintro e w' ⟨rfl, q, os, rfl⟩)
  go_ret
  exact ⟨rfl, grown_below _ _ _⟩
end Go.Proofs.YthfebcfdhmihcaaGreatDoor

namespace Go.Proofs.YthfebcfdhmihcaaGreatDoor

theorem ofNat_dig (k : Nat) (h : k < 10) : isDigB (UInt8.ofNat (48 + k)).toNat = true := by
  have : ∀ k : Fin 10, isDigB (UInt8.ofNat (48 + k.val)).toNat = true := by decide
  exact this ⟨k, h⟩
theorem dec_head : ∀ (m u : Nat), u ≤ m → isDigB ((Lib.decDigits u).headD 0).toNat = true ∧ Lib.decDigits u ≠ [] := by
  intro m
  induction m with
  | zero =>
    intro u h
    rw [Lib.decDigits, dif_pos (by omega)]
    exact ⟨ofNat_dig u (by omega), by simp⟩
  | succ m ih =>
    intro u h
    by_cases h10 : u < 10
    · rw [Lib.decDigits, dif_pos h10]
      exact ⟨ofNat_dig u h10, by simp⟩
    · rw [Lib.decDigits, dif_neg h10]
      obtain ⟨h1, h2⟩ := ih (u / 10) (by omega)
      cases hd : Lib.decDigits (u / 10) with
      | nil => exact absurd hd h2
      | cons a t => rw [hd] at h1; exact ⟨h1, by simp⟩
theorem dig_val (k : Nat) (h : k < 10) : ((UInt8.ofNat (48 + k)).toNat : Int) - 48 = k := by
  have : ∀ k : Fin 10, ((UInt8.ofNat (48 + k.val)).toNat : Int) - 48 = (k.val : Int) := by decide
  exact this ⟨k, h⟩
theorem dec_read : ∀ (m u : Nat), u ≤ m → (u : Int) ≤ maxI → readF (Lib.decDigits u) = some ((u : Int), false) := by
  intro m
  induction m with
  | zero =>
    intro u h hm
    obtain rfl : u = 0 := by omega
    rw [Lib.decDigits, dif_pos (by omega)]
    decide
  | succ m ih =>
    intro u h hm
    have one : ∀ (p : Nat) (k : Nat), k < 10 → ((p * 10 + k : Nat) : Int) ≤ maxI → readS (some ((p : Int), false)) (UInt8.ofNat (48 + k)) = some (((p * 10 + k : Nat) : Int), false) := by
      intro p k hk hp
      simp only [readS]
      rw [if_pos (ofNat_dig k hk), dig_val k hk, if_neg]
      · congr 1
      · unfold maxI at *
        intro h
        rcases h with h | h
        · cases h
        · omega
    by_cases h10 : u < 10
    · rw [Lib.decDigits, dif_pos h10]
      have := one 0 u h10 (by simpa using hm)
      simpa [readF] using this
    · rw [Lib.decDigits, dif_neg h10, readF_snoc, ih (u / 10) (by omega) (by unfold maxI at *; omega)]
      have := one (u / 10) (u % 10) (by omega) (by rw [show u / 10 * 10 + u % 10 = u by omega]; exact hm)
      rw [this, show u / 10 * 10 + u % 10 = u by omega]
end Go.Proofs.YthfebcfdhmihcaaGreatDoor

namespace Go.Proofs.YthfebcfdhmihcaaGreatDoor
open Go.RowKit

theorem fret_str {a b : ByteArray} (h : a = b) : Ending.returned (.string a) = .returned (.string b) := by rw [h]
end Go.Proofs.YthfebcfdhmihcaaGreatDoor
