/-
  Layer 12: the calls of the program's cache, beside the document's or alone; works. Condition: numbers are ints; the lists have at most 499998 elements.
-/
import Derived.Test.YtkpgekfejfbpjaaCcLaw1
namespace Go.Proofs.Ytkpgekfejfbpjaa
open Go.RowKit
variable {L : CL} {ρ ρ' : Nat → Option CRole} {A A' : AP} {w0 w w' : World} {q : Nat} {v v' : Value} {R R' : QS}

theorem jc_new {room : Int} (h1 : CacheI (newL w.heap.size) (newR w.heap.size) (newA room) w') (h2 : Below w.heap.size w w') : JC w (newL w.heap.size) (newR w.heap.size) (newA room) w' := by
  refine ⟨h1, fun g hg => ?_, h2⟩
  unfold newR at hg
  repeat' split at hg
  all_goals first | omega | exact absurd rfl hg
section
variable (L) in
abbrev CP : Value := .pointer (some ⟨L.c, 0, none⟩)
theorem jc_put (h : JC w0 L ρ A w) {k : Int} (hk : IsI k) (x : ByteArray) (d : Bool) (hl : ∀ t, (A.li t).length ≤ 499999) :
    Calls Try.prog 11 #[CP L, .int .i64 k, .string x, .bool d] w fun e w' => e = .returned (.tuple #[]) ∧ ∃ ρ', JC w0 L ρ' (entA A k x d) w' :=
  (put_any h.c hk x d hl).mono fun e w' hq => by obtain ⟨rfl, ρ', h1, h2⟩ := hq; exact ⟨rfl, ρ', h.call h1 h2⟩
theorem jc_get (h : JC w0 L ρ A w) {k : Int} (hk : IsI k) (hl : ∀ t, (A.li t).length ≤ 499999) :
    Calls Try.prog 9 #[CP L, .int .i64 k] w fun e w' => e = .returned (resG (lookA A k)) ∧ ∃ ρ', JC w0 L ρ' (getA A k) w' :=
  (get_any h.c hk (fun t => by have := hl t; omega)).mono fun e w' hq => by obtain ⟨rfl, ρ', h1, h2⟩ := hq; exact ⟨rfl, ρ', h.call h1 h2⟩
theorem jc_clean (h : JC w0 L ρ A w) {k : Int} (hk : IsI k) (hl : ∀ t, (A.li t).length ≤ 499999) :
    Calls Try.prog 13 #[CP L, .int .i64 k] w fun e w' => e = .returned (.tuple #[]) ∧ ∃ ρ', JC w0 L ρ' (cleanA A k) w' :=
  (clean_any h.c hk (fun t => by have := hl t; omega)).mono fun e w' hq => by obtain ⟨rfl, ρ', h1, h2⟩ := hq; exact ⟨rfl, ρ', h.call h1 h2⟩
theorem jc_drop (h : JC w0 L ρ A w) {k : Int} (hk : IsI k) (hl : ∀ t, (A.li t).length ≤ 499999) :
    Calls Try.prog 15 #[CP L, .int .i64 k] w fun e w' => e = .returned (.tuple #[]) ∧ ∃ ρ', JC w0 L ρ' (dropA A k) w' :=
  (drop_any h.c hk hl).mono fun e w' hq => by obtain ⟨rfl, ρ', h1, h2⟩ := hq; exact ⟨rfl, ρ', h.call h1 h2⟩
end
theorem isI1 : IsI 1 := ⟨by decide, by decide⟩
theorem isI2 : IsI 2 := ⟨by decide, by decide⟩
def wA1 : AP := entA (newA 1) 1 ⟨#[97]⟩ false
def wA2 : AP := entA wA1 2 ⟨#[98]⟩ false
def wA3 : AP := getA wA2 1
def wA4 : AP := getA wA3 2

set_option maxRecDepth 100000 in
set_option maxHeartbeats 1000000 in
theorem cworks_any (w : World) : Calls Try.prog 5 #[] w fun e w' => e = .returned (.bool true) ∧ Below w.heap.size w w' := by
  have K0 := Lib.hid (new_any 1 isI1 w)
  have l1 : ∀ t, ((newA 1).li t).length ≤ 499999 := fun t => by cases t <;> decide
  have l2 : ∀ t, (wA1.li t).length ≤ 499999 := fun t => by cases t <;> decide
  have l3 : ∀ t, (wA2.li t).length ≤ 499999 := fun t => by cases t <;> decide
  have l4 : ∀ t, (wA3.li t).length ≤ 499999 := fun t => by cases t <;> decide
  have l5 : ∀ t, (wA4.li t).length ≤ 499999 := fun t => by cases t <;> decide
  have r1 : resG (lookA wA2 1) = .tuple #[.string ⟨#[]⟩, .bool false] := by rfl
  have r2 : resG (lookA wA3 2) = .tuple #[.string ⟨#[98]⟩, .bool true] := by rfl
  have r3 : lenA wA4 = 1 := by rfl
  have H1 := Lib.hid l1; have H2 := Lib.hid l2; have H3 := Lib.hid l3; have H4 := Lib.hid l4; have H5 := Lib.hid l5
  have HR1 := Lib.hid r1; have HR2 := Lib.hid r2; have HR3 := Lib.hid r3
  clear l1 l2 l3 l4 l5 r1 r2 r3
  obtain ⟨L, hL⟩ : ∃ L, L = newL w.heap.size := ⟨_, rfl⟩
  rw [← hL] at K0
  have HL := Lib.hid hL
  clear hL
  go_enter Try.func5, Try.ntmps5
  go_wp2_with (first
    | (go_at_call 7; refine K0.out.mono ?_; rintro e1 w1 ⟨rfl, q1, q2⟩; have J1 : Hid (JC w L _ (newA 1) w1) := Lib.hid (by have := HL.out; subst this; exact jc_new q1 q2); clear q1 q2)
    | (go_at_call 11; refine (jc_put J1.out isI1 ⟨#[97]⟩ false H1.out).mono ?_; rintro e2 w2 ⟨rfl, ρ2, j2⟩; have J2 := Lib.hid j2; clear j2 J1)
    | (go_at_call 11; refine (jc_put J2.out isI2 ⟨#[98]⟩ false H2.out).mono ?_; rintro e3 w3 ⟨rfl, ρ3, j3⟩; have J3 := Lib.hid j3; clear j3 J2)
    | (go_at_call 9; refine (jc_get J3.out isI1 H3.out).mono ?_; rintro e4 w4 ⟨rfl, ρ4, j4⟩; rw [show lookA (entA (entA (newA 1) 1 ⟨#[97]⟩ false) 2 ⟨#[98]⟩ false) 1 = lookA wA2 1 from rfl, HR1.out]; have J4 := Lib.hid j4; clear j4 J3)
    | (go_at_call 9; refine (jc_get J4.out isI2 H4.out).mono ?_; rintro e5 w5 ⟨rfl, ρ5, j5⟩; rw [show lookA (getA (entA (entA (newA 1) 1 ⟨#[97]⟩ false) 2 ⟨#[98]⟩ false) 1) 2 = lookA wA3 2 from rfl, HR2.out]; have J5 := Lib.hid j5; clear j5 J4)
    | (go_at_call 17; refine (lenC_any J5.out.c H5.out).mono ?_; rintro e6 w6 ⟨rfl, hw⟩; rw [hw]; clear hw; rw [show lenA (getA (getA (entA (entA (newA 1) 1 ⟨#[97]⟩ false) 2 ⟨#[98]⟩ false) 1) 2) = lenA wA4 from rfl, HR3.out]))
  first | go_ret | go_returns
  exact ⟨rfl, J5.out.bel⟩
end Go.Proofs.Ytkpgekfejfbpjaa
