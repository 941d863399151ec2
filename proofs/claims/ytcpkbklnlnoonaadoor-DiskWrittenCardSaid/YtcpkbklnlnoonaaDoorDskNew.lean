/-
  Layer 7: New, Ops: an empty disk that is up; the number of counted calls. Condition: none.
-/
import Derived.Test.YtcpkbklnlnoonaaDoorDskPerf2
namespace Go.Proofs.YtcpkbklnlnoonaaDoor
open Go.RowKit
variable {L : Loc} {ρ ρ' : Nat → Option Role} {n : Nat} {S : DS} {w w' : World}

def roomN (r : Int) : Nat := if r < 0 ∨ 4000000 < r then 4000000 else r.toNat
def newS (r : Int) : DS := ⟨roomN r, fun _ => [], fun _ _ => [], 0, [], 0, fun _ => 0, 0, false⟩
def newL (b : Nat) : Loc := ⟨b, fun _ => none, none, .slice none 0 0, fun _ => 0, fun _ _ => .slice none 0 0⟩
def newR (b : Nat) : Nat → Option Role := fun k => if k = b then some .disk else none
theorem roomN_le (r : Int) : roomN r ≤ 4000000 := by unfold roomN; split <;> omega
theorem roomN_eq (r : Int) : (roomN r : Int) = if r < 0 ∨ 4000000 < r then 4000000 else r := by unfold roomN; split <;> omega
theorem inv_new (r : Int) (b : Nat) (hb : Blk w b 42 #[.int .i64 (roomN r), .map none, .map none, .slice none 0 0, .int .i64 0, .map none, .int .i64 0, .bool false]) : Inv (newL b) (newR b) 0 (newS r) w where
  hb := by simp [newR, newL]
  blk := hb
  mp _ := .inl ⟨rfl, rfl⟩
  flt := .inl ⟨rfl, fun _ => rfl⟩
  pnd := World.ownsRow_nil _ _ _ _
  pro _ h := by cases h
  fro i hi := by cases hi
  fil i hi := by cases hi
  con _ i hi := by cases hi
  cro _ i _ hi _ := by cases hi
  clen _ i hi := by cases hi
  dok _ p hp := by cases hp
  pok c hc := by cases hc
  old k hk := by unfold newR; rw [if_neg (fun e => by have := blk_lt hb; omega)]
  room := roomN_le r
  bnd := ⟨Nat.le_refl _, Nat.le_refl _, fun _ => Nat.le_refl _, by decide⟩

theorem new_any (r : Int) (w : World) : Calls Tryd.prog 5 #[.int .i64 r] w fun e w' => e = .returned (.pointer (some ⟨w.heap.size, 0, none⟩)) ∧ Inv (newL w.heap.size) (newR w.heap.size) 0 (newS r) w' ∧ Below w.heap.size w w' := by
  obtain ⟨q, hq⟩ : ∃ q : Int, q = roomN r := ⟨_, rfl⟩
  have hE := roomN_eq r
  rw [← hq] at hE
  have HQ := Lib.hid hq
  by_cases h1 : r < 0
  · rw [if_pos (.inl h1)] at hE
    have HE := Lib.hid hE; clear hE hq
    go_enter Tryd.func5, Tryd.ntmps5
    go_wp2
    go_ret
    refine ⟨rfl, inv_new r _ ?_, (Below.refl _ _).alloc (Nat.le_refl _) _⟩
    rw [← HQ.out, HE.out]; exact blk_new _ _ _
  · by_cases h2 : 4000000 < r
    · rw [if_pos (.inr h2)] at hE
      have HE := Lib.hid hE; clear hE hq
      go_enter Tryd.func5, Tryd.ntmps5
      go_wp2
      go_ret
      refine ⟨rfl, inv_new r _ ?_, (Below.refl _ _).alloc (Nat.le_refl _) _⟩
      rw [← HQ.out, HE.out]; exact blk_new _ _ _
    · rw [if_neg (by omega)] at hE
      have HE := Lib.hid hE; clear hE hq
      go_enter Tryd.func5, Tryd.ntmps5
      go_wp2
      go_ret
      refine ⟨rfl, inv_new r _ ?_, (Below.refl _ _).alloc (Nat.le_refl _) _⟩
      rw [← HQ.out, HE.out]; exact blk_new _ _ _

theorem ops_any (h : Inv L ρ n S w) : Calls Tryd.prog 13 #[.pointer (some ⟨L.b, 0, none⟩)] w fun e w' => e = .returned (.int .i64 S.ops) ∧ w' = w := by
  have c4 := blk_cell h.blk 4 rfl
  clear h
  go_enter Tryd.func13, Tryd.ntmps13
  go_wp2
  go_ret
  exact ⟨rfl, rfl⟩
theorem ops_nil (w : World) : Calls Tryd.prog 13 #[.pointer none] w fun e w' => e = .returned (.int .i64 0) ∧ w' = w := by
  go_enter Tryd.func13, Tryd.ntmps13
  go_wp2
  go_ret
  exact ⟨rfl, rfl⟩
end Go.Proofs.YtcpkbklnlnoonaaDoor
