/-
  Layer 7: maps.Clone of a map of files: nil for nil, else a new block with the same entries. Condition: none.
-/
import Derived.Test.YtcpkbklnlnoonaaDoorDskOps3
import Derived.Shelf.SlMaps.Clone
namespace Go.Proofs.YtcpkbklnlnoonaaDoor
open Go.RowKit
variable {L : Loc} {ρ ρ' : Nat → Option Role} {n : Nat} {S : DS} {w w' : World}

theorem mclone_nil (w : World) : Calls Tryd.prog 29 #[.map none] w fun e w' => e = .returned (.map none) ∧ w' = w := by
  have hq := fun w => run_eql_map_nil_sl (P := Tryd.prog) w 37 _ _ none underF
  go_enter Tryd.func29, Tryd.ntmps29
  go_wp2
  go_ret
  exact ⟨rfl, rfl⟩
set_option maxRecDepth 100000 in
set_option maxHeartbeats 2000000 in
theorem mclone_some (b : Nat) (es : Array MapEntry) (clock : Nat) (w : World) (hb : w.heap[b]? = some (.map es clock)) :
    Calls Tryd.prog 29 #[.map (some b)] w fun e w' => e = .returned (.map (some w.heap.size)) ∧ w' = w.alloc (.map es clock) := by
  have hq := fun w => run_eql_map_nil_sl (P := Tryd.prog) w 37 _ _ (some b) underF
  go_enter Tryd.func29, Tryd.ntmps29
  go_wp2
  rw [run_callFunc_extern Tryd.func37 (by kernel_rfl) (by kernel_rfl) (by kernel_rfl) (e := Extern.MapsClone.clone) (by kernel_rfl), run_maps_clone_sl w 37 hb]
  simp only [Result.andThen]
  rw [Oper.upon_value]
  go_wp2
  rw [run_typeAssert_map_sl _ 37 20 _ _ _ underF]
  simp only [Result.andThen]
  rw [Oper.upon_value]
  go_wp2
  go_ret
  exact ⟨rfl, rfl⟩
/-- The copy of one of the disk's maps. -/
def MapC (F : Nat → Nat) (w0 w : World) (m : Option Nat) (l : List (List UInt8 × Nat)) : Prop := (m = none ∧ l = []) ∨ (m = some w0.heap.size ∧ w.ownsMap Tryd.prog 9 fileR w0.heap.size l.length (fileD F l))
theorem mclone_any {F : Nat → Nat} {m : Option Nat} {r : Role} {l : List (List UInt8 × Nat)} (h : MapI ρ F w m r l) :
    Calls Tryd.prog 29 #[.map m] w fun e w' => ∃ m', e = .returned (.map m') ∧ MapC F w w' m' l ∧ Below w.heap.size w w' := by
  rcases h with ⟨rfl, rfl⟩ | ⟨b, rfl, _, hown⟩
  · exact (mclone_nil w).mono fun e w' ⟨he, hw⟩ => ⟨none, he, .inl ⟨rfl, rfl⟩, by rw [hw]; exact Below.refl _ _⟩
  · have hlt := hown.lt
    obtain ⟨es, clock, hb, F', hs, hD⟩ := hown
    exact (mclone_some b es clock w hb).mono fun e w' ⟨he, hw⟩ => ⟨some w.heap.size, he, .inr ⟨rfl, es, clock, by rw [hw]; exact heap_alloc_new _ _, F', hs, hD⟩, by rw [hw]; exact (Below.refl _ _).alloc (Nat.le_refl _) _⟩
end Go.Proofs.YtcpkbklnlnoonaaDoor
