/-
  Layer 7: Content: the visible bytes of a file, or none. Condition: the name has at most a million bytes.
-/
import Derived.Test.YtcpkbklnlnoonaaDoorDskNew
import Derived.Laws.IdiomStrings
import Derived.Laws.BytesArg
namespace Go.Proofs.YtcpkbklnlnoonaaDoor
open Go.RowKit
variable {L : Loc} {ρ ρ' : Nat → Option Role} {n : Nat} {S : DS} {w w' : World}

theorem bys_string {v : Value} {l : List UInt8} (h : Bys w v l) : (convert 30 9 v).run Tryd.prog w = .ok (.string (bz l)) w := by
  rcases bys_cases h with ⟨rfl, rfl⟩ | ⟨g, cap, cur, rfl, hg, h1, h2, h3, h4⟩
  · kernel_rfl
  · refine run_convert_bytes_back (P := Tryd.prog) w 30 9 5 ⟨g, 0, none⟩ cap l (by kernel_rfl) (by kernel_rfl) (by kernel_rfl) (fun j hj => ?_)
    rw [Addr.add_lit, Nat.zero_add, cell_of_row w g j cur 5 (0, 0) hg]
    have e : (cur.toList.take l.length)[j]? = (Lib.byteCells l)[j]? := by rw [h4]
    rw [List.getElem?_take_of_lt hj] at e
    simp only [Lib.byteCells, List.getElem?_map, List.getElem?_eq_getElem hj, Option.map_some] at e
    simpa using e
/-- What Content returns. -/
def contZ (S : DS) (p : List UInt8) : List UInt8 := match findL (S.dirs false) p with | none => [] | some i => S.con false i
def hasZ (S : DS) (p : List UInt8) : Bool := (findL (S.dirs false) p).isSome
theorem content_nil (p : ByteArray) (w : World) : Calls Tryd.prog 10 #[.pointer none, .string p] w fun e w' => e = .returned (.tuple #[.string ⟨#[]⟩, .bool false]) ∧ w' = w := by
  go_enter Tryd.func10, Tryd.ntmps10
  go_wp2_with (go_at_call 17; (with_reducible refine (find_nil _ _).mono ?_); rintro e w1 ⟨rfl, rfl⟩)
  go_ret2
  exact ⟨rfl, rfl⟩
theorem content_any (h : Inv L ρ n S w) (p : ByteArray) (hp : p.size ≤ 1000000) :
    Calls Tryd.prog 10 #[.pointer (some ⟨L.b, 0, none⟩), .string p] w fun e w' => e = .returned (.tuple #[.string (bz (contZ S p.data.toList)), .bool (hasZ S p.data.toList)]) ∧ w' = w := by
  have HF := Lib.hid (find_any h p hp)
  unfold contZ hasZ
  cases hq : findL (S.dirs false) p.data.toList with
  | none =>
    rw [hq] at HF
    simp only [ptrF, Option.map_none] at HF
    clear h hq
    go_enter Tryd.func10, Tryd.ntmps10
    go_wp2_with (go_at_call 17; (with_reducible refine HF.out.mono ?_); rintro e w1 ⟨rfl, rfl⟩)
    go_ret2
    exact ⟨rfl, rfl⟩
  | some i =>
    rw [hq] at HF
    simp only [ptrF, Option.map_some] at HF
    have hi : i < S.nf := by
      unfold findL at hq
      cases hf : (S.dirs false).find? (fun q => q.1 == p.data.toList) with
      | none => rw [hf] at hq; cases hq
      | some q =>
        rw [hf] at hq
        cases hq
        exact h.dok false q (List.mem_of_find?_eq_some hf)
    have c0 := blk_cell (h.fil i hi) 0 rfl
    have hcv := bys_string (h.con false i hi)
    clear h hq hi
    simp only [Option.isSome_some]
    generalize L.V false i = V at c0 hcv
    generalize bz (S.con false i) = B at hcv ⊢
    go_enter Tryd.func10, Tryd.ntmps10
    go_wp2_with (go_at_call 17; (with_reducible refine HF.out.mono ?_); rintro e w1 ⟨rfl, rfl⟩)
    go_ret2
    exact ⟨rfl, rfl⟩
end Go.Proofs.YtcpkbklnlnoonaaDoor
