/-
  Layer 10, super.Encode and Trailer: they return the encoding of a super-journal ('encS') and of a trailer ('trS'), and change nothing that was there. Condition: none beyond the memory's own.
-/
import Derived.Test.YtjmciknelkodcaaSpCheck
import Derived.Lib.BufferOwn
namespace Go.Proofs.Ytjmciknelkodcaa
open Go.RowKit

theorem sbuilderAt_below {T e : TypeId} {B b : Nat} {p : Value} {bs : List Value} {W W' : World} (h : Lib.BuilderAtF T e B b p bs W) (hb : Below W.heap.size W W') : Lib.BuilderAtF T e B b p bs W' := by
  obtain ⟨hB, v, hh, hown, hne⟩ := h
  have hg : W.grownBy W' none := ⟨hb.os, hb.tape, hb.output, hb.size, fun k hk _ => hb.block k hk⟩
  have hlt : b < W.heap.size := by
    obtain ⟨hlt, _⟩ := Array.getElem?_eq_some_iff.1 hh
    exact hlt
  refine ⟨hB, v, (hb.block b hlt).trans hh, hown.kept hg ?_, hne⟩
  cases hv : v.ownBlock with
  | none => exact .inl rfl
  | some g => exact .inr (by simp)
theorem sbuilder_below {T e : TypeId} {B b : Nat} {bs : List Value} {W W' : World} (h : Lib.IsBuilderF T e B b bs W) (hb : Below W.heap.size W W') : Lib.IsBuilderF T e B b bs W' :=
  h.elim (fun x => .inl (sbuilderAt_below x hb)) (fun x => .inr (sbuilderAt_below x hb))
theorem sbyteCells_app (a b : List UInt8) : Lib.byteCells (a ++ b) = Lib.byteCells a ++ Lib.byteCells b := by simp [Lib.byteCells]
theorem sbelow_alloc (w : World) (o : Obj) : Below w.heap.size w (w.alloc o) := (Below.refl _ w).alloc (Nat.le_refl _) o
theorem bd_snoc {L : List (List UInt8)} {k : Nat} (hk : k < L.length) : bdS (L.take (k + 1)) = bdS (L.take k) ++ txS L[k] := by
  rw [List.take_succ_eq_append_getElem hk, bdS_app, bdS, bdS, List.append_nil]

theorem sptrailer_any (s : ByteArray) (w : World) :
    Calls Try.prog 39 #[.string s] w fun e w' => e = .returned (.tuple #[.string (ba (trS s.data.toList).1), .int .i64 (trS s.data.toList).2]) ∧ Below w.heap.size w w' := by
  have kv := fun w => spvalid_any s w
  by_cases hok : okS s.data.toList = true
  case neg =>
    have hr : trS s.data.toList = ([], 13) := by rw [trS, if_neg hok]
    rw [hr]
    rw [show okS s.data.toList = false by simpa using hok] at kv
    go_enter Try.func39, Try.ntmps39
    go_wp2_with (go_at_call 56; refine (kv _).mono ?_; rintro e w0 ⟨rfl, rfl⟩)
    go_ret2
    exact ⟨rfl, Below.refl _ _⟩
  have hr : trS s.data.toList = (seS (stF ++ txS s.data.toList) 13 stL, 0) := by rw [trS, if_pos hok]
  rw [hr]
  rw [hok] at kv
  have hl : s.data.toList.length = s.size := by simp
  have h40 := okS_iff.1 hok
  have kt := fun w => sptext_any s (by omega) w
  have hz := ba_size (txS s.data.toList)
  rw [txS_len] at hz
  have hfz : (ba stF).size = 8 := rfl
  have ks := fun w => spseal_any (ba (stF ++ txS s.data.toList)) (by rw [ba_size, List.length_append, txS_len, show stF.length = 8 from rfl]; omega) 13 (by decide) (by decide) (ba stL) rfl w
  rw [ba_list, ba_list, ← ba_app] at ks
  generalize ba (seS (stF ++ txS s.data.toList) 13 stL) = y at ks ⊢
  obtain ⟨x, hx⟩ : ∃ x, x = ba (txS s.data.toList) := ⟨_, rfl⟩
  rw [← hx] at kt ks hz
  clear hx hr hok
  go_enter Try.func39, Try.ntmps39
  go_wp2_with (first
    | (go_at_call 56; refine (kv _).mono ?_; rintro e w0 ⟨rfl, rfl⟩)
    | (go_at_call 58; refine (kt _).mono ?_; rintro e w1 ⟨rfl, b1⟩)
    | (go_at_call 57; refine (ks _).mono ?_; rintro e w2 ⟨rfl, b2⟩))
  go_ret2
  exact ⟨rfl, b1.trans (b2.mono b1.size)⟩
end Go.Proofs.Ytjmciknelkodcaa
