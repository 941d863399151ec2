/-
  figure.Fold: it returns the string with small letters in place of capital ones ('foldL'), and changes nothing that was there. Condition: the string is no longer than the model's greatest length.
-/
import Derived.Test.YtadbmjmikoggbaaFigRange
import Derived.Test.YtadbmjmikoggbaaFigPlain
namespace Go.Proofs.Ytadbmjmikoggbaa
open Go.RowKit Go.Shelf
attribute [local go_sem] Oper.semAt_some

theorem byteCells_snoc (l : List UInt8) (x : UInt8) : Lib.byteCells (l ++ [x]) = Lib.byteCells l ++ [.int .u8 x.toNat] := by
  rw [Lib.byteCells_append]; rfl
theorem byteCells_map_snoc (l : List UInt8) (x : UInt8) : Lib.byteCells (foldL (l ++ [x])) = Lib.byteCells (foldL l) ++ [.int .u8 (lowI x.toNat)] := by
  rw [foldL, List.map_append, List.map_cons, List.map_nil, byteCells_snoc, lowU_toNat]; rfl

set_option maxRecDepth 100000 in
set_option maxHeartbeats 2000000 in
theorem fold_in (s : ByteArray) (w : World) (hs : s.size ≤ 140737488351232) :
    CallsIn Fence.wide 9 Try.prog 48 #[.string s] w fun e w' => e = .returned (.string ⟨(foldL s.data.toList).toArray⟩) ∧ Below w.heap.size w w' := by
  refine callsIn_of_wp_marks Try.func48 rfl trivial ?_ rfl
  simp only [Try.ntmps48, List.size_toArray, List.length_cons, List.length_nil, Nat.reduceAdd, Nat.reduceSub, Array.replicate_succ, Array.replicate_zero, List.push_toArray, List.append_toArray, List.nil_append, List.cons_append]
  have hbk := heap_new w (.cells #[.pointer none, .slice none 0 0] 67)
  have HBK := Lib.hid hbk; clear hbk
  gi_wp2_with (refine ⟨trivial, ?_⟩; gi_at_call 57; refine (callsIn_wide.2 (Try.Builder_Grow_fresh w.heap.size w.heap.size s.size _ (Nat.le_refl _) HBK.out (by simp) (by omega))).mono ?_; rintro e w1 ⟨rfl, hbd, hbl⟩)
  have hI1 : Lib.IsBuilderF 67 5 w.heap.size w.heap.size (Lib.byteCells (foldL [])) w1 := .inr (Lib.BuilderAtF.of hbd)
  have hB1 : Below w.heap.size w w1 := ((Below.refl _ w).alloc (Nat.le_refl _) _).trans hbl
  have hlt1 : w.heap.size < w1.heap.size := by have := hbl.size; simp at this; omega
  clear hbd hbl HBK
  gi_wp2_with (refine ⟨trivial, ?_⟩; gi_at_call 58; refine (bytesOf_in _ _ _).mono ?_; rintro e w' ⟨rfl, rfl⟩)
  refine wpIn_bytes (by omega) w1.heap.size 4 s hs rfl (heap_new w1 (boxOf s))
    (fun pre W => Lib.IsBuilderF 67 5 w.heap.size w.heap.size (Lib.byteCells (foldL pre)) W ∧ Below w.heap.size w W)
    (fun _ _ _ => False)
    (OwnFrom.and (Own.from (builder_own _) _) (ownFrom_below (Nat.le_refl _) (by simp; omega)))
    (fun _ _ _ _ _ hs _ _ => hs)
    ⟨hI1.alloc _, hB1.alloc (by omega) _⟩ ?assign ?body ?done ?stop
  case assign =>
    intro l x W K hK
    simp only [frameAt] at hK
    gi_wp2
    exact hK
  case body =>
    rintro l pre x W ⟨hI, hB⟩ hlen
    have hxb := byte_bd x
    obtain ⟨c, hc⟩ : ∃ c : Int, c = (x.toNat : Int) := ⟨_, rfl⟩
    simp only [frameAt, List.setIfInBounds_toArray, List.set_cons_succ, List.set_cons_zero]
    have HC := Lib.hid hc
    rw [← hc] at hxb ⊢
    clear hc
    gi_wp2_with (first
      | (refine ⟨trivial, ?_⟩; gi_at_call 60; refine (CallsIn.inRound l (callsIn_wide.2 (lower_any _ hxb _))).mono ?_; rintro e w' ⟨rfl, rfl⟩)
      | (refine ⟨trivial, ?_⟩; gi_at_call 59; refine (CallsIn.inRound l (callsIn_wide.2 (Try.Builder_WriteByte_k w.heap.size w.heap.size _ (lowI c) _ hI (by rw [Lib.byteCells_length, foldL, List.length_map]; omega) hB.size))).mono ?_; rintro e W1 ⟨rfl, h1, b1, k1⟩))
    obtain ⟨o, ho1, ho2⟩ := builder_block hI
    exact ⟨keepsFrom_others k1 b1 ho1 ho2, keepC_others k1 (by omega), by rw [byteCells_map_snoc, ← HC.out]; exact Or.inr h1, hB.trans b1⟩
  case done =>
    rintro D W hD ⟨hI, hB⟩ hK
    gi_wp2_with (refine ⟨trivial, ?_⟩; gi_at_call 61; refine (callsIn_wide.2 (Try.Builder_String_any_k w.heap.size w.heap.size _ _ hI hB.size)).mono ?_; rintro e W1 ⟨rfl, h1, b1, k1⟩)
    have hK' := k1 D _ hK (fun e => by simp at hD; have := Option.some.inj e; omega) (fun _ _ e => by cases e)
    refine ⟨by simp, .inl ⟨_, _, rfl, run_takeDeferred hK', ?_⟩⟩
    exact ⟨_, results_tmp rfl _ _ _, rfl, (hB.trans b1).trans (belowK_b (w := w) (Nat.le_refl _) _ D _ _ (by simp at hD; omega) hK' rfl rfl)⟩
  case stop =>
    rintro D c pre W _ _ h _
    exact h.elim
end Go.Proofs.Ytadbmjmikoggbaa
