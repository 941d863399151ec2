/-
  figure.Quote: it returns the string as a string literal ('quoteL'), and changes nothing that was there. Condition: the string has at most 2^46 - 2 bytes.
-/
import Derived.Test.YtembcmmoicmkeaaDoorFigFold
namespace Go.Proofs.YtembcmmoicmkeaaDoor
open Go.RowKit Go.Shelf
attribute [local go_sem] Oper.semAt_some

def quoteC (x : UInt8) : List UInt8 := if x = 39 then [39, 39] else [x]
def quoteM (l : List UInt8) : List UInt8 := 39 :: l.flatMap quoteC
def quoteL (l : List UInt8) : List UInt8 := quoteM l ++ [39]
theorem quoteM_snoc (l : List UInt8) (x : UInt8) : quoteM (l ++ [x]) = if x = 39 then (quoteM l ++ [39]) ++ [39] else quoteM l ++ [x] := by
  simp only [quoteM, quoteC, List.flatMap_append, List.flatMap_cons, List.flatMap_nil, List.append_nil]
  split <;> simp
theorem quoteM_length (l : List UInt8) : (quoteM l).length ≤ 1 + 2 * l.length := by
  induction l with
  | nil => simp [quoteM]
  | cons a t ih =>
    simp only [quoteM, List.length_cons, List.flatMap_cons, List.length_append] at ih ⊢
    have : (quoteC a).length ≤ 2 := by unfold quoteC; split <;> simp
    omega

set_option maxRecDepth 100000 in
set_option maxHeartbeats 2000000 in
theorem quote_in (s : ByteArray) (w : World) (hs : s.size ≤ 70368744177660) :
    CallsIn Fence.wide 9 Tryd.prog 24 #[.string s] w fun e w' => e = .returned (.string ⟨(quoteL s.data.toList).toArray⟩) ∧ Below w.heap.size w w' := by
  refine callsIn_of_wp_marks Tryd.func24 rfl trivial ?_ rfl
  simp only [Tryd.ntmps24, List.size_toArray, List.length_cons, List.length_nil, Nat.reduceAdd, Nat.reduceSub, Array.replicate_succ, Array.replicate_zero, List.push_toArray, List.append_toArray, List.nil_append, List.cons_append]
  have HI := Lib.hid (show Lib.IsBuilderF 51 5 w.heap.size w.heap.size [] (w.alloc (.cells #[.pointer none, .slice none 0 0] 51)) from Lib.IsBuilderF.of (Lib.fresh_isBuilder 51 5 w))
  gi_wp2_with (refine ⟨trivial, ?_⟩; gi_at_call 36; refine (callsIn_wide.2 (Tryd.Builder_WriteByte_k w.heap.size w.heap.size [] 39 _ HI.out (by simp) (by simp))).mono ?_; rintro e w1 ⟨rfl, hbd, hbl, _⟩)
  have hI1 : Lib.IsBuilderF 51 5 w.heap.size w.heap.size (Lib.byteCells (quoteM [])) w1 := .inr hbd
  have hB1 : Below w.heap.size w w1 := ((Below.refl _ w).alloc (Nat.le_refl _) _).trans hbl
  have hlt1 : w.heap.size < w1.heap.size := by have := hbl.size; simp at this; omega
  clear hbd hbl HI
  gi_wp2_with (refine ⟨trivial, ?_⟩; gi_at_call 37; refine (bytesOf_in _ _ _).mono ?_; rintro e w' ⟨rfl, rfl⟩)
  refine wpIn_bytes (by omega) w1.heap.size 4 s (by omega) rfl (heap_new w1 (boxOf s))
    (fun pre W => (pre.length ≤ s.size ∧ Lib.IsBuilderF 51 5 w.heap.size w.heap.size (Lib.byteCells (quoteM pre)) W) ∧ Below w.heap.size w W)
    (fun _ _ _ => False)
    (OwnFrom.and (Own.from (fun s A B row hs hg hr => ⟨hs.1, builder_own (fun pre => Lib.byteCells (quoteM pre)) s A B row hs.2 hg hr⟩) _) (ownFrom_below (Nat.le_refl _) (by simp; omega)))
    (fun _ _ _ _ _ hs _ _ => hs)
    ⟨⟨by simp, hI1.alloc _⟩, hB1.alloc (by omega) _⟩ ?assign ?body ?done ?stop
  case assign =>
    intro l x W K hK
    simp only [frameAt] at hK
    gi_wp2
    exact hK
  case body =>
    rintro l pre x W ⟨⟨_, hI⟩, hB⟩ hlen
    have hxb := byte_bd x
    obtain ⟨c, hc⟩ : ∃ c : Int, c = (x.toNat : Int) := ⟨_, rfl⟩
    simp only [frameAt, List.setIfInBounds_toArray, List.set_cons_succ, List.set_cons_zero]
    have HC := Lib.hid hc
    rw [← hc] at hxb ⊢
    clear hc
    have HLL := Lib.hid (quoteM_length pre)
    obtain ⟨o, ho1, ho2⟩ := builder_block hI
    have HO := Lib.hid ho1; clear ho1
    by_cases hx : x = 39
    · have t1 : (c == 39) = true := by rw [HC.out, hx]; rfl
      have HX := Lib.hid hx; clear hx
      gi_wp2_with (refine ⟨trivial, ?_⟩; gi_at_call 36; refine (CallsIn.inRound l (callsIn_wide.2 (Tryd.Builder_WriteByte_k w.heap.size w.heap.size _ _ _ hI (by rw [Lib.byteCells_length]; have := HLL.out; omega) hB.size))).mono ?_; rintro e W1 ⟨rfl, h1, b1, k1⟩; clear hI)
      have h1' : Lib.IsBuilderF 51 5 w.heap.size w.heap.size (Lib.byteCells (quoteM pre ++ [39])) W1 := by
        rw [byteCells_snoc]; exact Or.inr h1
      have HK1 := Lib.hid (keepsFrom_others (B := (w1.alloc (boxOf s)).heap.size) k1 b1 HO.out ho2)
      have HC1 := Lib.hid (keepC_others (s := s) k1 (show w1.heap.size ≠ w.heap.size by omega))
      clear h1
      refine ⟨trivial, ?_⟩
      refine (CallsIn.inRound l (callsIn_wide.2 (Tryd.Builder_WriteByte_k w.heap.size w.heap.size _ _ _ h1' (by rw [Lib.byteCells_length, List.length_append]; have := HLL.out; simp; omega) (hB.trans b1).size))).mono ?_
      rintro e W2 ⟨rfl, h2, b2, k2⟩
      gi_wp2
      obtain ⟨o', ho1', ho2'⟩ := builder_block h1'
      refine ⟨HK1.out.trans (keepsFrom_others k2 b2 ho1' ho2'), keepC_t HC1.out (keepC_others k2 (by omega)), ⟨by simp; omega, ?_⟩, (hB.trans b1).trans b2⟩
      rw [quoteM_snoc, if_pos HX.out, byteCells_snoc]
      rw [HC.out, HX.out] at h2
      exact Or.inr h2
    · have t1 : (c == 39) = false := by
        rw [HC.out]
        refine beq_eq_false_iff_ne.2 fun e => hx (UInt8.toNat_inj.1 (Int.ofNat.inj e))
      have HX := Lib.hid hx; clear hx
      gi_wp2_with (refine ⟨trivial, ?_⟩; gi_at_call 36; refine (CallsIn.inRound l (callsIn_wide.2 (Tryd.Builder_WriteByte_k w.heap.size w.heap.size _ _ _ hI (by rw [Lib.byteCells_length]; have := HLL.out; omega) hB.size))).mono ?_; rintro e W1 ⟨rfl, h1, b1, k1⟩; clear hI)
      refine ⟨keepsFrom_others k1 b1 HO.out ho2, keepC_others k1 (by omega), ⟨by simp; omega, ?_⟩, hB.trans b1⟩
      rw [quoteM_snoc, if_neg HX.out, byteCells_snoc]
      rw [HC.out] at h1
      exact Or.inr h1
  case done =>
    rintro D W hD ⟨⟨_, hI⟩, hB⟩ hK
    have HLL := Lib.hid (quoteM_length s.data.toList)
    gi_wp2_with (refine ⟨trivial, ?_⟩; gi_at_call 36; refine (callsIn_wide.2 (Tryd.Builder_WriteByte_k w.heap.size w.heap.size _ _ _ hI (by rw [Lib.byteCells_length]; have := HLL.out; simp at this; omega) hB.size)).mono ?_; rintro e W2 ⟨rfl, h2, b2, k2⟩; clear hI)
    have h2' : Lib.IsBuilderF 51 5 w.heap.size w.heap.size (Lib.byteCells (quoteL s.data.toList)) W2 := by
      rw [quoteL, byteCells_snoc]; exact Or.inr h2
    have HK2 := Lib.hid (k2 D _ hK (fun e => by simp at hD; have := Option.some.inj e; omega) (fun _ _ e => by cases e))
    clear h2
    gi_wp2_with (refine ⟨trivial, ?_⟩; gi_at_call 38; refine (callsIn_wide.2 (Tryd.Builder_String_any_k w.heap.size w.heap.size _ _ h2' (hB.trans b2).size)).mono ?_; rintro e W1 ⟨rfl, h1, b1, k1⟩)
    have hK' := k1 D _ HK2.out (fun e => by simp at hD; have := Option.some.inj e; omega) (fun _ _ e => by cases e)
    refine ⟨by simp, .inl ⟨_, _, rfl, run_takeDeferred hK', ?_⟩⟩
    exact ⟨_, results_tmp rfl _ _ _, rfl, ((hB.trans b2).trans b1).trans (belowK_b (w := w) (Nat.le_refl _) _ D _ _ (by simp at hD; omega) hK' rfl rfl)⟩
  case stop =>
    rintro D c pre W _ _ h _
    exact h.elim
end Go.Proofs.YtembcmmoicmkeaaDoor
