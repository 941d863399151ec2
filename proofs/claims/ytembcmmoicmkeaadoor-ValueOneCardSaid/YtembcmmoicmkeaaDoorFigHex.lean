/-
  figure.Hex: it returns two hexadecimal digits for each byte ('hexL'), and changes nothing that was there. Condition: the string has at most 2^46 bytes.
-/
import Derived.Test.YtembcmmoicmkeaaDoorFigFold
namespace Go.Proofs.YtembcmmoicmkeaaDoor
open Go.RowKit Go.Shelf
attribute [local go_sem] Oper.semAt_some

def hexD (k : Nat) : UInt8 := if k < 10 then (48 + k).toUInt8 else (87 + k).toUInt8
def hexC (x : UInt8) : List UInt8 := [hexD (x.toNat / 16), hexD (x.toNat % 16)]
def hexL (l : List UInt8) : List UInt8 := l.flatMap hexC
theorem hexL_snoc (l : List UInt8) (x : UInt8) : hexL (l ++ [x]) = (hexL l ++ [hexD (x.toNat / 16)]) ++ [hexD (x.toNat % 16)] := by
  simp [hexL, hexC]
theorem hexL_length (l : List UInt8) : (hexL l).length = 2 * l.length := by
  induction l with
  | nil => rfl
  | cons a t ih => simp [hexL, hexC] at ih ⊢; omega

theorem hexIdx' : ∀ k : Fin 16, ((⟨#[48, 49, 50, 51, 52, 53, 54, 55, 56, 57, 97, 98, 99, 100, 101, 102]⟩ : ByteArray)[k.val]'k.isLt).toNat = (hexD k.val).toNat := by decide
theorem hexIdx (k : Nat) (h : k < 16) : ((⟨#[48, 49, 50, 51, 52, 53, 54, 55, 56, 57, 97, 98, 99, 100, 101, 102]⟩ : ByteArray)[k]'h).toNat = (hexD k).toNat := hexIdx' ⟨k, h⟩

set_option maxRecDepth 100000 in
set_option maxHeartbeats 2000000 in
theorem hex_in (s : ByteArray) (w : World) (hs : s.size ≤ 70368744177664) :
    CallsIn Fence.wide 9 Tryd.prog 25 #[.string s] w fun e w' => e = .returned (.string ⟨(hexL s.data.toList).toArray⟩) ∧ Below w.heap.size w w' := by
  refine callsIn_of_wp_marks Tryd.func25 rfl trivial ?_ rfl
  simp only [Tryd.ntmps25, List.size_toArray, List.length_cons, List.length_nil, Nat.reduceAdd, Nat.reduceSub, Array.replicate_succ, Array.replicate_zero, List.push_toArray, List.append_toArray, List.nil_append, List.cons_append]
  have hI1 : Lib.IsBuilderF 51 5 w.heap.size w.heap.size (Lib.byteCells (hexL [])) (w.alloc (.cells #[.pointer none, .slice none 0 0] 51)) := Lib.IsBuilderF.of (Lib.fresh_isBuilder 51 5 w)
  have hB1 : Below w.heap.size w (w.alloc (.cells #[.pointer none, .slice none 0 0] 51)) := (Below.refl _ w).alloc (Nat.le_refl _) _
  have HI := Lib.hid hI1; have HB := Lib.hid hB1; clear hI1 hB1
  gi_wp2_with (refine ⟨trivial, ?_⟩; gi_at_call 37; refine (bytesOf_in _ _ _).mono ?_; rintro e w' ⟨rfl, rfl⟩)
  have hbx := heap_new (w.alloc (.cells #[.pointer none, .slice none 0 0] 51)) (boxOf s)
  rw [World.size_alloc] at hbx
  refine wpIn_bytes (by omega) (w.heap.size + 1) 4 s (by omega) rfl hbx
    (fun pre W => Lib.IsBuilderF 51 5 w.heap.size w.heap.size (Lib.byteCells (hexL pre)) W ∧ Below w.heap.size w W)
    (fun _ _ _ => False)
    (OwnFrom.and (Own.from (builder_own _) _) (ownFrom_below (Nat.le_refl _) (by simp; omega)))
    (fun _ _ _ _ _ hs _ _ => hs)
    ⟨HI.out.alloc _, HB.out.alloc (by simp) _⟩ ?assign ?body ?done ?stop
  case assign =>
    intro l x W K hK
    simp only [frameAt] at hK
    gi_wp2
    exact hK
  case body =>
    rintro l pre x W ⟨hI, hB⟩ hlen
    have hxb := byte_bd x
    obtain ⟨c, hc⟩ : ∃ c : Int, c = (x.toNat : Int) := ⟨_, rfl⟩
    simp only [frameAt, List.setIfInBounds_toArray, List.set_cons_succ, List.set_cons_zero]
    have HC := Lib.hid hc
    rw [← hc] at hxb ⊢
    clear hc
    have HL := hexL_length pre
    have HLL := Lib.hid HL; clear HL
    gi_wp2_with (refine ⟨trivial, ?_⟩; gi_at_call 36; refine (CallsIn.inRound l (callsIn_wide.2 (Tryd.Builder_WriteByte_k w.heap.size w.heap.size _ _ _ hI (by rw [Lib.byteCells_length, HLL.out]; omega) hB.size))).mono ?_; rintro e W1 ⟨rfl, h1, b1, k1⟩; have HI2 := Lib.hid hI; clear hI)
    have h1' : Lib.IsBuilderF 51 5 w.heap.size w.heap.size (Lib.byteCells (hexL pre ++ [hexD (x.toNat / 16)])) W1 := by
      rw [byteCells_snoc, ← hexIdx (x.toNat / 16) (by have := x.toNat_lt; omega)]
      refine Or.inr ?_
      have e : (c / 16).toNat = x.toNat / 16 := by rw [HC.out]; omega
      simpa only [e] using h1
    obtain ⟨o, ho1, ho2⟩ := builder_block HI2.out
    have hK1 := keepsFrom_others (B := ((w.alloc (.cells #[.pointer none, .slice none 0 0] 51)).alloc (boxOf s)).heap.size) k1 b1 ho1 ho2
    have hC1 := keepC_others (s := s) k1 (show w.heap.size + 1 ≠ w.heap.size by omega)
    have HK1 := Lib.hid hK1; have HC1 := Lib.hid hC1; clear hK1 hC1 h1 ho1
    refine ⟨trivial, ?_⟩
    refine (CallsIn.inRound l (callsIn_wide.2 (Tryd.Builder_WriteByte_k w.heap.size w.heap.size _ _ _ h1' (by rw [Lib.byteCells_length, List.length_append, HLL.out]; simp; omega) (hB.trans b1).size))).mono ?_
    rintro e W2 ⟨rfl, h2, b2, k2⟩
    gi_wp2
    obtain ⟨o', ho1', ho2'⟩ := builder_block h1'
    refine ⟨HK1.out.trans (keepsFrom_others k2 b2 ho1' ho2'), keepC_t HC1.out (keepC_others k2 (by omega)), ?_, (hB.trans b1).trans b2⟩
    rw [hexL_snoc, byteCells_snoc, ← hexIdx (x.toNat % 16) (by omega)]
    refine Or.inr ?_
    have e : (c % 16).toNat = x.toNat % 16 := by rw [HC.out]; omega
    simpa only [e] using h2
  case done =>
    rintro D W hD ⟨hI, hB⟩ hK
    gi_wp2_with (refine ⟨trivial, ?_⟩; gi_at_call 38; refine (callsIn_wide.2 (Tryd.Builder_String_any_k w.heap.size w.heap.size _ _ hI hB.size)).mono ?_; rintro e W1 ⟨rfl, h1, b1, k1⟩)
    have hK' := k1 D _ hK (fun e => by simp at hD; have := Option.some.inj e; omega) (fun _ _ e => by cases e)
    refine ⟨by simp, .inl ⟨_, _, rfl, run_takeDeferred hK', ?_⟩⟩
    exact ⟨_, results_tmp rfl _ _ _, rfl, (hB.trans b1).trans (belowK_b (w := w) (Nat.le_refl _) _ D _ _ (by simp at hD; omega) hK' rfl rfl)⟩
  case stop =>
    rintro D c pre W _ _ h _
    exact h.elim
end Go.Proofs.YtembcmmoicmkeaaDoor
