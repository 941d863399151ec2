/-
  Layer 5, collect over the reader's method value: it returns the values of the reader's fields, or the first error ('valsS'), and changes the reader alone. Condition: at most 16 fields, each of at most 1000 bytes; at most 2^47 - 4096 bytes.
-/
import Derived.Test.YtpkhbafgepdogaaRecColl
namespace Go.Proofs.Ytpkhbafgepdogaa
open Go.RowKit

/-- The cells of a row of values. -/
def valF (vs : List Val) (j : Nat) : Value := if j % 3 = 0 then .int .i64 (vs.getD (j / 3) val0).k else if j % 3 = 1 then .int .i64 (vs.getD (j / 3) val0).n else .string (vs.getD (j / 3) val0).s
theorem getD_snoc {α : Type} (l : List α) (x d : α) {j : Nat} (h : j ≠ l.length) : (l ++ [x]).getD j d = l.getD j d := by
  by_cases h3 : j < l.length
  · simp [List.getD, List.getElem?_append_left h3]
  · rw [List.getD_eq_getElem?_getD, List.getD_eq_getElem?_getD, List.getElem?_eq_none (l := l) (by omega), List.getElem?_eq_none (l := l ++ [x]) (by rw [List.length_append]; simp; omega)]
theorem getD_in {α : Type} (l : List α) (d : α) {j : Nat} (h : j < l.length) : l.getD j d = l[j] := by simp [List.getD, h]
theorem getD_last {α : Type} (l : List α) (x d : α) : (l ++ [x]).getD l.length d = x := by simp
theorem valF_at {vs : List Val} {k : Nat} : valF vs (k * 3) = .int .i64 (vs.getD k val0).k ∧ valF vs (k * 3 + 1) = .int .i64 (vs.getD k val0).n ∧ valF vs (k * 3 + 2) = .string (vs.getD k val0).s := by
  refine ⟨?_, ?_, ?_⟩ <;> unfold valF
  · rw [if_pos (by omega), show k * 3 / 3 = k by omega]
  · rw [if_neg (by omega), if_pos (by omega), show (k * 3 + 1) / 3 = k by omega]
  · rw [if_neg (by omega), if_neg (by omega), show (k * 3 + 2) / 3 = k by omega]
theorem val_snoc {w : World} {g n : Nat} {vs : List Val} {v : Val} (h : w.rowIs g 32 (n * 3) (valF vs)) : (((w.setCell ⟨g, vs.length * 3, none⟩ (.int .i64 v.k)).setCell ⟨g, vs.length * 3 + 1, none⟩ (.int .i64 v.n)).setCell ⟨g, vs.length * 3 + 2, none⟩ (.string v.s)).rowIs g 32 (n * 3) (valF (vs ++ [v])) := by
  refine (((h.set (vs.length * 3) _).set (vs.length * 3 + 1) _).set (vs.length * 3 + 2) _).congr fun j hj => ?_
  have ha := valF_at (vs := vs ++ [v]) (k := vs.length)
  rw [getD_last] at ha
  by_cases h2 : j = vs.length * 3 + 2
  · rw [if_pos h2, h2, ha.2.2]
  rw [if_neg h2]
  by_cases h1 : j = vs.length * 3 + 1
  · rw [if_pos h1, h1, ha.2.1]
  rw [if_neg h1]
  by_cases h0 : j = vs.length * 3
  · rw [if_pos h0, h0, ha.1]
  · rw [if_neg h0]
    unfold valF
    rw [getD_snoc _ _ _ (show j / 3 ≠ vs.length by omega)]
theorem infoV : ∃ i, Try.prog.info? 32 = some i ∧ i.zero = some (.agg #[.int .i64 0, .int .i64 0, .string ⟨#[]⟩]) ∧ i.size = 3 ∧ i.bytes = 32 := by
  obtain ⟨i, hi, hz⟩ := Option.map_eq_some_iff.1 (show (Try.prog.info? 32).map (fun i => (i.zero, i.size, i.bytes)) = some (some (.agg #[.int .i64 0, .int .i64 0, .string ⟨#[]⟩]), 3, 32) by kernel_rfl)
  simp only [Prod.mk.injEq] at hz
  exact ⟨i, hi, hz⟩
theorem made_val (n : Nat) (w : World) : (w.alloc (.cells (madeCells #[.int .i64 0, .int .i64 0, .string ⟨#[]⟩] (n * 3)) 32)).rowIs w.heap.size 32 (n * 3) (valF []) := by
  refine ⟨_, Deep.blk_alloc_new _ _, by rw [size_madeCells], fun j hj => ?_⟩
  unfold madeCells valF
  rcases (show j % 3 = 0 ∨ j % 3 = 1 ∨ j % 3 = 2 by omega) with h | h | h <;> simp [hj, h, val0]
theorem make_val (n : Nat) (hn : n ≤ 16) (w : World) : (Instr.makeSlice 22 (.int .i64 (n : Int)) (.int .i64 (n : Int))).run Try.prog w = .ok (.slice (some ⟨w.heap.size, 0, none⟩) n n) (w.alloc (.cells (madeCells #[.int .i64 0, .int .i64 0, .string ⟨#[]⟩] (n * 3)) 32)) := by
  obtain ⟨i, hi, hz, h2, hb⟩ := infoV
  have h := run_make (P := Try.prog) w 22 32 i _ Try.underlying22 hi hz .i64 .i64 (n : Int) (n : Int) (by omega) (by omega) (by rw [hb]; omega) (by omega)
  rw [h2, Int.toNat_natCast] at h
  exact h
theorem valS_len (m : Nat) (l : List UInt8) : (valS m l).2.1.length ≤ l.length := by
  unfold valS
  split
  · simp
  · split
    · split <;> simp
    · split <;> simp
theorem fldF_at {ms : List Nat} {k : Nat} : fldF ms (k * 2) = .int .i64 (kindM (ms.getD k 0)) ∧ fldF ms (k * 2 + 1) = .int .i64 (sizeM (ms.getD k 0)) := by
  refine ⟨?_, ?_⟩ <;> unfold fldF
  · rw [if_pos (by omega), show k * 2 / 2 = k by omega]
  · rw [if_neg (by omega), show (k * 2 + 1) / 2 = k by omega]

set_option maxRecDepth 100000 in
set_option maxHeartbeats 1000000 in
theorem collV_r (n : Nat) (hn : n ≤ 16) (ms : List Nat) (hms : ms.length = n) (hmm : ∀ m ∈ ms, m ≤ 2003) (b fb : Nat) (l : List UInt8) (w : World) (hs : l.length ≤ 140737488351232) (hfb : fb ≠ b)
    (h : Rd w b l (.slice (some ⟨fb, 0, none⟩) n n)) (hf : w.rowIs fb 64 (n * 2) (fldF ms)) :
    Calls Try.prog 28 #[.int .i64 n, .func (.func 29) #[.pointer (some ⟨b, 0, none⟩)] #[]] w fun e w' => w.grownBy w' (some b) ∧
      ((valsS ms [] l).2.2 = 0 → ∃ g, w.heap.size ≤ g ∧ e = .returned (.tuple #[.slice (some ⟨g, 0, none⟩) n n, .int .i64 0]) ∧ (∃ f, Rd w' b (valsS ms [] l).2.1 f) ∧ w'.rowIs g 32 (n * 3) (valF (valsS ms [] l).1)) ∧
      ((valsS ms [] l).2.2 ≠ 0 → e = .returned (.tuple #[.slice none 0 0, .int .i64 (valsS ms [] l).2.2])) := by
  have hbw := h.lt
  have hfw := hf.lt
  have hmk := make_val n hn
  obtain ⟨R, hR⟩ : ∃ R, R = valsS ms [] l := ⟨_, rfl⟩
  rw [← hR]
  have HR := Lib.hid (show R = valsS (ms.drop 0) [] l from hR); clear hR
  have HRD := Lib.hid (rd_alloc h (.cells (madeCells #[.int .i64 0, .int .i64 0, .string ⟨#[]⟩] (n * 3)) 32))
  have HF := Lib.hid (World.rowIs.alloc hf (.cells (madeCells #[.int .i64 0, .int .i64 0, .string ⟨#[]⟩] (n * 3)) 32))
  have HM := Lib.hid (made_val n w)
  have HG := Lib.hid (World.grownBy_alloc w (.cells (madeCells #[.int .i64 0, .int .i64 0, .string ⟨#[]⟩] (n * 3)) 32) (some b))
  have HMS := Lib.hid hms; have HMM := Lib.hid hmm
  clear h hf hms hmm
  go_enter Try.func28, Try.ntmps28
  go_wp2
  generalize (w.alloc (.cells (madeCells #[.int .i64 0, .int .i64 0, .string ⟨#[]⟩] (n * 3)) 32)) = W0 at HRD HM HG HF ⊢
  have hgb : b ≠ w.heap.size := by omega
  have hgf : fb ≠ w.heap.size := by omega
  obtain ⟨g, hg⟩ : ∃ g, w.heap.size = g := ⟨_, rfl⟩
  rw [hg] at HM hgb hgf ⊢
  have hwg : w.heap.size ≤ g := by omega
  clear hg hmk
  go_loopw [14] (fun i wr => ∃ (k : Nat) (vs : List Val) (l' : List UInt8) (a : Option Addr), k ≤ n ∧ i = .int .i64 k ∧ l'.length ≤ 140737488351232 ∧ Hid (vs.length = k) ∧ Hid (k < n → a = some ⟨fb, k * 2, none⟩) ∧ Hid (R = valsS (ms.drop k) vs l') ∧ Hid (Rd wr b l' (.slice a (n - k) (n - k))) ∧ Hid (wr.rowIs g 32 (n * 3) (valF vs)) ∧ Hid (wr.rowIs fb 64 (n * 2) (fldF ms)) ∧ Hid (w.grownBy wr (some b))) (fun i _ => n - (intOf i).toNat)
  case atStart => exact ⟨0, [], l, some ⟨fb, 0, none⟩, by omega, rfl, hs, Lib.hid rfl, Lib.hid (fun _ => by rw [Nat.zero_mul]), HR, HRD, HM, HF, HG⟩
  case round =>
    obtain ⟨k, vs, l', a, hk, rfl, hl', hkm, ha, hz, hrd, hrow, hf, hgr⟩ := hrel
    clear HR HRD HM HG HF
    by_cases hlt : k < n
    · have hlt' : k < ms.length := by have := HMS.out; omega
      have hz' := hz.out
      rw [List.drop_eq_getElem_cons hlt', valsS] at hz'
      have hrd' := hrd.out
      rw [ha.out hlt, show n - k = (n - (k + 1)) + 1 by omega] at hrd'
      have hf0 := hf.out.cell (i := k * 2) (by omega)
      have hf1 := hf.out.cell (i := k * 2 + 1) (by omega)
      rw [fldF_at.1, getD_in _ _ hlt'] at hf0
      rw [fldF_at.2, getD_in _ _ hlt'] at hf1
      have hm := value_r b l' fb (k * 2) (n - (k + 1)) (n - (k + 1)) ms[k] wr hl' (HMM.out _ (List.getElem_mem hlt')) (Nat.le_refl _) (by omega) hfb hrd' hf.out.lt hf0 hf1
      have hml := valS_len ms[k] l'
      obtain ⟨x, hx⟩ : ∃ x, x = valS ms[k] l' := ⟨_, rfl⟩
      rw [← hx] at hm hml hz'
      clear hx hz hrd' hf0 hf1
      obtain ⟨A, hA⟩ : ∃ A, (if n - (k + 1) = 0 then some (⟨fb, k * 2, none⟩ : Addr) else some ⟨fb, k * 2 + 2, none⟩) = A := ⟨_, rfl⟩
      rw [hA] at hm
      have HA : Hid (k + 1 < n → A = some ⟨fb, (k + 1) * 2, none⟩) := fun h => by rw [← hA, if_neg (by omega), show (k + 1) * 2 = k * 2 + 2 by omega]
      clear hA hlt' ha
      obtain ⟨v, l2, e⟩ := x
      simp only at hm hml hz'
      have hgl := hrow.out.lt
      have hfl := hf.out.lt
      obtain ⟨k1, n1, s1⟩ := v
      simp only [aggV] at hm
      by_cases h0 : e = 0
      · rw [if_pos h0] at hz'; subst h0
        have HZ := Lib.hid hz'; clear hz'
        go_wp2_with (go_at_call 29; refine hm.mono ?_; rintro e w1 ⟨rfl, q1, q2⟩; have hrow1 := World.rowIs.of_block hrow.out (q2.block g hgl (fun e => hgb (Option.some.inj e).symm)); have hf1 := World.rowIs.of_block hf.out (q2.block fb hfl (fun e => hfb (Option.some.inj e))); have hgl1 := hrow1.lt; have g0 := hrow1.cell (i := k * 3) (by omega); have g1 := hrow1.cell (i := k * 3 + 1) (by omega); have g2 := hrow1.cell (i := k * 3 + 2) (by omega); have g3 := hrow1.frozen (k * 3); have g4 := hrow1.frozen (k * 3 + 1); have g5 := hrow1.frozen (k * 3 + 2))
        go_roundw
        case rel =>
          have hkm' := hkm.out
          refine ⟨k + 1, vs ++ [⟨k1, n1, s1⟩], l2, A, by omega, by go_num, by omega, Lib.hid (by rw [List.length_append, hkm']; rfl), HA, HZ, Lib.hid (rd_alloc (rd_other (rd_other (rd_other q1 hgb _ _) hgb _ _) hgb _ _) _), Lib.hid (World.rowIs.alloc ?_ _), Lib.hid (World.rowIs.alloc (World.rowIs.setOther (World.rowIs.setOther (World.rowIs.setOther hf1 hgf _) hgf _) hgf _) _), Lib.hid (Lib.grownBy_allocR (grown_set (grown_set (grown_set (Lib.grownBy_trans hgr.out q2) hwg _ _) hwg _ _) hwg _ _) _)⟩
          rw [← hkm']; exact val_snoc (v := ⟨k1, n1, s1⟩) hrow1
        case measure => simp [intOf]; omega
      · rw [if_neg h0] at hz'
        have t1 : (e != 0) = true := by simpa using h0
        have HZ := Lib.hid hz'; clear hz'
        have H0 := Lib.hid h0; clear h0
        go_wp2_with (go_at_call 29; refine hm.mono ?_; rintro e w1 ⟨rfl, q1, q2⟩)
        go_ret2
        rw [HZ.out]
        exact ⟨Lib.grownBy_allocR (Lib.grownBy_trans hgr.out q2) _, fun h => absurd h H0.out, fun _ => rfl⟩
    · have hz' := hz.out
      rw [List.drop_eq_nil_of_le (by have := HMS.out; omega), valsS] at hz'
      have HZ := Lib.hid hz'; clear hz' hz
      go_wp2
      go_ret2
      rw [HZ.out]
      refine ⟨hgr.out, fun _ => ⟨g, hwg, rfl, ⟨_, hrd.out⟩, hrow.out⟩, fun h => absurd rfl h⟩
end Go.Proofs.Ytpkhbafgepdogaa
