/-
  Layer 5, the reader's method value: it takes the next field off the reader's slice and returns the value that the bytes hold, or the error; it changes the reader alone. Condition: at most 2^47 - 4096 bytes; the field's block is not the reader's.
-/
import Derived.Test.YtpkhbafgepdogaaRecRead2
namespace Go.Proofs.Ytpkhbafgepdogaa
open Go.RowKit

theorem valB_valS {m : Nat} (h0 : m ≠ 0) (h1 : m ≠ 1) (l : List UInt8) : valB (kindM m) (sizeM m) l = valS m l := by
  rw [valB, valS, if_neg h0, if_neg h1]; rfl

/-- What holds in value's own frame behind its first two statements. -/
structure ValI (b : Nat) (l : List UInt8) (f : Value) (kd : Int) (q : Nat) (w W : World) : Prop where
  rd : Rd W b l f
  res : Blk W w.heap.size 32 #[.int .i64 0, .int .i64 0, .string ⟨#[]⟩]
  fld : Blk W (w.heap.size + 1) 64 #[.int .i64 kd, .int .i64 q]
  grown : w.grownBy W (some b)

theorem valI_start {b : Nat} {l : List UInt8} {f : Value} {w : World} (h : Rd w b l f) (f' : Value) (kd : Int) (q : Nat) : ValI b l f' kd q w (((w.setCell ⟨b, 1, none⟩ f').alloc (.cells #[.int .i64 0, .int .i64 0, .string ⟨#[]⟩] 32)).alloc (.cells #[.int .i64 kd, .int .i64 q] 64)) := by
  refine ⟨rd_alloc (rd_alloc (rd_set1 h _) _) _, blk_alloc ?_ _, ?_, Lib.grownBy_allocR (Lib.grownBy_allocR (Lib.grownBy_setCell w b 1 _) _) _⟩
  · have := blk_new (w.setCell ⟨b, 1, none⟩ f') 32 #[.int .i64 0, .int .i64 0, .string ⟨#[]⟩]
    rw [Deep.nblk_setCell] at this
    exact this
  · have := blk_new ((w.setCell ⟨b, 1, none⟩ f').alloc (.cells #[.int .i64 0, .int .i64 0, .string ⟨#[]⟩] 32)) 64 #[.int .i64 kd, .int .i64 q]
    rw [World.size_alloc, Deep.nblk_setCell] at this
    exact this

set_option maxRecDepth 100000 in
set_option maxHeartbeats 1000000 in
theorem value_r (b : Nat) (l : List UInt8) (fb off len cap : Nat) (m : Nat) (w : World) (hs : l.length ≤ 140737488351232) (hm : m ≤ 2003) (hlc : len ≤ cap) (hcb : cap ≤ 16) (hne : fb ≠ b)
    (h : Rd w b l (.slice (some ⟨fb, off, none⟩) (len + 1) (cap + 1))) (hfb : fb < w.heap.size) (k0 : w.cell? ⟨fb, off, none⟩ = some (.int .i64 (kindM m))) (k1 : w.cell? ⟨fb, off + 1, none⟩ = some (.int .i64 (sizeM m))) :
    Calls Try.prog 29 #[.pointer (some ⟨b, 0, none⟩)] w fun e w' => e = .returned (.tuple #[aggV (valS m l).1, .int .i64 (valS m l).2.2]) ∧ Rd w' b (valS m l).2.1 (.slice (if cap = 0 then some ⟨fb, off, none⟩ else some ⟨fb, off + 2, none⟩) len cap) ∧ w.grownBy w' (some b) := by
  obtain ⟨-, c1, -, f1, hbw⟩ := rd_cells h
  have HRD := Lib.hid h; clear h
  have i0 : 0 < len + 1 := by omega
  have i1 : (0 : Int) < (len : Int) + 1 := by omega
  have i2 : (1 : Int) ≤ (len : Int) + 1 := by omega
  have i3 : (len : Int) + 1 ≤ (cap : Int) + 1 := by omega
  obtain ⟨A, hA⟩ : ∃ A, (if cap = 0 then some (⟨fb, off, none⟩ : Addr) else some ⟨fb, off + 2, none⟩) = A := ⟨_, rfl⟩
  rw [hA]
  have HA := Lib.hid hA; clear hA
  go_enter Try.func29, Try.ntmps29
  go_upto_region 3 with (fail)
  rw [HA.out]
  have HV := Lib.hid (valI_start HRD.out (.slice A len cap) (kindM m) (sizeM m))
  obtain ⟨W0, hW0⟩ : ∃ W0, (((w.setCell ⟨b, 1, none⟩ (.slice A len cap)).alloc (.cells #[.int .i64 0, .int .i64 0, .string ⟨#[]⟩] 32)).alloc (.cells #[.int .i64 (kindM m), .int .i64 (sizeM m)] 64)) = W0 := ⟨_, rfl⟩
  rw [hW0] at HV ⊢
  clear hW0 HA HRD c1 f1 k0 k1 i0 i1 i2 i3 hlc hcb
  have d0 := blk_cell HV.out.fld 0 rfl; have d1 := blk_cell HV.out.fld 1 rfl
  have r0 := blk_cell HV.out.res 0 rfl; have r1 := blk_cell HV.out.res 1 rfl; have r2 := blk_cell HV.out.res 2 rfl; have r3 := blk_frozen HV.out.res 0; have r4 := blk_frozen HV.out.res 1; have r5 := blk_frozen HV.out.res 2
  by_cases m0 : m = 0
  · subst m0
    rw [show kindM 0 = 0 from rfl] at d0
    go_wp2
    refine bodyPost_ret (results_pair rfl _ _ w.heap.size _ _ _ rfl (blk_set (blk_set (blk_set HV.out.res 0 _) 1 _) 2 _) Try.underlying32 rfl (by kernel_rfl)) rfl ?_
    rw [show valS 0 l = (val0, l, 0) from rfl]
    exact ⟨rfl, rd_other (rd_other (rd_other HV.out.rd (by omega) _ _) (by omega) _ _) (by omega) _ _, grown_set (grown_set (grown_set HV.out.grown (by omega) _ _) (by omega) _ _) (by omega) _ _⟩
  by_cases m1 : m = 1
  · subst m1
    rw [show kindM 1 = 1 from rfl] at d0
    have hi := integer_r b l (.slice A len cap) W0 (by omega) HV.out.rd
    obtain ⟨x, hx⟩ : ∃ x, x = valS 1 l := ⟨_, rfl⟩
    rw [← hx] at hi
    obtain ⟨v, l', e⟩ := x
    have HX := Lib.hid hx
    simp only [aggV] at hi
    clear hx
    go_wp2_with (go_at_call 38; refine hi.mono ?_; rintro e w1 ⟨rfl, q1, q2⟩; have hrow := blk_grown HV.out.res q2 (by omega); replace r0 := blk_cell hrow 0 rfl; replace r1 := blk_cell hrow 1 rfl; replace r2 := blk_cell hrow 2 rfl; replace r3 := blk_frozen hrow 0; replace r4 := blk_frozen hrow 1; replace r5 := blk_frozen hrow 2)
    refine bodyPost_ret (results_pair rfl _ _ w.heap.size _ _ _ rfl (blk_set (blk_set (blk_set hrow 0 _) 1 _) 2 _) Try.underlying32 rfl (by kernel_rfl)) rfl ?_
    rw [← HX.out]
    exact ⟨rfl, rd_other (rd_other (rd_other q1 (by omega) _ _) (by omega) _ _) (by omega) _ _, grown_set (grown_set (grown_set (Lib.grownBy_trans HV.out.grown q2) (by omega) _ _) (by omega) _ _) (by omega) _ _⟩
  · have hi := bytes_r b l (.slice A len cap) (kindM m) (sizeM m) W0 hs (by unfold sizeM; omega) HV.out.rd
    rw [valB_valS m0 m1] at hi
    obtain ⟨x, hx⟩ : ∃ x, x = valS m l := ⟨_, rfl⟩
    rw [← hx] at hi
    obtain ⟨v, l', e⟩ := x
    have HX := Lib.hid hx
    simp only [aggV] at hi
    clear hx
    have hk : kindM m = 2 ∨ kindM m = 3 := by
      unfold kindM; rw [if_neg m0, if_neg m1]; split
      · exact .inr rfl
      · exact .inl rfl
    generalize kindM m = kd at *
    generalize sizeM m = q at *
    have t0 : (kd == 0) = false := by rcases hk with h | h <;> rw [h] <;> rfl
    have t1 : (kd == 1) = false := by rcases hk with h | h <;> rw [h] <;> rfl
    clear hk m0 m1
    go_wp2_with (go_at_call 39; refine hi.mono ?_; rintro e w1 ⟨rfl, q1, q2⟩; have hrow := blk_grown HV.out.res q2 (by omega); replace r0 := blk_cell hrow 0 rfl; replace r1 := blk_cell hrow 1 rfl; replace r2 := blk_cell hrow 2 rfl; replace r3 := blk_frozen hrow 0; replace r4 := blk_frozen hrow 1; replace r5 := blk_frozen hrow 2)
    refine bodyPost_ret (results_pair rfl _ _ w.heap.size _ _ _ rfl (blk_set (blk_set (blk_set hrow 0 _) 1 _) 2 _) Try.underlying32 rfl (by kernel_rfl)) rfl ?_
    rw [← HX.out]
    exact ⟨rfl, rd_other (rd_other (rd_other q1 (by omega) _ _) (by omega) _ _) (by omega) _ _, grown_set (grown_set (grown_set (Lib.grownBy_trans HV.out.grown q2) (by omega) _ _) (by omega) _ _) (by omega) _ _⟩
end Go.Proofs.Ytpkhbafgepdogaa
