/-
  Layer 11, the statement JreadReads as a walk; same on journals that are alike: it returns true and changes nothing that was there. Condition: none beyond the memory's own.
-/
import Derived.Test.YtjmciknelkodcaaJrWorks
import Derived.Test.YtjmciknelkodcaaJrRef3
namespace Go.Proofs.Ytjmciknelkodcaa
open Go.RowKit

set_option maxRecDepth 100000 in
set_option maxHeartbeats 4000000 in
theorem same11_any (k p : Int) (a a' : Option Addr) (cap cap' : Nat) (L : List R11) (sp : ByteArray) (w : World) (hl : L.length ≤ 4611686018427387904) (h1 : Recs w a L) (h2 : Recs w a' L) :
    Calls Try.prog 7 #[.agg #[.int .i64 k, .int .i64 p, .slice a L.length cap, .string sp], .agg #[.int .i64 k, .int .i64 p, .slice a' L.length cap', .string sp]] w fun e w' => e = .returned (.bool true) ∧ Below w.heap.size w w' := by
  obtain ⟨len, hlen⟩ : ∃ len, len = L.length := ⟨_, rfl⟩
  rw [← hlen] at hl ⊢
  have HL := Lib.hid hlen; clear hlen
  obtain ⟨W0, hW0⟩ : ∃ W0, W0 = (w.alloc (.cells #[.int .i64 k, .int .i64 p, .slice a len cap, .string sp] 25)).alloc (.cells #[.int .i64 k, .int .i64 p, .slice a' len cap', .string sp] 29) := ⟨_, rfl⟩
  have hB : Below w.heap.size w W0 := by rw [hW0]; exact blw2 _ _ _
  have HJ := Lib.hid (show Blk W0 w.heap.size 25 #[.int .i64 k, .int .i64 p, .slice a len cap, .string sp] by rw [hW0]; exact blk_alloc (blk_new _ _ _) _)
  have HQ := Lib.hid (show Blk W0 (w.heap.size + 1) 29 #[.int .i64 k, .int .i64 p, .slice a' len cap', .string sp] by rw [hW0]; exact blk_at (by simp))
  have H1 := Lib.hid (recs_next h1 hB); have H2 := Lib.hid (recs_next h2 hB)
  have HB := Lib.hid hB
  have HW := Lib.hid hW0
  have b1 : ((sp.toList == sp.toList) : Bool) = true := by simp
  clear h1 h2 hB hW0
  go_enter Try.func7, Try.ntmps7
  go_upto_region 1 with (fail)
  rw [← HW.out]
  clear HW
  have j0 := blk_cell HJ.out 0 rfl
  have j1 := blk_cell HJ.out 1 rfl
  have j2 := blk_cell HJ.out 2 rfl
  have j3 := blk_cell HJ.out 3 rfl
  have q0 := blk_cell HQ.out 0 rfl
  have q1 := blk_cell HQ.out 1 rfl
  have q2 := blk_cell HQ.out 2 rfl
  have q3 := blk_cell HQ.out 3 rfl
  go_wp2
  go_loopw [5] (fun i wr => ∃ q : Nat, q ≤ len ∧ i = .int .i64 q ∧ ∃ n, wr = W0.drewN n) (fun i _ => len - (intOf i).toNat)
  case atStart => exact ⟨0, by omega, rfl, 0, rfl⟩
  case round =>
    obtain ⟨q, hq, rfl, dn, rfl⟩ := hrel
    by_cases hlt : q < len
    case neg =>
      have t1 : ¬ (q : Int) < len := by omega
      go_wp2
      go_ret
      exact ⟨rfl, HB.out.os, HB.out.tape, HB.out.output, HB.out.size, HB.out.block⟩
    have hlt' : q < L.length := by have := HL.out; omega
    obtain ⟨b, off, rfl, -, c0, c1⟩ := H1.out q hlt'
    obtain ⟨b', off', rfl, -, d0, d1⟩ := H2.out q hlt'
    obtain ⟨n, hn⟩ : ∃ n, n = L[q].n := ⟨_, rfl⟩
    obtain ⟨d, hd⟩ : ∃ d, d = ba L[q].d := ⟨_, rfl⟩
    rw [← hn] at c0 d0
    rw [← hd] at c1 d1
    clear hn hd hlt'
    have t1 : (q : Int) < len := by omega
    have e1 : (n != n) = false := by simp
    have e2 : (d.toList != d.toList) = false := by simp
    go_upto_region 6 with (fail)
    go_quiet (fail)
    go_wp2
    go_roundw
    case rel => exact ⟨q + 1, by omega, by go_num, _, rfl⟩
    case measure => simp [intOf]; omega

theorem rdG_bd : ∀ (f : Nat) (s : List UInt8) (j : Q11), j.L.length + s.length ≤ 1048576 → (rdG f s j).1.L.length ≤ 1048576 := by
  intro f
  induction f with
  | zero => intro s j h; show j.L.length ≤ _; omega
  | succ f ih =>
    intro s j h
    rw [rdG]
    cases hf : fsS s with
    | none => show j.L.length ≤ _; omega
    | some g =>
      simp only
      split
      · show j.L.length ≤ _; omega
      · obtain ⟨-, -, -, h1, h2⟩ := fsS_ok hf
        refine ih _ _ ?_
        have h3 := addR_len g.L j.L
        rw [h1, List.length_drop]
        show (addR j.L g.L).length + _ ≤ _
        omega
theorem rdJ_bd {s : List UInt8} (h : s.length ≤ 1048576) : (rdJ s).L.length ≤ 1048576 := rdG_bd _ _ _ (by simpa using h)

set_option maxRecDepth 100000 in
set_option maxHeartbeats 4000000 in
theorem jreads_any (s : ByteArray) (hs : s.size ≤ 9223372036854775807) (w : World) :
    Calls Try.prog 3 #[.string s] w fun e w' => e = .returned (.bool true) ∧ Below w.heap.size w w' := by
  by_cases h20 : 20000 < s.size
  · have t1 : (20000 : Int) < s.size := by omega
    go_enter Try.func3, Try.ntmps3
    go_wp2
    go_ret
    exact ⟨rfl, Below.refl _ _⟩
  have t1 : decide ((20000 : Int) < s.size) = false := decide_eq_false (by omega)
  obtain ⟨l, hl⟩ : ∃ l, l = s.data.toList := ⟨_, rfl⟩
  have hs2 : s = ba l := by rw [hl, ba_back]
  have hll : l.length ≤ 1048576 := by
    have := ba_size l
    rw [← hs2] at this
    omega
  have k1 := fun w => jread11_any l hll w
  have k2 := fun w => qread11_any l hll w
  have hbd := rdJ_bd hll
  unfold ReadQ at k2
  obtain ⟨⟨k, p, L, sp⟩, hJ⟩ : ∃ J : J11, J = rdJ l := ⟨_, rfl⟩
  rw [← hJ] at k1 k2 hbd
  rw [← hs2] at k1 k2
  simp only at k1 k2 hbd
  obtain ⟨S, hS⟩ : ∃ S, S = ba sp := ⟨_, rfl⟩
  rw [← hS] at k1 k2
  have HB := Lib.hid (Below.refl w.heap.size w)
  clear hJ hS hs2 hl hll h20 hs
  go_enter Try.func3, Try.ntmps3
  go_wp2_with (first
    | (go_at_call 8; (with_reducible refine (k1 _).mono ?_); rintro e w1 ⟨b1, a1, cap1, rfl, hr1⟩; have HR1 := Lib.hid hr1; have HB1 := Lib.hid b1; clear b1 hr1)
    | (go_at_call 9; (with_reducible refine (k2 _).mono ?_); rintro e w2 ⟨b2, a2, cap2, rfl, hr2⟩; have HR2 := Lib.hid (recs_next HR1.out b2); have HQ2 := Lib.hid hr2; have HB2 := Lib.hid (HB1.out.trans (b2.mono HB1.out.size)); clear b2 hr2)
    | (go_at_call 7; refine (same11_any (k : Int) p a1 a2 cap1 cap2 L S w2 (by omega) HR2.out HQ2.out).mono ?_; rintro e w3 ⟨rfl, b3⟩; have HB3 := Lib.hid (HB2.out.trans (b3.mono HB2.out.size)); clear b3)
    | (go_at_call 10; (with_reducible refine (works11_any _).mono ?_); rintro e w4 ⟨rfl, b4⟩))
  go_ret
  exact ⟨rfl, HB3.out.trans (b4.mono HB3.out.size)⟩
end Go.Proofs.Ytjmciknelkodcaa
