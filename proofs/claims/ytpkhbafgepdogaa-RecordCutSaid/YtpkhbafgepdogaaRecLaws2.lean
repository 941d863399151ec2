/-
  Layer 5, the law RecordDecodes: it returns true, and changes nothing that was there. Condition: the string has at most 2^47 - 4096 bytes.
-/
import Derived.Test.YtpkhbafgepdogaaRecLaws1
import Derived.Test.YtpkhbafgepdogaaRecSame
import Derived.StillTailTactics
namespace Go.Proofs.Ytpkhbafgepdogaa
open Go.RowKit

theorem nxt {w a b : World} (h : Below w.heap.size w a) (k : Below a.heap.size a b) : Below w.heap.size w b := h.trans (k.mono h.size)
theorem same_self (a a' : Option Addr) (cap cap' : Nat) (l : List Val) (w : World) (hl : l.length ≤ 16) (ha : Vals w a l) (ha' : Vals w a' l) :
    Calls Try.prog 15 #[.slice a l.length cap, .slice a' l.length cap'] w fun e w' => e = .returned (.bool true) ∧ Below w.heap.size w w' :=
  (same_any a a' cap cap' l l w (by omega) (by omega) ha ha').mono fun e w' ⟨r, he, hr, hb⟩ => ⟨by rw [he, hr.2 rfl], hb⟩
theorem decR_len (l : List UInt8) : (decR l).1.length ≤ 16 := by
  by_cases h0 : (decR l).2 = 0
  · exact (err_all.1 (enc_dec (s := l) (x := (decR l).1) (Prod.ext rfl h0)).2.1).1
  · rw [dec_none h0]; simp
theorem eqV_self (k n : Int) (s : ByteArray) : eqV k n s k n s = true := eqV_true.2 rfl

set_option maxRecDepth 100000 in
set_option maxHeartbeats 2000000 in
theorem decodes_any (l : List UInt8) (n : Int) (w : World) (hs : l.length ≤ 140737488351232) :
    Calls Try.prog 4 #[.string (bz l), .int .i64 n] w fun e w' => e = .returned (.bool true) ∧ Below w.heap.size w w' := by
  have hbz := bz_size l
  by_cases h5 : 5000 < l.length
  · have h5' : (5000 : Int) < (bz l).size := by omega
    clear hbz h5
    go_enter Try.func4, Try.ntmps4
    go_wp2
    go_ret
    exact ⟨rfl, Below.refl _ _⟩
  have h5' : ((bz l).size : Int) ≤ 5000 := by omega
  have h1 := fun w => decode_any l w hs
  have h2 := fun w => rdecode_any l w hs
  have h3 := fun w => column_any l n w hs
  have hlen := decR_len l
  have hno := dec_none (s := l)
  have hq := fun k n s => run_eqlV k n s k n s
  have hq' : ∀ k n s (w : World), (binOp .eql 32 (.agg #[.int .i64 k, .int .i64 n, .string s]) (.agg #[.int .i64 k, .int .i64 n, .string s])).run Try.prog w = .ok (.bool true) w := fun k n s w => by rw [run_eqlV, eqV_self]
  have hgu := guardV
  obtain ⟨C, hC⟩ : ∃ C, C = colR l n := ⟨_, rfl⟩
  rw [← hC] at h3
  unfold colR at hC
  obtain ⟨D, hD⟩ : ∃ D, D = decR l := ⟨_, rfl⟩
  rw [← hD] at h1 h2 hC hlen hno
  clear hD hq hbz h5
  obtain ⟨x, f⟩ := D
  simp only at h1 h2 hC hlen hno
  by_cases h0 : f = 0
  · rw [if_pos h0] at hC
    subst h0
    clear hno
    by_cases hn : 0 ≤ n ∧ n < x.length
    · rw [if_pos hn] at hC
      obtain ⟨n0, n1⟩ := hn
      obtain ⟨j, rfl⟩ : ∃ j : Nat, n = j := ⟨n.toNat, by omega⟩
      have hj : j < x.length := by omega
      rw [Int.toNat_natCast, getD_in _ _ hj] at hC
      subst hC
      have HX := Lib.hid (rfl : x[j] = x[j])
      simp only [aggV] at h3
      go_enter Try.func4, Try.ntmps4
      go_upto_region 12 with (first
        | (go_at_call 12; refine (h1 _).mono ?_; rintro e w1 ⟨b1, a1, cap1, rfl, v1⟩)
        | (go_at_call 13; refine (h2 _).mono ?_; rintro e w2 ⟨b2, a2, cap2, rfl, v2⟩)
        | (go_at_call 14; refine (h3 _).mono ?_; rintro e w3 ⟨b3, rfl⟩)
        | (go_at_call 15; refine (same_self a1 a2 cap1 cap2 x _ hlen (vals_next (vals_next (vals_next v1 b2) b3) (below_alloc _ _)) (vals_next (vals_next v2 b3) (below_alloc _ _))).mono ?_; rintro e w4 ⟨rfl, b4⟩; have hrow := blk_below (blk_new w3 32 _) b4; have r0 := blk_cell hrow 0 rfl; have r1 := blk_cell hrow 1 rfl; have r2 := blk_cell hrow 2 rfl; obtain ⟨-, -, g, off, rfl, hgl, g0, g1, g2⟩ := vals_next (vals_next (vals_next v2 b3) (below_alloc _ _)) b4 j hj))
      have HB := Lib.hid (nxt (nxt (nxt (nxt b1 b2) b3) (below_alloc _ _)) b4)
      clear b1 b2 b3 b4 v1 v2 hrow h1 h2 h3 HX
      have i0 : (0 : Int) ≤ j := by omega
      have hq1 := hq' x[j].k x[j].n x[j].s
      generalize x[j].k = k at *
      generalize x[j].n = nn at *
      generalize x[j].s = s at *
      go_still_tail 11, (by kernel_rfl)
      change wpList _ _ _ _ _ w4.drew
      generalize hwq : w4.drew = wq
      go_wp2_with (go_at_call 11; refine (works_any _).mono ?_; rintro e w5 ⟨rfl, b5⟩)
      go_ret
      exact ⟨rfl, nxt HB.out.drew (by rw [hwq]; exact b5)⟩
    · rw [if_neg hn] at hC
      subst hC
      simp only [aggV, val0] at h3
      have hn' : n < 0 ∨ (x.length : Int) ≤ n := by omega
      clear hn
      by_cases hn0 : n < 0
      · clear hn'
        go_enter Try.func4, Try.ntmps4
        go_wp2_with (first
          | (go_at_call 12; refine (h1 _).mono ?_; rintro e w1 ⟨b1, a1, cap1, rfl, v1⟩)
          | (go_at_call 13; refine (h2 _).mono ?_; rintro e w2 ⟨b2, a2, cap2, rfl, v2⟩)
          | (go_at_call 14; refine (h3 _).mono ?_; rintro e w3 ⟨b3, rfl⟩)
          | (go_at_call 15; refine (same_self a1 a2 cap1 cap2 x _ hlen (vals_next (vals_next (vals_next v1 b2) b3) (below_alloc _ _)) (vals_next (vals_next v2 b3) (below_alloc _ _))).mono ?_; rintro e w4 ⟨rfl, b4⟩; have hrow := blk_below (blk_new w3 32 _) b4; have r0 := blk_cell hrow 0 rfl; have r1 := blk_cell hrow 1 rfl; have r2 := blk_cell hrow 2 rfl))
        go_ret
        exact ⟨rfl, nxt (nxt (nxt (nxt b1 b2) b3) (below_alloc _ _)) b4⟩
      · have hn1 : (x.length : Int) ≤ n := by omega
        clear hn'
        go_enter Try.func4, Try.ntmps4
        go_wp2_with (first
          | (go_at_call 12; refine (h1 _).mono ?_; rintro e w1 ⟨b1, a1, cap1, rfl, v1⟩)
          | (go_at_call 13; refine (h2 _).mono ?_; rintro e w2 ⟨b2, a2, cap2, rfl, v2⟩)
          | (go_at_call 14; refine (h3 _).mono ?_; rintro e w3 ⟨b3, rfl⟩)
          | (go_at_call 15; refine (same_self a1 a2 cap1 cap2 x _ hlen (vals_next (vals_next (vals_next v1 b2) b3) (below_alloc _ _)) (vals_next (vals_next v2 b3) (below_alloc _ _))).mono ?_; rintro e w4 ⟨rfl, b4⟩; have hrow := blk_below (blk_new w3 32 _) b4; have r0 := blk_cell hrow 0 rfl; have r1 := blk_cell hrow 1 rfl; have r2 := blk_cell hrow 2 rfl))
        go_ret
        exact ⟨rfl, nxt (nxt (nxt (nxt b1 b2) b3) (below_alloc _ _)) b4⟩
  · rw [if_neg h0] at hC
    subst hC
    obtain rfl := hno h0
    have t1 : (f != 0) = true := by simpa using h0
    have H0 := Lib.hid h0
    clear hno h0
    simp only [aggV, val0] at h3
    go_enter Try.func4, Try.ntmps4
    go_wp2_with (first
      | (go_at_call 12; refine (h1 _).mono ?_; rintro e w1 ⟨b1, a1, cap1, rfl, v1⟩)
      | (go_at_call 13; refine (h2 _).mono ?_; rintro e w2 ⟨b2, a2, cap2, rfl, v2⟩)
      | (go_at_call 14; refine (h3 _).mono ?_; rintro e w3 ⟨b3, rfl⟩)
      | (go_at_call 15; refine (same_self a1 a2 cap1 cap2 [] _ (by simp) (vals_nil _ _) (vals_nil _ _)).mono ?_; rintro e w4 ⟨rfl, b4⟩; have hrow := blk_below (blk_new w3 32 #[.int .i64 0, .int .i64 0, .string ⟨#[]⟩]) b4; have r0 := blk_cell hrow 0 rfl; have r1 := blk_cell hrow 1 rfl; have r2 := blk_cell hrow 2 rfl))
    go_ret
    exact ⟨rfl, nxt (nxt (nxt (nxt b1 b2) b3) (below_alloc _ _)) b4⟩
end Go.Proofs.Ytpkhbafgepdogaa
