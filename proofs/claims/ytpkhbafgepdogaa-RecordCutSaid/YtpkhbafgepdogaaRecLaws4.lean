/-
  Layer 5, the law RecordCut: it returns true, and changes nothing that was there. Condition: none beyond the memory's own (strings of at most 2^47 - 4096 bytes).
-/
import Derived.Test.YtpkhbafgepdogaaRecLaws3
namespace Go.Proofs.Ytpkhbafgepdogaa
open Go.RowKit

theorem enc_pos (l : List Val) : 1 ≤ (encL l).length := by
  have := lenN_ge l.length
  rw [encL, List.length_append, putL_length]; omega
theorem col_back {l : List Val} {p : List UInt8} (h : decR p = (l, 0)) {k : Nat} (hk : k < l.length) : colR p (k : Int) = (l[k], 0) := by
  rw [colR, h]
  simp only [if_true]
  rw [if_pos (by omega), Int.toNat_natCast, getD_in _ _ hk]
theorem wrap_u64_bd (z : Int) : 0 ≤ IntKind.u64.wrap z ∧ IntKind.u64.wrap z < 18446744073709551616 := by rw [IntKind.wrap_u64]; omega

set_option maxRecDepth 100000 in
set_option maxHeartbeats 2000000 in
theorem cut_any (a : Option Addr) (cap : Nat) (l : List Val) (c : Int) (w : World) (hl : l.length ≤ 9223372036854775807) (ha : Vals w a l) :
    Calls Try.prog 6 #[.slice a l.length cap, .int .i64 c] w fun e w' => e = .returned (.bool true) ∧ Below w.heap.size w w' := by
  have hga := fun w' (h : Below w.heap.size w w') => great_any a cap l w' hl (vals_next ha h)
  have hw := works_any
  have hea := fun w' (h : Below w.heap.size w w') => encode_any a cap l w' hl (vals_next ha h)
  have hna := vals_n ha
  have HVA := Lib.hid ha
  clear ha
  generalize greatZ l 0 0 = ga at hga
  cases ga with
  | true =>
    go_enter Try.func6, Try.ntmps6
    go_wp2_with (first
      | (go_at_call 11; refine (hw _).mono ?_; rintro e w0 ⟨rfl, b0⟩)
      | (go_at_call 7; refine (hga _ b0).mono ?_; rintro e w1 ⟨rfl, rfl⟩))
    go_ret
    exact ⟨rfl, b0⟩
  | false =>
  by_cases h0 : (encR l).2 = 0
  · obtain ⟨e0, e1⟩ := encR_ok h0
    have hl16 := (err_all.1 e0).1
    have hdb := enc_back h0 hna
    have hcut := fun k hk => dec_cut e0 hna k hk
    have hpl := enc_len (l := l)
    rw [e1] at hea hdb hpl
    have hpos := enc_pos l
    generalize encL l = p at *
    simp only at hea hdb hpl
    rw [show (⟨p.toArray⟩ : ByteArray) = bz p from rfl] at hea
    clear h0 e0 e1
    obtain ⟨len, hlen⟩ : ∃ len, len = l.length := ⟨_, rfl⟩
    have HL := Lib.hid hlen
    rw [← hlen] at hea hga hl hl16 ⊢
    clear hlen
    have HD := Lib.hid hdb; have HC := Lib.hid hcut
    clear hdb hcut
    have hps : (bz p).size = p.length := bz_size p
    have hp1 : 1 ≤ (bz p).size := by omega
    have hp2 : (bz p).size ≤ 16153 := by omega
    have HPS := Lib.hid hps; clear hps
    go_enter Try.func6, Try.ntmps6
    go_wp2_with (first
      | (go_at_call 11; refine (hw _).mono ?_; rintro e w0 ⟨rfl, b0⟩)
      | (go_at_call 7; refine (hga _ b0).mono ?_; rintro e w1 ⟨rfl, rfl⟩)
      | (go_at_call 8; refine (hea _ b0).mono ?_; rintro e w2 ⟨rfl, b2⟩; replace b0 := nxt b0 b2))
    have HB0 := Lib.hid b0
    clear b0 b2 hea hga
    go_loopw [7] (fun i wr => ∃ k : Nat, k ≤ len ∧ i = .int .i64 k ∧ Hid (Below w.heap.size w wr)) (fun i _ => len - (intOf i).toNat)
    case atStart => exact ⟨0, by omega, rfl, HB0⟩
    case round =>
      obtain ⟨k, hk, rfl, hB⟩ := hrel
      clear HB0
      by_cases hlt : k < len
      · have hlt' : k < l.length := by have := HL.out; omega
        have hcol := fun w => column_any p (k : Int) w (by omega)
        rw [col_back HD.out hlt'] at hcol
        have hv := fun w' (h : Below w.heap.size w w') => vals_next HVA.out h k hlt'
        have hq : ∀ k n s (w : World), (binOp .neq 32 (.agg #[.int .i64 k, .int .i64 n, .string s]) (.agg #[.int .i64 k, .int .i64 n, .string s])).run Try.prog w = .ok (.bool false) w := fun k n s w => by rw [run_neqV, eqV_self]; rfl
        generalize l[k] = v at *
        obtain ⟨k1, n1, s1⟩ := v
        simp only [aggV] at hcol hv
        have hq1 := hq k1 n1 s1
        have hgu := guardV
        have j0 : (0 : Int) ≤ k := by omega
        have j1 : (k : Int) < len := by omega
        clear hlt' hq
        go_upto_region 12 with (go_at_call 14; refine (hcol _).mono ?_; rintro e w3 ⟨b3, rfl⟩)
        have HB3 := Lib.hid (nxt (nxt hB.out b3) (below_alloc _ (.cells #[.int .i64 k1, .int .i64 n1, .string s1] 32)))
        obtain ⟨-, -, g, off, rfl, hgl, g0, g1, g2⟩ := hv _ HB3.out
        have hrow := blk_new w3 32 #[.int .i64 k1, .int .i64 n1, .string s1]
        obtain ⟨W3, hW3⟩ : ∃ W3, w3.alloc (.cells #[.int .i64 k1, .int .i64 n1, .string s1] 32) = W3 := ⟨_, rfl⟩
        rw [hW3] at HB3 hgl g0 g1 g2 hrow ⊢
        have r0 := blk_cell hrow 0 rfl; have r1 := blk_cell hrow 1 rfl; have r2 := blk_cell hrow 2 rfl
        clear hW3 hrow hv b3 hcol
        go_quiet (fail)
        go_wp2
        go_roundw
        case rel => exact ⟨k + 1, by omega, by go_num, Lib.hid (HB3.out.trans ⟨rfl, rfl, rfl, Nat.le_refl _, fun _ _ => rfl⟩)⟩
        case measure => simp [intOf]; omega
      · have hz := wrap_u64_bd c
        obtain ⟨z, hze⟩ : ∃ z, z = IntKind.u64.wrap c := ⟨_, rfl⟩
        have wz : IntKind.u64.wrap c = z := hze.symm
        rw [← hze] at hz
        clear hze
        have wl : IntKind.u64.wrap ((bz p).size : Int) = (bz p).size := by rw [IntKind.wrap_u64]; omega
        obtain ⟨j, hj⟩ : ∃ j : Nat, z.tmod ((bz p).size : Int) = (j : Int) := ⟨(z.tmod ((bz p).size : Int)).toNat, by
          rw [Int.tmod_eq_emod_of_nonneg hz.1]
          have := Int.emod_nonneg z (show ((bz p).size : Int) ≠ 0 by omega)
          omega⟩
        have hjl : (j : Int) < (bz p).size := by
          rw [← hj, Int.tmod_eq_emod_of_nonneg hz.1]
          exact Int.emod_lt_of_pos z (by omega)
        have hj2 : j < p.length := by have := HPS.out; omega
        have hjs : j ≤ (bz p).size := by omega
        have wj : wrap64 (j : Int) = j := mk_d j (by omega)
        have hdec := fun w => decode_any (p.take j) w (by rw [List.length_take]; omega)
        have hne := HC.out j hj2
        rw [dec_none hne] at hdec
        generalize (decR (p.take j)).2 = f at *
        have t1 : (f != 0) = true := by simpa using hne
        rw [← bz_take] at hdec
        clear hz hne
        go_wp2_with (first
          | (go_at_call 12; refine (hdec _).mono ?_; rintro e w5 ⟨b5, a5, cap5, rfl, v5⟩)
          | (go_at_call 15; refine (same_self a5 none cap5 0 [] _ (by simp) (vals_nil _ _) (vals_nil _ _)).mono ?_; rintro e w6 ⟨rfl, b6⟩))
        go_ret
        exact ⟨rfl, nxt (nxt hB.out b5) b6⟩
  · have hn0 : encR l = ([], errE l) ∧ errE l ≠ 0 := by
      unfold encR at *
      split at h0
      · exact absurd rfl h0
      · rename_i h1; rw [if_neg h1]; exact ⟨rfl, h1⟩
    rw [hn0.1] at hea
    replace hn0 := hn0.2
    generalize errE l = e at *
    have t1 : (e != 0) = true := by simpa using hn0
    clear h0 hn0 hna
    simp only at hea
    go_enter Try.func6, Try.ntmps6
    go_wp2_with (first
      | (go_at_call 11; refine (hw _).mono ?_; rintro e w0 ⟨rfl, b0⟩)
      | (go_at_call 7; refine (hga _ b0).mono ?_; rintro e w1 ⟨rfl, rfl⟩)
      | (go_at_call 8; refine (hea _ b0).mono ?_; rintro e w2 ⟨rfl, b2⟩; replace b0 := nxt b0 b2))
    go_ret
    exact ⟨rfl, b0⟩
end Go.Proofs.Ytpkhbafgepdogaa
