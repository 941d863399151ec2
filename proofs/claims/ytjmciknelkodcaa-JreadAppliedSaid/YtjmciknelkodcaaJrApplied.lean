/-
  The statement JreadApplied as a walk: it returns true for every input and changes nothing that was there. Condition: numbers are ints.
-/
import Derived.Test.YtjmciknelkodcaaJrWorks
namespace Go.Proofs.Ytjmciknelkodcaa
open Go.RowKit

theorem drewn_below {w W : World} {n : Nat} (h : Below w.heap.size w W) : Below w.heap.size w (W.drewN n) := ⟨h.os, h.tape, h.output, h.size, h.block⟩
theorem drewn_recs {W : World} {n : Nat} {a : Option Addr} {L : List R11} (h : Recs W a L) : Recs (W.drewN n) a L := h
theorem drewn_blk {W : World} {n g : Nat} {t : TypeId} {cs : Array Value} (h : Blk W g t cs) : Blk (W.drewN n) g t cs := h
theorem blk4_of {v : World} {g : Nat} {t : TypeId} {x y z u : Value} (h : Blk v g t #[x, y, z, u]) : v.cell? ⟨g, 0, none⟩ = some x ∧ v.cell? ⟨g, 1, none⟩ = some y ∧ v.cell? ⟨g, 2, none⟩ = some z ∧ v.cell? ⟨g, 3, none⟩ = some u := ⟨blk_cell h 0 rfl, blk_cell h 1 rfl, blk_cell h 2 rfl, blk_cell h 3 rfl⟩

def okB (r : R11) : Prop := 1 ≤ r.n ∧ r.n ≤ 30 ∧ r.d.length = 512
def PreB (l : List R11) (q : Nat) : Prop := ∀ j (hj : j < l.length), j < q → okB l[j] ∧ ∀ k (hk : k < l.length), k < j → l[k].n ≠ l[j].n

set_option maxRecDepth 100000 in
set_option maxHeartbeats 4000000 in
theorem applied_any (a : Option Addr) (cap : Nat) (l : List R11) (p : Int) (s : ByteArray) (w : World) (hl : l.length ≤ 140737488351232) (hi : IntsR l) (ha : Recs w a l) (p1 : -9223372036854775808 ≤ p) (p2 : p ≤ 9223372036854775807) (hs : s.size ≤ 9223372036854775807) :
    Calls Try.prog 6 #[.slice a l.length cap, .int .i64 p, .string s] w fun e w' => e = .returned (.bool true) ∧ Below w.heap.size w w' := by
  have kg := fun (V : World) (h : Recs V a l) => great11_any a cap l V (by omega) h (fun r hr => (hi r hr).2)
  have HA := Lib.hid ha
  obtain ⟨gr, hgr⟩ : ∃ gr, gr = greatQ l 0 := ⟨_, rfl⟩
  rw [← hgr] at kg
  by_cases hskip : gr = true ∨ 5000 < s.size ∨ 30 < p
  · have hcs : gr = true ∨ (gr = false ∧ (5000 : Int) < s.size) ∨ (gr = false ∧ ¬ (5000 : Int) < s.size ∧ 30 < p) := by
      cases gr
      · by_cases h5 : 5000 < s.size
        · exact .inr (.inl ⟨rfl, by omega⟩)
        · refine .inr (.inr ⟨rfl, by omega, ?_⟩)
          rcases hskip with h | h | h
          · cases h
          · omega
          · exact h
      · exact .inl rfl
    clear hgr hskip
    obtain ⟨len, hlen⟩ : ∃ len, len = l.length := ⟨_, rfl⟩
    rw [← hlen] at kg ⊢
    clear hlen hl
    rcases hcs with rfl | ⟨rfl, h5⟩ | ⟨rfl, h5, h6⟩
    all_goals (
      go_enter Try.func6, Try.ntmps6
      go_wp2_with (first
        | (go_at_call 10; (with_reducible refine (works11_any _).mono ?_); rintro e w1 ⟨rfl, b1⟩; have HB1 := Lib.hid b1; clear b1)
        | (go_at_call 11; refine (kg _ (recs_next HA.out HB1.out)).mono ?_; rintro e w2 ⟨rfl, rfl⟩))
      go_ret
      exact ⟨rfl, HB1.out⟩)
  have hg0 : gr = false := by
    cases gr
    · rfl
    · exact absurd (.inl rfl) hskip
  have hgf := greatQ_false l 0 (by rw [← hgr, hg0])
  have hll : l.length ≤ 31 := by
    rcases hgf.1 with h | h
    · rw [h]; simp
    · omega
  rw [hg0] at kg
  have h5 : ¬ (5000 : Int) < s.size := by omega
  have h6 : ¬ 30 < p := fun h => hskip (.inr (.inr h))
  have h5b : s.size ≤ 5000 := by omega
  clear hg0 hgr hgf hskip
  have ko := fun (V : World) (h : Recs V a l) => own11_any a cap l V (by omega) h
  obtain ⟨len, hlen⟩ : ∃ len, len = l.length := ⟨_, rfl⟩
  have HL := Lib.hid hlen
  rw [← hlen] at kg ko hll ⊢
  clear hl hlen
  go_enter Try.func6, Try.ntmps6
  go_upto_region 6 with (first
    | (go_at_call 10; (with_reducible refine (works11_any _).mono ?_); rintro e w1 ⟨rfl, b1⟩; have HB1 := Lib.hid b1; clear b1)
    | (go_at_call 11; refine (kg _ (recs_next HA.out HB1.out)).mono ?_; rintro e w2 ⟨rfl, rfl⟩)
    | (go_at_call 13; refine (ko _ (recs_next HA.out HB1.out)).mono ?_; rintro e w3 ⟨b3, a', cap', rfl, hrec⟩))
  have HB3 := Lib.hid (HB1.out.trans (b3.mono HB1.out.size))
  have HA3 := recs_next HA.out HB3.out
  have HJ := Lib.hid (blk_new w3 25 #[.int .i64 0, .int .i64 p, .slice a' len cap', .string ⟨#[]⟩])
  have HB4 := Lib.hid (HB3.out.alloc HB3.out.size (.cells #[.int .i64 0, .int .i64 p, .slice a' len cap', .string ⟨#[]⟩] 25))
  have HA4 := Lib.hid (recs_alloc HA3 (.cells #[.int .i64 0, .int .i64 p, .slice a' len cap', .string ⟨#[]⟩] 25))
  have HR4 := Lib.hid (recs_alloc hrec (.cells #[.int .i64 0, .int .i64 p, .slice a' len cap', .string ⟨#[]⟩] 25))
  clear HB3 HA3 hrec b3 HB1 ko kg HA ha
  revert HJ HB4 HA4 HR4
  generalize w3.alloc (.cells #[.int .i64 0, .int .i64 p, .slice a' len cap', .string ⟨#[]⟩] 25) = W4
  generalize w3.heap.size = g
  intro HJ HB4 HA4 HR4
  clear w3 w1
  go_wp2
  go_loopw [8] (fun i wr => ∃ q dn : Nat, q ≤ len ∧ i = .int .i64 q ∧ Hid (PreB l q) ∧ wr = W4.drewN dn) (fun i _ => len - (intOf i).toNat)
  case atStart => exact ⟨0, 0, by omega, rfl, Lib.hid (fun j hj h => absurd h (by omega)), rfl⟩
  case round =>
    obtain ⟨q, dn, hq, rfl, hP, rfl⟩ := hrel
    by_cases hlt : q < len
    case pos =>
      have hlt' : q < l.length := by have := HL.out; omega
      obtain ⟨b, off, rfl, hbw, c0, c1⟩ := HA4.out q hlt'
      obtain ⟨x, hx⟩ : ∃ x, x = l[q] := ⟨_, rfl⟩
      have HLT := Lib.hid hlt'
      have HX := Lib.hid (show x = l[q]'HLT.out from hx)
      rw [← hx] at c0 c1
      obtain ⟨n, hn⟩ : ∃ n, n = x.n := ⟨_, rfl⟩
      obtain ⟨d, hd⟩ : ∃ d, d = ba x.d := ⟨_, rfl⟩
      rw [← hn] at c0
      rw [← hd] at c1
      have HN := Lib.hid hn; have HD := Lib.hid (show d.size = x.d.length by rw [hd, ba_size])
      have t1 : (q : Int) < len := by omega
      clear hx hn hd hlt'
      by_cases hc : 1 ≤ n ∧ n ≤ 30 ∧ (d.size : Int) = 512
      case neg =>
        have hcs : 30 < n ∨ (n ≤ 30 ∧ n < 1) ∨ (n ≤ 30 ∧ 1 ≤ n ∧ ¬ (d.size : Int) = 512) := by
          by_cases h1 : 1 ≤ n
          · by_cases h2 : n ≤ 30
            · exact .inr (.inr ⟨h2, h1, fun h3 => hc ⟨h1, h2, h3⟩⟩)
            · exact .inl (by omega)
          · exact .inr (.inl ⟨by omega, by omega⟩)
        clear hc
        rcases hcs with h1 | ⟨h1, h2⟩ | ⟨h1, h2, h3⟩
        · go_wp2
          go_ret
          exact ⟨rfl, drewn_below HB4.out⟩
        · go_wp2
          go_ret
          exact ⟨rfl, drewn_below HB4.out⟩
        · have e3 : ((d.size : Int) != 512) = true := by simp [h3]
          go_wp2
          go_ret
          exact ⟨rfl, drewn_below HB4.out⟩
      obtain ⟨h1, h2, h3⟩ := hc
      have e3 : ((d.size : Int) != 512) = false := by simp [h3]
      have HXO := Lib.hid (show okB x from ⟨by rw [← HN.out]; exact h1, by rw [← HN.out]; exact h2, by have := HD.out; omega⟩)
      go_wp2
      go_loopw [9] (fun i wr => ∃ k dm : Nat, k ≤ q ∧ i = .int .i64 k ∧ Hid (∀ j (hj : j < l.length), j < k → l[j].n ≠ n) ∧ wr = W4.drewN dm) (fun i _ => q - (intOf i).toNat)
      case atStart => exact ⟨0, dn, by omega, rfl, Lib.hid (fun j hj h => absurd h (by omega)), rfl⟩
      case round =>
        obtain ⟨k, dm, hk, rfl, hN, rfl⟩ := hrel
        by_cases hlk : k < q
        case neg =>
          have t2 : ¬ (k : Int) < q := by omega
          have hkq : k = q := by omega
          have HN2 := Lib.hid (show PreB l (q + 1) from fun j hj h => by
            by_cases e : j < q
            · exact hP.out j hj e
            · have e : j = q := by omega
              subst e
              rw [← HX.out]
              exact ⟨HXO.out, fun i hi h => by rw [← HN.out]; exact hN.out i hi (by omega)⟩)
          clear hkq
          go_wp2
          go_roundw
          case rel => exact ⟨q + 1, _, by omega, by go_num, HN2, rfl⟩
          case measure => simp [intOf]; omega
        have hlk' : k < l.length := by have := HLT.out; omega
        obtain ⟨b', off', e, hbw', d0, d1⟩ := HA4.out k hlk'
        obtain ⟨rfl, rfl⟩ : b = b' ∧ off = off' := by injection e with e; injection e with e1 e2; exact ⟨e1, e2⟩
        have HLK := Lib.hid hlk'
        obtain ⟨y, hy⟩ : ∃ y, y = (l[k]'hlk').n := ⟨_, rfl⟩
        have HY := Lib.hid (show y = (l[k]'HLK.out).n from hy)
        rw [← hy] at d0
        have t2 : (k : Int) < q := by omega
        clear hy hlk' d1 c1 e
        by_cases hyn : y = n
        · have e1 : (y == n) = true := by simp [hyn]
          subst hyn
          go_upto_region 14 with (fail)
          go_quiet (fail)
          go_wp2
          go_ret
          exact ⟨rfl, by first | exact drewn_below HB4.out | exact drewn_below (drewn_below HB4.out)⟩
        · have e1 : (y == n) = false := by simp [hyn]
          have HNE := Lib.hid hyn
          go_upto_region 14 with (fail)
          go_quiet (fail)
          go_wp2
          go_roundw
          case rel => exact ⟨k + 1, _, by omega, by go_num, Lib.hid (fun j hj h => by
            by_cases e : j < k
            · exact hN.out j hj e
            · have e : j = k := by omega
              subst e
              rw [← HY.out]; exact HNE.out), by first | rfl | rw [World.drewN_drewN]⟩
          case measure => simp [intOf]; omega
    have HP := Lib.hid (show PreB l l.length from fun j hj _ => hP.out j hj (by have := HL.out; omega))
    have t1 : ¬ (q : Int) < len := by omega
    clear hP
    obtain ⟨T, hT⟩ : ∃ T, T = ba (apL p l s.data.toList) := ⟨_, rfl⟩
    have kA1 := fun (V : World) (h : Recs V a' l) => japply_any 0 p a' cap' l ⟨#[]⟩ s p1 p2 V (by omega) (by have := HL.out; omega) h
    have kA2 := fun (V : World) (h : Recs V a' l) => japply_any 0 p a' cap' l ⟨#[]⟩ T p1 p2 V (by rw [hT, ba_size, apL_len]; have := clN_le p; omega) (by have := HL.out; omega) h
    rw [show apL p l T.data.toList = apL p l s.data.toList by rw [hT, ba_list, apL_twice], ← hT] at kA2
    rw [← hT] at kA1
    have HT := Lib.hid hT
    have hz : T.size = clN p * 512 := by rw [hT, ba_size, apL_len]
    have hzm : IntKind.i64.wrap (max p 0 * 512) = (T.size : Int) := by
      rw [aw64 (by omega) (by omega), hz]
      unfold clN; omega
    have e1 : (T.toList != T.toList) = false := by simp
    have e2 : ((T.size : Int) != (T.size : Int)) = false := by simp
    have HZ := Lib.hid hz
    have hz2 : T.size ≤ 20000 := by rw [hz]; unfold clN; omega
    rw [← HL.out] at kA1 kA2
    have j0 := blk4_of HJ.out
    obtain ⟨j0, j1, j2, j3⟩ := j0
    clear hT hz
    go_upto_region 17 with (go_at_call 17; (refine (kA1 _ (drewn_recs HR4.out)).mono ?_); rintro e w5 ⟨rfl, b5⟩)
    have HB5 := Lib.hid ((drewn_below HB4.out).trans (b5.mono (drewn_below (n := dn) HB4.out).size))
    have HR5 := Lib.hid (recs_next (drewn_recs (n := dn) HR4.out) b5)
    have HA5 := Lib.hid (recs_next (drewn_recs (n := dn) HA4.out) b5)
    have HJ5 := Lib.hid (blk_below (drewn_blk (n := dn) HJ.out) b5)
    clear b5 HJ HB4 HA4 HR4 j0 j1 j2 j3 kA1
    obtain ⟨j0, j1, j2, j3⟩ := blk4_of HJ5.out
    go_upto_region 19 with (go_at_call 17; (refine (kA2 _ HR5.out).mono ?_); rintro e w6 ⟨rfl, b6⟩)
    have HB6 := Lib.hid (HB5.out.trans (b6.mono HB5.out.size))
    have HA6 := Lib.hid (recs_next HA5.out b6)
    clear b6 HJ5 HB5 HA5 HR5 j0 j1 j2 j3 kA2 hzm e1 e2
    go_wp2
    go_loopw [11] (fun i wr => ∃ q dn : Nat, q ≤ len ∧ i = .int .i64 q ∧ wr = w6.drewN dn) (fun i _ => len - (intOf i).toNat)
    case atStart => exact ⟨0, 0, by omega, rfl, rfl⟩
    case round =>
      obtain ⟨q, dn, hq, rfl, rfl⟩ := hrel
      by_cases hlt : q < len
      case neg =>
        have t1 : ¬ (q : Int) < len := by omega
        go_wp2
        go_ret
        exact ⟨rfl, drewn_below HB6.out⟩
      have hlt' : q < l.length := by have := HL.out; omega
      obtain ⟨b, off, rfl, hbw, c0, c1⟩ := HA6.out q hlt'
      have ok := (HP.out q hlt' hlt').1
      have hne := (HP.out q hlt' hlt').2
      have hne2 : ∀ k (hk : k < l.length), q < k → l[k].n ≠ l[q].n := fun k hk h e => (HP.out k hk hk).2 q hlt' h e.symm
      have hpg : l[q].n ≤ p → T.extract (atA l[q]) (atA l[q] + 512) = ba l[q].d := fun hp => by
        rw [sext_mid, HT.out, ba_list, Nat.add_sub_cancel_left, apL_page hlt' (okA_iff.2 ⟨ok.1, by have := ok.2.1; unfold clN; omega, ok.2.2⟩) hne2]
      have hbd : l[q].n ≤ p → atA l[q] + 512 ≤ T.size := fun hp => by
        rw [HZ.out]
        exact atA_le (okA_iff.2 ⟨ok.1, by have := ok.2.1; unfold clN; omega, ok.2.2⟩)
      have hat : ((atA l[q] : Nat) : Int) = (l[q].n - 1) * 512 := by have := ok.1; unfold atA; omega
      obtain ⟨n1, n2, n3⟩ := ok
      obtain ⟨o, ho⟩ : ∃ o, o = atA l[q] := ⟨_, rfl⟩
      rw [← ho] at hpg hbd hat
      obtain ⟨n, hn⟩ : ∃ n, n = l[q].n := ⟨_, rfl⟩
      obtain ⟨d, hd⟩ : ∃ d, d = ba l[q].d := ⟨_, rfl⟩
      rw [← hn] at c0 hpg hbd hat n1 n2
      rw [← hd] at c1 hpg
      have t1 : (q : Int) < len := by omega
      obtain ⟨x7, hx7⟩ : ∃ x7, x7 = n - 1 := ⟨_, rfl⟩
      have hw7 : IntKind.i64.wrap (n - 1) = x7 := by rw [hx7]; exact aw64 (by omega) (by omega)
      have hw8 : IntKind.i64.wrap (x7 * 512) = (o : Int) := by rw [hx7, aw64 (by omega) (by omega)]; omega
      have ho2 : o ≤ 20000 := by omega
      have HAT := Lib.hid hat
      clear hat hx7 n3 hn hd ho hne hne2 hlt'
      by_cases hp : n ≤ p
      case neg =>
        have t2 : decide (n ≤ p) = false := decide_eq_false hp
        clear hpg hbd
        go_upto_region 23 with (fail)
        go_quiet (fail)
        go_wp2
        go_roundw
        case rel => exact ⟨q + 1, _, by omega, by go_num, by first | rfl | rw [World.drewN_drewN]⟩
        case measure => simp [intOf]; omega
      have t2 : decide (n ≤ p) = true := decide_eq_true hp
      have hpg := hpg hp
      have hbd := hbd hp
      have i3 : ((o : Nat) : Int).toNat = o := by omega
      have i4 : ((o : Int) + 512).toNat = o + 512 := by omega
      have i5 : IntKind.i64.wrap ((o : Int) + 512) = (o : Int) + 512 := aw64 (by omega) (by omega)
      have e1 : (d.toList != d.toList) = false := by simp
      have sl : ∀ w : World, (Instr.slice 9 (.string T) (some (.int .i64 (o : Int))) (some (.int .i64 ((o : Int) + 512))) none).run Try.prog w = .ok (.string d) w := fun w => by
        have := run_slice_string (P := Try.prog) w 9 T .i64 .i64 (o : Int) ((o : Int) + 512) Try.underlying9 (by omega) (by omega) (by omega)
        rw [i3, i4, hpg] at this
        exact this
      go_upto_region 23 with (fail)
      go_quiet (fail)
      go_wp2
      go_roundw
      case rel => exact ⟨q + 1, _, by omega, by go_num, by first | rfl | rw [World.drewN_drewN]⟩
      case measure => simp [intOf]; omega
end Go.Proofs.Ytjmciknelkodcaa
