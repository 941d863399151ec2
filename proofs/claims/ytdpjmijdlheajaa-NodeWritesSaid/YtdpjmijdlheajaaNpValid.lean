/-
  Layer 16, the program's validCells, validKids, valid (annexe/node): may a node be, but for its length; they change nothing that was there. Condition: sizes of at most 2^60.
-/
import Derived.Test.YtdpjmijdlheajaaNpLeaf
import Derived.Test.YtdpjmijdlheajaaNdWrite
namespace Go.Proofs.Ytdpjmijdlheajaa
open Go.RowKit

theorem less_leq : ∀ a b : List UInt8, (Op.bytesLess a b || a == b) = !Op.bytesLess b a
  | [], [] => by simp [Op.bytesLess]
  | [], _ :: _ => by simp [Op.bytesLess]
  | _ :: _, [] => by simp [Op.bytesLess]
  | x :: a, y :: b => by
    have ih := less_leq a b
    unfold Op.bytesLess
    by_cases h1 : x < y
    · have h2 : ¬ y < x := fun h => absurd (UInt8.lt_trans h1 h) (UInt8.lt_irrefl _)
      have h3 : ¬ y = x := fun h => absurd (h ▸ h1) (UInt8.lt_irrefl _)
      have h4 : ¬ x = y := fun h => h3 h.symm
      simp [h1, h2, h3]
    · by_cases h2 : y < x
      · have h3 : ¬ y = x := fun h => absurd (h ▸ h2) (UInt8.lt_irrefl _)
        have h4 : ¬ x = y := fun h => h3 h.symm
        simp [h1, h2, h4]
      · have h3 : x = y := UInt8.le_antisymm (UInt8.not_lt.1 h2) (UInt8.not_lt.1 h1)
        subst h3
        simpa [h1] using ih
theorem nleq_run (a b : List UInt8) (w : World) : (binOp .leq 9 (.string (nb a)) (.string (nb b))).run Try.prog w = .ok (.bool (!Op.bytesLess b a)) w := by
  rw [← less_leq]
  simp [binOp, Op.stringOp, ByteArray.toList_eq, nb_list]
theorem bool_of (p : Prop) : ∃ z : Bool, z = true ↔ p := by
  classical exact ⟨decide p, by simp⟩
def CellsOk (n : Nod) : Prop := ∀ k (h : k < n.cells.length), CelOk n.leaf n.cells[k] ∧ RisAt n.cells k
def KidsOk (n : Nod) : Prop := if n.leaf = true then n.kids.length = 0 else n.kids.length = n.cells.length + 1 ∧ ∀ k (h : k < n.kids.length), KidOk n.kids[k]
theorem right_parts (n : Nod) : RightN n ↔ n.cells.length ≤ 65535 ∧ CellsOk n ∧ KidsOk n := by
  unfold RightN CellsOk KidsOk
  cases h : n.leaf with
  | true =>
    simp only [if_true]
    constructor
    · rintro ⟨a, b, c, d, -⟩
      exact ⟨by omega, a, d trivial⟩
    · rintro ⟨a, b, c⟩
      exact ⟨b, fun k hk => absurd hk (by omega), by omega, fun _ => c, fun h => nomatch h⟩
  | false =>
    simp only [Bool.false_eq_true, if_false]
    constructor
    · rintro ⟨a, b, c, -, e⟩
      exact ⟨by omega, a, e trivial, b⟩
    · rintro ⟨a, b, c, d⟩
      exact ⟨b, d, by omega, (fun h => nomatch h), fun _ => c⟩
set_option maxRecDepth 100000 in
set_option maxHeartbeats 4000000 in
theorem vcells_leaf (leaf : Bool) (n : Nod) (hlf : leaf = n.leaf) (ca ka : Option Addr) (cc kc : Nat) (w : World) (z : Bool) (hzz : z = true ↔ CellsOk n) (hz : NdSz n) (hc : Cls w ca n.cells) :
    Calls Try.prog 44 #[.agg #[.bool leaf, .slice ca n.cells.length cc, .slice ka n.kids.length kc]] w fun e w' => e = .returned (.bool z) ∧ Below w.heap.size w w' := by
  have HZZ := Lib.hid hzz
  obtain ⟨len, hlen⟩ : ∃ b, b = n.cells.length := ⟨_, rfl⟩
  obtain ⟨kn, hkn⟩ : ∃ b, b = n.kids.length := ⟨_, rfl⟩
  rw [← hlen, ← hkn]
  have hle : len ≤ 1152921504606846976 := by rw [hlen]; exact hz.cl
  have HLF := Lib.hid hlf; have HL := Lib.hid hlen
  have HC := Lib.hid hc
  clear hzz hz hlf hlen hkn hc
  go_enter Try.func44, Try.ntmps44
  go_wp2
  have hb := blk_new w 32 #[.bool leaf, .slice ca len cc, .slice ka kn kc]
  have hw := blw1 w (.cells #[.bool leaf, .slice ca len cc, .slice ka kn kc] 32)
  have HC1 := Lib.hid (cls_next HC.out hw); have HB1 := Lib.hid hw
  clear HC hw
  generalize w.alloc (.cells #[.bool leaf, .slice ca len cc, .slice ka kn kc] 32) = w1 at *
  have HCF := Lib.hid (fun W (hB : Below w1.heap.size w1 W) => show W.cell? ⟨w.heap.size, 0, none⟩ = some (.bool leaf) ∧ W.cell? ⟨w.heap.size, 1, none⟩ = some (.slice ca len cc) ∧ W.cell? ⟨w.heap.size, 2, none⟩ = some (.slice ka kn kc) from by
    have h := blk_below hb hB
    exact ⟨blk_cell h 0 rfl, blk_cell h 1 rfl, blk_cell h 2 rfl⟩)
  clear hb
  go_loopw [8] (fun i wr => ∃ k : Nat, k ≤ len ∧ i = .int .i64 k ∧ Hid (∀ j (h : j < n.cells.length), j < k → CelOk n.leaf n.cells[j] ∧ RisAt n.cells j) ∧ Hid (Below w1.heap.size w1 wr)) (fun i _ => len - (intOf i).toNat)
  case atStart => exact ⟨0, by omega, rfl, Lib.hid (fun j h h0 => absurd h0 (Nat.not_lt_zero j)), Lib.hid (Below.refl _ _)⟩
  case round =>
    obtain ⟨k, hk, rfl, hA, hB⟩ := hrel
    obtain ⟨j0, j1, j2⟩ := HCF.out _ hB.out
    by_cases hlt : k < len
    · have hlt' : k < n.cells.length := by have := HL.out; omega
      have t1 : (k : Int) < len := by omega
      obtain ⟨b, off, rfl, hbw, c0, c1, c2, c3⟩ := (cls_next HC1.out hB.out) k hlt'
      obtain ⟨x, hx⟩ : ∃ x, x = n.cells[k] := ⟨_, rfl⟩
      rw [← hx] at c0 c1 c2 c3
      have HX := Lib.hid hx
      have HPV := Lib.hid (fun (h0 : 0 < k) => by
        obtain ⟨b2, off2, he, -, d0, -⟩ := (cls_next HC1.out hB.out) (k - 1) (by omega)
        cases he
        exact (show wr.cell? ⟨b, off + (k - 1) * 4, none⟩ = some (.string (nb (n.cells[k - 1]'(by omega)).key)) from d0))
      clear hx
      obtain ⟨z1, hz1⟩ := bool_of (CelOk leaf x)
      have kc1 := fun W => cell_ok leaf x z1 hz1 W
      have HZ1 := Lib.hid hz1
      clear hz1
      go_upto_region 4 with (fail)
      have hn := blk_new wr 51 #[.string (nb x.key), .int .i64 x.len, .string (nb x.loc), .int .i64 x.ov]
      have hw := blw1 wr (.cells #[.string (nb x.key), .int .i64 x.len, .string (nb x.loc), .int .i64 x.ov] 51)
      have HPV2 := Lib.hid (fun W (h : Below (wr.alloc (.cells #[.string (nb x.key), .int .i64 x.len, .string (nb x.loc), .int .i64 x.ov] 51)).heap.size (wr.alloc (.cells #[.string (nb x.key), .int .i64 x.len, .string (nb x.loc), .int .i64 x.ov] 51)) W) h0 => ((hw.trans (h.mono (by simp))).cell (p := ⟨b, off + (k - 1) * 4, none⟩) hbw).trans (HPV.out h0))
      have HB5 := Lib.hid (hB.out.trans (hw.mono hB.out.size))
      clear hw c0 c1 c2 c3 j0 j1 j2 HPV hB
      generalize wr.alloc (.cells #[.string (nb x.key), .int .i64 x.len, .string (nb x.loc), .int .i64 x.ov] 51) = W5 at *
      have HCX := Lib.hid (fun W (hB : Below W5.heap.size W5 W) => show W.cell? ⟨wr.heap.size, 0, none⟩ = some (.string (nb x.key)) ∧ W.cell? ⟨wr.heap.size, 1, none⟩ = some (.int .i64 x.len) ∧ W.cell? ⟨wr.heap.size, 2, none⟩ = some (.string (nb x.loc)) ∧ W.cell? ⟨wr.heap.size, 3, none⟩ = some (.int .i64 x.ov) from by
        have h := blk_below hn hB
        exact ⟨blk_cell h 0 rfl, blk_cell h 1 rfl, blk_cell h 2 rfl, blk_cell h 3 rfl⟩)
      clear hn
      obtain ⟨d0, d1, d2, d3⟩ := HCX.out _ (Below.refl _ _)
      obtain ⟨j0, j1, j2⟩ := HCF.out _ HB5.out
      cases z1 with
      | false =>
        obtain rfl : z = false := iff_no HZZ.out fun h => by
          have := (h k hlt').1
          rw [← HX.out, ← HLF.out] at this
          exact nomatch HZ1.out.2 this
        go_wp2_with (go_at_call 63; (with_reducible refine (kc1 _).mono ?_); rintro e w6 ⟨rfl, hb6⟩; have HB6 := Lib.hid (HB5.out.trans (hb6.mono HB5.out.size)); clear hb6)
        go_ret
        exact ⟨rfl, HB1.out.trans (HB6.out.mono HB1.out.size)⟩
      | true =>
        have HO := Lib.hid (HZ1.out.1 rfl)
        go_upto_region 6 with (go_at_call 63; (with_reducible refine (kc1 _).mono ?_); rintro e w6 ⟨rfl, hb6⟩; have HBX := Lib.hid hb6; have HB6 := Lib.hid (HB5.out.trans (hb6.mono HB5.out.size)); clear hb6)
        obtain ⟨j0, j1, j2⟩ := HCF.out _ HB6.out
        obtain ⟨d0, -, -, -⟩ := HCX.out _ HBX.out
        have HPV3 := Lib.hid (HPV2.out _ HBX.out)
        have HBW := Lib.hid (HB1.out.trans (HB6.out.mono HB1.out.size))
        clear HPV2 kc1 HZ1 HCX
        by_cases hk0 : k = 0
        · subst hk0
          have HNX := Lib.hid (show ∀ j (h : j < n.cells.length), j < 0 + 1 → CelOk n.leaf n.cells[j] ∧ RisAt n.cells j from fun j h hj => by
            obtain rfl : j = 0 := by omega
            rw [← HX.out, ← HLF.out]
            exact ⟨HO.out, fun _ h => absurd h (by omega)⟩)
          have t3 : decide ((0 : Int) < ((0 : Nat) : Int)) = false := rfl
          go_quiet (fail)
          all_goals go_wp2
          all_goals go_roundw
          all_goals first
            | exact ⟨1, by omega, by go_num, HNX, Lib.hid (HB6.out.trans ⟨rfl, rfl, rfl, Nat.le_refl _, fun _ _ => rfl⟩)⟩
            | (simp [intOf]; omega)
        · have hk1 : 0 < k := by omega
          have t3 : decide ((0 : Int) < (k : Int)) = true := decide_eq_true (by omega)
          have p0 := HPV3.out hk1
          obtain ⟨y, hy⟩ : ∃ y, y = n.cells[k - 1]'(by omega) := ⟨_, rfl⟩
          rw [← hy] at p0
          have w1k : IntKind.i64.wrap ((k : Int) - 1) = (k : Int) - 1 := IntWalk.i64_in _ ⟨by omega, by omega⟩
          obtain ⟨k1, hk1e⟩ : ∃ k1 : Nat, k1 = k - 1 := ⟨_, rfl⟩
          have hkk : (k : Int) - 1 = (k1 : Int) := by omega
          rw [hkk] at w1k
          rw [← hk1e] at p0
          have q1 : (k1 : Int) < len := by omega
          have q2 : k1 < len := by omega
          have q3 : ¬ (k1 : Int) < 0 := by omega
          have hls := fun W => nleq_run x.key y.key W
          cases hlb : Op.bytesLess y.key x.key with
          | true =>
            have HNX := Lib.hid (show ∀ j (h : j < n.cells.length), j < k + 1 → CelOk n.leaf n.cells[j] ∧ RisAt n.cells j from fun j h hj => by
              by_cases e : j < k
              · exact hA.out j h e
              · obtain rfl : j = k := by omega
                refine ⟨by rw [← HX.out, ← HLF.out]; exact HO.out, fun h h0 => by rw [← HX.out, ← hy]; exact hlb⟩)
            simp only [hlb, Bool.not_true] at hls
            clear hlb hy hk1e hk0
            go_quiet (fail)
            all_goals go_wp2
            all_goals go_roundw
            all_goals first
              | exact ⟨k + 1, by omega, by go_num, HNX, Lib.hid (HB6.out.trans ⟨rfl, rfl, rfl, Nat.le_refl _, fun _ _ => rfl⟩)⟩
              | (simp [intOf]; omega)
          | false =>
            obtain rfl : z = false := iff_no HZZ.out fun h => by
              have h2 := (h k hlt').2 hlt' hk1
              rw [← HX.out, ← hy, hlb] at h2
              cases h2
            simp only [hlb, Bool.not_false] at hls
            clear hlb hy hk1e hk0
            go_quiet (fail)
            all_goals go_wp2
            all_goals go_ret
            all_goals exact ⟨rfl, HBW.out.trans ⟨rfl, rfl, rfl, Nat.le_refl _, fun _ _ => rfl⟩⟩
    · obtain rfl : k = len := by omega
      have t1 : ¬ (k : Int) < k := by omega
      obtain rfl : z = true := HZZ.out.2 fun j h => hA.out j h (by have := HL.out; omega)
      go_wp2
      go_ret
      exact ⟨rfl, HB1.out.trans (hB.out.mono HB1.out.size)⟩
set_option maxRecDepth 100000 in
set_option maxHeartbeats 4000000 in
theorem vkids_leaf (leaf : Bool) (n : Nod) (hlf : leaf = n.leaf) (ca ka : Option Addr) (cc kc : Nat) (w : World) (z : Bool) (hzz : z = true ↔ KidsOk n) (hz : NdSz n) (hk : Kds w ka n.kids) :
    Calls Try.prog 45 #[.agg #[.bool leaf, .slice ca n.cells.length cc, .slice ka n.kids.length kc]] w fun e w' => e = .returned (.bool z) ∧ Below w.heap.size w w' := by
  have HZZ := Lib.hid hzz
  obtain ⟨len, hlen⟩ : ∃ b, b = n.cells.length := ⟨_, rfl⟩
  obtain ⟨kn, hkn⟩ : ∃ b, b = n.kids.length := ⟨_, rfl⟩
  rw [← hlen, ← hkn]
  have hle : len ≤ 1152921504606846976 := by rw [hlen]; exact hz.cl
  have hke : kn ≤ 1152921504606846976 := by rw [hkn]; exact hz.kl
  have HLF := Lib.hid hlf; have HL := Lib.hid hlen; have HK := Lib.hid hkn
  have hb := blk_new w 32 #[.bool leaf, .slice ca len cc, .slice ka kn kc]
  have hw := blw1 w (.cells #[.bool leaf, .slice ca len cc, .slice ka kn kc] 32)
  obtain ⟨w1, hw1⟩ : ∃ w1, w1 = w.alloc (.cells #[.bool leaf, .slice ca len cc, .slice ka kn kc] 32) := ⟨_, rfl⟩
  rw [← hw1] at hb hw
  have HK1 := Lib.hid (kds_next hk hw); have HB1 := Lib.hid hw; have HW1 := Lib.hid hw1
  have HCF := Lib.hid (fun W (hB : Below w1.heap.size w1 W) => show W.cell? ⟨w.heap.size, 0, none⟩ = some (.bool leaf) ∧ W.cell? ⟨w.heap.size, 1, none⟩ = some (.slice ca len cc) ∧ W.cell? ⟨w.heap.size, 2, none⟩ = some (.slice ka kn kc) from by
    have h := blk_below hb hB
    exact ⟨blk_cell h 0 rfl, blk_cell h 1 rfl, blk_cell h 2 rfl⟩)
  clear hzz hz hlf hlen hkn hk hb hw hw1
  obtain ⟨j0, j1, j2⟩ := HCF.out _ (Below.refl _ _)
  cases leaf with
  | true =>
    have HE := Lib.hid (show z = decide (kn = 0) from by
      have h := HZZ.out
      unfold KidsOk at h
      rw [if_pos HLF.out.symm, ← HK.out] at h
      by_cases e : kn = 0
      · rw [h.2 e, decide_eq_true e]
      · rw [iff_no h e, decide_eq_false e])
    by_cases e : kn = 0
    · obtain rfl : z = true := by rw [HE.out]; exact decide_eq_true e
      have e' : (kn : Int) = 0 := by omega
      have e2 : ((kn : Int) == 0) = true := by simpa using e'
      clear e
      go_enter Try.func45, Try.ntmps45
      go_upto_region 1 with (fail)
      rw [← HW1.out]
      go_wp2
      go_ret
      exact ⟨rfl, HB1.out⟩
    · obtain rfl : z = false := by rw [HE.out]; exact decide_eq_false e
      have e' : ¬ (kn : Int) = 0 := by omega
      have e2 : ((kn : Int) == 0) = false := by simpa using e'
      clear e
      go_enter Try.func45, Try.ntmps45
      go_upto_region 1 with (fail)
      rw [← HW1.out]
      go_wp2
      go_ret
      exact ⟨rfl, HB1.out⟩
  | false =>
    have HE := Lib.hid (show z = true ↔ kn = len + 1 ∧ ∀ k (h : k < n.kids.length), KidOk n.kids[k] from by
      have h := HZZ.out
      unfold KidsOk at h
      rw [if_neg (by rw [← HLF.out]; decide), ← HL.out] at h
      rw [HK.out]
      exact h)
    have wl : IntKind.i64.wrap ((len : Int) + 1) = (len : Int) + 1 := IntWalk.i64_in _ ⟨by omega, by omega⟩
    by_cases e : kn = len + 1
    · have e' : (kn : Int) = (len : Int) + 1 := by omega
      have HEE := Lib.hid e
      have e2 : ((kn : Int) == (len : Int) + 1) = true := by simpa using e'
      have e3 : ((kn : Int) != (len : Int) + 1) = false := by simp [bne, e2]
      clear e e'
      go_enter Try.func45, Try.ntmps45
      go_upto_region 1 with (fail)
      rw [← HW1.out]
      go_wp2
      clear j0 j1 j2
      go_loopw [22] (fun i wr => ∃ q : Nat, q ≤ kn ∧ i = .int .i64 q ∧ Hid (∀ j (h : j < n.kids.length), j < q → KidOk n.kids[j]) ∧ Hid (Below w1.heap.size w1 wr)) (fun i _ => kn - (intOf i).toNat)
      case atStart => exact ⟨0, by omega, rfl, Lib.hid (fun j h h0 => absurd h0 (Nat.not_lt_zero j)), Lib.hid (Below.refl _ _)⟩
      case round =>
        obtain ⟨q, hq, rfl, hA, hB⟩ := hrel
        obtain ⟨j0, j1, j2⟩ := HCF.out _ hB.out
        have HBW := Lib.hid (HB1.out.trans (hB.out.mono HB1.out.size))
        by_cases hlt : q < kn
        · have hlt' : q < n.kids.length := by have := HK.out; omega
          have t2 : (q : Int) < kn := by omega
          obtain ⟨b, off, rfl, hbw, c0⟩ := (kds_next HK1.out hB.out) q hlt'
          obtain ⟨x, hx⟩ : ∃ x, x = n.kids[q] := ⟨_, rfl⟩
          rw [← hx] at c0
          have HX := Lib.hid hx
          clear hx
          obtain ⟨z1, hz1⟩ := bool_of (KidOk x)
          have kp := fun W => ispage_any x z1 hz1 W
          have HZ1 := Lib.hid hz1
          clear hz1
          cases z1 with
          | true =>
            have HNX := Lib.hid (show ∀ j (h : j < n.kids.length), j < q + 1 → KidOk n.kids[j] from fun j h hj => by
              by_cases e : j < q
              · exact hA.out j h e
              · obtain rfl : j = q := by omega
                rw [← HX.out]
                exact HZ1.out.1 rfl)
            go_wp2_with (go_at_call 64; (with_reducible refine (kp _).mono ?_); rintro e w6 ⟨rfl, hb6⟩; have HB6 := Lib.hid (hB.out.trans (hb6.mono hB.out.size)); clear hb6)
            go_roundw
            case rel => exact ⟨q + 1, by omega, by go_num, HNX, HB6⟩
            case measure => simp [intOf]; omega
          | false =>
            obtain rfl : z = false := iff_no HE.out fun h => by
              have := h.2 q hlt'
              rw [← HX.out] at this
              exact nomatch HZ1.out.2 this
            go_wp2_with (go_at_call 64; (with_reducible refine (kp _).mono ?_); rintro e w6 ⟨rfl, hb6⟩; have HB6 := Lib.hid (HBW.out.trans (hb6.mono HBW.out.size)); clear hb6)
            go_ret
            exact ⟨rfl, HB6.out⟩
        · obtain rfl : q = kn := by omega
          have t2 : ¬ (q : Int) < q := by omega
          obtain rfl : z = true := HE.out.2 ⟨HEE.out, fun j h => hA.out j h (by have := HK.out; omega)⟩
          go_wp2
          go_ret
          exact ⟨rfl, HBW.out⟩
    · obtain rfl : z = false := iff_no HE.out fun h => e h.1
      have e' : ¬ (kn : Int) = (len : Int) + 1 := by omega
      have e2 : ((kn : Int) == (len : Int) + 1) = false := by simpa using e'
      clear e
      go_enter Try.func45, Try.ntmps45
      go_upto_region 1 with (fail)
      rw [← HW1.out]
      go_wp2
      go_ret
      exact ⟨rfl, HB1.out⟩
end Go.Proofs.Ytdpjmijdlheajaa
