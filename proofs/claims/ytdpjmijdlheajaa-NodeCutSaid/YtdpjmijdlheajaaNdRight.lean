/-
  Layer 16, the document's right (annexeref16): may a node be, but for its bytes; it changes nothing that was there. Condition: sizes of at most 2^60.
-/
import Derived.Test.YtdpjmijdlheajaaNdVal
import Derived.Lib.Hide
import Derived.Lib.MinMax
import Derived.Deep.QuietTactic
import Derived.BigQuiet
import Derived.Deep.CutRange
import Derived.Deep.CutBlock
import Derived.Deep.RegionHeld3
import Derived.Handy
namespace Go.Proofs.Ytdpjmijdlheajaa
open Go.RowKit

theorem ngeq_run (a b : List UInt8) (w : World) : (binOp .geq 9 (.string (nb a)) (.string (nb b))).run Try.prog w = .ok (.bool (!Op.bytesLess a b)) w := by
  simp [binOp, Op.stringOp, ByteArray.toList_eq, nb_list]
set_option maxRecDepth 100000 in
set_option maxHeartbeats 4000000 in
theorem rright_leaf (leaf : Bool) (n : Nod) (hlf : leaf = n.leaf) (ca ka : Option Addr) (cc kc : Nat) (w : World) (hz : NdSz n) (hc : Cls w ca n.cells) (hk : Kds w ka n.kids) :
    Calls Try.prog 21 #[.agg #[.bool leaf, .slice ca n.cells.length cc, .slice ka n.kids.length kc]] w fun e w' => e = .returned (.bool (rightB n)) ∧ Below w.heap.size w w' := by
  obtain ⟨z, hzz⟩ : ∃ z, z = rightB n := ⟨_, rfl⟩
  have HY := Lib.hid (fun h : RightN n => show z = true from hzz.trans (right_yes h))
  have HN := Lib.hid (fun h : ¬ RightN n => show z = false from hzz.trans (right_no h))
  rw [← hzz]
  have HZ := Lib.hid hz
  obtain ⟨len, hlen⟩ : ∃ b, b = n.cells.length := ⟨_, rfl⟩
  obtain ⟨kn, hkn⟩ : ∃ b, b = n.kids.length := ⟨_, rfl⟩
  rw [← hlen, ← hkn]
  have hle : len ≤ 1152921504606846976 := by rw [hlen]; exact hz.cl
  have hke : kn ≤ 1152921504606846976 := by rw [hkn]; exact hz.kl
  have HLF := Lib.hid hlf; have HL := Lib.hid hlen; have HK := Lib.hid hkn
  have HC := Lib.hid hc; have HKD := Lib.hid hk
  clear hzz hz hlf hlen hkn hc hk
  go_enter Try.func21, Try.ntmps21
  go_wp2
  have hb := blk_new w 25 #[.bool leaf, .slice ca len cc, .slice ka kn kc]
  have hw := blw1 w (.cells #[.bool leaf, .slice ca len cc, .slice ka kn kc] 25)
  have HC1 := Lib.hid (cls_next HC.out hw); have HK1 := Lib.hid (kds_next HKD.out hw); have HB1 := Lib.hid hw
  clear HC HKD hw
  generalize w.alloc (.cells #[.bool leaf, .slice ca len cc, .slice ka kn kc] 25) = w1 at *
  have HCF := Lib.hid (fun W (hB : Below w1.heap.size w1 W) => show W.cell? ⟨w.heap.size, 0, none⟩ = some (.bool leaf) ∧ W.cell? ⟨w.heap.size, 1, none⟩ = some (.slice ca len cc) ∧ W.cell? ⟨w.heap.size, 2, none⟩ = some (.slice ka kn kc) from by
    have h := blk_below hb hB
    exact ⟨blk_cell h 0 rfl, blk_cell h 1 rfl, blk_cell h 2 rfl⟩)
  clear hb
  go_loopw [3] (fun i wr => ∃ k : Nat, k ≤ len ∧ i = .int .i64 k ∧ Hid (∀ j (h : j < n.cells.length), j < k → CelOk n.leaf n.cells[j] ∧ RisAt n.cells j) ∧ Hid (Below w1.heap.size w1 wr)) (fun i _ => len - (intOf i).toNat)
  case atStart => exact ⟨0, by omega, rfl, Lib.hid (fun j h h0 => absurd h0 (Nat.not_lt_zero j)), Lib.hid (Below.refl _ _)⟩
  case round =>
    obtain ⟨k, hk, rfl, hA, hB⟩ := hrel
    obtain ⟨j0, j1, j2⟩ := HCF.out _ hB.out
    by_cases hlt : k < len
    · have hlt' : k < n.cells.length := by have := HL.out; omega
      have t1 : (k : Int) < len := by omega
      obtain ⟨b, off, rfl, hbw, c0, c1, c2, c3⟩ := (cls_next HC1.out hB.out) k hlt'
      obtain ⟨x, hx⟩ : ∃ x, x = n.cells[k] := ⟨_, rfl⟩
      rw [← hx] at c0 c1 c2 c3
      have HX := Lib.hid hx
      have HPV := Lib.hid (fun (h0 : 0 < k) => by
        obtain ⟨b2, off2, he, -, d0, -⟩ := (cls_next HC1.out hB.out) (k - 1) (by omega)
        cases he
        exact (show wr.cell? ⟨b, off + (k - 1) * 4, none⟩ = some (.string (nb (n.cells[k - 1]'(by omega)).key)) from d0))
      clear hx
      go_upto_region 5 with (fail)
      have hn := blk_new wr 45 #[.string (nb x.key), .int .i64 x.len, .string (nb x.loc), .int .i64 x.ov]
      have hw := blw1 wr (.cells #[.string (nb x.key), .int .i64 x.len, .string (nb x.loc), .int .i64 x.ov] 45)
      have HPV2 := Lib.hid (fun h0 => (hw.cell (p := ⟨b, off + (k - 1) * 4, none⟩) hbw).trans (HPV.out h0))
      have HB5 := Lib.hid (hB.out.trans (hw.mono hB.out.size))
      clear hw c0 c1 c2 c3 j0 j1 j2 HPV hB
      generalize wr.alloc (.cells #[.string (nb x.key), .int .i64 x.len, .string (nb x.loc), .int .i64 x.ov] 45) = W5 at *
      have HCX := Lib.hid (fun W (hB : Below W5.heap.size W5 W) => show W.cell? ⟨wr.heap.size, 0, none⟩ = some (.string (nb x.key)) ∧ W.cell? ⟨wr.heap.size, 1, none⟩ = some (.int .i64 x.len) ∧ W.cell? ⟨wr.heap.size, 2, none⟩ = some (.string (nb x.loc)) ∧ W.cell? ⟨wr.heap.size, 3, none⟩ = some (.int .i64 x.ov) from by
        have h := blk_below hn hB
        exact ⟨blk_cell h 0 rfl, blk_cell h 1 rfl, blk_cell h 2 rfl, blk_cell h 3 rfl⟩)
      clear hn
      have HSK := Lib.hid (nb_size x.key)
      have HSL := Lib.hid (nb_size x.loc)
      have HNO := Lib.hid (fun h : ¬ (CelOk n.leaf x ∧ RisAt n.cells k) => HN.out fun hr => h (by rw [HX.out]; exact hr.1 k hlt'))
      go_cut [37] from 18 to 37 (fun v wx => ∃ z1 : Bool, v = .bool z1 ∧ Hid (z1 = true → z = false) ∧ Hid (z1 = false → x.key.length ≤ 100 ∧ RisAt n.cells k) ∧ Hid (Below W5.heap.size W5 wx))
      case first =>
        obtain ⟨d0, d1, d2, d3⟩ := HCX.out _ (Below.refl _ _)
        obtain ⟨j0, j1, j2⟩ := HCF.out _ HB5.out
        by_cases hA1 : 100 < x.key.length
        · have t2 : decide ((100 : Int) < ((nb x.key).size : Int)) = true := decide_eq_true (by have := HSK.out; omega)
          have HZ1 := Lib.hid (HNO.out fun h => absurd h.1.1 (by omega))
          go_quiet (fail)
          all_goals go_wp2
          all_goals go_meet
          all_goals exact ⟨true, rfl, Lib.hid fun _ => HZ1.out, Lib.hid (fun h => nomatch h), Lib.hid ⟨rfl, rfl, rfl, Nat.le_refl _, fun _ _ => rfl⟩⟩
        · have t2 : decide ((100 : Int) < ((nb x.key).size : Int)) = false := decide_eq_false (by have := HSK.out; omega)
          have HA2 := Lib.hid (show x.key.length ≤ 100 by omega)
          clear hA1
          by_cases hk0 : k = 0
          · subst hk0
            have HR := Lib.hid (show RisAt n.cells 0 from fun _ h => absurd h (by omega))
            have t3 : decide ((0 : Int) < ((0 : Nat) : Int)) = false := rfl
            go_quiet (fail)
            all_goals go_wp2
            all_goals go_meet
            all_goals exact ⟨false, rfl, Lib.hid (fun h => nomatch h), Lib.hid fun _ => ⟨HA2.out, HR.out⟩, Lib.hid ⟨rfl, rfl, rfl, Nat.le_refl _, fun _ _ => rfl⟩⟩
          · have hk1 : 0 < k := by omega
            have t3 : decide ((0 : Int) < (k : Int)) = true := decide_eq_true (by omega)
            have p0 := HPV2.out hk1
            obtain ⟨y, hy⟩ : ∃ y, y = n.cells[k - 1]'(by omega) := ⟨_, rfl⟩
            rw [← hy] at p0
            have w1k : IntKind.i64.wrap ((k : Int) - 1) = (k : Int) - 1 := IntWalk.i64_in _ ⟨by omega, by omega⟩
            obtain ⟨k1, hk1e⟩ : ∃ k1 : Nat, k1 = k - 1 := ⟨_, rfl⟩
            have hkk : (k : Int) - 1 = (k1 : Int) := by omega
            rw [hkk] at w1k
            rw [← hk1e] at p0
            have q1 : (k1 : Int) < len := by omega
            have q2 : k1 < len := by omega
            have q3 : ¬ (k1 : Int) < 0 := by omega
            have hls := fun W => ngeq_run y.key x.key W
            cases hlb : Op.bytesLess y.key x.key with
            | true =>
              have HR := Lib.hid (show RisAt n.cells k from fun h h0 => by rw [← HX.out, ← hy]; exact hlb)
              simp only [hlb, Bool.not_true] at hls
              clear hlb hy hk1e hk0
              go_quiet (fail)
              all_goals go_wp2
              all_goals go_meet
              all_goals exact ⟨false, rfl, Lib.hid (fun h => nomatch h), Lib.hid fun _ => ⟨HA2.out, HR.out⟩, Lib.hid ⟨rfl, rfl, rfl, Nat.le_refl _, fun _ _ => rfl⟩⟩
            | false =>
              have HZ1 := Lib.hid (HNO.out fun h => by
                have h2 := h.2 hlt' hk1
                rw [← HX.out, ← hy, hlb] at h2
                cases h2)
              simp only [hlb, Bool.not_false] at hls
              clear hlb hy hk1e hk0
              go_quiet (fail)
              all_goals go_wp2
              all_goals go_meet
              all_goals exact ⟨true, rfl, Lib.hid fun _ => HZ1.out, Lib.hid (fun h => nomatch h), Lib.hid ⟨rfl, rfl, rfl, Nat.le_refl _, fun _ _ => rfl⟩⟩
      case rest =>
        obtain ⟨z1, rfl, hz1, hg1, hB6⟩ := hcut
        have HB6 := Lib.hid (HB5.out.trans (hB6.out.mono HB5.out.size))
        have HBW := Lib.hid (HB1.out.trans (HB6.out.mono HB1.out.size))
        cases z1 with
        | true =>
          obtain rfl := hz1.out rfl
          go_wp2
          go_ret
          exact ⟨rfl, HBW.out⟩
        | false =>
          have HG1 := Lib.hid (hg1.out rfl)
          obtain ⟨d0, d1, d2, d3⟩ := HCX.out _ hB6.out
          obtain ⟨j0, j1, j2⟩ := HCF.out _ HB6.out
          have HCX2 := Lib.hid (fun W (h : Below wc.heap.size wc W) => HCX.out W (hB6.out.trans (h.mono hB6.out.size)))
          clear HPV2 HCX hz1 hg1 hB6
          by_cases hO : CelOk n.leaf x
          · have HO := Lib.hid hO
            obtain ⟨o1, o2, o3, o4, o5, o6, o7⟩ := hO
            have HNX := Lib.hid (show ∀ j (h : j < n.cells.length), j < k + 1 → CelOk n.leaf n.cells[j] ∧ RisAt n.cells j from fun j h hj => by
              by_cases e : j < k
              · exact hA.out j h e
              · obtain rfl : j = k := by omega
                rw [← HX.out]
                exact ⟨HO.out, HG1.out.2⟩)
            have hsl : ((nb x.loc).size : Int) = min x.len 60 := by rw [HSL.out]; exact o5
            have n3 : ¬ x.len < 0 := by omega
            have n4 : ¬ 268435456 < x.len := by omega
            clear HO o1 o5 hA HNO
            cases leaf with
            | true =>
              clear o2
              by_cases h60 : x.len ≤ 60
              · have h60' : ¬ 60 < x.len := by omega
                have o8 := o6 h60
                clear o6 o7
                go_wp2
                go_roundw
                case rel => exact ⟨k + 1, by omega, by go_num, HNX, HB6⟩
                case measure => simp [intOf]; omega
              · have h60' : 60 < x.len := by omega
                obtain ⟨o8, o9⟩ := o7 h60'
                have n8 : ¬ x.ov < 2 := by omega
                have n9 : ¬ 2000 < x.ov := by omega
                clear o6 o7
                go_wp2
                go_roundw
                case rel => exact ⟨k + 1, by omega, by go_num, HNX, HB6⟩
                case measure => simp [intOf]; omega
            | false =>
              obtain ⟨p1, p2, p3⟩ := o2 HLF.out.symm
              have te' : (nb x.loc).toList = [] := by rw [nb_toList, p3]
              have te : (nb x.loc).toList.isEmpty = true := by rw [te']; rfl
              have h60 : x.len ≤ 60 := by omega
              have h60' : ¬ 60 < x.len := by omega
              clear o6 o7 o2 p3
              go_wp2
              go_roundw
              case rel => exact ⟨k + 1, by omega, by go_num, HNX, HB6⟩
              case measure => simp [intOf]; omega
          · have HO := Lib.hid hO
            obtain rfl : z = false := HNO.out fun h => HO.out h.1
            have HG2 := Lib.hid HG1.out.1
            clear hO hA HNO HG1
            cases leaf with
            | true =>
              by_cases f1 : x.len < 0
              · go_wp2
                go_ret
                exact ⟨rfl, HBW.out⟩
              by_cases f2 : 268435456 < x.len
              · go_wp2
                go_ret
                exact ⟨rfl, HBW.out⟩
              by_cases f3 : ((nb x.loc).size : Int) = min x.len 60
              · by_cases h60 : x.len ≤ 60
                · have h60' : ¬ 60 < x.len := by omega
                  have f4 : ¬ x.ov = 0 := fun h => HO.out ⟨HG2.out, fun e => (by rw [← HLF.out] at e; cases e), by omega, by omega, by rw [← HSL.out]; exact f3, fun _ => h, fun e => absurd e h60'⟩
                  go_wp2
                  go_ret
                  exact ⟨rfl, HBW.out⟩
                · have h60' : 60 < x.len := by omega
                  by_cases f5 : x.ov < 2
                  · go_wp2
                    go_ret
                    exact ⟨rfl, HBW.out⟩
                  · have f6 : 2000 < x.ov := by
                      refine Classical.byContradiction fun f6 => HO.out ⟨HG2.out, fun e => (by rw [← HLF.out] at e; cases e), by omega, by omega, by rw [← HSL.out]; exact f3, fun e => absurd e h60, fun _ => ⟨by omega, by omega⟩⟩
                    go_wp2
                    go_ret
                    exact ⟨rfl, HBW.out⟩
              · go_wp2
                go_ret
                exact ⟨rfl, HBW.out⟩
            | false =>
              by_cases f1 : x.len = 0
              · by_cases f2 : x.ov = 0
                · have f3 : ¬ x.loc = [] := fun h => HO.out ⟨HG2.out, fun _ => ⟨f1, f2, h⟩, by omega, by omega, by rw [h, f1]; rfl, fun _ => f2, fun e => absurd e (by omega)⟩
                  have te' : ¬ (nb x.loc).toList = [] := by rw [nb_toList]; exact f3
                  have te : (nb x.loc).toList.isEmpty = false := by simpa using te'
                  clear f3
                  go_wp2
                  go_ret
                  exact ⟨rfl, HBW.out⟩
                · go_wp2
                  go_ret
                  exact ⟨rfl, HBW.out⟩
              · go_wp2
                go_ret
                exact ⟨rfl, HBW.out⟩
    · obtain rfl : k = len := by omega
      have t1 : ¬ (k : Int) < k := by omega
      have HAA := Lib.hid (show ∀ j (h : j < n.cells.length), CelOk n.leaf n.cells[j] ∧ RisAt n.cells j from fun j h => hA.out j h (by have := HL.out; omega))
      have HB2 := Lib.hid hB.out
      clear hA hB hlt hk
      go_wp2
      clear j0 j1 j2
      go_loopw [5] (fun i wr => ∃ q : Nat, q ≤ kn ∧ i = .int .i64 q ∧ Hid (∀ j (h : j < n.kids.length), j < q → KidOk n.kids[j]) ∧ Hid (Below w1.heap.size w1 wr)) (fun i _ => kn - (intOf i).toNat)
      case atStart => exact ⟨0, by omega, rfl, Lib.hid (fun j h h0 => absurd h0 (Nat.not_lt_zero j)), Lib.hid HB2.out⟩
      case round =>
        obtain ⟨q, hq, rfl, hA, hB⟩ := hrel
        obtain ⟨j0, j1, j2⟩ := HCF.out _ hB.out
        have HBW := Lib.hid (HB1.out.trans (hB.out.mono HB1.out.size))
        by_cases hlt : q < kn
        · have hlt' : q < n.kids.length := by have := HK.out; omega
          have t2 : (q : Int) < kn := by omega
          obtain ⟨b, off, rfl, hbw, c0⟩ := (kds_next HK1.out hB.out) q hlt'
          obtain ⟨x, hx⟩ : ∃ x, x = n.kids[q] := ⟨_, rfl⟩
          rw [← hx] at c0
          have HX := Lib.hid hx
          clear hx
          by_cases f1 : x < 2
          · obtain rfl : z = false := HN.out fun hr => by
              have := (hr.2.1 q hlt').1
              rw [← HX.out] at this
              omega
            go_wp2
            go_ret
            exact ⟨rfl, HBW.out⟩
          · by_cases f2 : 2000 < x
            · obtain rfl : z = false := HN.out fun hr => by
                have := (hr.2.1 q hlt').2
                rw [← HX.out] at this
                omega
              go_wp2
              go_ret
              exact ⟨rfl, HBW.out⟩
            · have HNX := Lib.hid (show ∀ j (h : j < n.kids.length), j < q + 1 → KidOk n.kids[j] from fun j h hj => by
                by_cases e : j < q
                · exact hA.out j h e
                · obtain rfl : j = q := by omega
                  rw [← HX.out]
                  exact ⟨by omega, by omega⟩)
              go_wp2
              go_roundw
              case rel => exact ⟨q + 1, by omega, by go_num, HNX, hB⟩
              case measure => simp [intOf]; omega
        · obtain rfl : q = kn := by omega
          have t2 : ¬ (q : Int) < q := by omega
          have HKK := Lib.hid (show ∀ j (h : j < n.kids.length), KidOk n.kids[j] from fun j h => hA.out j h (by have := HK.out; omega))
          clear hA
          have wk : IntKind.i64.wrap ((k : Int) + 1) = (k : Int) + 1 := IntWalk.i64_in _ ⟨by omega, by omega⟩
          by_cases g1 : k < 65536
          · have g1' : (k : Int) < 65536 := by omega
            cases leaf with
            | true =>
              by_cases g2 : q = 0
              · subst g2
                obtain rfl : z = true := HY.out ⟨HAA.out, HKK.out, by have := HL.out; omega, fun _ => HK.out.symm, fun e => (by rw [← HLF.out] at e; cases e)⟩
                go_wp2
                go_ret
                exact ⟨rfl, HBW.out⟩
              · have g2' : ¬ (q : Int) = 0 := by omega
                have g3 : ((q : Int) == 0) = false := by simpa using g2'
                obtain rfl : z = false := HN.out fun hr => g2 (HK.out.trans (hr.2.2.2.1 HLF.out.symm))
                go_wp2
                go_ret
                exact ⟨rfl, HBW.out⟩
            | false =>
              by_cases g2 : q = k + 1
              · subst g2
                have g2' : ((k + 1 : Nat) : Int) = (k : Int) + 1 := by omega
                obtain rfl : z = true := HY.out ⟨HAA.out, HKK.out, by have := HL.out; omega, fun e => (by rw [← HLF.out] at e; cases e), fun _ => by have := HL.out; have := HK.out; omega⟩
                go_wp2
                go_ret
                exact ⟨rfl, HBW.out⟩
              · have g2' : ¬ (q : Int) = (k : Int) + 1 := by omega
                have g3 : ((q : Int) == (k : Int) + 1) = false := by simpa using g2'
                obtain rfl : z = false := HN.out fun hr => g2 (by have := hr.2.2.2.2 HLF.out.symm; have := HL.out; have := HK.out; omega)
                go_wp2
                go_ret
                exact ⟨rfl, HBW.out⟩
          · have g1' : ¬ (k : Int) < 65536 := by omega
            obtain rfl : z = false := HN.out fun hr => g1 (by have := hr.2.2.1; have := HL.out; omega)
            go_wp2
            go_ret
            exact ⟨rfl, HBW.out⟩
theorem rright_any (n : Nod) (ca ka : Option Addr) (cc kc : Nat) (w : World) (hz : NdSz n) (hc : Cls w ca n.cells) (hk : Kds w ka n.kids) :
    Calls Try.prog 21 #[.agg #[.bool n.leaf, .slice ca n.cells.length cc, .slice ka n.kids.length kc]] w fun e w' => e = .returned (.bool (rightB n)) ∧ Below w.heap.size w w' :=
  rright_leaf n.leaf n rfl ca ka cc kc w hz hc hk
end Go.Proofs.Ytdpjmijdlheajaa
