/-
  Layer 11, the document's Read (annexeref11): it returns the same contents and changes nothing that was there. Condition: at most 2^20 bytes.
  Layer 11, the document's part (annexeref11): the segment at the start of a string, or none: it changes nothing that was there. Condition: at most 2^20 bytes.
-/
import Derived.Deep.RegionLaw
import Derived.Test.YthfebcfdhmihcaaGreatDoorMh8
import Derived.Test.YthfebcfdhmihcaaGreatDoorMh9
namespace Go.Proofs.YthfebcfdhmihcaaGreatDoor
open Go.RowKit

theorem qread_is11 {s : ByteArray} (hs : s.size ≤ 9223372036854775807) {k : Int} (h3 : -9223372036854775808 ≤ k) (h4 : k ≤ 9223372036854775807) {n e : Int} {D : ByteArray} (h : rdP s.data.toList k = ⟨n, D.data.toList, e⟩) (w : World) :
    Calls Tryz.prog 118 #[.string s, .int .i64 k] w fun x w' => x = .returned (.tuple #[.int .i64 n, .string D, .int .i64 e]) ∧ Below w.heap.size w w' := qread_is hs h3 h4 h w
theorem headNeQRec : 137 ≠ 142 := by decide
theorem w64_in {x : Int} (h0 : 0 ≤ x) (h1 : x ≤ 9223372036854775807) : IntKind.i64.wrap x = x := IntWalk.i64_in _ ⟨by omega, by omega⟩
theorem w64_part (k : Nat) (h : (k : Int) ≤ 2000) : IntKind.i64.wrap (32 + IntKind.i64.wrap (520 * (k : Int))) = ((32 + 520 * k : Nat) : Int) := by
  rw [w64_in (x := 520 * (k : Int)) (by omega) (by omega), w64_in (by omega) (by omega)]
  omega
def zHead : Array Value := #[.int .i64 0, .int .i64 0, .int .i64 0]
/-- What part answers: the header is of no matter where there is no segment. -/
def PartQ (l : List UInt8) (w : World) (e : Ending) (w' : World) : Prop :=
  Below w.heap.size w w' ∧ ((fsS l = none ∧ ∃ x y z, e = .returned (.tuple #[.agg #[.int .i64 x, .int .i64 y, .int .i64 z], .slice none 0 0, .int .i64 0, .bool false])) ∨
    ∃ a cap g x z, fsS l = some g ∧ e = .returned (.tuple #[.agg #[.int .i64 x, .int .i64 g.p, .int .i64 z], .slice a g.L.length cap, .int .i64 ((32 + 520 * g.L.length : Nat) : Int), .bool true]) ∧ Recs w' a g.L ∧ ∀ b off, a = some ⟨b, off, none⟩ → w.heap.size ≤ b ∧ b < w'.heap.size)
theorem results_four {P : Program} {fn : Func} {p u q r : Tmp} {ty : TypeId} (h : fn.results = #[.cell p ty, .tmp u, .tmp q, .tmp r]) (tmps : Array Value) (w : World) (g : Nat) (t : TypeId) (cs : Array Value) (d : TypeDesc)
    (hp : tmps.getD p undef = .pointer (some ⟨g, 0, none⟩)) (hg : Blk w g t cs)
    (hu : P.underlying ty = some d) (hd : (match d with | .struct _ | .array _ _ => true | _ => false) = true) (hi : (P.info? ty).map (·.size) = some cs.size) :
    (results fn tmps).run P w = .ok (.tuple #[.agg cs, tmps.getD u undef, tmps.getD q undef, tmps.getD r undef]) w := by
  have hp' : tmps[p]?.getD undef = .pointer (some ⟨g, 0, none⟩) := by simpa using hp
  have hl := run_loadVar_row (P := P) w g t ty cs (0, 0) d hg hu hd hi
  simp [results, h, hp', asAddr, hl]

/-- What part's own cells hold. -/
def P11 (w : World) (H : Nat) (x y z : Value) (u : Value) (k : Nat) (L : List R11) (v : World) : Prop := Blk v H 137 #[x, y, z] ∧ Blk v w.heap.size 137 zHead ∧ v.ownsRow w.heap.size 142 2 u k (recsC L) ∧ Below w.heap.size w v
theorem p11_of {w : World} {H : Nat} {x y z u : Value} {k : Nat} {L : List R11} {v : World} (h : P11 w H x y z u k L v) : v.cell? ⟨H, 0, none⟩ = some x ∧ v.cell? ⟨H, 1, none⟩ = some y ∧ v.cell? ⟨H, 2, none⟩ = some z ∧ P11 w H x y z u k L v := ⟨blk_cell h.1 0 rfl, blk_cell h.1 1 rfl, blk_cell h.1 2 rfl, h⟩
theorem p11_drew {w : World} {H : Nat} {x y z u : Value} {k : Nat} {L : List R11} {v : World} (h : P11 w H x y z u k L v) : P11 w H x y z u k L v.drew := ⟨h.1, h.2.1, h.2.2.1, h.2.2.2.drew⟩
theorem p11_next {w : World} {H : Nat} {x y z u : Value} {k : Nat} {L : List R11} {v v2 : World} (h : P11 w H x y z u k L v) (hb : Below v.heap.size v v2) : P11 w H x y z u k L v2 := ⟨blk_below h.1 hb, blk_below h.2.1 hb, rown_below h.2.2.1 hb, h.2.2.2.trans (hb.mono h.2.2.2.size)⟩

set_option maxHeartbeats 4000000 in
set_option maxRecDepth 100000 in
theorem part_any (l : List UInt8) (hs : l.length ≤ 1048576) (w : World) : Calls Tryz.prog 84 #[.string (ba l)] w (PartQ l w) := by
  obtain ⟨⟨a, b, c⟩, f, hr⟩ : ∃ (h : H8) (e : Int), rdH l = (h, e) := ⟨_, _, rfl⟩
  have hsz := ba_size l
  have k1 := fun w => rread_is (s := ba l) (by omega) (a := a) (b := b) (c := c) (e := f) hr w
  have HZ := Lib.hid (blk_new w 137 zHead)
  by_cases h0 : f = 0
  case neg =>
    have t1 : (f != 0) = true := by simpa using h0
    have HF := Lib.hid (fsS_none (s := l) (.inl (by rw [hr]; exact h0)))
    clear h0 hr
    go_enter Tryz.func84, Tryz.ntmps84
    go_wp2_with (go_at_call 117; (with_reducible refine (k1 _).mono ?_); rintro e w1 ⟨rfl, b1⟩; have HR := Lib.hid (blk_alloc (blk_below HZ.out b1) (.cells #[.int .i64 a, .int .i64 b, .int .i64 c] 137)); have HB := Lib.hid ((blw_new b1).alloc (blw_new b1).size (.cells #[.int .i64 a, .int .i64 b, .int .i64 c] 137)); clear b1; have z0 := blk_cell HR.out 0 rfl; have z1 := blk_cell HR.out 1 rfl; have z2 := blk_cell HR.out 2 rfl; have z3 := blk_frozen HR.out 0; have z4 := blk_frozen HR.out 1; have z5 := blk_frozen HR.out 2)
    refine bodyPost_ret (results_four rfl _ _ w.heap.size _ _ _ rfl (blk_set (blk_set (blk_set HR.out 0 _) 1 _) 2 _) Tryz.underlying137 rfl (by kernel_rfl)) rfl ?_
    exact ⟨blw_set (blw_set (blw_set HB.out (Nat.le_refl _) 0 _) (Nat.le_refl _) 1 _) (Nat.le_refl _) 2 _, .inl ⟨HF.out, _, _, _, rfl⟩⟩
  subst h0
  have hok := rdH_ok (s := l) (by rw [hr])
  rw [hr] at hok
  obtain ⟨h32, ⟨ha0, ha1⟩, ⟨hb0, hb1⟩, hc0, hc1⟩ := hok
  simp only at ha0 ha1 hb0 hb1 hc0 hc1
  obtain ⟨m, rfl⟩ : ∃ m : Nat, a = m := ⟨a.toNat, by omega⟩
  have HFS := Lib.hid (fun L (hL : sgR c (l.drop 32) m = some L) => show fsS l = some ⟨b, L, l.drop (32 + 520 * m)⟩ by
    have := fsS_some (s := l) (by rw [hr]) (L := L) (by rw [hr]; exact hL)
    rw [this, hr]; rfl)
  have HFN := Lib.hid (fun (hL : sgR c (l.drop 32) m = none) => fsS_none (s := l) (.inr (by rw [hr]; exact hL)))
  obtain ⟨i1, hi1, hz1, hs1, hb2⟩ := info_parts infoQR
  obtain ⟨s, hsl⟩ : ∃ s, s = ba l := ⟨_, rfl⟩
  have HSL := Lib.hid hsl
  rw [← hsl] at hsz k1 ⊢
  obtain ⟨z, hz⟩ : ∃ z : Nat, z = s.size := ⟨_, rfl⟩
  have hz32 : 32 ≤ s.size := by omega
  have hzm : s.size ≤ 1048576 := by omega
  have HSZ := Lib.hid hsz
  obtain ⟨q, hq⟩ : ∃ q : Nat, q = (s.size - 32) / 520 := ⟨_, rfl⟩
  have hqd : ((s.size : Int) - 32).tdiv 520 = (q : Int) := by
    rw [Int.tdiv_eq_ediv_of_nonneg (by omega)]; omega
  have hqb : (q : Int) ≤ 1048576 := by omega
  clear hr hsl hsz hz
  by_cases hqm : q < m
  · have HN := Lib.hid (HFN.out (sgR_short (by rw [List.length_drop]; have := HSZ.out; omega)))
    have t1 : (q : Int) < m := by omega
    clear hq
    go_enter Tryz.func84, Tryz.ntmps84
    go_wp2_with (go_at_call 117; (with_reducible refine (k1 _).mono ?_); rintro e w1 ⟨rfl, b1⟩; have HR := Lib.hid (blk_alloc (blk_below HZ.out b1) (.cells #[.int .i64 m, .int .i64 b, .int .i64 c] 137)); have HB := Lib.hid ((blw_new b1).alloc (blw_new b1).size (.cells #[.int .i64 m, .int .i64 b, .int .i64 c] 137)); clear b1; have z0 := blk_cell HR.out 0 rfl; have z1 := blk_cell HR.out 1 rfl; have z2 := blk_cell HR.out 2 rfl; have z3 := blk_frozen HR.out 0; have z4 := blk_frozen HR.out 1; have z5 := blk_frozen HR.out 2)
    refine bodyPost_ret (results_four rfl _ _ w.heap.size _ _ _ rfl (blk_set (blk_set (blk_set HR.out 0 _) 1 _) 2 _) Tryz.underlying137 rfl (by kernel_rfl)) rfl ?_
    exact ⟨blw_set (blw_set (blw_set HB.out (Nat.le_refl _) 0 _) (Nat.le_refl _) 1 _) (Nat.le_refl _) 2 _, .inl ⟨HN.out, _, _, _, rfl⟩⟩
  have t1 : ¬ (q : Int) < m := by omega
  have hml : 32 + 520 * m ≤ s.size := by omega
  clear hq
  go_enter Tryz.func84, Tryz.ntmps84
  go_wp2_with (go_at_call 117; (with_reducible refine (k1 _).mono ?_); rintro e w1 ⟨rfl, b1⟩)
  have HR1 := Lib.hid (blk_alloc (blk_below HZ.out b1) (.cells #[.int .i64 m, .int .i64 b, .int .i64 c] 137))
  have HH1 := Lib.hid (blk_new w1 137 #[.int .i64 m, .int .i64 b, .int .i64 c])
  have HB1 := Lib.hid ((blw_new b1).alloc (blw_new b1).size (.cells #[.int .i64 m, .int .i64 b, .int .i64 c] 137))
  have hw1 : w.heap.size < w1.heap.size := Nat.lt_of_lt_of_le (by simp) b1.size
  clear b1 HZ k1 hqd hqb hqm t1
  revert HR1 HH1 HB1 hw1
  generalize w1.alloc (.cells #[.int .i64 m, .int .i64 b, .int .i64 c] 137) = W1
  generalize w1.heap.size = H
  intro HR1 HH1 HB1 hw1
  clear w1
  go_loopw [8, 9] (fun v i wr => ∃ (k : Nat) (L : List R11), k ≤ m ∧ i = .int .i64 k ∧ Hid (sgR c (l.drop 32) k = some L) ∧ Hid (wr.ownsRow w.heap.size 142 2 v k (recsC L)) ∧ Hid (Blk wr H 137 #[.int .i64 m, .int .i64 b, .int .i64 c]) ∧ Hid (Blk wr w.heap.size 137 zHead) ∧ Hid (Below w.heap.size w wr)) (fun _ i _ => m - (intOf i).toNat)
  case atStart => exact ⟨0, [], by omega, rfl, Lib.hid rfl, Lib.hid (World.ownsRow_nil _ _ _ _), HH1, HR1, HB1⟩
  case round =>
    clear HR1 HH1 HB1
    obtain ⟨k, L, hk, rfl, hsg, hown, hH, hR, hB⟩ := hrel
    have e0 := blk_cell hH.out 0 rfl
    have e1 := blk_cell hH.out 1 rfl
    have e2 := blk_cell hH.out 2 rfl
    have z0 := blk_cell hR.out 0 rfl
    have z1 := blk_cell hR.out 1 rfl
    have z2 := blk_cell hR.out 2 rfl
    have z3 := blk_frozen hR.out 0
    have z4 := blk_frozen hR.out 1
    have z5 := blk_frozen hR.out 2
    by_cases hlt : k < m
    case neg =>
      obtain rfl : k = m := by omega
      obtain ⟨a1, cap1, rfl, hln, -, -⟩ := recs_of_own hown.out
      go_upto_region 12 with (fail)
      have hHR : H ≠ w.heap.size := by omega
      go_region_held3 (fun v => v.cell? ⟨H, 0, none⟩ = some (.int .i64 k) ∧ v.cell? ⟨H, 1, none⟩ = some (.int .i64 b) ∧ v.cell? ⟨H, 2, none⟩ = some (.int .i64 c) ∧ Blk v H 137 #[.int .i64 k, .int .i64 b, .int .i64 c])
        (first | assumption | exact blk3_of hH.out | exact blk3_of (blk_drew hH.out) | exact blk3_of (blk_other (blk_other (blk_other (blk_drew hH.out) hHR 0 _) hHR 1 _) hHR 2 _))
        (fail)
      rename_i hHeld
      clear hHeld
      rw [w64_part k ha1]
      have HR2 := Lib.hid (blk_drew (blk_set (blk_set (blk_set hR.out 0 (.int .i64 k)) 1 (.int .i64 b)) 2 (.int .i64 c)))
      have o1 := own_set hown.out hR.out headNeQRec 0 (.int .i64 k)
      have o2 := own_set o1 (blk_set hR.out 0 (.int .i64 k)) headNeQRec 1 (.int .i64 b)
      have o3 := own_set o2 (blk_set (blk_set hR.out 0 (.int .i64 k)) 1 (.int .i64 b)) headNeQRec 2 (.int .i64 c)
      obtain ⟨a2, cap2, e, hln2, hrec, hbs⟩ := recs_of_own o3
      cases e
      have HREC := Lib.hid hrec
      have HBS := Lib.hid hbs
      have HBF := Lib.hid (blw_set (blw_set (blw_set hB.out (Nat.le_refl _) 0 (.int .i64 k)) (Nat.le_refl _) 1 (.int .i64 b)) (Nat.le_refl _) 2 (.int .i64 c)).drew
      clear hrec hbs o1 o2 o3 hR hown
      go_wp2
      refine bodyPost_ret (results_four rfl _ _ w.heap.size _ _ _ rfl HR2.out Tryz.underlying137 rfl (by kernel_rfl)) rfl ?_
      subst hln
      exact ⟨HBF.out, .inr ⟨a1, cap1, _, _, _, HFS.out L hsg.out, rfl, recs_drew HREC.out, HBS.out⟩⟩
    obtain ⟨n, D, e, hrd⟩ : ∃ (n : Int) (D : ByteArray) (e : Int), rdP (l.drop (32 + 520 * k)) c = ⟨n, D.data.toList, e⟩ := ⟨_, ⟨(rdP (l.drop (32 + 520 * k)) c).d.toArray⟩, _, rfl⟩
    have k2 := fun w => qread_is11 (s := ba (l.drop (32 + 520 * k))) (by rw [ba_size, List.length_drop]; omega) (k := c) (by omega) (by omega) (n := n) (e := e) (D := D) hrd w
    have HEX := Lib.hid (show s.extract (32 + 520 * k) s.size = ba (l.drop (32 + 520 * k)) by rw [HSL.out, sext_drop])
    rw [← HEX.out] at k2
    have hks : 32 + 520 * k ≤ s.size := by omega
    have hki : (32 : Int) + 520 * (k : Int) ≤ s.size := by omega
    have HP := Lib.hid (show P11 w H (.int .i64 m) (.int .i64 b) (.int .i64 c) u8 k L wr from ⟨hH.out, hR.out, hown.out, hB.out⟩)
    have hk20 : (k : Int) ≤ 2000 := by omega
    have hkm : (k : Int) < m := by omega
    obtain ⟨at_, hat⟩ : ∃ at_ : Nat, at_ = 32 + 520 * k := ⟨_, rfl⟩
    obtain ⟨x5, hx5⟩ : ∃ x5 : Int, x5 = 520 * (k : Int) := ⟨_, rfl⟩
    have hw5 : IntKind.i64.wrap (520 * (k : Int)) = x5 := by rw [hx5]; exact w64_in (by omega) (by omega)
    have hw6 : IntKind.i64.wrap (32 + x5) = (at_ : Int) := by rw [w64_in (by omega) (by omega)]; omega
    have hai : (32 : Int) + 520 * (k : Int) = (at_ : Int) := by omega
    rw [← hat] at k2 hks
    have hai2 : (at_ : Int) ≤ s.size := by omega
    have HAT := Lib.hid hat
    clear hat hown hH hR hB z0 z1 z2 z3 z4 z5 hx5 hai hki
    go_upto_region 8 with (fail)
    go_region_held3 (fun v => v.cell? ⟨H, 0, none⟩ = some (.int .i64 m) ∧ v.cell? ⟨H, 1, none⟩ = some (.int .i64 b) ∧ v.cell? ⟨H, 2, none⟩ = some (.int .i64 c) ∧ P11 w H (.int .i64 m) (.int .i64 b) (.int .i64 c) u8 k L v)
      (first | assumption | exact p11_of HP.out | exact p11_of (p11_drew HP.out) | exact p11_of (p11_next (And.right (And.right (And.right (by assumption)))) (by assumption)))
      ((go_at_call 118; (with_reducible refine (k2 _).mono ?_); rintro e w2 ⟨rfl, hb⟩))
    rename_i hHeld
    have HP2 := Lib.hid (And.right (And.right (And.right hHeld)))
    have hb2s := hb.size
    clear hHeld hb HP k2 hw5 hw6 hai2 hks e0 e1 e2
    have e0 := blk_cell HP2.out.1 0 rfl
    have e1 := blk_cell HP2.out.1 1 rfl
    have e2 := blk_cell HP2.out.1 2 rfl
    have z0 := blk_cell HP2.out.2.1 0 rfl
    have z1 := blk_cell HP2.out.2.1 1 rfl
    have z2 := blk_cell HP2.out.2.1 2 rfl
    have z3 := blk_frozen HP2.out.2.1 0
    have z4 := blk_frozen HP2.out.2.1 1
    have z5 := blk_frozen HP2.out.2.1 2
    by_cases h0 : e = 0
    case neg =>
      have HN := Lib.hid (HFN.out (sgR_bad hlt (by rw [List.drop_drop, hrd]; exact h0)))
      have t1 : (e != 0) = true := by simpa using h0
      clear h0 hrd HEX
      go_wp2
      refine bodyPost_ret (results_four rfl _ _ w.heap.size _ _ _ rfl (blk_set (blk_set (blk_set HP2.out.2.1 0 _) 1 _) 2 _) Tryz.underlying137 rfl (by kernel_rfl)) rfl ?_
      exact ⟨blw_set (blw_set (blw_set HP2.out.2.2.2 (Nat.le_refl _) 0 _) (Nat.le_refl _) 1 _) (Nat.le_refl _) 2 _, .inl ⟨HN.out, _, _, _, rfl⟩⟩
    subst h0
    have HSG := Lib.hid (show sgR c (l.drop 32) (k + 1) = some (L ++ [⟨n, D.data.toList⟩]) by
      have := sgR_next hsg.out (by rw [List.drop_drop, hrd])
      rw [List.drop_drop, hrd] at this
      exact this)
    have hwB := HP2.out.2.2.2.size
    clear hrd HEX z0 z1 z2 z3 z4 z5 e0 e1 e2
    go_wp2_with (at_builtin; refine wpList_append_lies _ rfl _ _ _ rfl w.heap.size 142 i1 _ 2 24 Tryz.underlying73 hi1 hz1 hs1 hb2 rfl (by omega) u8 k (recsC L) rfl (HP2.out.2.2.1.alloc _) ⟨w2.heap.size, 0, none⟩ 1 1 (recC ⟨n, D.data.toList⟩) rfl rfl (rnews w2 ⟨n, D.data.toList⟩ _) (rone ⟨n, D.data.toList⟩) (by omega) (by unfold maxLen; omega) (by omega) (by simp only [World.size_alloc]; omega) (w2.heap.size + 1) (by simp) ?_; intro g3 cap3 w3 hown3 hgrow3 hat3 hlt3)
    have HO3 := Lib.hid (show w3.ownsRow w.heap.size 142 2 (.slice (some ⟨g3, 0, none⟩) (k + 1) cap3) (k + 1) (recsC (L ++ [⟨n, D.data.toList⟩])) by rw [recsC_snoc]; exact hown3)
    have HB3 := Lib.hid (rbelow_own (HP2.out.2.2.2.alloc hwB _) (HP2.out.2.2.1.alloc _) hgrow3)
    have HH3 := Lib.hid (blk_own (blk_alloc HP2.out.1 _) (HP2.out.2.2.1.alloc _) headNeQRec hgrow3)
    have HR3 := Lib.hid (blk_own (blk_alloc HP2.out.2.1 _) (HP2.out.2.2.1.alloc _) headNeQRec hgrow3)
    clear hown3 hgrow3 hat3 HP2 hsg
    go_roundw
    case rel => exact ⟨k + 1, _, by omega, by go_num, HSG, HO3, HH3, HR3, HB3⟩
    case measure => simp [intOf]; omega
end Go.Proofs.YthfebcfdhmihcaaGreatDoor

namespace Go.Proofs.YthfebcfdhmihcaaGreatDoor
open Go.RowKit

theorem part_no {l : List UInt8} (hs : l.length ≤ 1048576) (h : fsS l = none) (w : World) : Calls Tryz.prog 84 #[.string (ba l)] w fun e w' => ∃ x y z, e = .returned (.tuple #[.agg #[.int .i64 x, .int .i64 y, .int .i64 z], .slice none 0 0, .int .i64 0, .bool false]) ∧ Below w.heap.size w w' :=
  (part_any l hs w).mono fun e w' hq => by
    obtain ⟨hb, ⟨-, x, y, z, rfl⟩ | ⟨a, cap, g, x, z, hg, -, -, -⟩⟩ := hq
    · exact ⟨x, y, z, rfl, hb⟩
    · rw [h] at hg; cases hg
theorem part_yes {l : List UInt8} (hs : l.length ≤ 1048576) {g : S11} (h : fsS l = some g) (w : World) : Calls Tryz.prog 84 #[.string (ba l)] w fun e w' => ∃ a cap x z, e = .returned (.tuple #[.agg #[.int .i64 x, .int .i64 g.p, .int .i64 z], .slice a g.L.length cap, .int .i64 ((32 + 520 * g.L.length : Nat) : Int), .bool true]) ∧ Below w.heap.size w w' ∧ Recs w' a g.L ∧ ∀ b off, a = some ⟨b, off, none⟩ → w.heap.size ≤ b ∧ b < w'.heap.size :=
  (part_any l hs w).mono fun e w' hq => by
    obtain ⟨hb, ⟨hn, -⟩ | ⟨a, cap, g', x, z, hg, rfl, hr, hbs⟩⟩ := hq
    · rw [h] at hn; cases hn
    · rw [h] at hg; cases hg
      exact ⟨a, cap, x, z, rfl, hb, hr, hbs⟩
theorem nam_none {s : List UInt8} (h : (namS s).2 ≠ 0) : (namS s).1 = [] := by
  unfold namS at h ⊢
  split
  · rename_i c; rw [if_pos c] at h; exact absurd rfl h
  · rfl
theorem own_recs {W : World} {base : Nat} {e : TypeId} {a : Option Addr} {n cap : Nat} {L : List R11} (h : W.ownsRow base e 2 (.slice a n cap) n (recsC L)) : Recs W a L := by
  obtain ⟨a', cap', he, -, hr, -⟩ := recs_of_own h
  cases he
  exact hr
theorem qjourNeRec : 75 ≠ 142 := by decide
/-- What the document's Read's own cells hold. -/
structure QJ (N : Nat) (w : World) (k : Nat) (p : Int) (L : List R11) (v : Value) (W : World) : Prop where
  below : Below N w W
  res : Blk W N 75 zJour
  jour : Blk W (N + 1) 75 #[.int .i64 k, .int .i64 p, v, .string ⟨#[]⟩]
  own : W.ownsRow N 142 2 v L.length (recsC L)
section
variable {N : Nat} {w : World} {k : Nat} {p : Int} {L : List R11} {v : Value} {A B : World}
theorem qj_big (h : QJ N w k p L v A) : N + 2 ≤ A.heap.size := by have := blk_lt h.jour; omega
theorem qj_below (h : QJ N w k p L v A) (hb : Below A.heap.size A B) : QJ N w k p L v B :=
  ⟨h.below.trans (hb.mono (by have := qj_big h; omega)), blk_below h.res hb, blk_below h.jour hb, rown_below h.own hb⟩
theorem qj_alloc (h : QJ N w k p L v A) (o : Obj) : QJ N w k p L v (A.alloc o) := qj_below h (blw1 _ _)
theorem qj_drew (h : QJ N w k p L v A) : QJ N w k p L v A.drew := ⟨h.below.drew, h.res, h.jour, h.own⟩
theorem qj_k (h : QJ N w k p L v A) (k' : Nat) : QJ N w k' p L v (A.setCell ⟨N + 1, 0, none⟩ (.int .i64 k')) :=
  ⟨h.below.setCell (p := ⟨N + 1, 0, none⟩) (by show N ≤ N + 1; omega) _, blk_other h.res (by omega) _ _, blk_set h.jour 0 _, own_set h.own h.jour qjourNeRec _ _⟩
theorem qj_p (h : QJ N w k p L v A) (p' : Int) : QJ N w k p' L v (A.setCell ⟨N + 1, 1, none⟩ (.int .i64 p')) :=
  ⟨h.below.setCell (p := ⟨N + 1, 1, none⟩) (by show N ≤ N + 1; omega) _, blk_other h.res (by omega) _ _, blk_set h.jour 1 _, own_set h.own h.jour qjourNeRec _ _⟩
theorem qj_app (h : QJ N w k p L v A) (tmp : Obj) {w1 : World} {v' : Value} {L' : List R11} (hgrow : (A.alloc tmp).grownBy w1 v.ownBlock) (hown : w1.ownsRow N 142 2 v' L'.length (recsC L')) :
    QJ N w k p L' v' (w1.setCell ⟨N + 1, 2, none⟩ v') := by
  have h2 := qj_alloc h tmp
  have hb := qj_big h2
  have lt : ∀ g, v.ownBlock = some g → N ≤ g ∧ g < (A.alloc tmp).heap.size := fun g e => h2.own.lt g e
  have b0 := blk_own h2.res h2.own qjourNeRec hgrow
  have b1 := blk_own h2.jour h2.own qjourNeRec hgrow
  exact ⟨(h2.below.grown hgrow (by omega) (fun j e => (lt j e).1)).setCell (p := ⟨N + 1, 2, none⟩) (by show N ≤ N + 1; omega) _, blk_other b0 (by omega) _ _, blk_set b1 2 _, own_set hown b1 qjourNeRec _ _⟩
end
/-- The journal laid into the result. -/
theorem qread_end {N : Nat} {w V : World} {k : Nat} {p : Int} {L : List R11} {a : Option Addr} {cap : Nat} (sp : ByteArray) (hN : N = w.heap.size) (hb : Below N w V) (hr : Blk V N 75 zJour) (ho : V.ownsRow N 142 2 (.slice a L.length cap) L.length (recsC L)) :
    Blk ((((V.setCell ⟨N, 0, none⟩ (.int .i64 k)).setCell ⟨N, 1, none⟩ (.int .i64 p)).setCell ⟨N, 2, none⟩ (.slice a L.length cap)).setCell ⟨N, 3, none⟩ (.string sp)) N 75 #[.int .i64 k, .int .i64 p, .slice a L.length cap, .string sp] ∧
    Below w.heap.size w ((((V.setCell ⟨N, 0, none⟩ (.int .i64 k)).setCell ⟨N, 1, none⟩ (.int .i64 p)).setCell ⟨N, 2, none⟩ (.slice a L.length cap)).setCell ⟨N, 3, none⟩ (.string sp)) ∧
    Recs ((((V.setCell ⟨N, 0, none⟩ (.int .i64 k)).setCell ⟨N, 1, none⟩ (.int .i64 p)).setCell ⟨N, 2, none⟩ (.slice a L.length cap)).setCell ⟨N, 3, none⟩ (.string sp)) a L := by
  have o1 := own_set ho hr qjourNeRec 0 (.int .i64 k)
  have b1 := blk_set hr 0 (.int .i64 k)
  have o2 := own_set o1 b1 qjourNeRec 1 (.int .i64 p)
  have b2 := blk_set b1 1 (.int .i64 p)
  have o3 := own_set o2 b2 qjourNeRec 2 (.slice a L.length cap)
  have b3 := blk_set b2 2 (.slice a L.length cap)
  have o4 := own_set o3 b3 qjourNeRec 3 (.string sp)
  have b4 := blk_set b3 3 (.string sp)
  rw [← hN]
  exact ⟨b4, (((hb.setCell (p := ⟨N, 0, none⟩) (Nat.le_refl _) _).setCell (p := ⟨N, 1, none⟩) (Nat.le_refl _) _).setCell (p := ⟨N, 2, none⟩) (Nat.le_refl _) _).setCell (p := ⟨N, 3, none⟩) (Nat.le_refl _) _, own_recs o4⟩
/-- What a round of the document's Read leaves. -/
def Z11 (N : Nat) (w : World) (k : Nat) (p : Int) (M : List R11) (v' : Value) (P : Nat → Prop) (W2 V : World) : Prop := QJ N w k p M v' V ∧ KP P W2 V
theorem z11_next {N : Nat} {w : World} {k : Nat} {p : Int} {M : List R11} {v' : Value} {P : Nat → Prop} {W2 V V2 : World} (h : Z11 N w k p M v' P W2 V) (hP : ∀ j, P j → j < W2.heap.size) (hb : Below V.heap.size V V2) : Z11 N w k p M v' P W2 V2 := ⟨qj_below h.1 hb, kp_grown h.2 hP (below_grown (row := none) hb rfl) (fun j e => by cases e)⟩
theorem z11_drew {N : Nat} {w : World} {k : Nat} {p : Int} {M : List R11} {v' : Value} {P : Nat → Prop} {W2 V : World} (h : Z11 N w k p M v' P W2 V) : Z11 N w k p M v' P W2 V.drew := ⟨qj_drew h.1, h.2⟩
theorem z11_of {N : Nat} {w : World} {k : Nat} {p : Int} {M : List R11} {v' : Value} {P : Nat → Prop} {W2 V : World} (h : Z11 N w k p M v' P W2 V) {b i : Nat} {x : Value} (hb : P b) (hc : W2.cell? ⟨b, i, none⟩ = some x) :
    V.cell? ⟨N + 1, 0, none⟩ = some (.int .i64 k) ∧ V.cell? ⟨N + 1, 1, none⟩ = some (.int .i64 p) ∧ V.cell? ⟨N + 1, 2, none⟩ = some v' ∧ V.cell? ⟨N + 1, 3, none⟩ = some (.string ⟨#[]⟩) ∧ V.cell? ⟨b, i, none⟩ = some x ∧ Z11 N w k p M v' P W2 V :=
  ⟨blk_cell h.1.jour 0 rfl, blk_cell h.1.jour 1 rfl, blk_cell h.1.jour 2 rfl, blk_cell h.1.jour 3 rfl, kp_cell h.2 hb hc, h⟩
theorem z11_recs {N : Nat} {w : World} {k : Nat} {p : Int} {M : List R11} {a : Option Addr} {cap : Nat} {P : Nat → Prop} {W2 V : World} (h : Z11 N w k p M (.slice a M.length cap) P W2 V) : Recs V a M := own_recs h.1.own
def ReadQ (s : List UInt8) (w : World) (e : Ending) (w' : World) : Prop :=
  Below w.heap.size w w' ∧ ∃ a cap, e = .returned (.agg #[.int .i64 (rdJ s).k, .int .i64 (rdJ s).p, .slice a (rdJ s).L.length cap, .string (ba (rdJ s).s)]) ∧ Recs w' a (rdJ s).L
end Go.Proofs.YthfebcfdhmihcaaGreatDoor
