/-
  Layer 13: the helper Same: true where a calm disk has just these files. Condition: at most 1000 files, paths of at most 30000 bytes.
  Layer 13: removeSupers where some can go. Condition: the disk is calm, the sizes fit.
  Layer 13: Recover: the directory synced, the journal settled, super-journals removed; what it answers. Condition: the disk is calm, the sizes fit.
  Layer 13: Recover of a file whose path can be created, or that is there, or that is not hot. Condition: the disk is calm, the sizes fit.
  Layer 13: Recover of a hot file whose path is refused: the disk's number, and all files stay. Condition: the disk is calm, the sizes fit.
  Layer 13: paths of super-journals are none of journals; a restoration done again changes nothing; a fresh path is one of a super-journal (mathematics only). Condition: as each theorem says.
  Layer 13: the helper Great: where it says false there are at most 13 files, of at most 30000 bytes all together with their paths; it changes nothing. Condition: sizes of at most 2^60.
  What the rows of layer 13's statements share: a slice of files as an argument, opened to what the walks ask.
  Layer 13: the helper Laid: a disk with these files, sure all of them; or none, where a path is refused or there twice. Condition: at most 13 files, of at most 30000 bytes all together with their paths.
-/
import Derived.Deep.Slices
import Derived.ChangeSlices
import Derived.Deep.CutRange
import Derived.Deep.RegionHeld3
import Derived.Test.YthfebcfdhmihcaaGreatDoorMh21
import Derived.Test.YthfebcfdhmihcaaGreatDoorMh20
import Derived.Test.YthfebcfdhmihcaaGreatDoorMh7
namespace Go.Proofs.YthfebcfdhmihcaaGreatDoor
open Go.RowKit
variable {P : Nat → Prop} {ea : Addr} {b n m : Nat} {l : List F13} {Q : PQ} {w : World}

theorem one_st (s : ByteArray) (f : Fn) (r c : Array Value) : ∀ u, u ∈ [Value.string s, .func f r c] → u.oneCell' = true := by
  intro u hu
  simp at hu
  rcases hu with rfl | rfl <;> rfl

set_option maxRecDepth 100000 in
set_option maxHeartbeats 2000000 in
theorem remsup_some {rb : Nat} {p : List UInt8} {j0 j1 j2 j3 : Value} {hot cr : Bool} (h : Dk P ea b n 0 l QN w) (hP : P rb) (hr : Blk w rb 79 (rcC b p j0 j1 j2 j3 hot cr)) (hl : l.length ≤ 1000) (hz : ∀ f, f ∈ l → f.1.length ≤ 30000) (hm : SmlF l) (hn : n + 18 * l.length + 10 ≤ 100000) (he : rmF l p ≠ []) :
    Calls Tryz.prog 47 #[.pointer (some ⟨rb, 0, none⟩)] w fun e w' => e = .returned .nilIface ∧ RsE P ea b (n + 14 * l.length + 4 * (rmF l p).length + 1) 0 rb (gonF l p) QN p w w' := by
  have c0 := blk_cell hr 0 (v := .pointer (some ⟨b, 0, none⟩)) rfl
  have c1 := blk_cell hr 1 (v := .string (ba p)) rfl
  have HR := Lib.hid (hremovables_any (dk_drew h) p hl hz hm (by omega))
  have HUD := Lib.hid (fun W (hF : Fr P w.drew W) => fr_undrew hF)
  have hsrt := dk_srt h
  rw [gon_is hsrt]
  have HLK := Lib.hid (fun j (hj : j < (rmF l p).length) => dl_at hsrt hj)
  have HNM := Lib.hid (fun c (hc : c ∈ rmF l p) => rm_names hz hc)
  have hll := rm_len l p
  obtain ⟨i1, hi1, hz1, hs1, hb1⟩ := infoSt
  have kd := fun q hq W => hdeletion_any rb q hq W
  obtain ⟨L, hL⟩ : ∃ L, L = rmF l p := ⟨_, rfl⟩
  rw [← hL] at HR HLK HNM hll he ⊢
  have hne : ¬ (L.length : Int) = 0 := by
    have := List.length_pos_iff.2 he
    omega
  have hLn : L.length ≤ 1000 := by omega
  have hn4 : n + 14 * l.length + 4 * L.length + 10 ≤ 100000 := by omega
  have HFIN := Lib.hid (fun (wc w4 : World) (PP : Nat → Prop) (G1 G2 : Nat → Nat) (gb cap : Nat) (hD : Dk PP ea b (n + 14 * l.length) 0 l QN wc) (hPP : ∀ k, P k → PP k) (hF : Fr P w wc) (hI : FinI rb L wc w4 gb G1 G2) => rem_steps (cap := cap) HLK.out HNM.out hD hPP hP h.gn (hF.mono fun k hk => hk.1) (fr_blk hF hP hr) hI hn4)
  have HBL := Lib.hid (fun (wc : World) (hF : Fr P w wc) => fr_blk hF hP hr)
  clear h hr he hL hll hsrt hl hz hm hn hn4 hP
  go_enter Tryz.func47, Tryz.ntmps47
  go_upto_region 1 with (fail)
  go_cut [3, 4] from 5 (fun u t wx => t = .nilIface ∧ ∃ (a : Option Addr) (cap : Nat), u = .slice a L.length cap ∧ Hid (SRow wx w.heap.size u L) ∧ Hid (DkR P ea b (n + 14 * l.length) 0 l QN u wx) ∧ Hid (Fr P w wx))
  case first =>
    go_region_with ((go_at_call 92; (with_reducible refine HR.out.mono ?_); rintro e w2 ⟨v, rfl, hS, hDR, hF⟩; obtain ⟨a, cap, rfl, -, -⟩ := srow_strs hS; have HS := Lib.hid hS; have HD := Lib.hid hDR; have HF := Lib.hid (HUD.out _ hF); clear hDR hF hS))
    all_goals go_wp2
    all_goals go_meet
    all_goals exact ⟨rfl, a, cap, rfl, HS, HD, HF⟩
  case rest =>
    obtain ⟨rfl, a, cap, rfl, hS, hDR, hF⟩ := hcut
    go_wp2
    obtain ⟨a2, cap2, he, hST, -⟩ := srow_strs hS.out
    cases he
    have HST := Lib.hid hST
    clear hST
    rw [show ((L.length : Int) == 0) = false from beq_eq_false_iff_ne.2 hne]
    go_loopw [5, 7, 30] (fun s _ i wr => ∃ j : Nat, j ≤ L.length ∧ i = .int .i64 j ∧ Hid (StK rb L wc wr s j)) (fun _ _ i _ => L.length - (intOf i).toNat)
    case atStart => exact ⟨0, by omega, rfl, Lib.hid (stk_start rb L wc)⟩
    case round =>
      obtain ⟨j, hj, rfl, hI⟩ := hrel
      by_cases hlt : j < L.length
      · have t1 : (j : Int) < L.length := by omega
        obtain ⟨hBw, G1, G2, hrow, hdel⟩ := hI.out
        have d1 := HBL.out _ hF.out
        obtain ⟨bg, off, rfl, hbw, cc⟩ := HST.out j hlt
        have c3 := (World.cell?_of_block (a := ⟨bg, off + j, none⟩) (hBw.block bg hbw)).trans cc
        have HB := Lib.hid hBw
        have HROW := Lib.hid hrow
        have HDEL := Lib.hid hdel
        have hD := kd L[j] (Nat.le_trans (HNM.out _ (List.getElem_mem hlt)) (by decide)) wr
        have hgd : L.getD j [] = L[j] := by rw [List.getD_eq_getElem?_getD, List.getElem?_eq_getElem hlt]; rfl
        rw [← hgd] at c3 hD
        obtain ⟨c, hc⟩ : ∃ c, c = L.getD j [] := ⟨_, rfl⟩
        rw [← hc] at c3 hD
        have HD := Lib.hid hD
        have HC := Lib.hid hc
        have hbs := hBw.size
        clear hBw hrow hdel kd hI hD hc hgd cc
        go_wp2_with (first
          | (go_at_call 91; (with_reducible refine HD.out.mono ?_); rintro e w2 ⟨rfl, hDB, hB2⟩; have HDB := Lib.hid hDB; have HB2 := Lib.hid hB2; have HR2 := Lib.hid (rown_below (rown_below HROW.out hB2) (blw1 _ (.cells #[.string (delS c), .func (.func 125) #[] #[.pointer (some ⟨wr.heap.size, 0, none⟩), .pointer (some ⟨wr.heap.size + 1, 0, none⟩)]] 83))); have hbs2 := hB2.size; clear hDB hB2)
          | (at_builtin; (refine wpList_append_row _ rfl _ _ 144 rfl wc.heap.size 83 i1 _ 2 24 Tryz.underlying144 hi1 hz1 hs1 hb1 rfl (by decide) _ _ _ rfl HR2.out _ 1 [.string (delS c), .func (.func 125) #[] #[.pointer (some ⟨wr.heap.size, 0, none⟩), .pointer (some ⟨wr.heap.size + 1, 0, none⟩)]] rfl (row_one _ 83 2 [.string (delS c), .func (.func 125) #[] #[.pointer (some ⟨wr.heap.size, 0, none⟩), .pointer (some ⟨wr.heap.size + 1, 0, none⟩)]] rfl) (one_st _ _ _ _) (by unfold maxLen; omega) (by omega) (by simp; omega) ?_; intro v3 w3 hown3 hgrow3 hbk3)))
        go_roundw
        case rel => exact ⟨j + 1, by omega, by go_num, Lib.hid (stk_step HB.out HROW.out HDEL.out HB2.out (Nat.le_refl _) (Nat.le_succ _) (by rw [← HC.out]; exact HDB.out) hgrow3 hbk3 (by rw [← HC.out]; exact hown3))⟩
        case measure => simp [intOf]; omega
      · obtain rfl : j = L.length := by omega
        have t1 : ¬ ((L.length : Nat) : Int) < (L.length : Nat) := by omega
        obtain ⟨hBw, G1, G2, hrow, hdel⟩ := hI.out
        have HB := Lib.hid hBw
        have HROW := Lib.hid hrow
        have HDEL := Lib.hid hdel
        have hbs := hBw.size
        have HR3 := Lib.hid (rown_below hrow (blw1 wr (.cells #[.string ⟨#[115, 121, 110, 99, 32, 116, 104, 101, 32, 100, 105, 114, 101, 99, 116, 111, 114, 121]⟩, .func (.func 45) #[.pointer (some ⟨rb, 0, none⟩)] #[]] 83)))
        obtain ⟨PP, hP1, hP2, hDD⟩ := hDR.out
        have HP1 := Lib.hid hP1
        have HDD := Lib.hid hDD
        clear hBw hrow hdel kd hI hP1 hP2 hDD
        go_wp2_with (first
          | (at_builtin; go_must (refine wpList_append_row _ rfl _ _ 144 rfl wc.heap.size 83 i1 _ 2 24 Tryz.underlying144 hi1 hz1 hs1 hb1 rfl (by decide) _ _ _ rfl HR3.out _ 1 [.string ⟨#[115, 121, 110, 99, 32, 116, 104, 101, 32, 100, 105, 114, 101, 99, 116, 111, 114, 121]⟩, .func (.func 45) #[.pointer (some ⟨rb, 0, none⟩)] #[]] rfl (row_one _ 83 2 [.string ⟨#[115, 121, 110, 99, 32, 116, 104, 101, 32, 100, 105, 114, 101, 99, 116, 111, 114, 121]⟩, .func (.func 45) #[.pointer (some ⟨rb, 0, none⟩)] #[]] rfl) (one_st _ _ _ _) (by unfold maxLen; omega) (by omega) (by simp; omega) ?_; intro v4 w4 hown4 hgrow4 hbk4; obtain ⟨gb, cap4, rfl, hFI⟩ := fin_of HB.out HROW.out HDEL.out hgrow4 hown4; have HIN := Lib.hid (HFIN.out wc w4 PP G1 G2 gb cap4 HDD.out HP1.out hF.out hFI)))
          | (go_at_call 44; (with_reducible refine HIN.out.mono ?_); rintro e w5 ⟨rfl, hE⟩; have HE := Lib.hid hE; clear hE))
        go_ret
        exact ⟨rfl, HE.out⟩
end Go.Proofs.YthfebcfdhmihcaaGreatDoor

namespace Go.Proofs.YthfebcfdhmihcaaGreatDoor
open Go.RowKit
variable {P : Nat → Prop} {ea : Addr} {b n m : Nat} {l : List F13} {Q : PQ} {w : World}

theorem hotl_len {l : List F13} (hs : SrtF l) (p : List UInt8) : (hotL l p).length ≤ l.length + 1 := by
  unfold hotL
  split
  · rw [with_is hs]; exact ins_len _ l
  · omega
def setL (l : List F13) (p : List UInt8) : List F13 := wtoF (hotL l p) (p ++ jx)
theorem setl_len {l : List F13} (hs : SrtF l) (p : List UInt8) : (setL l p).length ≤ l.length + 1 := Nat.le_trans (wto_len _ _) (hotl_len hs p)
theorem setl_sml {l : List F13} (hm : SmlF l) (p : List UInt8) : SmlF (setL l p) := fun f hf => by
  rcases hot_mem (List.mem_filter.1 hf).1 with h | h
  · exact Nat.le_trans h.2 (by decide)
  · exact hm f h
theorem setl_names {l : List F13} (hz : ∀ f, f ∈ l → f.1.length ≤ 30000) {p : List UInt8} (hp : p.length ≤ 30000) : ∀ f, f ∈ setL l p → f.1.length ≤ 30000 := fun f hf => by
  rcases hot_mem (List.mem_filter.1 hf).1 with h | h
  · rw [h.1]; exact hp
  · exact hz f h
def nmW (j : Nat) : ByteArray := match j with
  | 0 => ⟨#[115, 121, 110, 99, 32, 116, 104, 101, 32, 100, 105, 114, 101, 99, 116, 111, 114, 121]⟩
  | 1 => ⟨#[115, 101, 116, 116, 108, 101, 32, 116, 104, 101, 32, 106, 111, 117, 114, 110, 97, 108]⟩
  | _ => ⟨#[114, 101, 109, 111, 118, 101, 32, 115, 117, 112, 101, 114, 45, 106, 111, 117, 114, 110, 97, 108, 115]⟩
def kfW (j : Nat) : Nat := match j with
  | 0 => 45
  | 1 => 46
  | _ => 47
theorem enters_W (j : Nat) : ∀ args v, (callFunc (kfW j) args).run Tryz.prog v = .ok (.enter (kfW j) args) v := by
  match j with
  | 0 => exact enters_of Tryz.func45 (by kernel_rfl) rfl
  | 1 => exact enters_of Tryz.func46 (by kernel_rfl) rfl
  | _ + 2 => exact enters_of Tryz.func47 (by kernel_rfl) rfl
def stW (rb : Nat) : Array Value := #[.string (nmW 0), .func (.func (kfW 0)) #[.pointer (some ⟨rb, 0, none⟩)] #[], .string (nmW 1), .func (.func (kfW 1)) #[.pointer (some ⟨rb, 0, none⟩)] #[], .string (nmW 2), .func (.func (kfW 2)) #[.pointer (some ⟨rb, 0, none⟩)] #[]]
theorem stw_cells {v : World} {sb rb : Nat} (h : Blk v sb 83 (stW rb)) : ∀ j, j < 3 → v.cell? ⟨sb, 0 + j * 2, none⟩ = some (.string (nmW j)) ∧ v.cell? ⟨sb, 0 + j * 2 + 1, none⟩ = some (.func (.func (kfW j)) #[.pointer (some ⟨rb, 0, none⟩)] #[]) := by
  intro j hj
  match j, hj with
  | 0, _ => exact ⟨blk_cell h 0 rfl, blk_cell h 1 rfl⟩
  | 1, _ => exact ⟨blk_cell h 2 rfl, blk_cell h 3 rfl⟩
  | 2, _ => exact ⟨blk_cell h 4 rfl, blk_cell h 5 rfl⟩
def rcZ (b : Nat) (p : List UInt8) : Array Value := rcC b p (.int .i64 0) (.int .i64 0) (.slice none 0 0) (.string ⟨#[]⟩) false false
set_option maxRecDepth 100000 in
set_option maxHeartbeats 2000000 in
theorem recover_walk {p : List UInt8} {c : Int} {QQ : Value → World → Prop}
    (ho : Calls Tryz.prog 44 #[.slice (some ⟨w.heap.size + 1, 0, none⟩) 3 3] ((w.alloc (.cells (rcZ b p) 79)).alloc (.cells (stW w.heap.size) 83)) fun e w' => ∃ x, e = .returned x ∧ QQ x w')
    (hz : ∀ x W, QQ x W → Calls Tryz.prog 29 #[x] W fun e w' => e = .returned (.int .i64 c) ∧ Below W.heap.size W w') :
    Calls Tryz.prog 15 #[.pointer (some ⟨b, 0, none⟩), .string (ba p)] w fun e w' => e = .returned (.int .i64 c) ∧ ∃ x W, QQ x W ∧ Below W.heap.size W w' := by
  unfold stW nmW kfW rcZ rcC at ho
  simp only at ho
  have HO := Lib.hid ho
  have HZ := Lib.hid hz
  clear ho hz
  go_enter Tryz.func15, Tryz.ntmps15
  go_wp2_with (first
    | (go_at_call 44; (with_reducible refine HO.out.mono ?_); rintro e w1 ⟨x, rfl, hq⟩; have HN := Lib.hid (HZ.out _ _ hq); have HQ := Lib.hid hq; clear hq)
    | (go_at_call 29; (with_reducible refine HN.out.mono ?_); rintro e w2 ⟨rfl, hB⟩; have HB := Lib.hid hB; clear hB))
  go_ret
  exact ⟨rfl, _, _, HQ.out, HB.out⟩
end Go.Proofs.YthfebcfdhmihcaaGreatDoor

namespace Go.Proofs.YthfebcfdhmihcaaGreatDoor
open Go.RowKit
variable {P : Nat → Prop} {ea : Addr} {b n m : Nat} {l : List F13} {Q : PQ} {w : World}

theorem gon_nil {l : List F13} (hs : SrtF l) {p : List UInt8} (h : rmF l p = []) : gonF l p = l := by
  rw [gon_is hs, h]
  rfl
/-- What settling needs. -/
structure RecOk (l : List F13) (p : List UInt8) : Prop where
  path : p.length ≤ 30000
  sml : SmlF l
  names : ∀ f, f ∈ l → f.1.length ≤ 30000
  len : l.length < 60
  tot : totF l + 1025000 ≤ 4000000
def RcJ (P : Nat → Prop) (ea : Addr) (b n m rb : Nat) (l : List F13) (p : List UInt8) (w : World) (j : Nat) : World → Prop := match j with
  | 0 => RsI P ea b n m rb l QD p (.int .i64 0) (.int .i64 0) (.slice none 0 0) (.string ⟨#[]⟩) false false w
  | 1 => RsI P ea b (n + 1 + m) 0 rb l QN p (.int .i64 0) (.int .i64 0) (.slice none 0 0) (.string ⟨#[]⟩) false false w
  | 2 => RsE P ea b (n + 12056 + m) 0 rb (setL l p) QN p w
  | _ => RsE P ea b (n + 13200 + m) 0 rb (recF l p) QN p w
theorem rcj_fr {rb : Nat} {p : List UInt8} {v : World} : ∀ j, RcJ P ea b n m rb l p w j v → Fr (Bt P rb) w v
  | 0, h => h.2.1
  | 1, h => h.2.1
  | 2, h => rse_fr h
  | _ + 3, h => rse_fr h
theorem settle_any {rb : Nat} {p : List UInt8} {j0 j1 j2 j3 : Value} {hot : Bool} (h : Dk P ea b n 0 l QN w) (hP : P rb) (hg : 6 ≤ rb) (hr : Blk w rb 79 (rcC b p j0 j1 j2 j3 hot false))
    (ho : RecOk l p) (hok : ∀ d, lookF l (p ++ jx) = some d → hotF l d = true → (lookF l p).isSome = true ∨ pathB p = true) (hn : n + 13000 ≤ 100000) :
    Calls Tryz.prog 46 #[.pointer (some ⟨rb, 0, none⟩)] w fun e w' => e = .returned .nilIface ∧ RsE P ea b (n + 12055) 0 rb (setL l p) QN p w w' := by
  have hp := ho.path
  cases hx : lookF l (p ++ jx) with
  | none =>
    refine (settle_none h hP hr (by omega) hx).mono fun e w' hq => ⟨hq.1, rse_up hq.2 (by omega) (by omega) (Nat.le_refl _) fun _ _ h => h⟩
  | some d => exact settle_ok h hP hg hr (by omega) hx ho.sml ho.len ho.tot (hok d hx) (by omega)
theorem remsup_any {rb : Nat} {p : List UInt8} {j0 j1 j2 j3 : Value} {hot cr : Bool} (h : Dk P ea b n 0 l QN w) (hP : P rb) (hr : Blk w rb 79 (rcC b p j0 j1 j2 j3 hot cr)) (hl : l.length ≤ 60) (hz : ∀ f, f ∈ l → f.1.length ≤ 30000) (hm : SmlF l) (hn : n + 1144 ≤ 100000) :
    Calls Tryz.prog 47 #[.pointer (some ⟨rb, 0, none⟩)] w fun e w' => e = .returned .nilIface ∧ RsE P ea b (n + 1144) 0 rb (gonF l p) QN p w w' := by
  by_cases he : rmF l p = []
  · rw [gon_nil (dk_srt h) he]
    refine (remsup_none h hr (by omega) hz hm (by omega) he).mono fun e w' hq => ?_
    obtain ⟨h1, h2, h3⟩ := hq
    exact ⟨h1, j0, j1, j2, j3, hot, cr, dk_up h2 (by omega) (by omega), bt_mono h3, fr_blk h3 hP hr⟩
  · have := rm_len l p
    exact (remsup_some h hP hr (by omega) hz hm (by omega) he).mono fun e w' hq => ⟨hq.1, rse_up hq.2 (by omega) (by omega) (Nat.le_refl _) fun _ _ h => h⟩
set_option maxRecDepth 100000 in
theorem recover_ok {p : List UInt8} (h : Dk P ea b n m l QD w) (ho : RecOk l p) (hok : ∀ d, lookF l (p ++ jx) = some d → hotF l d = true → (lookF l p).isSome = true ∨ pathB p = true) (hn : n + m + 14000 ≤ 100000) :
    Calls Tryz.prog 15 #[.pointer (some ⟨b, 0, none⟩), .string (ba p)] w fun e w' => e = .returned (.int .i64 0) ∧ Dk P ea b (n + 13200 + m) 0 (recF l p) QN w' ∧ Fr P w w' := by
  have hgn : 6 ≤ w.heap.size := by have := h.lt (6 - 1) (h.gn _ (by decide)); omega
  have hw1 : Below w.heap.size w (w.alloc (.cells (rcZ b p) 79)) := blw1 w _
  have hB2 : Below w.heap.size w ((w.alloc (.cells (rcZ b p) 79)).alloc (.cells (stW w.heap.size) 83)) := hw1.alloc hw1.size _
  have hA := dk_grab h hB2
  have hbr : Blk ((w.alloc (.cells (rcZ b p) 79)).alloc (.cells (stW w.heap.size) 83)) w.heap.size 79 (rcZ b p) := blk_alloc (blk_new w 79 (rcZ b p)) _
  have hbs : Blk ((w.alloc (.cells (rcZ b p) 79)).alloc (.cells (stW w.heap.size) 83)) (w.heap.size + 1) 83 (stW w.heap.size) := blk_at (by simp)
  refine (recover_walk (c := 0) (QQ := fun x v => x = .nilIface ∧ Dk P ea b (n + 13200 + m) 0 (recF l p) QN v ∧ Fr P w v) ?_ ?_).mono ?_
  · obtain ⟨W0, hW0⟩ : ∃ W0, W0 = (w.alloc (.cells (rcZ b p) 79)).alloc (.cells (stW w.heap.size) 83) := ⟨_, rfl⟩
    have hs0 : W0.heap.size = w.heap.size + 1 + 1 := by rw [hW0]; simp
    rw [← hW0] at hA hbr hbs hB2 ⊢
    obtain ⟨P2, hP2⟩ : ∃ P2 : Nat → Prop, P2 = fun k => P k ∨ (w.heap.size ≤ k ∧ k < W0.heap.size) := ⟨_, rfl⟩
    rw [← hP2] at hA
    have hPP : ∀ k, P k → P2 k := fun k hk => by rw [hP2]; exact .inl hk
    have hPn : ∀ k, w.heap.size ≤ k → k < W0.heap.size → P2 k := fun k h1 h2 => by rw [hP2]; exact .inr ⟨h1, h2⟩
    obtain ⟨rb, hrb⟩ : ∃ rb, rb = w.heap.size := ⟨_, rfl⟩
    rw [← hrb] at hbr hbs hgn ⊢
    have hrb2 : P2 rb := hPn rb (by omega) (by omega)
    have hF0 : Fr P w W0 := fr_below hB2 h.lt
    have h0 : RcJ P2 ea b n m rb l p W0 0 W0 := ⟨hA, Fr.refl _ _, hbr⟩
    refine (inorder_any (rb + 1) 0 3 3 (by decide) nmW kfW (fun _ => #[.pointer (some ⟨rb, 0, none⟩)]) (fun _ => #[]) (RcJ P2 ea b n m rb l p W0) (fun _ _ _ => False) ?_ (fun j _ => enters_W j) ?_ _ h0).mono ?_
    · intro j v hj hI
      exact stw_cells (fr_blk (rcj_fr j hI) ⟨hPn _ (by omega) (by omega), by omega⟩ hbs) j hj
    · intro j v t0 cs hj hI
      have hgn2 := hA.gn
      match j, hj, hI with
      | 0, _, hI =>
        obtain ⟨hD, hB⟩ := rs_alloc (.cells cs t0) hI
        refine (syncdir_any hD hB (by omega)).mono fun e w' hq => ?_
        exact sq_ok hrb2 hgn2 hI hq.1 hq.2.1 (bt_mono hq.2.2) (fr_blk hq.2.2 (.inl hrb2) hB)
      | 1, _, hI =>
        obtain ⟨hD, hB⟩ := rs_alloc (.cells cs t0) hI
        refine (settle_any hD (.inl hrb2) hgn hB ho hok (by omega)).mono fun e w' hq => ?_
        exact sq_back hI.2.1 hI.1.lt hrb2 hgn2 (fun k hk => hk) hq.1 (rse_up hq.2 (by omega) (by omega) (Nat.le_refl _) fun _ _ h => h)
      | 2, _, hI =>
        obtain ⟨k0, k1, k2, k3, hot, cr, hI⟩ := hI
        obtain ⟨hD, hB⟩ := rs_alloc (.cells cs t0) hI
        have hs := dk_srt h
        have hl2 := setl_len hs p
        have hl3 := ho.len
        refine (remsup_any hD (.inl hrb2) hB (by omega) (setl_names ho.names ho.path) (setl_sml ho.sml p) (by omega)).mono fun e w' hq => ?_
        exact sq_back hI.2.1 hI.1.lt hrb2 hgn2 (fun k hk => hk) hq.1 (rse_up hq.2 (by omega) (by omega) (Nat.le_refl _) fun _ _ h => h)
    · intro e w' hq
      rcases hq with ⟨he, hI⟩ | ⟨j, x, v, -, hF, -⟩
      · obtain ⟨k0, k1, k2, k3, hot, cr, hD, hF, -⟩ := hI
        exact ⟨_, he, rfl, dk_less hD hPP h.gn, hF0.trans (hF.mono fun k hk => ⟨hPP k hk, by have := h.lt k hk; omega⟩)⟩
      · exact hF.elim
  · rintro x W ⟨rfl, -⟩
    exact hnumber_nil W
  · rintro e w' ⟨he, x, W, ⟨rfl, hD, hF⟩, hB⟩
    exact ⟨he, dk_below hD hB, hF.trans (dk_fr hD hB)⟩
end Go.Proofs.YthfebcfdhmihcaaGreatDoor

namespace Go.Proofs.YthfebcfdhmihcaaGreatDoor
open Go.RowKit
variable {P : Nat → Prop} {ea : Addr} {b n m : Nat} {l : List F13} {Q : PQ} {w : World}

def RnJ (P : Nat → Prop) (ea : Addr) (b n m rb : Nat) (l : List F13) (p : List UInt8) (w : World) (j : Nat) : World → Prop := match j with
  | 0 => RsI P ea b n m rb l QD p (.int .i64 0) (.int .i64 0) (.slice none 0 0) (.string ⟨#[]⟩) false false w
  | 1 => RsI P ea b (n + 1 + m) 0 rb l QN p (.int .i64 0) (.int .i64 0) (.slice none 0 0) (.string ⟨#[]⟩) false false w
  | _ => fun _ => False
theorem rnj_fr {rb : Nat} {p : List UInt8} {v : World} : ∀ j, RnJ P ea b n m rb l p w j v → Fr (Bt P rb) w v
  | 0, h => h.2.1
  | 1, h => h.2.1
  | _ + 2, h => False.elim h
set_option maxRecDepth 100000 in
theorem recover_no {p : List UInt8} (h : Dk P ea b n m l QD w) {d : List UInt8} (ho : RecOk l p) (hx : lookF l (p ++ jx) = some d) (hh : hotF l d = true) (hno : lookF l p = none) (hb : pathB p = false) (hn : n + m + 14000 ≤ 100000) :
    Calls Tryz.prog 15 #[.pointer (some ⟨b, 0, none⟩), .string (ba p)] w fun e w' => e = .returned (.int .i64 13) ∧ Dk P ea b (n + 6 + m) 0 l QD w' ∧ Fr P w w' := by
  have hgn : 6 ≤ w.heap.size := by have := h.lt (6 - 1) (h.gn _ (by decide)); omega
  have hw1 : Below w.heap.size w (w.alloc (.cells (rcZ b p) 79)) := blw1 w _
  have hB2 : Below w.heap.size w ((w.alloc (.cells (rcZ b p) 79)).alloc (.cells (stW w.heap.size) 83)) := hw1.alloc hw1.size _
  have hA := dk_grab h hB2
  have hbr : Blk ((w.alloc (.cells (rcZ b p) 79)).alloc (.cells (stW w.heap.size) 83)) w.heap.size 79 (rcZ b p) := blk_alloc (blk_new w 79 (rcZ b p)) _
  have hbs : Blk ((w.alloc (.cells (rcZ b p) 79)).alloc (.cells (stW w.heap.size) 83)) (w.heap.size + 1) 83 (stW w.heap.size) := blk_at (by simp)
  refine (recover_walk (c := 13) (QQ := fun x v => Dk P ea b (n + 6 + m) 0 l QD v ∧ Fr P w v ∧ ∃ (g3 : Nat) (s3 : ByteArray) (y : Value) (u : World), x = .iface 145 (.pointer (some ⟨g3, 0, none⟩)) ∧ Blk v g3 147 #[.string s3, y] ∧ NoE y u ∧ Below u.heap.size u v) ?_ ?_).mono ?_
  · obtain ⟨W0, hW0⟩ : ∃ W0, W0 = (w.alloc (.cells (rcZ b p) 79)).alloc (.cells (stW w.heap.size) 83) := ⟨_, rfl⟩
    have hs0 : W0.heap.size = w.heap.size + 1 + 1 := by rw [hW0]; simp
    rw [← hW0] at hA hbr hbs hB2 ⊢
    obtain ⟨P2, hP2⟩ : ∃ P2 : Nat → Prop, P2 = fun k => P k ∨ (w.heap.size ≤ k ∧ k < W0.heap.size) := ⟨_, rfl⟩
    rw [← hP2] at hA
    have hPP : ∀ k, P k → P2 k := fun k hk => by rw [hP2]; exact .inl hk
    have hPn : ∀ k, w.heap.size ≤ k → k < W0.heap.size → P2 k := fun k h1 h2 => by rw [hP2]; exact .inr ⟨h1, h2⟩
    obtain ⟨rb, hrb⟩ : ∃ rb, rb = w.heap.size := ⟨_, rfl⟩
    rw [← hrb] at hbr hbs hgn ⊢
    have hrb2 : P2 rb := hPn rb (by omega) (by omega)
    have hF0 : Fr P w W0 := fr_below hB2 h.lt
    have h0 : RnJ P2 ea b n m rb l p W0 0 W0 := ⟨hA, Fr.refl _ _, hbr⟩
    refine (inorder_any (rb + 1) 0 3 3 (by decide) nmW kfW (fun _ => #[.pointer (some ⟨rb, 0, none⟩)]) (fun _ => #[]) (RnJ P2 ea b n m rb l p W0) (fun _ x v => NoE x v ∧ RsE P2 ea b (n + 6 + m) 0 rb l QD p W0 v) ?_ (fun j _ => enters_W j) ?_ _ h0).mono ?_
    · intro j v hj hI
      exact stw_cells (fr_blk (rnj_fr j hI) ⟨hPn _ (by omega) (by omega), by omega⟩ hbs) j hj
    · intro j v t0 cs hj hI
      have hgn2 := hA.gn
      match j, hj, hI with
      | 0, _, hI =>
        obtain ⟨hD, hB⟩ := rs_alloc (.cells cs t0) hI
        refine (syncdir_any hD hB (by omega)).mono fun e w' hq => ?_
        exact sq_ok hrb2 hgn2 hI hq.1 hq.2.1 (bt_mono hq.2.2) (fr_blk hq.2.2 (.inl hrb2) hB)
      | 1, _, hI =>
        obtain ⟨hD, hB⟩ := rs_alloc (.cells cs t0) hI
        have hp := ho.path
        refine (settle_no hD (.inl hrb2) hgn hB (by omega) hx ho.sml hh hno hb (by omega)).mono fun e w' hq => ?_
        obtain ⟨x, he, hN, k0, k1, k2, k3, hot, cr, q1, q2, q3⟩ := hq
        obtain ⟨f1, f2⟩ := sq_fr hI.2.1 hI.1.lt hrb2 q2
        have hN2 := hN
        obtain ⟨g2, g, s2, s, rfl, -⟩ := hN2
        exact ⟨f2, .inr ⟨_, _, he, hN, k0, k1, k2, k3, hot, cr, dk_mono (dk_less q1 (fun k hk => .inl hk) hgn2) (by omega) (by omega) (Nat.le_refl _) (fun _ _ h => h), f1, q3⟩⟩
      | 2, _, hI => exact False.elim hI
    · intro e w' hq
      rcases hq with ⟨-, hI⟩ | ⟨j, x, v, -, ⟨hN, k0, k1, k2, k3, hot, cr, hD, hF, -⟩, rfl, he⟩
      · exact False.elim hI
      · refine ⟨_, he, dk_less (dk_alloc hD _) hPP h.gn, ?_, v.heap.size, _, x, v, rfl, blk_new _ _ _, hN, blw1 v _⟩
        exact (hF0.trans (hF.mono fun k hk => ⟨hPP k hk, by have := h.lt k hk; omega⟩)).trans (fr_al fun k hk => hD.lt k (hPP k hk))
  · rintro x W ⟨hD, -, g3, s3, y, u, rfl, hb3, ⟨g2, g, s2, s, rfl, hb2, hb1⟩, hB⟩
    exact hnumber_3 g3 g2 g s3 s2 s 13 W hD.gl.et hb3 (blk_below hb2 hB) (blk_below hb1 hB)
  · rintro e w' ⟨he, x, W, ⟨hD, hF, -⟩, hB⟩
    exact ⟨he, dk_below hD hB, hF.trans (dk_fr hD hB)⟩
end Go.Proofs.YthfebcfdhmihcaaGreatDoor

namespace Go.Proofs.YthfebcfdhmihcaaGreatDoor
open Go.RowKit

theorem dec_dig (u : Nat) : ∀ c ∈ Lib.decDigits u, 48 ≤ c.toNat ∧ c.toNat ≤ 57 := by
  induction u using Nat.strongRecOn with
  | _ u ih =>
    intro c hc
    rw [Lib.decDigits] at hc
    split at hc
    · obtain rfl := List.mem_singleton.1 hc; rw [UInt8.toNat_ofNat']; omega
    · rcases List.mem_append.1 hc with h | h
      · exact ih _ (by omega) c h
      · obtain rfl := List.mem_singleton.1 h; rw [UInt8.toNat_ofNat']; omega
theorem num_dec {t : List UInt8} (h : numOk t = true) : ∃ u : Nat, t = Lib.decDigits u := by
  unfold numOk at h
  obtain ⟨-, h2, h3⟩ := of_decide_eq_true h
  obtain ⟨u, hu⟩ := Int.eq_ofNat_of_zero_le (show 0 ≤ (readR t).1 by omega)
  rw [hu, Lib.itoa_nonneg] at h3
  exact ⟨u, h3.symm⟩
theorem dec_num {u : Nat} (h1 : 1 ≤ u) (h2 : u ≤ 1000000) : numOk (Lib.decDigits u) = true := by
  have hr := dec_read u u (Nat.le_refl _) (by unfold maxI; omega)
  have hne := (dec_head u u (Nat.le_refl _)).2
  have h3 : readR (Lib.decDigits u) = ((u : Int), 0) := by unfold readR; rw [if_neg hne, hr]
  unfold numOk
  rw [h3]
  exact decide_eq_true ⟨rfl, by show (1 : Int) ≤ u; omega, Lib.itoa_nonneg u⟩
theorem sup_is {p : List UInt8} : ∀ i, (supA p i).2 = true → ∃ t, numOk t = true ∧ p = (supA p i).1 ++ sx ++ t
  | 0, h => by cases h
  | i + 1, h => by
    rw [supA] at h ⊢
    split at h
    · rename_i h1
      rw [if_pos h1]
      split at h
      · rename_i h2
        rw [if_pos h2]
        refine ⟨_, h2, ?_⟩
        rw [← h1, List.append_assoc]
        have : p.drop (i + 3) = (p.drop (i + 1)).drop 2 := by rw [List.drop_drop]
        rw [this, List.take_append_drop, List.take_append_drop]
      · cases h
    · rename_i h1
      rw [if_neg h1]
      exact sup_is i h
theorem sup_jx (c : List UInt8) : (supD (c ++ jx)).2 = false := by
  cases h : (supD (c ++ jx)).2 with
  | false => rfl
  | true =>
    obtain ⟨t, h1, h2⟩ := sup_is _ h
    obtain ⟨u, rfl⟩ := num_dec h1
    have h3 := congrArg List.getLast? h2
    have hne := (dec_head u u (Nat.le_refl _)).2
    rw [List.getLast?_append, List.getLast?_append] at h3
    cases hl : (Lib.decDigits u).getLast? with
    | none => exact absurd (List.getLast?_eq_none_iff.1 hl) hne
    | some x =>
      rw [hl] at h3
      have hm := List.mem_of_getLast? hl
      have hd := dec_dig u x hm
      have e : x = 106 := by
        have : (some x : Option UInt8) = some 106 := by simpa [jx] using h3.symm
        exact Option.some.inj this
      rw [e] at hd
      exact absurd hd.2 (by decide)
theorem sup_skip {s : List UInt8} {k : Nat} : ∀ e, (∀ j, k < j → j ≤ k + e → (s.drop j).take 2 ≠ sx) → supA s (k + e) = supA s k
  | 0, _ => rfl
  | e + 1, h => by
    rw [show k + (e + 1) = (k + e) + 1 from rfl, supA, if_neg (h _ (by omega) (by omega))]
    exact sup_skip e fun j h1 h2 => h j h1 (by omega)
theorem sup_fre {p : List UInt8} {n : Nat} (h1 : 1 ≤ n) (h2 : n ≤ 1000000) : supD (freS p n) = (p, decide (p ≠ [])) := by
  have hf : freS p n = p ++ (sx ++ Lib.decDigits n) := by unfold freS; rw [Lib.itoa_nonneg, List.append_assoc]
  have hne := (dec_head n n (Nat.le_refl _)).2
  have hd : 1 ≤ (Lib.decDigits n).length := List.length_pos_iff.2 hne
  have hsx : sx.length = 2 := rfl
  obtain ⟨D, hD⟩ : ∃ D, D = Lib.decDigits n := ⟨_, rfl⟩
  have hdig := dec_dig n
  have hno := dec_num h1 h2
  rw [← hD] at hf hd hdig hno
  have hlen : (freS p n).length - 2 = p.length + D.length := by rw [hf]; simp [hsx]; omega
  unfold supD
  rw [hlen, sup_skip D.length (fun j h3 h4 he => ?_)]
  · cases p with
    | nil => rfl
    | cons x r =>
      rw [List.length_cons, supA, hf]
      have e1 : ((x :: r) ++ (sx ++ D)).drop (r.length + 1) = sx ++ D := by
        rw [show r.length + 1 = (x :: r).length from rfl, List.drop_left]
      have e2 : ((x :: r) ++ (sx ++ D)).drop (r.length + 3) = D := by
        rw [show r.length + 3 = (x :: r).length + 2 from rfl, ← List.drop_drop, List.drop_left]
        rfl
      have e3 : ((x :: r) ++ (sx ++ D)).take (r.length + 1) = x :: r := by
        rw [show r.length + 1 = (x :: r).length from rfl, List.take_left]
      rw [e1, e2, e3, if_pos (show List.take 2 (sx ++ D) = sx from rfl), if_pos hno]
      simp
  · have hj : (freS p n)[j]? = some 45 := by
      have := congrArg (fun l => l[0]?) he
      simp only [List.getElem?_take, List.getElem?_drop] at this
      simpa [sx] using this
    rw [hf, List.getElem?_append_right (by omega)] at hj
    by_cases e : j - p.length = 1
    · rw [e] at hj
      have : (sx ++ D)[1]? = some 115 := rfl
      rw [this] at hj
      exact absurd hj (by decide)
    · rw [List.getElem?_append_right (by omega)] at hj
      exact absurd (hdig _ (List.mem_of_getElem? hj)).1 (by decide)
theorem fre_is {l : List F13} {p : List UInt8} : ∀ k n, freA l p k n = [] ∨ ∃ j, n ≤ j ∧ j < n + k ∧ freA l p k n = freS p j ∧ freB l (freS p j) = true
  | 0, n => .inl rfl
  | k + 1, n => by
    rw [freA]
    split
    · rename_i h
      exact .inr ⟨n, Nat.le_refl _, by omega, rfl, h⟩
    · rcases fre_is k (n + 1) with h | ⟨j, h1, h2, h3, h4⟩
      · exact .inl h
      · exact .inr ⟨j, by omega, by omega, h3, h4⟩
/-- What a fresh path is. -/
theorem fre_ok {l : List F13} {p : List UInt8} (h : freF l p ≠ []) : supD (freF l p) = (p, decide (p ≠ [])) ∧ lookF l (freF l p) = none ∧ ∀ f, f ∈ l → nonF (freF l p) f = true := by
  rcases fre_is (l := l) (p := p) 1000 1 with h1 | ⟨j, h1, h2, h3, h4⟩
  · exact absurd h1 h
  · have h5 : freF l p = freS p j := h3
    rw [h5]
    refine ⟨sup_fre h1 (by omega), ?_, ?_⟩
    · unfold freB at h4
      have := (Bool.and_eq_true _ _ ▸ h4).1
      simpa using this
    · unfold freB at h4
      have := (Bool.and_eq_true _ _ ▸ h4).2
      exact fun f hf => (List.all_eq_true.1 this) f hf

/-- A restoration removes files by their paths. -/
theorem fold_wto : ∀ (M : List (List UInt8)) (l : List F13), M.foldl wtoF l = l.filter fun f => !(M.contains f.1)
  | [], l => (List.filter_eq_self.2 fun _ _ => rfl).symm
  | q :: M, l => by
    rw [List.foldl_cons, fold_wto M]
    unfold wtoF
    rw [List.filter_filter]
    congr 1
    funext f
    rw [List.contains_cons, Bool.not_or, Bool.and_comm]
theorem gon_mem {l : List F13} (hs : SrtF l) {p : List UInt8} {f : F13} : f ∈ gonF l p ↔ f ∈ l ∧ goeF l f p = false := by
  have hg : ∀ f, f ∈ l → goP l p f.1 = goeF l f p := fun f hf => by unfold goP; rw [mem_look hs hf]; rfl
  rw [gon_is hs]
  unfold dlF
  rw [List.take_length, fold_wto, List.mem_filter]
  refine and_congr_right fun hf => ?_
  rw [← hg f hf]
  have : (rmF l p).contains f.1 = goP l p f.1 := by
    cases h : goP l p f.1 with
    | true => exact List.contains_iff_mem.2 (List.mem_filter.2 ⟨List.mem_map_of_mem hf, h⟩)
    | false =>
      cases h2 : (rmF l p).contains f.1 with
      | false => rfl
      | true => have := (List.mem_filter.1 (List.contains_iff_mem.1 h2)).2; rw [h] at this; cases this
  rw [this]
  cases goP l p f.1 <;> simp
theorem gon_sub {l : List F13} (hs : SrtF l) (p : List UInt8) : (gonF l p).Sublist l := by
  rw [gon_is hs]
  unfold dlF
  rw [List.take_length, fold_wto]
  exact List.filter_sublist
theorem gon_srt {l : List F13} (hs : SrtF l) (p : List UInt8) : SrtF (gonF l p) := List.Pairwise.sublist (gon_sub hs p) hs
theorem hotl_srt {l : List F13} (hs : SrtF l) (p : List UInt8) : SrtF (hotL l p) := by
  unfold hotL
  split
  · rw [with_is hs]; exact ins_srt hs
  · exact hs
theorem setl_srt {l : List F13} (hs : SrtF l) (p : List UInt8) : SrtF (setL l p) := wto_srt (hotl_srt hs p) _
theorem rec_sub {l : List F13} (hs : SrtF l) (p : List UInt8) : (recF l p).Sublist (setL l p) := gon_sub (setl_srt hs p) p
theorem look_no {l : List F13} {p : List UInt8} (h : ∀ f, f ∈ l → f.1 ≠ p) : lookF l p = none := by
  cases h2 : lookF l p with
  | none => rfl
  | some x => obtain ⟨f, hf, e, -⟩ := look_mem h2; exact absurd e (h f hf)
theorem set_jx (l : List F13) (p : List UInt8) : lookF (setL l p) (p ++ jx) = none := look_no fun f hf => by
  have := (List.mem_filter.1 hf).2
  simpa using this
theorem rec_jx {l : List F13} (hs : SrtF l) (p : List UInt8) : lookF (recF l p) (p ++ jx) = none := look_no fun f hf => look_none (set_jx l p) f ((rec_sub hs p).subset hf)
theorem rec_sta {l : List F13} (hs : SrtF l) (p : List UInt8) : staF (recF l p) p = 0 := sta_none (rec_jx hs p)
theorem gon_look {l : List F13} (hs : SrtF l) {p c : List UInt8} (hc : (supD c).2 = false) : lookF (gonF l p) c = lookF l c := by
  cases h : lookF l c with
  | none => exact look_no fun f hf => look_none h f ((gon_sub hs p).subset hf)
  | some x =>
    obtain ⟨f, hf, rfl, rfl⟩ := look_mem h
    refine mem_look (gon_srt hs p) ((gon_mem hs).2 ⟨hf, ?_⟩)
    unfold goeF
    rw [if_pos hc]
theorem gon_again {l : List F13} (hs : SrtF l) (p : List UInt8) : gonF (gonF l p) p = gonF l p := by
  have hs2 := gon_srt hs p
  have key : ∀ f, f ∈ gonF l p → goeF (gonF l p) f p = false := fun f hf => by
    have h := ((gon_mem hs).1 hf).2
    have hn : ∀ c, namF (gonF l p) c = namF l c := fun c => by unfold namF; rw [gon_look hs (sup_jx c)]
    unfold goeF at h ⊢
    simp only [hn]
    exact h
  refine gon_nil hs2 ?_
  unfold rmF
  rw [List.filter_eq_nil_iff]
  intro c hc
  obtain ⟨f, hf, rfl⟩ := List.mem_map.1 hc
  unfold goP
  rw [mem_look hs2 hf]
  have := key f hf
  simp only [Option.getD_some]
  rw [this]
  decide
/-- A file that has been made what it was is not changed again. -/
theorem rec_again {l : List F13} (hs : SrtF l) (p : List UInt8) : recF (recF l p) p = recF l p := by
  have hj := rec_jx hs p
  show gonF (wtoF (hotL (recF l p) p) (p ++ jx)) p = recF l p
  rw [hotl_none hj, wto_none hj]
  exact gon_again (setl_srt hs p) p
theorem sub_tot {l l' : List F13} (h : l'.Sublist l) : totF l' ≤ totF l := by
  unfold totF
  induction h with
  | slnil => exact Nat.le_refl _
  | cons a _ ih => simp only [List.map_cons, List.sum_cons]; omega
  | cons_cons a _ ih => simp only [List.map_cons, List.sum_cons]; omega
theorem hotl_tot {l : List F13} (hs : SrtF l) (p : List UInt8) : totF (hotL l p) ≤ totF l + 1024000 := by
  unfold hotL
  split
  · rw [with_is hs]
    refine Nat.le_trans (ins_tot _ l) ?_
    have := apD_len (rdJ ((lookF l (p ++ jx)).getD [])).p (rdJ ((lookF l (p ++ jx)).getD [])).L ((lookF l p).getD [])
    show totF l + (apD _ _ _).length ≤ _
    omega
  · omega
/-- What a restoration leaves can be restored again. -/
theorem rec_ok {l : List F13} (hs : SrtF l) {p q : List UInt8} (h : RecOk l p) (hq : q.length ≤ 30000) (hl : l.length < 58) (ht : totF l + 2050000 ≤ 4000000) : RecOk (recF l p) q := by
  have hsub := rec_sub hs p
  refine ⟨hq, fun f hf => setl_sml h.sml p f (hsub.subset hf), fun f hf => setl_names h.names h.path f (hsub.subset hf), ?_, ?_⟩
  · have := hsub.length_le
    have := setl_len hs p
    omega
  · have h1 := sub_tot hsub
    have h2 := wto_tot (hotL l p) (p ++ jx)
    have h3 := hotl_tot hs p
    unfold setL at h1
    omega
end Go.Proofs.YthfebcfdhmihcaaGreatDoor

namespace Go.Proofs.YthfebcfdhmihcaaGreatDoor
open Go.RowKit

def totN (l : List F13) : Nat := (l.map fun f => f.2.length + f.1.length).sum
theorem totN_snoc {l : List F13} {k : Nat} (hk : k < l.length) : totN (l.take (k + 1)) = totN (l.take k) + l[k].2.length + l[k].1.length := by
  unfold totN
  rw [List.take_succ_eq_append_getElem hk, List.map_append, List.sum_append]
  simp
  omega
def SzF (l : List F13) : Prop := ∀ f, f ∈ l → f.1.length ≤ 1152921504606846976 ∧ f.2.length ≤ 1152921504606846976
set_option maxRecDepth 100000 in
set_option maxHeartbeats 2000000 in
theorem great13_any (a : Option Addr) (cap : Nat) (l : List F13) (w : World) (hl : l.length ≤ 9223372036854775807) (hz : SzF l) (ha : Fls w a l) :
    Calls Tryz.prog 6 #[.slice a l.length cap] w fun e w' => ∃ z : Bool, e = .returned (.bool z) ∧ (z = false → l.length ≤ 13 ∧ totN l ≤ 30000) ∧ Below w.heap.size w w' := by
  obtain ⟨len, hlen⟩ : ∃ len, len = l.length := ⟨_, rfl⟩
  obtain ⟨P, hP⟩ : ∃ P : Prop, P = (l.length ≤ 13 ∧ totN l ≤ 30000) := ⟨_, rfl⟩
  rw [← hP]
  have HP := Lib.hid hP
  clear hP
  have HT := Lib.hid (show l.take l.length = l from List.take_length)
  rw [← hlen] at hl HT ⊢
  have HA := Lib.hid ha; have HL := Lib.hid hlen; have HZ := Lib.hid hz
  clear ha hlen hz
  go_enter Tryz.func6, Tryz.ntmps6
  go_wp2
  go_loopw [3, 4] (fun n i wr => ∃ k N : Nat, k ≤ len ∧ k ≤ 13 ∧ N ≤ 30000 ∧ i = .int .i64 k ∧ n = .int .i64 N ∧ Hid (N = totN (l.take k)) ∧ Hid (Below w.heap.size w wr)) (fun _ i _ => len - (intOf i).toNat)
  case atStart => exact ⟨0, 0, by omega, by omega, by omega, rfl, rfl, Lib.hid rfl, Lib.hid (Below.refl _ _)⟩
  case round =>
    obtain ⟨k, N, hk, hk13, hN, rfl, rfl, hNN, hB⟩ := hrel
    by_cases hlt : k < len
    · have hlt' : k < l.length := by have := HL.out; omega
      obtain ⟨b, off, rfl, hbw, c0, c1⟩ := HA.out k hlt'
      rw [← hB.out.cell hbw] at c0 c1
      have t1 : (k : Int) < len := by omega
      obtain ⟨z1, z2⟩ := HZ.out _ (List.getElem_mem hlt')
      have hsn := totN_snoc hlt'
      have s1 := ba_size l[k].1
      have s2 := ba_size l[k].2
      obtain ⟨x, hx⟩ : ∃ x, x = l[k] := ⟨_, rfl⟩
      rw [← hx] at c0 c1 z1 z2 hsn s1 s2
      rw [← hNN.out] at hsn
      rw [← s1] at z1 hsn
      rw [← s2] at z2 hsn
      have HSN := Lib.hid hsn
      clear s1 s2 hx hsn hlt'
      generalize ba x.1 = y1 at *
      generalize ba x.2 = y2 at *
      by_cases g1 : 12 < k
      · have t2 : decide ((12 : Int) < k) = true := decide_eq_true (by omega)
        go_upto_region 5 with (fail)
        go_quiet (fail)
        all_goals go_wp2
        all_goals go_ret
        all_goals exact ⟨true, rfl, fun h => absurd h (by decide), hB.out.trans ⟨rfl, rfl, rfl, Nat.le_refl _, fun _ _ => rfl⟩⟩
      · have t2 : decide ((12 : Int) < k) = false := decide_eq_false (by omega)
        by_cases g2 : 30000 < N + y2.size + y1.size
        · have t3 : decide ((30000 : Int) < (N : Int) + (y2.size : Int) + (y1.size : Int)) = true := decide_eq_true (by omega)
          go_upto_region 5 with (fail)
          go_quiet (fail)
          all_goals go_wp2
          all_goals go_ret
          all_goals exact ⟨true, rfl, fun h => absurd h (by decide), hB.out.trans ⟨rfl, rfl, rfl, Nat.le_refl _, fun _ _ => rfl⟩⟩
        · have t3 : decide ((30000 : Int) < (N : Int) + (y2.size : Int) + (y1.size : Int)) = false := decide_eq_false (by omega)
          go_upto_region 5 with (fail)
          go_quiet (fail)
          all_goals go_wp2
          all_goals go_roundw
          all_goals first
            | exact ⟨k + 1, N + y2.size + y1.size, by omega, by omega, by omega, by go_num, by go_num, Lib.hid HSN.out.symm, Lib.hid (hB.out.trans ⟨rfl, rfl, rfl, Nat.le_refl _, fun _ _ => rfl⟩)⟩
            | (simp [intOf]; omega)
    · obtain rfl : k = len := by omega
      have t1 : ¬ (k : Int) < k := by omega
      go_wp2
      go_ret
      refine .inl ⟨rfl, ?_, hB.out⟩
      rw [HP.out]
      refine ⟨by have := HL.out; omega, ?_⟩
      have := hNN.out
      rw [HT.out] at this
      omega
end Go.Proofs.YthfebcfdhmihcaaGreatDoor

namespace Go.Proofs.YthfebcfdhmihcaaGreatDoor
open Go.ChangeShapes Go.WideShapes Go.ChangeAt Go.RowKit Go.Deep

theorem cellsStr : Tryz.prog.cellsOf 9 = 1 := by kernel_rfl
theorem cellsFile13 : Tryz.prog.cellsOf 46 = 2 := by kernel_rfl
section
variable {H : Type} {enc : TypeId × Value → H} {W W' : World}
theorem weights_all {e : TypeId} {d : DataW H} : ∀ {l : List (DataW H)}, d ∈ l → ∀ n ∈ d.weights Tryz.prog e, n ∈ DataW.weightsAll Tryz.prog e l
  | x :: l, h, n, hn => by
    rw [List.mem_cons] at h
    simp only [DataW.weightsAll, List.mem_append]
    rcases h with rfl | h
    · exact .inl hn
    · exact .inr (weights_all h n hn)
theorem sz_slice {t e : TypeId} {l sp : List (DataW H)} {d : DataW H} (ht : Tryz.prog.underlying t = some (.slice e)) (h : Sz t (.slice l sp)) (hd : d ∈ l) : Sz e d := by
  intro n hn
  refine h n ?_
  simp only [DataW.weights, ht, List.mem_cons, List.mem_append]
  exact .inr (.inl (weights_all hd n hn))
theorem sz_len {t e : TypeId} {l sp : List (DataW H)} (ht : Tryz.prog.underlying t = some (.slice e)) (h : Sz t (.slice l sp)) : (l.length + sp.length) * Tryz.prog.bytesOf e ≤ 140737488351232 := h _ (by simp [DataW.weights, ht])

set_option maxRecDepth 100000 in
theorem file_cells {fuel : Nat} {cs : List Value} {x : DataW H × List MemPlace} (h : DataW.trod enc Tryz.prog W 0 (fun _ => true) true fuel 46 cs = some x) :
    ∃ n d, cs = [.string n, .string d] ∧ x.1 = .agg [.lit (.string n.data.toList), .lit (.string d.data.toList)] := by
  obtain ⟨xs, m, -, hx, hlen, hxl, hf⟩ := DataW.trod_struct Tryz.underlying46 h
  rw [cellsFile13] at hlen
  match cs, hlen with
  | [c0, c1], _ =>
    match xs, hxl with
    | [y0, y1], _ =>
      have h0 : DataW.trod enc Tryz.prog W 0 (fun _ => true) true m 9 [c0] = some y0 := by have := hf 0 _ rfl; change DataW.trod _ _ _ _ _ _ _ 9 (List.take (Tryz.prog.cellsOf 9) (List.drop 0 _)) = _ at this; rw [cellsStr] at this; exact this
      have h1 : DataW.trod enc Tryz.prog W 0 (fun _ => true) true m 9 [c1] = some y1 := by have := hf 1 _ rfl; change DataW.trod _ _ _ _ _ _ _ 9 (List.take (Tryz.prog.cellsOf 9) (List.drop 1 _)) = _ at this; rw [cellsStr] at this; exact this
      obtain ⟨n, e0, rfl, -⟩ := DataW.trod_string Tryz.underlying9 h0
      obtain ⟨d, e1, rfl, -⟩ := DataW.trod_string Tryz.underlying9 h1
      simp only [List.cons.injEq, and_true] at e0 e1
      subst e0 e1
      exact ⟨n, d, rfl, by rw [hx]; rfl⟩
set_option maxRecDepth 100000 in
theorem sz_file {l0 l1 : List UInt8} (h : Sz 46 (.agg [.lit (.string l0), .lit (.string l1)] : DataW H)) : l0.length ≤ 140737488351232 ∧ l1.length ≤ 140737488351232 :=
  ⟨h _ (by simp [DataW.weights, DataW.weightsEach, Tryz.underlying46]), h _ (by simp [DataW.weights, DataW.weightsEach, Tryz.underlying46])⟩
set_option maxRecDepth 100000 in
theorem open_files {b0 : Nat} {r : Reach} {v : Value} {d : DataW H} {p : List MemPlace} (hlt : ∀ x ∈ p, x.block < W.heap.size) (hv : Value.okWide Tryz.prog W r b0 22 v) (h : DataW.Trod enc Tryz.prog W 0 (fun _ => true) true 22 v d p) (hz : Sz 22 d) :
    ∃ a cap l, v = .slice a (List.length l) cap ∧ l.length ≤ 140737488351232 ∧ SzF l ∧ Fls W a l := by
  obtain ⟨a, len, cap, rfl⟩ := okWide_slice Tryz.underlying22 hv
  obtain ⟨fuel, hf⟩ := h
  rcases open_slice Tryz.underlying22 hf with ⟨hcs, -⟩ | ⟨a', len', cap', m, n, D, Pl, hcs, -, hl, hm, hmm, hx, hi⟩
  · simp [Value.cells] at hcs
    obtain ⟨rfl, rfl, rfl⟩ := hcs
    exact ⟨none, 0, [], rfl, Nat.zero_le _, (fun f hf => by cases hf), fun j hj => absurd hj (Nat.not_lt_zero j)⟩
  · simp [Value.cells] at hcs
    obtain ⟨rfl, rfl, rfl⟩ := hcs
    simp only [if_true] at hmm
    subst hmm
    simp only [Prod.mk.injEq] at hx
    obtain ⟨rfl, hx2⟩ := hx
    have hlen : len ≤ 140737488351232 := by
      have := sz_len Tryz.underlying22 hz
      have e : Tryz.prog.bytesOf 46 = 32 := by kernel_rfl
      rw [List.length_map, List.length_range, e] at this
      omega
    have hel0 : ∀ j, j < len → Sz 46 (D j) := fun j hj => sz_slice Tryz.underlying22 hz (List.mem_map.2 ⟨j, List.mem_range.2 hj, rfl⟩)
    have hel : ∀ j, j < len → ∃ o : F13, (o.1.length ≤ 1152921504606846976 ∧ o.2.length ≤ 1152921504606846976) ∧ W.cell? (a'.add (j * 2)) = some (.string (ba o.1)) ∧ W.cell? (a'.add (j * 2 + 1)) = some (.string (ba o.2)) := by
      intro j hj
      obtain ⟨cs', hc, ht⟩ := hi j (by omega)
      obtain ⟨n', d, e, ex⟩ := file_cells ht
      rw [cellsFile13] at hc
      obtain ⟨_, _, hat⟩ := World.cells?_some hc
      have c0 := hat 0 (by decide)
      have c1 := hat 1 (by decide)
      rw [e] at c0 c1
      rw [Go.Deep.add_add] at c0 c1
      have hsz := hel0 j hj
      rw [show D j = _ from ex] at hsz
      have z1 := sz_file hsz
      exact ⟨(n'.data.toList, d.data.toList), ⟨by show n'.data.toList.length ≤ _; omega, by show d.data.toList.length ≤ _; omega⟩, c0, c1⟩
    obtain ⟨f, hf⟩ : ∃ f : Nat → F13, f = fun j => if hj : j < len then (hel j hj).choose else ([], []) := ⟨_, rfl⟩
    have hlf : ((List.range len).map f).length = len := by simp
    refine ⟨some a', _, (List.range len).map f, by rw [hlf], by omega, fun x hx => ?_, fun j hj => ?_⟩
    · obtain ⟨j, hj, rfl⟩ := List.mem_map.1 hx
      have hj : j < len := List.mem_range.1 hj
      rw [show f j = (hel j hj).choose by simp [hf, hj]]
      exact (hel j hj).choose_spec.1
    have hj : j < len := by omega
    have hs := (hel j hj).choose_spec
    rw [show ((List.range len).map f)[j] = (hel j hj).choose by simp [hf, hj]]
    generalize (hel j hj).choose = o at hs
    obtain ⟨b, off, spot⟩ := a'
    have hspot : spot = none := by
      obtain ⟨y, -, h0, -⟩ := hel 0 (by omega)
      simpa [Addr.add] using World.cell?_spot h0
    subst hspot
    obtain ⟨-, k0, k1⟩ := hs
    rw [add_plain] at k0 k1
    refine ⟨b, off, rfl, ?_, k0, k1⟩
    rw [hx2] at hlt
    refine hlt (.cell b off) (List.mem_append_left _ (MemPlace.mem_row.2 ⟨0, ?_, by simp⟩))
    rw [cellsFile13]; omega
end
end Go.Proofs.YthfebcfdhmihcaaGreatDoor

namespace Go.Proofs.YthfebcfdhmihcaaGreatDoor
open Go.RowKit
variable {P : Nat → Prop} {ea : Addr} {b n m : Nat} {l : List F13} {Q : PQ} {w v : World}

def layF (l : List F13) : List F13 := l.foldl (fun a f => insF f a) []
theorem lay_snoc {l : List F13} {k : Nat} (hk : k < l.length) : layF (l.take (k + 1)) = insF l[k] (layF (l.take k)) := by
  unfold layF
  rw [List.take_succ_eq_append_getElem hk, List.foldl_append]; rfl
theorem lay_srt (l : List F13) : SrtF (layF l) := by
  unfold layF
  have : ∀ (l a : List F13), SrtF a → SrtF (l.foldl (fun a f => insF f a) a) := by
    intro l
    induction l with
    | nil => intro a h; exact h
    | cons f t ih => intro a h; exact ih _ (ins_srt h)
  exact this l [] List.Pairwise.nil
theorem lay_mem {l : List F13} {f : F13} (h : f ∈ layF l) : f ∈ l := by
  unfold layF at h
  have : ∀ (l a : List F13), f ∈ l.foldl (fun a f => insF f a) a → f ∈ a ∨ f ∈ l := by
    intro l
    induction l with
    | nil => intro a h; exact .inl h
    | cons g t ih =>
      intro a h
      rcases ih _ h with h | h
      · rcases ins_mem h with rfl | h
        · exact .inr (List.mem_cons_self ..)
        · exact .inl h
      · exact .inr (List.mem_cons_of_mem _ h)
  rcases this l [] h with h | h
  · cases h
  · exact h
theorem lay_len (l : List F13) : (layF l).length ≤ l.length := by
  unfold layF
  have : ∀ (l a : List F13), (l.foldl (fun a f => insF f a) a).length ≤ a.length + l.length := by
    intro l
    induction l with
    | nil => intro a; exact Nat.le_refl _
    | cons g t ih => intro a; have h1 := ih (insF g a); have h2 := ins_len g a; rw [List.foldl_cons, List.length_cons]; omega
  have := this l []
  simpa using this
theorem lay_tot (l : List F13) : totF (layF l) ≤ totN l := by
  unfold layF
  have : ∀ (l a : List F13), totF (l.foldl (fun a f => insF f a) a) ≤ totF a + totN l := by
    intro l
    induction l with
    | nil => intro a; exact Nat.le_add_right _ _
    | cons g t ih =>
      intro a
      have h1 := ih (insF g a)
      have h2 := ins_tot g a
      have h3 : totN (g :: t) = g.2.length + g.1.length + totN t := rfl
      rw [List.foldl_cons]
      omega
  have := this l []
  have h0 : totF [] = 0 := rfl
  omega
theorem totN_mem {l : List F13} {f : F13} (h : f ∈ l) : f.1.length + f.2.length ≤ totN l := by
  induction l with
  | nil => cases h
  | cons g t ih =>
    have h3 : totN (g :: t) = g.2.length + g.1.length + totN t := rfl
    rcases List.mem_cons.1 h with rfl | h
    · omega
    · have := ih h; omega
theorem totN_take (l : List F13) (k : Nat) : totN (l.take k) ≤ totN l := by
  have : totN l = totN (l.take k) + totN (l.drop k) := by
    conv => lhs; rw [← List.take_append_drop k l]
    unfold totN
    rw [List.map_append, List.sum_append]
  omega
/-- Every file can be laid. -/
def LayOk (l : List F13) : Prop := ∀ j (hj : j < l.length), pathB l[j].1 = true ∧ lookF (layF (l.take j)) l[j].1 = none
/-- No path is there twice. -/
def Dist (l : List F13) : Prop := ∀ j (hj : j < l.length), lookF (layF (l.take j)) l[j].1 = none
theorem blw_of {b : Nat} {w wr W : World} (h : Below b w wr) (hF : Fr (fun k => k < b) wr W) : Below b w W := h.trans (below_fr hF)
theorem over_new (d : List UInt8) : overL [] 0 d = d := by
  unfold overL
  split
  · rename_i h; exact h.symm
  · rw [List.take_zero, List.nil_append, List.drop_eq_nil_of_le (by rw [resizeL_len]; simp), List.append_nil]
theorem dk_write0 (p d : List UInt8) (hs : SrtF l) (h : Dk P ea b n m (insF (p, []) l) (QF p) v) (hp : p.length ≤ 1000000) (ht : totF (insF (p, []) l) + d.length ≤ 4000000) (hn : n + 3 ≤ 100000) :
    Calls Tryz.prog 24 #[.pointer (some ⟨b, 0, none⟩), .string (ba p), .int .i64 0, .string (ba d)] v (DkQ P ea b (n + 3) (m + 1) (insF (p, d) l) (QF p) 0 v) := by
  have hx : lookF (insF (p, []) l) p = some [] := look_ins hs
  by_cases hd : d = []
  · subst hd
    refine (dk_write_nil p [] h hp hx hn).mono fun e v' hq => ⟨hq.1, dk_mono hq.2.1 (Nat.le_refl _) hn (by omega) fun _ _ h => h, hq.2.2⟩
  · have := dk_write p [] h hp hx 0 d (Nat.le_refl _) hd ht (by omega) hn
    rw [over_new, set_ins2 hs] at this
    exact this
theorem dk_create_no (h : Dk P ea b n m l QD v) (p : List UInt8) (hp : p.length ≤ 1000000) (hno : ¬ (pathB p = true ∧ lookF l p = none)) (hn : n + 3 ≤ 100000) :
    ∃ y : Int, (y != 0) = true ∧ Calls Tryz.prog 23 #[.pointer (some ⟨b, 0, none⟩), .string (ba p)] v fun e v' => e = .returned (.int .i64 y) ∧ Fr P v v' := by
  by_cases hb : pathB p = true
  · cases hq : lookF l p with
    | none => exact absurd ⟨hb, hq⟩ hno
    | some x => exact ⟨9, rfl, (dk_create_twice h p x hp hb hq hn).mono fun e v' hq => ⟨hq.1, hq.2.2⟩⟩
  · exact ⟨13, rfl, (dk_create_bad h p hp (by simpa using hb) hn).mono fun e v' hq => ⟨hq.1, hq.2.2⟩⟩
set_option maxRecDepth 100000 in
set_option maxHeartbeats 2000000 in
theorem laid_any (a : Option Addr) (cap : Nat) (l : List F13) (w : World) (hl : l.length ≤ 13) (ht : totN l ≤ 30000) (ha : Fls w a l) (hg : Gl ea w) (hn : 6 ≤ w.heap.size) :
    Calls Tryz.prog 7 #[.slice a l.length cap] w fun e w' => (e = .returned (.tuple #[.pointer none, .bool false]) ∧ ¬ LayOk l ∧ Below w.heap.size w w') ∨ (e = .returned (.tuple #[.pointer (some ⟨w.heap.size, 0, none⟩), .bool true]) ∧ Dk (fun k => k < w.heap.size) ea w.heap.size 1000 0 (layF l) QN w' ∧ Dist l ∧ Below w.heap.size w w') := by
  have HN := Lib.hid (dk_new hg hn)
  obtain ⟨P, hP⟩ : ∃ P : Nat → Prop, P = fun k => k < w.heap.size := ⟨_, rfl⟩
  rw [← hP] at HN
  rw [← hP]
  obtain ⟨b, hb⟩ : ∃ b, b = w.heap.size := ⟨_, rfl⟩
  rw [← hb] at HN
  rw [← hb]
  have HBE := Lib.hid hb
  have HP := Lib.hid hP
  obtain ⟨len, hlen⟩ : ∃ len, len = l.length := ⟨_, rfl⟩
  have HT := Lib.hid (show l.take l.length = l from List.take_length)
  have HTT := Lib.hid ht
  rw [← hlen] at hl HT ⊢
  have HA := Lib.hid ha; have HL := Lib.hid hlen
  clear ha hlen hg hn hb hP ht
  go_enter Tryz.func7, Tryz.ntmps7
  go_wp2_with (go_at_call 22; (with_reducible refine HN.out.mono ?_); rintro e w1 ⟨rfl, hD, hB⟩; have HD := Lib.hid hD; have HB := Lib.hid hB; clear hD hB)
  go_loopw [5] (fun i wr => ∃ k : Nat, k ≤ len ∧ i = .int .i64 k ∧ Hid (Dk P ea b (40 * k) (2 * k) (layF (l.take k)) QD wr) ∧ Hid (Dist (l.take k)) ∧ Hid (Below b w wr)) (fun i _ => len - (intOf i).toNat)
  case atStart => exact ⟨0, by omega, rfl, Lib.hid (dk_nd HD.out), Lib.hid (fun j hj => absurd hj (by simp)), HB⟩
  case round =>
    obtain ⟨k, hk, rfl, hD, hDi, hB⟩ := hrel
    clear HD HB HN
    by_cases hlt : k < len
    · have hlt' : k < l.length := by have := HL.out; omega
      obtain ⟨g, off, rfl, hgw, c0, c1⟩ := HA.out k hlt'
      have t1 : (k : Int) < len := by omega
      have hPg : P g := by rw [HP.out]; exact hgw
      have hBb := HBE.out
      rw [← hB.out.cell (by rw [hBb]; exact hgw)] at c0 c1
      clear hBb
      have hmem := List.getElem_mem hlt'
      have hsz := totN_mem hmem
      have hst := lay_snoc hlt'
      have hlen := lay_len (l.take k)
      rw [List.length_take] at hlen
      have htot := lay_tot (l.take k)
      have htk := totN_take l k
      have hto := totN_take l (k + 1)
      have hts := totN_snoc hlt'
      have hsrt := lay_srt (l.take k)
      have HNK := Lib.hid (show LayOk l → pathB l[k].1 = true ∧ lookF (layF (l.take k)) l[k].1 = none from fun h => h k hlt')
      have HDS := Lib.hid (show lookF (layF (l.take k)) l[k].1 = none → Dist (l.take (k + 1)) from fun h j hj => by
        rw [List.length_take] at hj
        by_cases e : j < k
        · have := hDi.out j (by rw [List.length_take]; omega)
          rw [List.take_take, Nat.min_eq_left (Nat.le_of_lt e), List.getElem_take] at this
          rw [List.take_take, Nat.min_eq_left (by omega), List.getElem_take]
          exact this
        · obtain rfl : j = k := by omega
          rw [List.take_take, Nat.min_eq_left (by omega), List.getElem_take]
          exact h)
      obtain ⟨x, hx⟩ : ∃ x, x = l[k] := ⟨_, rfl⟩
      rw [← hx] at c0 c1 hmem hsz hst HDS hts HNK
      have hxt := HTT.out
      obtain ⟨T, hT⟩ : ∃ T, T = layF (l.take k) := ⟨_, rfl⟩
      rw [← hT] at hD hst hlen htot hsrt HDS HNK
      have HST := Lib.hid hst
      have hTt : totF T + x.2.length ≤ 30000 := by omega
      have hTl : T.length ≤ 13 := by omega
      have hx1 : x.1.length ≤ 30000 := by omega
      have hx2 : x.2.length ≤ 30000 := by omega
      have hB1 := hB.out
      clear hst hT hx hts hto htk htot hxt hsz hmem hlt' hlen
      have hDw := dk_drew hD.out
      have HFD := Lib.hid (fun W (hF : Fr P wr.drew W) => show Below b w W from blw_of hB1 ((fr_undrew hF).mono fun j hj => by rw [HP.out, ← HBE.out]; exact hj))
      have HCF := Lib.hid (fun W (hF : Fr P wr.drew W) => show W.cell? ⟨g, off + k * 2, none⟩ = some (.string (ba x.1)) ∧ W.cell? ⟨g, off + k * 2 + 1, none⟩ = some (.string (ba x.2)) from ⟨(hF.cell (a := ⟨g, off + k * 2, none⟩) hPg).trans c0, (hF.cell (a := ⟨g, off + k * 2 + 1, none⟩) hPg).trans c1⟩)
      go_upto_region 5 with (fail)
      go_cut [45] from 13 to 45 (fun t wx => ∃ z : Bool, t = .bool z ∧ Hid (Below b w wx) ∧ Hid (z = false → Dk P ea b (40 * (k + 1)) (2 * (k + 1)) (insF x T) QD wx ∧ lookF T x.1 = none) ∧ Hid (z = true → ¬ (pathB x.1 = true ∧ lookF T x.1 = none)))
      case first =>
        by_cases hok : pathB x.1 = true ∧ lookF T x.1 = none
        · obtain ⟨hb, hq⟩ := hok
          have HQ := Lib.hid hq
          have HC := Lib.hid (dk_create hDw x.1 (by omega) hq (by omega) hb (by omega))
          have HS := Lib.hid hsrt
          have HTT2 := Lib.hid (ins_tot (x.1, []) T)
          clear hDw hq hsrt hb
          · try skip
            -- ON
            refine wp_region_held_drew (S := fun W => W.cell? ⟨g, off + k * 2, none⟩ = some (.string (ba x.1)) ∧ W.cell? ⟨g, off + k * 2 + 1, none⟩ = some (.string (ba x.2))) (by kernel_rfl) (HCF.out _ (Fr.refl _ _)) (fun hHeld => ?_)
            refine wpAnyH_take (i := 0) (v := ?_) rfl (by kernel_rfl) (by kernel_rfl) (by kernel_rfl) (fun _ _ _ h => h) (Or.inl ⟨by rfl, ?_⟩) (by assumption) ?_
            rotate_left
            · (intro W hSw; (try dsimp only at hSw); go_simp; try with_reducible rfl)
            try simp only [Act.put, List.setIfInBounds_toArray, List.set_cons_zero, List.set_cons_succ, List.getElem_toArray, List.getElem_cons_succ, List.getElem_cons_zero]
            refine wpAnyH_take (i := 1) (v := ?_) rfl (by kernel_rfl) (by kernel_rfl) (by kernel_rfl) (fun _ _ _ h => h) (Or.inl ⟨by rfl, ?_⟩) (by assumption) ?_
            rotate_left
            · (intro W hSw; (try dsimp only at hSw); go_simp; try with_reducible rfl)
            try simp only [Act.put, List.setIfInBounds_toArray, List.set_cons_zero, List.set_cons_succ, List.getElem_toArray, List.getElem_cons_succ, List.getElem_cons_zero]
            refine wpAnyH_take (i := 2) (v := ?_) rfl (by kernel_rfl) (by kernel_rfl) (by kernel_rfl) (fun _ _ _ h => h) (Or.inl ⟨by rfl, ?_⟩) (by assumption) ?_
            rotate_left
            · (intro W hSw; (try dsimp only at hSw); go_simp; try with_reducible rfl)
            try simp only [Act.put, List.setIfInBounds_toArray, List.set_cons_zero, List.set_cons_succ, List.getElem_toArray, List.getElem_cons_succ, List.getElem_cons_zero]
            refine wpAnyH_take (i := 3) (v := ?_) rfl (by kernel_rfl) (by kernel_rfl) (by kernel_rfl) (fun _ _ _ h => h) (Or.inl ⟨by rfl, ?_⟩) (by assumption) ?_
            rotate_left
            · (intro W hSw; (try dsimp only at hSw); go_simp; try with_reducible rfl)
            try simp only [Act.put, List.setIfInBounds_toArray, List.set_cons_zero, List.set_cons_succ, List.getElem_toArray, List.getElem_cons_succ, List.getElem_cons_zero]
            refine wpAnyH_take (i := 4) (v := ?_) rfl (by kernel_rfl) (by kernel_rfl) (by kernel_rfl) (fun _ _ _ h => h) (Or.inl ⟨by rfl, ?_⟩) (by assumption) ?_
            rotate_left
            · (intro W hSw; (try dsimp only at hSw); go_simp; try with_reducible rfl)
            try simp only [Act.put, List.setIfInBounds_toArray, List.set_cons_zero, List.set_cons_succ, List.getElem_toArray, List.getElem_cons_succ, List.getElem_cons_zero]
            refine wpAnyH_take (i := 5) (v := ?_) rfl (by kernel_rfl) (by kernel_rfl) (by kernel_rfl) (fun _ _ _ h => h) (Or.inl ⟨by rfl, ?_⟩) (by assumption) ?_
            rotate_left
            · (intro W hSw; (try dsimp only at hSw); go_simp; try with_reducible rfl)
            try simp only [Act.put, List.setIfInBounds_toArray, List.set_cons_zero, List.set_cons_succ, List.getElem_toArray, List.getElem_cons_succ, List.getElem_cons_zero]
            refine wpAnyH_ready (rs := [6]) (by kernel_rfl) (by simp) ?_
            refine AllReadyH.cons rfl (fun K hK => ?_) AllReadyH.nil
            simp only [List.getElem_toArray, List.getElem_cons_succ, List.getElem_cons_zero]
            rw [if_pos (by rfl)]
            try go_simp
            (with_reducible refine HC.out.mono ?_); rintro e w2 ⟨rfl, hD2, hF2⟩; have HF2 := Lib.hid hF2; have HW := Lib.hid (dk_write0 x.1 x.2 HS.out (dk_toF hD2 x.1 [] (look_ins HS.out)) (by omega) (by have := HTT2.out; simp only [List.length_nil] at this; omega) (by omega)); have S2 := HCF.out _ hF2; clear hD2 hF2
            (try go_wp2_with fail)
            refine hK.out _ _ S2 (fun hHeld => ?_)
            clear hK K
            try simp only [Act.put, List.setIfInBounds_toArray, List.set_cons_zero, List.set_cons_succ, List.getElem_toArray, List.getElem_cons_succ, List.getElem_cons_zero]
            refine wpAnyH_take (i := 7) (v := ?_) rfl (by kernel_rfl) (by kernel_rfl) (by kernel_rfl) (fun _ _ _ h => h) (Or.inl ⟨by rfl, ?_⟩) (by assumption) ?_
            rotate_left
            · (intro W hSw; (try dsimp only at hSw); go_simp; try with_reducible rfl)
            try simp only [Act.put, List.setIfInBounds_toArray, List.set_cons_zero, List.set_cons_succ, List.getElem_toArray, List.getElem_cons_succ, List.getElem_cons_zero]
            refine wpAnyH_take (i := 8) (v := ?_) rfl (by kernel_rfl) (by kernel_rfl) (by kernel_rfl) (fun _ _ _ h => h) (Or.inl ⟨by rfl, ?_⟩) (by assumption) ?_
            rotate_left
            · (intro W hSw; (try dsimp only at hSw); go_simp; try with_reducible rfl)
            try simp only [Act.put, List.setIfInBounds_toArray, List.set_cons_zero, List.set_cons_succ, List.getElem_toArray, List.getElem_cons_succ, List.getElem_cons_zero]
            refine wpAnyH_take (i := 9) (v := ?_) rfl (by kernel_rfl) (by kernel_rfl) (by kernel_rfl) (fun _ _ _ h => h) (Or.inl ⟨by rfl, ?_⟩) (by assumption) ?_
            rotate_left
            · (intro W hSw; (try dsimp only at hSw); go_simp; try with_reducible rfl)
            try simp only [Act.put, List.setIfInBounds_toArray, List.set_cons_zero, List.set_cons_succ, List.getElem_toArray, List.getElem_cons_succ, List.getElem_cons_zero]
            refine wpAnyH_take (i := 10) (v := ?_) rfl (by kernel_rfl) (by kernel_rfl) (by kernel_rfl) (fun _ _ _ h => h) (Or.inl ⟨by rfl, ?_⟩) (by assumption) ?_
            rotate_left
            · (intro W hSw; (try dsimp only at hSw); go_simp; try with_reducible rfl)
            try simp only [Act.put, List.setIfInBounds_toArray, List.set_cons_zero, List.set_cons_succ, List.getElem_toArray, List.getElem_cons_succ, List.getElem_cons_zero]
            refine wpAnyH_take (i := 11) (v := ?_) rfl (by kernel_rfl) (by kernel_rfl) (by kernel_rfl) (fun _ _ _ h => h) (Or.inl ⟨by rfl, ?_⟩) (by assumption) ?_
            rotate_left
            · (intro W hSw; (try dsimp only at hSw); go_simp; try with_reducible rfl)
            try simp only [Act.put, List.setIfInBounds_toArray, List.set_cons_zero, List.set_cons_succ, List.getElem_toArray, List.getElem_cons_succ, List.getElem_cons_zero]
            refine wpAnyH_take (i := 12) (v := ?_) rfl (by kernel_rfl) (by kernel_rfl) (by kernel_rfl) (fun _ _ _ h => h) (Or.inl ⟨by rfl, ?_⟩) (by assumption) ?_
            rotate_left
            · (intro W hSw; (try dsimp only at hSw); go_simp; try with_reducible rfl)
            try simp only [Act.put, List.setIfInBounds_toArray, List.set_cons_zero, List.set_cons_succ, List.getElem_toArray, List.getElem_cons_succ, List.getElem_cons_zero]
            refine wpAnyH_take (i := 13) (v := ?_) rfl (by kernel_rfl) (by kernel_rfl) (by kernel_rfl) (fun _ _ _ h => h) (Or.inl ⟨by rfl, ?_⟩) (by assumption) ?_
            rotate_left
            · (intro W hSw; (try dsimp only at hSw); go_simp; try with_reducible rfl)
            try simp only [Act.put, List.setIfInBounds_toArray, List.set_cons_zero, List.set_cons_succ, List.getElem_toArray, List.getElem_cons_succ, List.getElem_cons_zero]
            refine wpAnyH_take (i := 14) (v := ?_) rfl (by kernel_rfl) (by kernel_rfl) (by kernel_rfl) (fun _ _ _ h => h) (Or.inl ⟨by rfl, ?_⟩) (by assumption) ?_
            rotate_left
            · (intro W hSw; (try dsimp only at hSw); go_simp; try with_reducible rfl)
            try simp only [Act.put, List.setIfInBounds_toArray, List.set_cons_zero, List.set_cons_succ, List.getElem_toArray, List.getElem_cons_succ, List.getElem_cons_zero]
            refine wpAnyH_take (i := 15) (v := ?_) rfl (by kernel_rfl) (by kernel_rfl) (by kernel_rfl) (fun _ _ _ h => h) (Or.inl ⟨by rfl, ?_⟩) (by assumption) ?_
            rotate_left
            · (intro W hSw; (try dsimp only at hSw); go_simp; try with_reducible rfl)
            try simp only [Act.put, List.setIfInBounds_toArray, List.set_cons_zero, List.set_cons_succ, List.getElem_toArray, List.getElem_cons_succ, List.getElem_cons_zero]
            refine wpAnyH_take (i := 16) (v := ?_) rfl (by kernel_rfl) (by kernel_rfl) (by kernel_rfl) (fun _ _ _ h => h) (Or.inl ⟨by rfl, ?_⟩) (by assumption) ?_
            rotate_left
            · (intro W hSw; (try dsimp only at hSw); go_simp; try with_reducible rfl)
            try simp only [Act.put, List.setIfInBounds_toArray, List.set_cons_zero, List.set_cons_succ, List.getElem_toArray, List.getElem_cons_succ, List.getElem_cons_zero]
            refine wpAnyH_take (i := 17) (v := ?_) rfl (by kernel_rfl) (by kernel_rfl) (by kernel_rfl) (fun _ _ _ h => h) (Or.inl ⟨by rfl, ?_⟩) (by assumption) ?_
            rotate_left
            · (intro W hSw; (try dsimp only at hSw); go_simp; try with_reducible rfl)
            try simp only [Act.put, List.setIfInBounds_toArray, List.set_cons_zero, List.set_cons_succ, List.getElem_toArray, List.getElem_cons_succ, List.getElem_cons_zero]
            refine wpAnyH_take (i := 18) (v := ?_) rfl (by kernel_rfl) (by kernel_rfl) (by kernel_rfl) (fun _ _ _ h => h) (Or.inl ⟨by rfl, ?_⟩) (by assumption) ?_
            rotate_left
            · (intro W hSw; (try dsimp only at hSw); go_simp; try with_reducible rfl)
            try simp only [Act.put, List.setIfInBounds_toArray, List.set_cons_zero, List.set_cons_succ, List.getElem_toArray, List.getElem_cons_succ, List.getElem_cons_zero]
            refine wpAnyH_take (i := 19) (v := ?_) rfl (by kernel_rfl) (by kernel_rfl) (by kernel_rfl) (fun _ _ _ h => h) (Or.inl ⟨by rfl, ?_⟩) (by assumption) ?_
            rotate_left
            · (intro W hSw; (try dsimp only at hSw); go_simp; try with_reducible rfl)
            try simp only [Act.put, List.setIfInBounds_toArray, List.set_cons_zero, List.set_cons_succ, List.getElem_toArray, List.getElem_cons_succ, List.getElem_cons_zero]
            refine wpAnyH_ready (rs := [20]) (by kernel_rfl) (by simp) ?_
            refine AllReadyH.cons rfl (fun K hK => ?_) AllReadyH.nil
            simp only [List.getElem_toArray, List.getElem_cons_succ, List.getElem_cons_zero]
            rw [if_pos (by rfl)]
            try go_simp
            (with_reducible refine HW.out.mono ?_); rintro e w3 ⟨rfl, hD3, hF3⟩; have HF3 := Lib.hid (HF2.out.trans hF3); have HY := Lib.hid (dk_syncF x.1 x.2 hD3 (by omega) (look_ins HS.out) (by omega)); have S3 := HCF.out _ HF3.out; clear hD3 hF3
            (try go_wp2_with fail)
            refine hK.out _ _ S3 (fun hHeld => ?_)
            clear hK K
            try simp only [Act.put, List.setIfInBounds_toArray, List.set_cons_zero, List.set_cons_succ, List.getElem_toArray, List.getElem_cons_succ, List.getElem_cons_zero]
            refine wpAnyH_take (i := 21) (v := ?_) rfl (by kernel_rfl) (by kernel_rfl) (by kernel_rfl) (fun _ _ _ h => h) (Or.inl ⟨by rfl, ?_⟩) (by assumption) ?_
            rotate_left
            · (intro W hSw; (try dsimp only at hSw); go_simp; try with_reducible rfl)
            try simp only [Act.put, List.setIfInBounds_toArray, List.set_cons_zero, List.set_cons_succ, List.getElem_toArray, List.getElem_cons_succ, List.getElem_cons_zero]
            refine wpAnyH_take (i := 22) (v := ?_) rfl (by kernel_rfl) (by kernel_rfl) (by kernel_rfl) (fun _ _ _ h => h) (Or.inl ⟨by rfl, ?_⟩) (by assumption) ?_
            rotate_left
            · (intro W hSw; (try dsimp only at hSw); go_simp; try with_reducible rfl)
            try simp only [Act.put, List.setIfInBounds_toArray, List.set_cons_zero, List.set_cons_succ, List.getElem_toArray, List.getElem_cons_succ, List.getElem_cons_zero]
            refine wpAnyH_take (i := 23) (v := ?_) rfl (by kernel_rfl) (by kernel_rfl) (by kernel_rfl) (fun _ _ _ h => h) (Or.inl ⟨by rfl, ?_⟩) (by assumption) ?_
            rotate_left
            · (intro W hSw; (try dsimp only at hSw); go_simp; try with_reducible rfl)
            try simp only [Act.put, List.setIfInBounds_toArray, List.set_cons_zero, List.set_cons_succ, List.getElem_toArray, List.getElem_cons_succ, List.getElem_cons_zero]
            refine wpAnyH_take (i := 24) (v := ?_) rfl (by kernel_rfl) (by kernel_rfl) (by kernel_rfl) (fun _ _ _ h => h) (Or.inl ⟨by rfl, ?_⟩) (by assumption) ?_
            rotate_left
            · (intro W hSw; (try dsimp only at hSw); go_simp; try with_reducible rfl)
            try simp only [Act.put, List.setIfInBounds_toArray, List.set_cons_zero, List.set_cons_succ, List.getElem_toArray, List.getElem_cons_succ, List.getElem_cons_zero]
            refine wpAnyH_take (i := 25) (v := ?_) rfl (by kernel_rfl) (by kernel_rfl) (by kernel_rfl) (fun _ _ _ h => h) (Or.inl ⟨by rfl, ?_⟩) (by assumption) ?_
            rotate_left
            · (intro W hSw; (try dsimp only at hSw); go_simp; try with_reducible rfl)
            try simp only [Act.put, List.setIfInBounds_toArray, List.set_cons_zero, List.set_cons_succ, List.getElem_toArray, List.getElem_cons_succ, List.getElem_cons_zero]
            refine wpAnyH_take (i := 26) (v := ?_) rfl (by kernel_rfl) (by kernel_rfl) (by kernel_rfl) (fun _ _ _ h => h) (Or.inl ⟨by rfl, ?_⟩) (by assumption) ?_
            rotate_left
            · (intro W hSw; (try dsimp only at hSw); go_simp; try with_reducible rfl)
            try simp only [Act.put, List.setIfInBounds_toArray, List.set_cons_zero, List.set_cons_succ, List.getElem_toArray, List.getElem_cons_succ, List.getElem_cons_zero]
            refine wpAnyH_take (i := 27) (v := ?_) rfl (by kernel_rfl) (by kernel_rfl) (by kernel_rfl) (fun _ _ _ h => h) (Or.inl ⟨by rfl, ?_⟩) (by assumption) ?_
            rotate_left
            · (intro W hSw; (try dsimp only at hSw); go_simp; try with_reducible rfl)
            try simp only [Act.put, List.setIfInBounds_toArray, List.set_cons_zero, List.set_cons_succ, List.getElem_toArray, List.getElem_cons_succ, List.getElem_cons_zero]
            refine wpAnyH_take (i := 28) (v := ?_) rfl (by kernel_rfl) (by kernel_rfl) (by kernel_rfl) (fun _ _ _ h => h) (Or.inl ⟨by rfl, ?_⟩) (by assumption) ?_
            rotate_left
            · (intro W hSw; (try dsimp only at hSw); go_simp; try with_reducible rfl)
            try simp only [Act.put, List.setIfInBounds_toArray, List.set_cons_zero, List.set_cons_succ, List.getElem_toArray, List.getElem_cons_succ, List.getElem_cons_zero]
            refine wpAnyH_take (i := 29) (v := ?_) rfl (by kernel_rfl) (by kernel_rfl) (by kernel_rfl) (fun _ _ _ h => h) (Or.inl ⟨by rfl, ?_⟩) (by assumption) ?_
            rotate_left
            · (intro W hSw; (try dsimp only at hSw); go_simp; try with_reducible rfl)
            try simp only [Act.put, List.setIfInBounds_toArray, List.set_cons_zero, List.set_cons_succ, List.getElem_toArray, List.getElem_cons_succ, List.getElem_cons_zero]
            refine wpAnyH_ready (rs := [30]) (by kernel_rfl) (by simp) ?_
            refine AllReadyH.cons rfl (fun K hK => ?_) AllReadyH.nil
            simp only [List.getElem_toArray, List.getElem_cons_succ, List.getElem_cons_zero]
            rw [if_pos (by rfl)]
            try go_simp
            (with_reducible refine HY.out.mono ?_); rintro e w4 ⟨rfl, hD4, hF4⟩; have HD4 := Lib.hid hD4; have HB4 := Lib.hid (HFD.out _ (HF3.out.trans hF4)); have S4 := HCF.out _ (HF3.out.trans hF4); clear hD4 hF4
            (try go_wp2_with fail)
            refine hK.out _ _ S4 (fun hHeld => ?_)
            clear hK K
            try simp only [Act.put, List.setIfInBounds_toArray, List.set_cons_zero, List.set_cons_succ, List.getElem_toArray, List.getElem_cons_succ, List.getElem_cons_zero]
            refine wpAnyH_take (i := 31) (v := ?_) rfl (by kernel_rfl) (by kernel_rfl) (by kernel_rfl) (fun _ _ _ h => h) (Or.inl ⟨by rfl, ?_⟩) (by assumption) ?_
            rotate_left
            · (intro W hSw; (try dsimp only at hSw); go_simp; try with_reducible rfl)
            try simp only [Act.put, List.setIfInBounds_toArray, List.set_cons_zero, List.set_cons_succ, List.getElem_toArray, List.getElem_cons_succ, List.getElem_cons_zero]
            refine wpAnyH_take (i := 32) (v := ?_) rfl (by kernel_rfl) (by kernel_rfl) (by kernel_rfl) (fun _ _ _ h => h) (Or.inl ⟨by rfl, ?_⟩) (by assumption) ?_
            rotate_left
            · (intro W hSw; (try dsimp only at hSw); go_simp; try with_reducible rfl)
            try simp only [Act.put, List.setIfInBounds_toArray, List.set_cons_zero, List.set_cons_succ, List.getElem_toArray, List.getElem_cons_succ, List.getElem_cons_zero]
            refine wpAnyH_done (by kernel_rfl) ?_ _
            all_goals go_wp2
            all_goals go_meet
            all_goals exact ⟨false, rfl, HB4, Lib.hid fun _ => ⟨dk_mono HD4.out (by omega) (by omega) (by omega) fun _ _ h => h, HQ.out⟩, Lib.hid (fun h => nomatch h)⟩
        · have HC := Lib.hid (dk_create_no hDw x.1 (by omega) hok (by omega))
          obtain ⟨y, hy, HC⟩ := HC.out
          have HC := Lib.hid HC
          have HOK := Lib.hid hok
          clear hDw hok
          ·
            refine wp_region_held_drew (S := fun W => W.cell? ⟨g, off + k * 2, none⟩ = some (.string (ba x.1)) ∧ W.cell? ⟨g, off + k * 2 + 1, none⟩ = some (.string (ba x.2))) (by kernel_rfl) (HCF.out _ (Fr.refl _ _)) (fun hHeld => ?_)
            refine wpAnyH_take (i := 0) (v := ?_) rfl (by kernel_rfl) (by kernel_rfl) (by kernel_rfl) (fun _ _ _ h => h) (Or.inl ⟨by rfl, ?_⟩) (by assumption) ?_
            rotate_left
            · (intro W hSw; (try dsimp only at hSw); go_simp; try with_reducible rfl)
            try simp only [Act.put, List.setIfInBounds_toArray, List.set_cons_zero, List.set_cons_succ, List.getElem_toArray, List.getElem_cons_succ, List.getElem_cons_zero]
            refine wpAnyH_take (i := 1) (v := ?_) rfl (by kernel_rfl) (by kernel_rfl) (by kernel_rfl) (fun _ _ _ h => h) (Or.inl ⟨by rfl, ?_⟩) (by assumption) ?_
            rotate_left
            · (intro W hSw; (try dsimp only at hSw); go_simp; try with_reducible rfl)
            try simp only [Act.put, List.setIfInBounds_toArray, List.set_cons_zero, List.set_cons_succ, List.getElem_toArray, List.getElem_cons_succ, List.getElem_cons_zero]
            refine wpAnyH_take (i := 2) (v := ?_) rfl (by kernel_rfl) (by kernel_rfl) (by kernel_rfl) (fun _ _ _ h => h) (Or.inl ⟨by rfl, ?_⟩) (by assumption) ?_
            rotate_left
            · (intro W hSw; (try dsimp only at hSw); go_simp; try with_reducible rfl)
            try simp only [Act.put, List.setIfInBounds_toArray, List.set_cons_zero, List.set_cons_succ, List.getElem_toArray, List.getElem_cons_succ, List.getElem_cons_zero]
            refine wpAnyH_take (i := 3) (v := ?_) rfl (by kernel_rfl) (by kernel_rfl) (by kernel_rfl) (fun _ _ _ h => h) (Or.inl ⟨by rfl, ?_⟩) (by assumption) ?_
            rotate_left
            · (intro W hSw; (try dsimp only at hSw); go_simp; try with_reducible rfl)
            try simp only [Act.put, List.setIfInBounds_toArray, List.set_cons_zero, List.set_cons_succ, List.getElem_toArray, List.getElem_cons_succ, List.getElem_cons_zero]
            refine wpAnyH_take (i := 4) (v := ?_) rfl (by kernel_rfl) (by kernel_rfl) (by kernel_rfl) (fun _ _ _ h => h) (Or.inl ⟨by rfl, ?_⟩) (by assumption) ?_
            rotate_left
            · (intro W hSw; (try dsimp only at hSw); go_simp; try with_reducible rfl)
            try simp only [Act.put, List.setIfInBounds_toArray, List.set_cons_zero, List.set_cons_succ, List.getElem_toArray, List.getElem_cons_succ, List.getElem_cons_zero]
            refine wpAnyH_take (i := 5) (v := ?_) rfl (by kernel_rfl) (by kernel_rfl) (by kernel_rfl) (fun _ _ _ h => h) (Or.inl ⟨by rfl, ?_⟩) (by assumption) ?_
            rotate_left
            · (intro W hSw; (try dsimp only at hSw); go_simp; try with_reducible rfl)
            try simp only [Act.put, List.setIfInBounds_toArray, List.set_cons_zero, List.set_cons_succ, List.getElem_toArray, List.getElem_cons_succ, List.getElem_cons_zero]
            refine wpAnyH_ready (rs := [6]) (by kernel_rfl) (by simp) ?_
            refine AllReadyH.cons rfl (fun K hK => ?_) AllReadyH.nil
            simp only [List.getElem_toArray, List.getElem_cons_succ, List.getElem_cons_zero]
            rw [if_pos (by rfl)]
            try go_simp
            (with_reducible refine HC.out.mono ?_); rintro e w2 ⟨rfl, hF2⟩; have HB2 := Lib.hid (HFD.out _ hF2); have S2 := HCF.out _ hF2; clear hF2
            (try go_wp2_with fail)
            refine hK.out _ _ S2 (fun hHeld => ?_)
            clear hK K
            try simp only [Act.put, List.setIfInBounds_toArray, List.set_cons_zero, List.set_cons_succ, List.getElem_toArray, List.getElem_cons_succ, List.getElem_cons_zero]
            refine wpAnyH_take (i := 7) (v := ?_) rfl (by kernel_rfl) (by kernel_rfl) (by kernel_rfl) (fun _ _ _ h => h) (Or.inl ⟨by rfl, ?_⟩) (by assumption) ?_
            rotate_left
            · (intro W hSw; (try dsimp only at hSw); go_simp; try with_reducible rfl)
            try simp only [Act.put, List.setIfInBounds_toArray, List.set_cons_zero, List.set_cons_succ, List.getElem_toArray, List.getElem_cons_succ, List.getElem_cons_zero]
            refine wpAnyH_take (i := 8) (v := ?_) rfl (by kernel_rfl) (by kernel_rfl) (by kernel_rfl) (fun _ _ _ h => h) (Or.inl ⟨by rfl, ?_⟩) (by assumption) ?_
            rotate_left
            · (intro W hSw; (try dsimp only at hSw); go_simp; try with_reducible rfl)
            try simp only [Act.put, List.setIfInBounds_toArray, List.set_cons_zero, List.set_cons_succ, List.getElem_toArray, List.getElem_cons_succ, List.getElem_cons_zero]
            refine wpAnyH_take (i := 9) (v := undef) rfl (by kernel_rfl) (by kernel_rfl) (by kernel_rfl) (fun _ _ _ h => h) (Or.inr ⟨by rfl, rfl⟩) (by assumption) ?_
            try simp only [Act.put, List.setIfInBounds_toArray, List.set_cons_zero, List.set_cons_succ, List.getElem_toArray, List.getElem_cons_succ, List.getElem_cons_zero]
            refine wpAnyH_take (i := 10) (v := undef) rfl (by kernel_rfl) (by kernel_rfl) (by kernel_rfl) (fun _ _ _ h => h) (Or.inr ⟨by rfl, rfl⟩) (by assumption) ?_
            try simp only [Act.put, List.setIfInBounds_toArray, List.set_cons_zero, List.set_cons_succ, List.getElem_toArray, List.getElem_cons_succ, List.getElem_cons_zero]
            refine wpAnyH_take (i := 11) (v := undef) rfl (by kernel_rfl) (by kernel_rfl) (by kernel_rfl) (fun _ _ _ h => h) (Or.inr ⟨by rfl, rfl⟩) (by assumption) ?_
            try simp only [Act.put, List.setIfInBounds_toArray, List.set_cons_zero, List.set_cons_succ, List.getElem_toArray, List.getElem_cons_succ, List.getElem_cons_zero]
            refine wpAnyH_take (i := 12) (v := undef) rfl (by kernel_rfl) (by kernel_rfl) (by kernel_rfl) (fun _ _ _ h => h) (Or.inr ⟨by rfl, rfl⟩) (by assumption) ?_
            try simp only [Act.put, List.setIfInBounds_toArray, List.set_cons_zero, List.set_cons_succ, List.getElem_toArray, List.getElem_cons_succ, List.getElem_cons_zero]
            refine wpAnyH_take (i := 13) (v := undef) rfl (by kernel_rfl) (by kernel_rfl) (by kernel_rfl) (fun _ _ _ h => h) (Or.inr ⟨by rfl, rfl⟩) (by assumption) ?_
            try simp only [Act.put, List.setIfInBounds_toArray, List.set_cons_zero, List.set_cons_succ, List.getElem_toArray, List.getElem_cons_succ, List.getElem_cons_zero]
            refine wpAnyH_take (i := 14) (v := undef) rfl (by kernel_rfl) (by kernel_rfl) (by kernel_rfl) (fun _ _ _ h => h) (Or.inr ⟨by rfl, rfl⟩) (by assumption) ?_
            try simp only [Act.put, List.setIfInBounds_toArray, List.set_cons_zero, List.set_cons_succ, List.getElem_toArray, List.getElem_cons_succ, List.getElem_cons_zero]
            refine wpAnyH_take (i := 15) (v := undef) rfl (by kernel_rfl) (by kernel_rfl) (by kernel_rfl) (fun _ _ _ h => h) (Or.inr ⟨by rfl, rfl⟩) (by assumption) ?_
            try simp only [Act.put, List.setIfInBounds_toArray, List.set_cons_zero, List.set_cons_succ, List.getElem_toArray, List.getElem_cons_succ, List.getElem_cons_zero]
            refine wpAnyH_take (i := 16) (v := undef) rfl (by kernel_rfl) (by kernel_rfl) (by kernel_rfl) (fun _ _ _ h => h) (Or.inr ⟨by rfl, rfl⟩) (by assumption) ?_
            try simp only [Act.put, List.setIfInBounds_toArray, List.set_cons_zero, List.set_cons_succ, List.getElem_toArray, List.getElem_cons_succ, List.getElem_cons_zero]
            refine wpAnyH_take (i := 17) (v := undef) rfl (by kernel_rfl) (by kernel_rfl) (by kernel_rfl) (fun _ _ _ h => h) (Or.inr ⟨by rfl, rfl⟩) (by assumption) ?_
            try simp only [Act.put, List.setIfInBounds_toArray, List.set_cons_zero, List.set_cons_succ, List.getElem_toArray, List.getElem_cons_succ, List.getElem_cons_zero]
            refine wpAnyH_take (i := 18) (v := undef) rfl (by kernel_rfl) (by kernel_rfl) (by kernel_rfl) (fun _ _ _ h => h) (Or.inr ⟨by rfl, rfl⟩) (by assumption) ?_
            try simp only [Act.put, List.setIfInBounds_toArray, List.set_cons_zero, List.set_cons_succ, List.getElem_toArray, List.getElem_cons_succ, List.getElem_cons_zero]
            refine wpAnyH_take (i := 19) (v := undef) rfl (by kernel_rfl) (by kernel_rfl) (by kernel_rfl) (fun _ _ _ h => h) (Or.inr ⟨by rfl, rfl⟩) (by assumption) ?_
            try simp only [Act.put, List.setIfInBounds_toArray, List.set_cons_zero, List.set_cons_succ, List.getElem_toArray, List.getElem_cons_succ, List.getElem_cons_zero]
            refine wpAnyH_take (i := 20) (v := undef) rfl (by kernel_rfl) (by kernel_rfl) (by kernel_rfl) (fun _ _ _ h => h) (Or.inr ⟨by rfl, rfl⟩) (by assumption) ?_
            try simp only [Act.put, List.setIfInBounds_toArray, List.set_cons_zero, List.set_cons_succ, List.getElem_toArray, List.getElem_cons_succ, List.getElem_cons_zero]
            refine wpAnyH_take (i := 21) (v := undef) rfl (by kernel_rfl) (by kernel_rfl) (by kernel_rfl) (fun _ _ _ h => h) (Or.inr ⟨by rfl, rfl⟩) (by assumption) ?_
            try simp only [Act.put, List.setIfInBounds_toArray, List.set_cons_zero, List.set_cons_succ, List.getElem_toArray, List.getElem_cons_succ, List.getElem_cons_zero]
            refine wpAnyH_take (i := 22) (v := ?_) rfl (by kernel_rfl) (by kernel_rfl) (by kernel_rfl) (fun _ _ _ h => h) (Or.inl ⟨by rfl, ?_⟩) (by assumption) ?_
            rotate_left
            · (intro W hSw; (try dsimp only at hSw); go_simp; try with_reducible rfl)
            try simp only [Act.put, List.setIfInBounds_toArray, List.set_cons_zero, List.set_cons_succ, List.getElem_toArray, List.getElem_cons_succ, List.getElem_cons_zero]
            refine wpAnyH_take (i := 23) (v := ?_) rfl (by kernel_rfl) (by kernel_rfl) (by kernel_rfl) (fun _ _ _ h => h) (Or.inl ⟨by rfl, ?_⟩) (by assumption) ?_
            rotate_left
            · (intro W hSw; (try dsimp only at hSw); go_simp; try with_reducible rfl)
            try simp only [Act.put, List.setIfInBounds_toArray, List.set_cons_zero, List.set_cons_succ, List.getElem_toArray, List.getElem_cons_succ, List.getElem_cons_zero]
            refine wpAnyH_take (i := 24) (v := undef) rfl (by kernel_rfl) (by kernel_rfl) (by kernel_rfl) (fun _ _ _ h => h) (Or.inr ⟨by rfl, rfl⟩) (by assumption) ?_
            try simp only [Act.put, List.setIfInBounds_toArray, List.set_cons_zero, List.set_cons_succ, List.getElem_toArray, List.getElem_cons_succ, List.getElem_cons_zero]
            refine wpAnyH_take (i := 25) (v := undef) rfl (by kernel_rfl) (by kernel_rfl) (by kernel_rfl) (fun _ _ _ h => h) (Or.inr ⟨by rfl, rfl⟩) (by assumption) ?_
            try simp only [Act.put, List.setIfInBounds_toArray, List.set_cons_zero, List.set_cons_succ, List.getElem_toArray, List.getElem_cons_succ, List.getElem_cons_zero]
            refine wpAnyH_take (i := 26) (v := undef) rfl (by kernel_rfl) (by kernel_rfl) (by kernel_rfl) (fun _ _ _ h => h) (Or.inr ⟨by rfl, rfl⟩) (by assumption) ?_
            try simp only [Act.put, List.setIfInBounds_toArray, List.set_cons_zero, List.set_cons_succ, List.getElem_toArray, List.getElem_cons_succ, List.getElem_cons_zero]
            refine wpAnyH_take (i := 27) (v := undef) rfl (by kernel_rfl) (by kernel_rfl) (by kernel_rfl) (fun _ _ _ h => h) (Or.inr ⟨by rfl, rfl⟩) (by assumption) ?_
            try simp only [Act.put, List.setIfInBounds_toArray, List.set_cons_zero, List.set_cons_succ, List.getElem_toArray, List.getElem_cons_succ, List.getElem_cons_zero]
            refine wpAnyH_take (i := 28) (v := undef) rfl (by kernel_rfl) (by kernel_rfl) (by kernel_rfl) (fun _ _ _ h => h) (Or.inr ⟨by rfl, rfl⟩) (by assumption) ?_
            try simp only [Act.put, List.setIfInBounds_toArray, List.set_cons_zero, List.set_cons_succ, List.getElem_toArray, List.getElem_cons_succ, List.getElem_cons_zero]
            refine wpAnyH_take (i := 29) (v := undef) rfl (by kernel_rfl) (by kernel_rfl) (by kernel_rfl) (fun _ _ _ h => h) (Or.inr ⟨by rfl, rfl⟩) (by assumption) ?_
            try simp only [Act.put, List.setIfInBounds_toArray, List.set_cons_zero, List.set_cons_succ, List.getElem_toArray, List.getElem_cons_succ, List.getElem_cons_zero]
            refine wpAnyH_take (i := 30) (v := undef) rfl (by kernel_rfl) (by kernel_rfl) (by kernel_rfl) (fun _ _ _ h => h) (Or.inr ⟨by rfl, rfl⟩) (by assumption) ?_
            try simp only [Act.put, List.setIfInBounds_toArray, List.set_cons_zero, List.set_cons_succ, List.getElem_toArray, List.getElem_cons_succ, List.getElem_cons_zero]
            refine wpAnyH_take (i := 31) (v := undef) rfl (by kernel_rfl) (by kernel_rfl) (by kernel_rfl) (fun _ _ _ h => h) (Or.inr ⟨by rfl, rfl⟩) (by assumption) ?_
            try simp only [Act.put, List.setIfInBounds_toArray, List.set_cons_zero, List.set_cons_succ, List.getElem_toArray, List.getElem_cons_succ, List.getElem_cons_zero]
            refine wpAnyH_take (i := 32) (v := ?_) rfl (by kernel_rfl) (by kernel_rfl) (by kernel_rfl) (fun _ _ _ h => h) (Or.inl ⟨by rfl, ?_⟩) (by assumption) ?_
            rotate_left
            · (intro W hSw; (try dsimp only at hSw); go_simp; try with_reducible rfl)
            try simp only [Act.put, List.setIfInBounds_toArray, List.set_cons_zero, List.set_cons_succ, List.getElem_toArray, List.getElem_cons_succ, List.getElem_cons_zero]
            refine wpAnyH_done (by kernel_rfl) ?_ _
            all_goals go_wp2
            all_goals go_meet
            all_goals exact ⟨true, rfl, HB2, Lib.hid (fun h => nomatch h), Lib.hid (fun _ => HOK.out)⟩
      case rest =>
        obtain ⟨z, rfl, hB2, hQ, hNo⟩ := hcut
        cases z with
        | true =>
          go_wp2
          go_ret2
          exact .inl ⟨rfl, fun h => hNo.out (by trivial) (HNK.out h), hB2.out⟩
        | false =>
          have HQ := Lib.hid (hQ.out rfl)
          clear hQ
          go_wp2
          go_roundw
          case rel => exact ⟨k + 1, by omega, by go_num, Lib.hid (by rw [HST.out]; exact HQ.out.1), Lib.hid (HDS.out HQ.out.2), hB2⟩
          case measure => simp [intOf]; omega
    · obtain rfl : k = len := by omega
      have t1 : ¬ (k : Int) < k := by omega
      have hD2 := hD.out
      have hDi2 := hDi.out
      rw [HT.out] at hD2 hDi2
      have HY := Lib.hid (dk_dirsync hD2 (by omega))
      have HDI := Lib.hid hDi2
      have HB1 := Lib.hid (fun W (hF : Fr P wr W) => show Below b w W from blw_of hB.out (hF.mono fun j hj => by rw [HP.out, ← HBE.out]; exact hj))
      clear hD2 hDi2
      go_wp2_with (go_at_call 26; (with_reducible refine HY.out.mono ?_); rintro e w2 ⟨rfl, hD2, hF2⟩; have HD2 := Lib.hid hD2; have HB2 := Lib.hid (HB1.out _ hF2); clear hD2 hF2)
      go_ret2
      exact .inr ⟨rfl, dk_mono HD2.out (by omega) (by omega) (by omega) fun _ _ h => h, HDI.out, HB2.out⟩
end Go.Proofs.YthfebcfdhmihcaaGreatDoor

namespace Go.Proofs.YthfebcfdhmihcaaGreatDoor
open Go.RowKit
variable {P : Nat → Prop} {ea : Addr} {b n m : Nat} {l : List F13} {Q : PQ} {w : World}

set_option maxRecDepth 100000 in
set_option maxHeartbeats 2000000 in
theorem same13_any (a : Option Addr) (cap : Nat) (h : Dk P ea b n m l Q w) (ha : Fls w a l) (hl : l.length ≤ 1000) (hz : ∀ f, f ∈ l → f.1.length ≤ 30000) :
    Calls Tryz.prog 17 #[.pointer (some ⟨b, 0, none⟩), .slice a l.length cap] w fun e w' => e = .returned (.bool true) ∧ Below w.heap.size w w' := by
  have HN := Lib.hid (dk_names h)
  have HSR := Lib.hid (dk_srt h)
  have hll : (l.map (·.1)).length = l.length := List.length_map _
  obtain ⟨L, hL⟩ : ∃ L, L = l.map (·.1) := ⟨_, rfl⟩
  rw [← hL] at hll HN
  have HLL := Lib.hid hL
  obtain ⟨len, hlen⟩ : ∃ len, len = l.length := ⟨_, rfl⟩
  rw [← hlen] at hll hl ⊢
  have HL := Lib.hid hlen
  have HLN := Lib.hid hll
  have HA := Lib.hid ha; have HD := Lib.hid h; have HZ := Lib.hid hz
  clear ha h hz hlen hll hL
  go_enter Tryz.func17, Tryz.ntmps17
  go_wp2_with (go_at_call 20; (with_reducible refine HN.out.mono ?_); rintro e w1 ⟨x, rfl, hNR, hB, -⟩; obtain ⟨a2, cap2, hxe, hST⟩ := name_strs hNR; rw [HLN.out] at hxe; subst hxe; have HB := Lib.hid hB; have HST := Lib.hid hST; have HD1 := Lib.hid (dk_below HD.out hB); have HA1 := Lib.hid (fls_next HA.out hB); clear hNR hB hST)
  go_loopw [6] (fun i wr => ∃ k : Nat, k ≤ len ∧ i = .int .i64 k ∧ Hid (Below w1.heap.size w1 wr)) (fun i _ => len - (intOf i).toNat)
  case atStart => exact ⟨0, by omega, rfl, Lib.hid (Below.refl _ _)⟩
  case round =>
    obtain ⟨k, hk, rfl, hB⟩ := hrel
    by_cases hlt : k < len
    · have hlt' : k < l.length := by have := HL.out; omega
      have hltL : k < L.length := by have := HLN.out; omega
      obtain ⟨g, off, rfl, hgw, c0, c1⟩ := (fls_next HA1.out hB.out) k hlt'
      obtain ⟨g2, off2, rfl, hgw2, c2⟩ := (strs_below HST.out hB.out) k hltL
      have t1 : (k : Int) < len := by omega
      have hLk : L[k] = l[k].1 := by simp [HLL.out]
      rw [hLk] at c2
      have hlk := mem_look HSR.out (List.getElem_mem hlt')
      have hx1 := HZ.out _ (List.getElem_mem hlt')
      have hC := dk_content (dk_below HD1.out hB.out) l[k].1 (by omega)
      rw [hlk] at hC
      simp only [Option.getD_some, Option.isSome_some] at hC
      obtain ⟨x, hx⟩ : ∃ x, x = l[k] := ⟨_, rfl⟩
      rw [← hx] at c0 c1 c2 hC
      have HC := Lib.hid hC
      clear hC hx hlk hLk hx1 hlt' hltL
      generalize ba x.1 = y1 at *
      generalize ba x.2 = y2 at *
      go_upto_region 8 with (go_at_call 19; (with_reducible refine HC.out.mono ?_); rintro e w2 ⟨rfl, rfl⟩)
      go_quiet (fail)
      all_goals go_wp2
      all_goals go_roundw
      all_goals first
        | exact ⟨k + 1, by omega, by go_num, Lib.hid (hB.out.trans ⟨rfl, rfl, rfl, Nat.le_refl _, fun _ _ => rfl⟩)⟩
        | (simp [intOf]; omega)
    · obtain rfl : k = len := by omega
      have t1 : ¬ (k : Int) < k := by omega
      go_wp2
      go_ret
      exact ⟨rfl, HB.out.trans (hB.out.mono HB.out.size)⟩
end Go.Proofs.YthfebcfdhmihcaaGreatDoor
