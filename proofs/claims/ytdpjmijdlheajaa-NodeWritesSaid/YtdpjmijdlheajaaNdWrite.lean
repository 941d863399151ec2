/-
  Layer 16, the document's Size and Write (annexeref16): how many bytes a node has, and the page; they change nothing that was there. Condition: sizes of at most 2^60.
-/
import Derived.Test.YtdpjmijdlheajaaNdBytes
import Derived.Deep.OwnRows
import Derived.Lib.SlicesS
namespace Go.Proofs.Ytdpjmijdlheajaa
open Go.RowKit

open Classical in
noncomputable def sizN (n : Nod) : Int := if RightN n then ((encN n).length : Int) else 0
open Classical in
noncomputable def wriN (n : Nod) : List UInt8 × Int :=
  if RightN n then (if 512 < (encN n).length then ([], 6) else (encN n ++ List.replicate (512 - (encN n).length) 0, 0)) else ([], 4)
theorem siz_no {n : Nod} (h : ¬ RightN n) : sizN n = 0 := by unfold sizN; rw [if_neg h]
theorem siz_yes {n : Nod} (h : RightN n) : sizN n = ((encN n).length : Int) := by unfold sizN; rw [if_pos h]
theorem wri_no {n : Nod} (h : ¬ RightN n) : wriN n = ([], 4) := by unfold wriN; rw [if_neg h]
theorem wri_full {n : Nod} (h : RightN n) (h2 : 512 < (encN n).length) : wriN n = ([], 6) := by unfold wriN; rw [if_pos h, if_pos h2]
theorem wri_yes {n : Nod} (h : RightN n) (h2 : ¬ 512 < (encN n).length) : wriN n = (encN n ++ List.replicate (512 - (encN n).length) 0, 0) := by unfold wriN; rw [if_pos h, if_neg h2]
theorem cells_lenb {b : Bool} : ∀ {l : List Cel}, (∀ k (h : k < l.length), CelOk b l[k]) → (cellsL b l).length ≤ 182 * l.length
  | [], _ => Nat.zero_le _
  | c :: t, h => by
    have h1 := cell_len (h 0 (Nat.zero_lt_succ _))
    have h2 := cells_lenb (b := b) (l := t) fun k hk => h (k + 1) (Nat.succ_lt_succ hk)
    rw [cellsL, List.length_append, List.length_cons]
    have h3 : (cellL b c).length ≤ 182 := h1
    omega
theorem enc_len {n : Nod} (h : RightN n) : (encN n).length ≤ 12582912 := by
  have h1 := cells_lenb fun k hk => (h.1 k hk).1
  have h2 := kids_len n.kids
  have h3 := h.2.2.1
  have h4 : n.kids.length ≤ 65536 := by
    cases e : n.leaf with
    | true => have := h.2.2.2.1 e; omega
    | false => have := h.2.2.2.2 e; omega
  unfold encN
  rw [List.length_append, List.length_append, h2]
  have h5 : (headL n).length = 3 := rfl
  omega
theorem nzconv (v : World) (b n : Nat) (h : ∀ j, j < n → v.cell? ⟨b, j, none⟩ = some (.int .u8 0)) :
    (convert 56 9 (.slice (some ⟨b, 0, none⟩) n n)).run Try.prog v = .ok (.string ⟨(List.replicate n (0 : UInt8)).toArray⟩) v := by
  have := run_convert_bytes_back (P := Try.prog) v 56 9 5 ⟨b, 0, none⟩ n (List.replicate n (0 : UInt8)) (by kernel_rfl) (by kernel_rfl) (by kernel_rfl) (fun j hj => by
    rw [Addr.add_lit, Nat.zero_add, h j (by simpa using hj), List.getElem_replicate]; rfl)
  rwa [List.length_replicate] at this
theorem nu8i : (Try.prog.info? 5).map (fun i => (i.zero, i.size, i.bytes)) = some (some (.int .u8 0), 1, 1) := by kernel_rfl
/-- string(make([]byte, n)), in any world. -/
theorem nzeros (n : Nat) (hn : n ≤ 1000000) (Z : ByteArray) (hZ : Z = nb (List.replicate n 0)) :
    (∀ W, (Instr.makeSlice 56 (.int .i64 (n : Int)) (.int .i64 (n : Int))).run Try.prog W = .ok (.slice (some ⟨W.heap.size, 0, none⟩) n n) (W.alloc (.cells (madeCells #[.int .u8 0] n) 5))) ∧
    ∀ W : World, (convert 56 9 (.slice (some ⟨W.heap.size, 0, none⟩) n n)).run Try.prog (W.alloc (.cells (madeCells #[.int .u8 0] n) 5)) = .ok (.string Z) (W.alloc (.cells (madeCells #[.int .u8 0] n) 5)) := by
  refine ⟨fun W => run_make_row' (P := Try.prog) 56 5 (.int .u8 0) 1 (by kernel_rfl) nu8i rfl .i64 .i64 n (by omega) (by omega) W, fun W => ?_⟩
  rw [hZ]
  exact nzconv _ W.heap.size n (fun j hj => (World.rowIs_made W (.int .u8 0) n 5).cell hj)
def ndA (n : Nod) (ca ka : Option Addr) (cc kc : Nat) : Value := .agg #[.bool n.leaf, .slice ca n.cells.length cc, .slice ka n.kids.length kc]
set_option maxRecDepth 100000 in
set_option maxHeartbeats 4000000 in
theorem rsize_any (n : Nod) (ca ka : Option Addr) (cc kc : Nat) (w : World) (hz : NdSz n) (hc : Cls w ca n.cells) (hk : Kds w ka n.kids) :
    Calls Try.prog 12 #[.agg #[.bool n.leaf, .slice ca n.cells.length cc, .slice ka n.kids.length kc]] w fun e w' => e = .returned (.int .i64 (sizN n)) ∧ Below w.heap.size w w' := by
  obtain ⟨leaf, hlf⟩ : ∃ b, b = n.leaf := ⟨_, rfl⟩
  obtain ⟨len, hlen⟩ : ∃ b, b = n.cells.length := ⟨_, rfl⟩
  obtain ⟨kn, hkn⟩ : ∃ b, b = n.kids.length := ⟨_, rfl⟩
  have hb := blk_new w 25 #[.bool leaf, .slice ca len cc, .slice ka kn kc]
  have hw := blw1 w (.cells #[.bool leaf, .slice ca len cc, .slice ka kn kc] 25)
  obtain ⟨w1, hw1⟩ : ∃ w1, w1 = w.alloc (.cells #[.bool leaf, .slice ca len cc, .slice ka kn kc] 25) := ⟨_, rfl⟩
  rw [← hw1] at hb hw
  have hc1 := cls_next hc hw
  have hk1 := kds_next hk hw
  have hR := fun W (hB : Below w1.heap.size w1 W) => rright_any n ca ka cc kc W hz (cls_next hc1 hB) (kds_next hk1 hB)
  have hY := fun (hr : RightN n) W (hB : Below w1.heap.size w1 W) => rbytes_any n ca ka cc kc W hr hz (cls_next hc1 hB) (kds_next hk1 hB)
  rw [← hlf, ← hlen, ← hkn] at hR hY
  rw [← hlf, ← hlen, ← hkn]
  have HCF := Lib.hid (fun W (hB : Below w1.heap.size w1 W) => show W.cell? ⟨w.heap.size, 0, none⟩ = some (.bool leaf) ∧ W.cell? ⟨w.heap.size, 1, none⟩ = some (.slice ca len cc) ∧ W.cell? ⟨w.heap.size, 2, none⟩ = some (.slice ka kn kc) from by
    have h := blk_below hb hB
    exact ⟨blk_cell h 0 rfl, blk_cell h 1 rfl, blk_cell h 2 rfl⟩)
  have HB1 := Lib.hid hw; have HW1 := Lib.hid hw1
  clear hlf hlen hkn hc hk hc1 hk1 hz hb hw hw1
  obtain ⟨j0, j1, j2⟩ := HCF.out _ (Below.refl _ _)
  by_cases hr : RightN n
  · rw [siz_yes hr]
    have hl := enc_len hr
    have hl2 := nb_size (encN n)
    obtain ⟨S, hS⟩ : ∃ S, S = nb (encN n) := ⟨_, rfl⟩
    have hY2 := hY hr
    rw [right_yes hr] at hR
    rw [← hS] at hY2 hl2
    have HL := Lib.hid hl2
    have hss : S.size ≤ 12582912 := by omega
    clear hY hS hl hl2 hr
    go_enter Try.func12, Try.ntmps12
    go_upto_region 1 with (fail)
    rw [← HW1.out]
    go_upto_region 3 with (go_at_call 21; (with_reducible refine (hR _ (Below.refl _ _)).mono ?_); rintro e w2 ⟨rfl, hb2⟩; have HB2 := Lib.hid hb2; obtain ⟨k0, k1, k2⟩ := HCF.out _ hb2; clear hb2)
    go_wp2_with (go_at_call 22; (with_reducible refine (hY2 _ HB2.out).mono ?_); rintro e w3 ⟨rfl, hb3⟩; have HB3 := Lib.hid (HB2.out.trans (hb3.mono HB2.out.size)); clear hb3)
    go_ret
    exact ⟨by rw [← HL.out]; rfl, HB1.out.trans (HB3.out.mono HB1.out.size)⟩
  · rw [siz_no hr]
    rw [right_no hr] at hR
    clear hY hr
    go_enter Try.func12, Try.ntmps12
    go_upto_region 1 with (fail)
    rw [← HW1.out]
    go_wp2_with (go_at_call 21; (with_reducible refine (hR _ (Below.refl _ _)).mono ?_); rintro e w2 ⟨rfl, hb2⟩; have HB2 := Lib.hid hb2; clear hb2)
    go_ret
    exact ⟨rfl, HB1.out.trans (HB2.out.mono HB1.out.size)⟩
set_option maxRecDepth 100000 in
set_option maxHeartbeats 4000000 in
theorem rwrite_any (n : Nod) (ca ka : Option Addr) (cc kc : Nat) (w : World) (hz : NdSz n) (hc : Cls w ca n.cells) (hk : Kds w ka n.kids) :
    Calls Try.prog 10 #[.agg #[.bool n.leaf, .slice ca n.cells.length cc, .slice ka n.kids.length kc]] w fun e w' => e = .returned (.tuple #[.string (nb (wriN n).1), .int .i64 (wriN n).2]) ∧ Below w.heap.size w w' := by
  obtain ⟨leaf, hlf⟩ : ∃ b, b = n.leaf := ⟨_, rfl⟩
  obtain ⟨len, hlen⟩ : ∃ b, b = n.cells.length := ⟨_, rfl⟩
  obtain ⟨kn, hkn⟩ : ∃ b, b = n.kids.length := ⟨_, rfl⟩
  have hb := blk_new w 25 #[.bool leaf, .slice ca len cc, .slice ka kn kc]
  have hw := blw1 w (.cells #[.bool leaf, .slice ca len cc, .slice ka kn kc] 25)
  obtain ⟨w1, hw1⟩ : ∃ w1, w1 = w.alloc (.cells #[.bool leaf, .slice ca len cc, .slice ka kn kc] 25) := ⟨_, rfl⟩
  rw [← hw1] at hb hw
  have hc1 := cls_next hc hw
  have hk1 := kds_next hk hw
  have hR := fun W (hB : Below w1.heap.size w1 W) => rright_any n ca ka cc kc W hz (cls_next hc1 hB) (kds_next hk1 hB)
  have hY := fun (hr : RightN n) W (hB : Below w1.heap.size w1 W) => rbytes_any n ca ka cc kc W hr hz (cls_next hc1 hB) (kds_next hk1 hB)
  rw [← hlf, ← hlen, ← hkn] at hR hY
  rw [← hlf, ← hlen, ← hkn]
  have HCF := Lib.hid (fun W (hB : Below w1.heap.size w1 W) => show W.cell? ⟨w.heap.size, 0, none⟩ = some (.bool leaf) ∧ W.cell? ⟨w.heap.size, 1, none⟩ = some (.slice ca len cc) ∧ W.cell? ⟨w.heap.size, 2, none⟩ = some (.slice ka kn kc) from by
    have h := blk_below hb hB
    exact ⟨blk_cell h 0 rfl, blk_cell h 1 rfl, blk_cell h 2 rfl⟩)
  have HB1 := Lib.hid hw; have HW1 := Lib.hid hw1
  clear hlf hlen hkn hc hk hc1 hk1 hz hb hw hw1
  obtain ⟨j0, j1, j2⟩ := HCF.out _ (Below.refl _ _)
  by_cases hr : RightN n
  · have hl := enc_len hr
    have hl2 := nb_size (encN n)
    obtain ⟨S, hS⟩ : ∃ S, S = nb (encN n) := ⟨_, rfl⟩
    have hY2 := hY hr
    rw [right_yes hr] at hR
    rw [← hS] at hY2 hl2
    have hss : S.size ≤ 12582912 := by omega
    by_cases hf : 512 < S.size
    · rw [wri_full hr (by omega)]
      have hf' : (512 : Int) < (S.size : Int) := by omega
      clear hY hS hl hl2 hr
      go_enter Try.func10, Try.ntmps10
      go_upto_region 1 with (fail)
      rw [← HW1.out]
      go_upto_region 3 with (go_at_call 21; (with_reducible refine (hR _ (Below.refl _ _)).mono ?_); rintro e w2 ⟨rfl, hb2⟩; have HB2 := Lib.hid hb2; obtain ⟨k0, k1, k2⟩ := HCF.out _ hb2; clear hb2)
      go_wp2_with (go_at_call 22; (with_reducible refine (hY2 _ HB2.out).mono ?_); rintro e w3 ⟨rfl, hb3⟩; have HB3 := Lib.hid (HB2.out.trans (hb3.mono HB2.out.size)); clear hb3)
      go_ret2
      exact ⟨rfl, HB1.out.trans (HB3.out.mono HB1.out.size)⟩
    · rw [wri_yes hr (by omega)]
      have hf' : ¬ (512 : Int) < (S.size : Int) := by omega
      obtain ⟨d, hd⟩ : ∃ d, d = 512 - S.size := ⟨_, rfl⟩
      obtain ⟨Z, hZ⟩ : ∃ Z, Z = nb (List.replicate d 0) := ⟨_, rfl⟩
      obtain ⟨z1, z2⟩ := nzeros d (by omega) Z hZ
      have hzs : Z.size = d := by rw [hZ, nb_size, List.length_replicate]
      have wd : IntKind.i64.wrap (512 - (S.size : Int)) = (d : Int) := by rw [show 512 - (S.size : Int) = (d : Int) by omega]; exact IntWalk.i64_in _ ⟨by omega, by omega⟩
      have hds : (512 : Int) - (S.size : Int) = (d : Int) := by omega
      have HE := Lib.hid (show S ++ Z = nb (encN n ++ List.replicate (512 - (encN n).length) 0) from by rw [hS, hZ, nb_app, hd, hl2])
      have hcat : ¬ 9223372036854775807 < S.size + Z.size := by omega
      clear hY hS hl hl2 hr hZ hd
      go_enter Try.func10, Try.ntmps10
      go_upto_region 1 with (fail)
      rw [← HW1.out]
      go_upto_region 3 with (go_at_call 21; (with_reducible refine (hR _ (Below.refl _ _)).mono ?_); rintro e w2 ⟨rfl, hb2⟩; have HB2 := Lib.hid hb2; obtain ⟨k0, k1, k2⟩ := HCF.out _ hb2; clear hb2)
      go_upto_region 4 with (go_at_call 22; (with_reducible refine (hY2 _ HB2.out).mono ?_); rintro e w3 ⟨rfl, hb3⟩; have HB3 := Lib.hid (HB2.out.trans (hb3.mono HB2.out.size)); clear hb3)
      have y1 := z1 w3
      have y2 := z2 w3
      clear z1 z2
      go_wp2
      go_ret2
      exact ⟨by rw [← HE.out]; rfl, HB1.out.trans ((HB3.out.alloc HB3.out.size _).mono HB1.out.size)⟩
  · rw [wri_no hr]
    rw [right_no hr] at hR
    clear hY hr
    go_enter Try.func10, Try.ntmps10
    go_upto_region 1 with (fail)
    rw [← HW1.out]
    go_wp2_with (go_at_call 21; (with_reducible refine (hR _ (Below.refl _ _)).mono ?_); rintro e w2 ⟨rfl, hb2⟩; have HB2 := Lib.hid hb2; clear hb2)
    go_ret2
    exact ⟨rfl, HB1.out.trans (HB2.out.mono HB1.out.size)⟩
end Go.Proofs.Ytdpjmijdlheajaa
