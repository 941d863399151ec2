/-
  Layer 16, the program's valid, bare, room, Size (annexe/node): the length of a node's encoding; they change nothing that was there. Condition: sizes of at most 2^60.
-/
import Derived.Test.YtdpjmijdlheajaaNpValid
namespace Go.Proofs.Ytdpjmijdlheajaa
open Go.RowKit

set_option maxRecDepth 100000 in
set_option maxHeartbeats 4000000 in
theorem valid_leaf (leaf : Bool) (n : Nod) (hlf : leaf = n.leaf) (ca ka : Option Addr) (cc kc : Nat) (w : World) (hz : NdSz n) (hc : Cls w ca n.cells) (hk : Kds w ka n.kids) :
    Calls Try.prog 23 #[.agg #[.bool leaf, .slice ca n.cells.length cc, .slice ka n.kids.length kc]] w fun e w' => e = .returned (.bool (rightB n)) ∧ Below w.heap.size w w' := by
  obtain ⟨z1, hz1⟩ := bool_of (CellsOk n)
  obtain ⟨z2, hz2⟩ := bool_of (KidsOk n)
  have hw := blw1 w (.cells #[.bool leaf, .slice ca n.cells.length cc, .slice ka n.kids.length kc] 32)
  have hb := blk_new w 32 #[.bool leaf, .slice ca n.cells.length cc, .slice ka n.kids.length kc]
  obtain ⟨w1, hw1⟩ : ∃ w1, w1 = w.alloc (.cells #[.bool leaf, .slice ca n.cells.length cc, .slice ka n.kids.length kc] 32) := ⟨_, rfl⟩
  rw [← hw1] at hb hw
  have k1 := fun W (h : Below w1.heap.size w1 W) => vcells_leaf leaf n hlf ca ka cc kc W z1 hz1 hz (cls_next (cls_next hc hw) h)
  have k2 := fun W (h : Below w1.heap.size w1 W) => vkids_leaf leaf n hlf ca ka cc kc W z2 hz2 hz (kds_next (kds_next hk hw) h)
  have HP := Lib.hid (right_parts n)
  have HZ1 := Lib.hid hz1; have HZ2 := Lib.hid hz2
  obtain ⟨z, hzz⟩ : ∃ z, z = rightB n := ⟨_, rfl⟩
  have HY := Lib.hid (fun h : RightN n => show z = true from hzz.trans (right_yes h))
  have HN := Lib.hid (fun h : ¬ RightN n => show z = false from hzz.trans (right_no h))
  rw [← hzz]
  have hle := hz.cl
  have hke := hz.kl
  obtain ⟨len, hlen⟩ : ∃ b, b = n.cells.length := ⟨_, rfl⟩
  obtain ⟨kn, hkn⟩ : ∃ b, b = n.kids.length := ⟨_, rfl⟩
  rw [← hlen, ← hkn] at k1 k2
  rw [← hlen] at hle
  rw [← hkn] at hke
  rw [← hlen, ← hkn] at hw1 hb
  rw [← hlen, ← hkn]
  have HL := Lib.hid hlen; have HK := Lib.hid hkn; have HW1 := Lib.hid hw1; have HB1 := Lib.hid hw
  have HCF := Lib.hid (fun W (hB : Below w1.heap.size w1 W) => show W.cell? ⟨w.heap.size, 0, none⟩ = some (.bool leaf) ∧ W.cell? ⟨w.heap.size, 1, none⟩ = some (.slice ca len cc) ∧ W.cell? ⟨w.heap.size, 2, none⟩ = some (.slice ka kn kc) from by
    have h := blk_below hb hB
    exact ⟨blk_cell h 0 rfl, blk_cell h 1 rfl, blk_cell h 2 rfl⟩)
  clear hzz hz hlf hlen hkn hk hc hb hw hw1 hz1 hz2
  obtain ⟨j0, j1, j2⟩ := HCF.out _ (Below.refl _ _)
  by_cases e : len ≤ 65535
  · have e' : (len : Int) ≤ 65535 := by omega
    cases z1 with
    | false =>
      obtain rfl := HN.out fun h => nomatch HZ1.out.2 (HP.out.1 h).2.1
      go_enter Try.func23, Try.ntmps23
      go_upto_region 1 with (fail)
      rw [← HW1.out]
      go_wp2_with (go_at_call 44; (with_reducible refine (k1 _ (Below.refl _ _)).mono ?_); rintro e w2 ⟨rfl, hb2⟩; have HB2 := Lib.hid hb2; obtain ⟨k0, k1, k2⟩ := HCF.out _ hb2; clear hb2)
      go_ret
      exact ⟨rfl, HB1.out.trans (HB2.out.mono HB1.out.size)⟩
    | true =>
      cases z2 with
      | false =>
        obtain rfl := HN.out fun h => nomatch HZ2.out.2 (HP.out.1 h).2.2
        go_enter Try.func23, Try.ntmps23
        go_upto_region 1 with (fail)
        rw [← HW1.out]
        go_wp2_with (first
          | (go_at_call 44; (with_reducible refine (k1 _ (Below.refl _ _)).mono ?_); rintro e w2 ⟨rfl, hb2⟩; have HB2 := Lib.hid hb2; obtain ⟨m0, m1, m2⟩ := HCF.out _ hb2; clear hb2)
          | (go_at_call 45; (with_reducible refine (k2 _ HB2.out).mono ?_); rintro e w3 ⟨rfl, hb3⟩; have HB3 := Lib.hid (HB2.out.trans (hb3.mono HB2.out.size)); clear hb3))
        go_ret
        exact ⟨rfl, HB1.out.trans (HB3.out.mono HB1.out.size)⟩
      | true =>
        obtain rfl := HY.out (HP.out.2 ⟨by have := HL.out; omega, HZ1.out.1 rfl, HZ2.out.1 rfl⟩)
        go_enter Try.func23, Try.ntmps23
        go_upto_region 1 with (fail)
        rw [← HW1.out]
        go_wp2_with (first
          | (go_at_call 44; (with_reducible refine (k1 _ (Below.refl _ _)).mono ?_); rintro e w2 ⟨rfl, hb2⟩; have HB2 := Lib.hid hb2; obtain ⟨m0, m1, m2⟩ := HCF.out _ hb2; clear hb2)
          | (go_at_call 45; (with_reducible refine (k2 _ HB2.out).mono ?_); rintro e w3 ⟨rfl, hb3⟩; have HB3 := Lib.hid (HB2.out.trans (hb3.mono HB2.out.size)); clear hb3))
        go_ret
        exact ⟨rfl, HB1.out.trans (HB3.out.mono HB1.out.size)⟩
  · obtain rfl := HN.out fun h => e (by have := (HP.out.1 h).1; have := HL.out; omega)
    have e' : ¬ (len : Int) ≤ 65535 := by omega
    go_enter Try.func23, Try.ntmps23
    go_upto_region 1 with (fail)
    rw [← HW1.out]
    go_wp2
    go_ret
    exact ⟨rfl, HB1.out⟩
theorem valid_any (n : Nod) (ca ka : Option Addr) (cc kc : Nat) (w : World) (hz : NdSz n) (hc : Cls w ca n.cells) (hk : Kds w ka n.kids) :
    Calls Try.prog 23 #[.agg #[.bool n.leaf, .slice ca n.cells.length cc, .slice ka n.kids.length kc]] w fun e w' => e = .returned (.bool (rightB n)) ∧ Below w.heap.size w w' :=
  valid_leaf n.leaf n rfl ca ka cc kc w hz hc hk
def bareN (leaf : Bool) : Nat := if leaf = true then 3 else 7
theorem bare_any (leaf : Bool) (m : Nat) (hm : m = bareN leaf) (w : World) :
    Calls Try.prog 24 #[.bool leaf] w fun e w' => e = .returned (.int .i64 (m : Int)) ∧ w' = w := by
  subst hm
  cases leaf
  all_goals
    go_enter Try.func24, Try.ntmps24
    go_wp2
    go_ret
    exact ⟨rfl, rfl⟩
def roomN (leaf : Bool) (c : Cel) : Nat := lenN c.key.length + c.key.length + (if leaf = true then lenN c.len.toNat + c.loc.length + (if 60 < c.len then 4 else 0) else 4)
theorem room_eq (leaf : Bool) (c : Cel) : roomN leaf c = (cellL leaf c).length + (if leaf = true then 0 else 4) := by
  unfold roomN
  cases leaf with
  | false => rw [cell_no, List.length_append, putL_length]; simp
  | true =>
    rw [cell_yes, List.length_append, List.length_append, List.length_append, List.length_append, putL_length, putL_length]
    by_cases h : 60 < c.len
    · simp [h, four_len]
    · simp [h]
def sumR (leaf : Bool) (l : List Cel) : Nat := (l.map (roomN leaf)).sum
theorem sumR_snoc (leaf : Bool) (l : List Cel) (c : Cel) : sumR leaf (l ++ [c]) = sumR leaf l + roomN leaf c := by
  unfold sumR
  rw [List.map_append, List.sum_append]
  simp
theorem sumR_eq (leaf : Bool) (l : List Cel) : sumR leaf l = (cellsL leaf l).length + (if leaf = true then 0 else 4 * l.length) := by
  induction l with
  | nil => simp [sumR, cellsL]
  | cons c t ih =>
    have e : sumR leaf (c :: t) = roomN leaf c + sumR leaf t := rfl
    rw [e, ih, room_eq, cellsL, List.length_append, List.length_cons]
    cases leaf <;> simp <;> omega
theorem size_eq {n : Nod} (h : RightN n) : bareN n.leaf + sumR n.leaf n.cells = (encN n).length := by
  rw [sumR_eq]
  unfold encN bareN
  rw [List.length_append, List.length_append, kids_len]
  have h5 : (headL n).length = 3 := rfl
  cases e : n.leaf with
  | true => have := h.2.2.2.1 e; simp; omega
  | false => have := h.2.2.2.2 e; simp; omega
theorem room_le {leaf : Bool} {c : Cel} (h : CelOk leaf c) : roomN leaf c ≤ 186 := by
  have := cell_len h
  rw [room_eq]
  split <;> omega
theorem vlen_q (z : Int) (h0 : 0 ≤ z) (h : z < 18446744073709551616) (w : World) :
    Calls Try.prog 46 #[.int .u64 z] w fun e w' => e = .returned (.int .i64 (lenN z.toNat)) ∧ w' = w :=
  (vlen_any z h0 h w).mono fun _ _ h => ⟨h.1, h.2.symm⟩
set_option maxRecDepth 100000 in
set_option maxHeartbeats 4000000 in
theorem room_any (leaf : Bool) (c : Cel) (hok : CelOk leaf c) (m : Nat) (hm : m = roomN leaf c) (w : World) :
    Calls Try.prog 25 #[.bool leaf, .agg #[.string (nb c.key), .int .i64 c.len, .string (nb c.loc), .int .i64 c.ov]] w fun e w' => e = .returned (.int .i64 (m : Int)) ∧ Below w.heap.size w w' := by
  obtain ⟨key, n, loc, o⟩ := c
  obtain ⟨h1, -, h2, h3, h4, -, -⟩ := hok
  simp only at h1 h2 h3 h4 ⊢
  obtain ⟨q, rfl⟩ := Int.eq_ofNat_of_zero_le h2
  have hks := nb_size key
  have hls := nb_size loc
  have hm2 : m = lenN (nb key).size + (nb key).size + (if leaf = true then lenN q + (nb loc).size + (if 60 < (q : Int) then 4 else 0) else 4) := by rw [hm, hks, hls]; rfl
  have hK : (nb key).size ≤ 100 := by omega
  have hL : (nb loc).size ≤ 60 := by omega
  clear hm hks hls h1 h4
  generalize nb key = K at *
  generalize nb loc = L at *
  have l1 := lenN_le K.size
  have l2 := lenN_le q
  have kv1 := fun W => vlen_q (K.size : Int) (by omega) (by omega) W
  have kv2 := fun W => vlen_q (q : Int) (by omega) (by omega) W
  have w1 : IntKind.u64.wrap (K.size : Int) = K.size := by rw [IntKind.wrap_u64]; omega
  have w2 : IntKind.u64.wrap (q : Int) = q := by rw [IntKind.wrap_u64]; omega
  rw [show ((K.size : Int)).toNat = K.size from rfl] at kv1
  rw [show ((q : Int)).toNat = q from rfl] at kv2
  obtain ⟨a, ha⟩ : ∃ a, a = lenN K.size := ⟨_, rfl⟩
  obtain ⟨b, hb⟩ : ∃ b, b = lenN q := ⟨_, rfl⟩
  rw [← ha] at kv1 l1 hm2
  rw [← hb] at kv2 l2 hm2
  have HM := Lib.hid hm2
  clear hm2 ha hb h2
  have hbk := blk_new w 51 #[.string K, .int .i64 q, .string L, .int .i64 o]
  have hw := blw1 w (.cells #[.string K, .int .i64 q, .string L, .int .i64 o] 51)
  obtain ⟨wa, hwa⟩ : ∃ wa, wa = w.alloc (.cells #[.string K, .int .i64 q, .string L, .int .i64 o] 51) := ⟨_, rfl⟩
  rw [← hwa] at hbk hw
  have HBK := Lib.hid hbk; have HW := Lib.hid hw; have HWA := Lib.hid hwa
  clear hbk hw hwa
  have c0 := blk_cell HBK.out 0 rfl; have c1 := blk_cell HBK.out 1 rfl; have c2 := blk_cell HBK.out 2 rfl; have c3 := blk_cell HBK.out 3 rfl
  cases leaf with
  | false =>
    go_enter Try.func25, Try.ntmps25
    go_upto_region 1 with (fail)
    rw [← HWA.out]
    go_quiet ((go_at_call 46; with_reducible exact Calls.quiet_of_same (kv1 _)))
    all_goals go_wp2
    all_goals go_ret
    all_goals exact ⟨ret_int (by have := HM.out; simp at this; omega), HW.out.trans ⟨rfl, rfl, rfl, Nat.le_refl _, fun _ _ => rfl⟩⟩
  | true =>
    have HM2 := Lib.hid (show m = a + K.size + (b + L.size + (if 60 < (q : Int) then 4 else 0)) from HM.out)
    clear HM
    obtain ⟨g, hg⟩ : ∃ g, g = decide (60 < (q : Int)) := ⟨_, rfl⟩
    have kg := fun W => goes_any K q L o g hg W
    have HG := Lib.hid hg
    clear hg
    go_enter Try.func25, Try.ntmps25
    go_upto_region 1 with (fail)
    rw [← HWA.out]
    go_quiet ((go_at_call 46; with_reducible exact Calls.quiet_of_same (kv1 _)))
    go_upto_region 4 with (fail)
    generalize hwb : wa.drewN _ = wb
    have HWB := Lib.hid (show Below w.heap.size w wb from by rw [← hwb]; exact HW.out.trans ⟨rfl, rfl, rfl, Nat.le_refl _, fun _ _ => rfl⟩)
    have HBB := Lib.hid (show Blk wb w.heap.size 51 #[.string K, .int .i64 q, .string L, .int .i64 o] from by rw [← hwb]; exact HBK.out)
    clear hwb c0 c1 c2 c3
    have c0 := blk_cell HBB.out 0 rfl; have c1 := blk_cell HBB.out 1 rfl; have c2 := blk_cell HBB.out 2 rfl; have c3 := blk_cell HBB.out 3 rfl
    go_quiet ((go_at_call 46; with_reducible exact Calls.quiet_of_same (kv2 _)))
    go_upto_region 5 with (fail)
    generalize hwd : wb.drewN _ = wd
    have HWD := Lib.hid (show Below w.heap.size w wd from by rw [← hwd]; exact HWB.out.trans ⟨rfl, rfl, rfl, Nat.le_refl _, fun _ _ => rfl⟩)
    have HBD := Lib.hid (show Blk wd w.heap.size 51 #[.string K, .int .i64 q, .string L, .int .i64 o] from by rw [← hwd]; exact HBB.out)
    clear hwd c0 c1 c2 c3
    have c0 := blk_cell HBD.out 0 rfl; have c1 := blk_cell HBD.out 1 rfl; have c2 := blk_cell HBD.out 2 rfl; have c3 := blk_cell HBD.out 3 rfl
    cases g with
    | true =>
      have h60 : 60 < (q : Int) := of_decide_eq_true HG.out.symm
      have HM3 := Lib.hid (show m = a + K.size + (b + L.size + 4) from by have := HM2.out; rwa [if_pos h60] at this)
      go_wp2_with (go_at_call 47; (with_reducible refine (kg _).mono ?_); rintro e w2 ⟨rfl, hb2⟩; have HB2 := Lib.hid (HWD.out.trans (hb2.mono HWD.out.size)); clear hb2)
      go_ret
      exact ⟨ret_int (by have := HM3.out; omega), HB2.out⟩
    | false =>
      have h60 : ¬ 60 < (q : Int) := of_decide_eq_false HG.out.symm
      have HM3 := Lib.hid (show m = a + K.size + (b + L.size) from by have := HM2.out; rw [if_neg h60] at this; exact this)
      go_wp2_with (go_at_call 47; (with_reducible refine (kg _).mono ?_); rintro e w2 ⟨rfl, hb2⟩; have HB2 := Lib.hid (HWD.out.trans (hb2.mono HWD.out.size)); clear hb2)
      go_ret
      exact ⟨ret_int (by have := HM3.out; omega), HB2.out⟩
end Go.Proofs.Ytdpjmijdlheajaa
