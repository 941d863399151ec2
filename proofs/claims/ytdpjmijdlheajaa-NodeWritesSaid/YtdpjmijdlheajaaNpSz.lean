/-
  Layer 16, the program's Size (annexe/node): the length of a node's encoding, or 0; it changes nothing that was there. Condition: sizes of at most 2^60.
-/
import Derived.Test.YtdpjmijdlheajaaNpSize
namespace Go.Proofs.Ytdpjmijdlheajaa
open Go.RowKit

theorem sumR_le {leaf : Bool} : ∀ {l : List Cel}, (∀ k (h : k < l.length), CelOk leaf l[k]) → sumR leaf l ≤ 186 * l.length
  | [], _ => Nat.zero_le _
  | c :: t, h => by
    have h1 : roomN leaf c ≤ 186 := room_le (h 0 (Nat.zero_lt_succ _))
    have h2 := sumR_le (leaf := leaf) (l := t) fun k hk => h (k + 1) (Nat.succ_lt_succ hk)
    have e : sumR leaf (c :: t) = roomN leaf c + sumR leaf t := rfl
    rw [e, List.length_cons]; omega
theorem take_ok {leaf : Bool} {l : List Cel} (h : ∀ k (h : k < l.length), CelOk leaf l[k]) (m : Nat) : ∀ k (h : k < (l.take m).length), CelOk leaf (l.take m)[k] := fun k hk => by
  rw [List.getElem_take]
  exact h k (by rw [List.length_take] at hk; omega)
set_option maxRecDepth 100000 in
set_option maxHeartbeats 4000000 in
theorem size_leaf (leaf : Bool) (n : Nod) (hlf : leaf = n.leaf) (ca ka : Option Addr) (cc kc : Nat) (w : World) (hz : NdSz n) (hc : Cls w ca n.cells) (hk : Kds w ka n.kids) :
    Calls Try.prog 11 #[.agg #[.bool leaf, .slice ca n.cells.length cc, .slice ka n.kids.length kc]] w fun e w' => e = .returned (.int .i64 (sizN n)) ∧ Below w.heap.size w w' := by
  obtain ⟨len, hlen⟩ : ∃ b, b = n.cells.length := ⟨_, rfl⟩
  obtain ⟨kn, hkn⟩ : ∃ b, b = n.kids.length := ⟨_, rfl⟩
  have hb := blk_new w 32 #[.bool leaf, .slice ca len cc, .slice ka kn kc]
  have hw := blw1 w (.cells #[.bool leaf, .slice ca len cc, .slice ka kn kc] 32)
  obtain ⟨w1, hw1⟩ : ∃ w1, w1 = w.alloc (.cells #[.bool leaf, .slice ca len cc, .slice ka kn kc] 32) := ⟨_, rfl⟩
  rw [← hw1] at hb hw
  have hc1 := cls_next hc hw
  have hk1 := kds_next hk hw
  have hR := fun W (hB : Below w1.heap.size w1 W) => valid_leaf leaf n hlf ca ka cc kc W hz (cls_next hc1 hB) (kds_next hk1 hB)
  rw [← hlen, ← hkn] at hR
  rw [← hlen, ← hkn]
  have HCF := Lib.hid (fun W (hB : Below w1.heap.size w1 W) => show W.cell? ⟨w.heap.size, 0, none⟩ = some (.bool leaf) ∧ W.cell? ⟨w.heap.size, 1, none⟩ = some (.slice ca len cc) ∧ W.cell? ⟨w.heap.size, 2, none⟩ = some (.slice ka kn kc) from by
    have h := blk_below hb hB
    exact ⟨blk_cell h 0 rfl, blk_cell h 1 rfl, blk_cell h 2 rfl⟩)
  have HB1 := Lib.hid hw; have HW1 := Lib.hid hw1; have HC1 := Lib.hid hc1; have HL := Lib.hid hlen; have HLF := Lib.hid hlf
  clear hkn hc hk hc1 hk1 hz hb hw hw1 hlen
  obtain ⟨j0, j1, j2⟩ := HCF.out _ (Below.refl _ _)
  by_cases hr : RightN n
  · have hle : len ≤ 65535 := by rw [HL.out]; have := hr.2.2.1; omega
    have HO := Lib.hid (fun k (h : k < n.cells.length) => show CelOk leaf n.cells[k] from by rw [hlf]; exact (hr.1 k h).1)
    have HS := Lib.hid (size_eq hr)
    have HZ := Lib.hid (siz_yes hr)
    have HSL := Lib.hid (fun k => show sumR leaf (n.cells.take k) ≤ 186 * k from by
      have h := sumR_le (take_ok HO.out k)
      rw [List.length_take] at h
      have : min k n.cells.length ≤ k := Nat.min_le_left _ _
      omega)
    obtain ⟨z, hz⟩ : ∃ z, z = sizN n := ⟨_, rfl⟩
    rw [← hz] at HZ
    rw [← hz]
    rw [right_yes hr] at hR
    obtain ⟨m0, hm0⟩ : ∃ m, m = bareN leaf := ⟨_, rfl⟩
    have kb := fun W => bare_any leaf m0 hm0 W
    have HM0 := Lib.hid hm0
    have hm7 : m0 ≤ 7 := by rw [hm0]; unfold bareN; split <;> omega
    clear hz hm0 hr hlf
    go_enter Try.func11, Try.ntmps11
    go_upto_region 1 with (fail)
    rw [← HW1.out]
    go_upto_region 3 with (go_at_call 23; (with_reducible refine (hR _ (Below.refl _ _)).mono ?_); rintro e w2 ⟨rfl, hb2⟩; have HB2 := Lib.hid hb2; obtain ⟨k0, k1, k2⟩ := HCF.out _ hb2; clear hb2)
    go_wp2_with (go_at_call 24; (with_reducible refine (kb _).mono ?_); rintro e w3 ⟨rfl, hw3⟩; obtain rfl := hw3.symm)
    clear j0 j1 j2 k0 k1 k2
    go_loopw [3, 15] (fun s i wr => ∃ (k : Nat) (S : Nat), k ≤ len ∧ i = .int .i64 k ∧ s = .int .i64 S ∧ S ≤ 7 + 186 * k ∧ Hid (S = m0 + sumR leaf (n.cells.take k)) ∧ Hid (Below w1.heap.size w1 wr)) (fun _ i _ => len - (intOf i).toNat)
    case atStart => exact ⟨0, m0, by omega, rfl, rfl, by omega, Lib.hid (by rw [List.take_zero]; rfl), HB2⟩
    case round =>
      obtain ⟨k, S, hk, rfl, rfl, hs, hS, hB⟩ := hrel
      obtain ⟨j0, j1, j2⟩ := HCF.out _ hB.out
      by_cases hlt : k < len
      · have hlt' : k < n.cells.length := by have := HL.out; omega
        have t1 : (k : Int) < len := by omega
        obtain ⟨b, off, rfl, hbw, c0, c1, c2, c3⟩ := (cls_next HC1.out hB.out) k hlt'
        have hok := HO.out k hlt'
        have hsn := take_snoc hlt'
        obtain ⟨x, hx⟩ : ∃ x, x = n.cells[k] := ⟨_, rfl⟩
        rw [← hx] at c0 c1 c2 c3 hok hsn
        obtain ⟨m, hm⟩ : ∃ m, m = roomN leaf x := ⟨_, rfl⟩
        have km := fun W => room_any leaf x hok m hm W
        have hml : m ≤ 186 := by rw [hm]; exact room_le hok
        have HSN := Lib.hid (show S + m = m0 + sumR leaf (n.cells.take (k + 1)) from by rw [hsn, sumR_snoc, ← hm, hS.out, Nat.add_assoc])
        clear hx hok hsn hm hS
        have hwS : IntKind.i64.wrap ((S : Int) + m) = (S : Int) + m := IntWalk.i64_in _ ⟨by omega, by omega⟩
        go_upto_region 7 with (fail)
        have hn := blk_new wr 51 #[.string (nb x.key), .int .i64 x.len, .string (nb x.loc), .int .i64 x.ov]
        have hw := blw1 wr (.cells #[.string (nb x.key), .int .i64 x.len, .string (nb x.loc), .int .i64 x.ov] 51)
        have HB5 := Lib.hid (hB.out.trans (hw.mono hB.out.size))
        clear hw c0 c1 c2 c3 j0 j1 j2 hB
        generalize wr.alloc (.cells #[.string (nb x.key), .int .i64 x.len, .string (nb x.loc), .int .i64 x.ov] 51) = W5 at *
        have d0 := blk_cell hn 0 rfl; have d1 := blk_cell hn 1 rfl; have d2 := blk_cell hn 2 rfl; have d3 := blk_cell hn 3 rfl
        clear hn
        obtain ⟨j0, j1, j2⟩ := HCF.out _ HB5.out
        go_wp2_with (go_at_call 25; (with_reducible refine (km _).mono ?_); rintro e w6 ⟨rfl, hb6⟩; have HB6 := Lib.hid (HB5.out.trans (hb6.mono HB5.out.size)); clear hb6)
        go_roundw
        case rel => exact ⟨k + 1, S + m, by omega, by go_num, by go_num, by omega, HSN, HB6⟩
        case measure => simp [intOf]; omega
      · obtain rfl : k = len := by omega
        have t1 : ¬ (k : Int) < k := by omega
        have HE := Lib.hid (show (S : Int) = z from by
          rw [HZ.out, ← HS.out, hS.out, List.take_of_length_le (by have := HL.out; omega), HM0.out, HLF.out])
        clear hS
        go_wp2
        go_ret
        exact ⟨ret_int HE.out, HB1.out.trans (hB.out.mono HB1.out.size)⟩
  · rw [siz_no hr]
    rw [right_no hr] at hR
    clear hr hlf
    go_enter Try.func11, Try.ntmps11
    go_upto_region 1 with (fail)
    rw [← HW1.out]
    go_wp2_with (go_at_call 23; (with_reducible refine (hR _ (Below.refl _ _)).mono ?_); rintro e w2 ⟨rfl, hb2⟩; have HB2 := Lib.hid hb2; clear hb2)
    go_ret
    exact ⟨rfl, HB1.out.trans (HB2.out.mono HB1.out.size)⟩
end Go.Proofs.Ytdpjmijdlheajaa
