/-
  Layer 11, Part and the document's Part: the encoding of a segment, or the first error ('ptR'); they change nothing that was there. Condition: numbers are ints, at most 4096 pages.
-/
import Derived.Test.YtjmciknelkodcaaJrLeaf
import Derived.Test.YtjmciknelkodcaaJpLaws1
import Derived.Test.YtjmciknelkodcaaJpLeaf
import Derived.Test.YtjmciknelkodcaaSpEnc
import Derived.Test.YtjmciknelkodcaaJhWrite
namespace Go.Proofs.Ytjmciknelkodcaa
open Go.RowKit

def IntsR (L : List R11) : Prop := ∀ r ∈ L, (-9223372036854775808 ≤ r.n ∧ r.n ≤ 9223372036854775807) ∧ r.d.length ≤ 4611686018427387904
theorem pw64 {x : Int} (h0 : 0 ≤ x) (h1 : x ≤ 9223372036854775807) : IntKind.i64.wrap x = x := IntWalk.i64_in _ ⟨by omega, by omega⟩
theorem part_held {w wr v v2 : World} {b i : Nat} {x y : Value} (hbw : b < wr.heap.size) (c0 : wr.cell? ⟨b, i, none⟩ = some x) (c1 : wr.cell? ⟨b, i + 1, none⟩ = some y) (h : Below w.heap.size w v ∧ Below wr.heap.size wr v) (hb : Below v.heap.size v v2) :
    v2.cell? ⟨b, i, none⟩ = some x ∧ v2.cell? ⟨b, i + 1, none⟩ = some y ∧ (Below w.heap.size w v2 ∧ Below wr.heap.size wr v2) := by
  have h2 := h.2.trans (hb.mono h.2.size)
  exact ⟨(h2.cell (p := ⟨b, i, none⟩) hbw).trans c0, (h2.cell (p := ⟨b, i + 1, none⟩) hbw).trans c1, h.1.trans (hb.mono h.1.size), h2⟩
theorem bcells (l : List UInt8) : Lib.byteCells l = Lib.strCells (ba l) := rfl

set_option maxRecDepth 100000 in
set_option maxHeartbeats 4000000 in
theorem jpart_any (a : Option Addr) (cap : Nat) (l : List R11) (p k : Int) (p1 : -9223372036854775808 ≤ p) (p2 : p ≤ 9223372036854775807) (k1 : -9223372036854775808 ≤ k) (k2 : k ≤ 9223372036854775807) (w : World) (hl : l.length ≤ 4096) (ha : Recs w a l) (hi : IntsR l) :
    Calls Try.prog 12 #[.slice a l.length cap, .int .i64 p, .int .i64 k] w fun e w' => e = .returned (.tuple #[.string (ba (ptR l p k).1), .int .i64 (ptR l p k).2]) ∧ Below w.heap.size w w' := by
  have kh := fun w => jwrite_any (l.length : Int) p k (by omega) (by omega) p1 p2 k1 k2 w
  obtain ⟨E, f, hE⟩ : ∃ (E : List UInt8) (f : Int), wrH l.length p k = (E, f) := ⟨_, _, rfl⟩
  rw [hE] at kh
  simp only at kh
  by_cases h0 : f = 0
  case neg =>
    have hr : ptR l p k = ([], f) := by rw [ptR, hE]; exact if_neg h0
    rw [hr]
    have hEn : E = [] := by have := wrH_none (a := l.length) (b := p) (c := k) (by rw [hE]; exact h0); rw [hE] at this; exact this
    subst hEn
    have t1 : (f != 0) = true := by simpa using h0
    clear hr hE h0
    go_enter Try.func12, Try.ntmps12
    go_wp2_with (go_at_call 24; (with_reducible refine (kh _).mono ?_); rintro e w1 ⟨rfl, b1⟩)
    go_ret2
    exact ⟨rfl, b1⟩
  subst h0
  have hEl : E.length = 32 := by have := (wrH_ok (a := l.length) (b := p) (c := k) (by rw [hE])).2; rw [hE] at this; rw [show E = enL l.length p k from this, enL_len]
  have HPT := Lib.hid (show ptR l p k = if errR k l = 0 then (E ++ bytR k l, 0) else ([], errR k l) by rw [ptR, hE]; exact if_pos rfl)
  obtain ⟨R, hR⟩ : ∃ R, R = ptR l p k := ⟨_, rfl⟩
  rw [← hR]
  rw [← hR] at HPT
  obtain ⟨len, hlen⟩ : ∃ len, len = l.length := ⟨_, rfl⟩
  have HL := Lib.hid hlen
  have HA := Lib.hid ha; have HI := Lib.hid hi
  rw [← hlen] at hl kh ⊢
  clear hR hE ha hi hlen
  obtain ⟨x5, hx5⟩ : ∃ x5 : Int, x5 = (len : Int) * 520 := ⟨_, rfl⟩
  obtain ⟨nn, hnn⟩ : ∃ nn : Nat, nn = 32 + len * 520 := ⟨_, rfl⟩
  have hw5 : IntKind.i64.wrap ((len : Int) * 520) = x5 := by rw [hx5]; exact pw64 (by omega) (by omega)
  have hw6 : IntKind.i64.wrap (32 + x5) = (nn : Int) := by rw [pw64 (by omega) (by omega)]; omega
  have hnb : nn ≤ 281474976710656 := by omega
  have hbE : Lib.strCells (⟨E.toArray⟩ : ByteArray) = Lib.byteCells E := rfl
  have hEz : (⟨E.toArray⟩ : ByteArray).size = 32 := by rw [← hEl]; exact ba_size E
  clear hx5 hnn
  go_enter Try.func12, Try.ntmps12
  go_wp2_with (first
    | (go_at_call 24; (with_reducible refine (kh _).mono ?_); rintro e w1 ⟨rfl, b1⟩)
    | (go_at_call 25; refine (Try.Builder_Grow_fresh w1.heap.size w1.heap.size nn _ (Nat.le_refl _) (by exact heap_alloc_new w1 _) (by simp) hnb).mono ?_; rintro e w2 ⟨rfl, hbd2, hbl2⟩; have HI2 := Lib.hid (Lib.IsBuilderF.of (Or.inr hbd2)); have hs2 := hbl2.size)
    | (go_at_call 26; refine (Try.Builder_WriteString_k w1.heap.size w1.heap.size [] _ _ (by exact HI2.out) (by rw [hEz]; simp) (by simp at hs2; omega)).mono ?_; rintro e w3 ⟨rfl, hbd3, hbl3, -⟩))
  obtain ⟨B, hB⟩ : ∃ B, B = w1.heap.size := ⟨_, rfl⟩
  have hI3 : Lib.IsBuilderF 68 5 B B (Lib.byteCells (E ++ bytR k (l.take 0))) w3 := by
    rw [hB, List.take_zero, bytR, List.append_nil]; exact Or.inr (by rw [← hbE]; exact hbd3)
  have hB3 : Below w.heap.size w w3 := b1.trans (((blw1 w1 _).trans (hbl2.trans hbl3)).mono b1.size)
  have hs3 : B ≤ w3.heap.size := by have := hbl3.size; simp at hs2; omega
  have hwB : w.heap.size ≤ B := by rw [hB]; exact b1.size
  rw [← hB]
  have HI3 := Lib.hid hI3; have HB3 := Lib.hid hB3
  have HE0 := Lib.hid (show errR k l = errR k (l.drop 0) from rfl)
  clear hI3 hB3 hbd2 hbl2 hbd3 hbl3 b1 HI2 hB kh hs2 hw5 hw6 hnb hbE
  go_loopw [36] (fun i wr => ∃ q : Nat, q ≤ len ∧ i = .int .i64 q ∧ B ≤ wr.heap.size ∧ Hid (Lib.IsBuilderF 68 5 B B (Lib.byteCells (E ++ bytR k (l.take q))) wr) ∧ Hid (Below w.heap.size w wr) ∧ Hid (errR k l = errR k (l.drop q))) (fun i _ => len - (intOf i).toNat)
  case atStart => exact ⟨0, by omega, rfl, hs3, HI3, HB3, HE0⟩
  case round =>
    obtain ⟨q, hq, rfl, hsr, hI, hBr, hEr⟩ := hrel
    clear HI3 HB3 hs3 HE0
    have HLN := Lib.hid (show (E ++ bytR k (l.take q)).length ≤ 32 + 520 * 4096 by
      have := bytR_le k (l.take q)
      rw [List.length_take] at this
      rw [List.length_append]; omega)
    by_cases hlt : q < len
    case neg =>
      have hql : l.take q = l := List.take_of_length_le (by have := HL.out; omega)
      have hqd : l.drop q = [] := List.drop_of_length_le (by have := HL.out; omega)
      have HR := Lib.hid (show R = (E ++ bytR k l, 0) by
        have h1 := hEr.out
        rw [hqd] at h1
        rw [HPT.out, if_pos (show errR k l = 0 from h1)])
      rw [hql] at hI
      clear hql hqd
      go_wp2_with (go_at_call 28; refine (Try.Builder_String_any_k B B _ _ hI.out hsr).mono ?_; rintro e W1 ⟨rfl, h1, b1, q1⟩)
      go_ret2
      rw [HR.out]
      exact ⟨rfl, hBr.out.trans (b1.mono hwB)⟩
    have hlt' : q < l.length := by have := HL.out; omega
    obtain ⟨b, off, rfl, hbw, c0, c1⟩ := recs_next HA.out hBr.out q hlt'
    have HS := Lib.hid (bytR_snoc k hlt')
    have HC := Lib.hid (errR_cons k hlt')
    have hin := HI.out l[q] (List.getElem_mem hlt')
    obtain ⟨x, hx⟩ : ∃ x, x = l[q] := ⟨_, rfl⟩
    rw [← hx] at c0 c1 HS HC hin
    obtain ⟨⟨n1, n2⟩, n3⟩ := hin
    have kp := fun w => pwrite_any x.n n1 n2 (ba x.d) (by rw [ba_size]; omega) k k1 k2 w
    rw [ba_list] at kp
    obtain ⟨n, hn⟩ : ∃ n, n = x.n := ⟨_, rfl⟩
    obtain ⟨d, hd⟩ : ∃ d, d = ba x.d := ⟨_, rfl⟩
    rw [← hn] at c0
    rw [← hd] at c1
    rw [← hn, ← hd] at kp
    rw [← hn] at HS HC
    have hwl := wrP_len n x.d k
    obtain ⟨T, g, hT⟩ : ∃ (T : List UInt8) (g : Int), wrP n x.d k = (T, g) := ⟨_, _, rfl⟩
    rw [hT] at kp HS HC hwl
    simp only at kp HS HC hwl
    have hTz : (⟨T.toArray⟩ : ByteArray).size ≤ 520 := by have := ba_size T; unfold ba at this; omega
    clear hx hn hd hlt' hT n1 n2 n3
    by_cases g0 : g = 0
    case neg =>
      have t1 : (g != 0) = true := by simpa using g0
      have HR := Lib.hid (show R = ([], g) by
        have h1 : errR k l = g := by rw [hEr.out, HC.out, if_neg g0]
        rw [HPT.out, if_neg (by rw [h1]; exact g0), h1])
      clear g0
      go_wp2_with (go_at_call 27; (with_reducible refine (kp _).mono ?_); rintro e w4 ⟨rfl, b4⟩)
      go_ret2
      rw [HR.out]
      exact ⟨rfl, (hBr.out.alloc hBr.out.size _).trans (b4.mono (by have := hBr.out.size; simp; omega))⟩
    subst g0
    rw [if_pos rfl] at HC
    have HE1 := Lib.hid (show errR k l = errR k (l.drop (q + 1)) by rw [hEr.out, HC.out])
    go_wp2_with (first
      | (go_at_call 27; (with_reducible refine (kp _).mono ?_); rintro e w4 ⟨rfl, b4⟩)
      | (go_at_call 26; refine (Try.Builder_WriteString_k B B _ _ _ (sbuilder_below (hI.out.alloc _) b4) (by have := HLN.out; rw [Lib.byteCells_length]; omega) (by have h4 := b4.size; simp only [World.size_alloc] at h4; omega)).mono ?_; rintro e w6 ⟨rfl, hbd, hbl, -⟩))
    have HI6 : Hid (Lib.IsBuilderF 68 5 B B (Lib.byteCells (E ++ bytR k (l.take (q + 1)))) w6) := by
      rw [HS.out, ← List.append_assoc, sbyteCells_app]; exact Or.inr hbd
    have h4 := b4.size
    have h6 := hbl.size
    simp only [World.size_alloc] at h4
    have HB6 := Lib.hid (((hBr.out.alloc hBr.out.size _).trans (b4.mono (by simp; omega))).trans (hbl.mono hwB))
    clear hbd hbl b4
    go_roundw
    case rel => exact ⟨q + 1, by omega, by go_num, by omega, HI6, HB6, HE1⟩
    case measure => simp [intOf]; omega

set_option maxRecDepth 100000 in
set_option maxHeartbeats 4000000 in
theorem qpart_any (a : Option Addr) (cap : Nat) (l : List R11) (p k : Int) (p1 : -9223372036854775808 ≤ p) (p2 : p ≤ 9223372036854775807) (k1 : -9223372036854775808 ≤ k) (k2 : k ≤ 9223372036854775807) (w : World) (hl : l.length ≤ 4096) (ha : Recs w a l) (hi : IntsR l) :
    Calls Try.prog 14 #[.slice a l.length cap, .int .i64 p, .int .i64 k] w fun e w' => e = .returned (.tuple #[.string (ba (ptR l p k).1), .int .i64 (ptR l p k).2]) ∧ Below w.heap.size w w' := by
  have kh := fun w => rwrite_any (l.length : Int) p k (by omega) (by omega) p1 p2 k1 k2 w
  obtain ⟨E, f, hE⟩ : ∃ (E : List UInt8) (f : Int), wrH l.length p k = (E, f) := ⟨_, _, rfl⟩
  rw [hE] at kh
  simp only at kh
  by_cases h0 : f = 0
  case neg =>
    have hr : ptR l p k = ([], f) := by rw [ptR, hE]; exact if_neg h0
    rw [hr]
    have hEn : E = [] := by have := wrH_none (a := l.length) (b := p) (c := k) (by rw [hE]; exact h0); rw [hE] at this; exact this
    subst hEn
    have t1 : (f != 0) = true := by simpa using h0
    clear hr hE h0
    go_enter Try.func14, Try.ntmps14
    go_wp2_with (go_at_call 29; (with_reducible refine (kh _).mono ?_); rintro e w1 ⟨rfl, b1⟩)
    go_ret2
    exact ⟨rfl, b1⟩
  subst h0
  have hEl : E.length = 32 := by have := (wrH_ok (a := l.length) (b := p) (c := k) (by rw [hE])).2; rw [hE] at this; rw [show E = enL l.length p k from this, enL_len]
  have HPT := Lib.hid (show ptR l p k = if errR k l = 0 then (E ++ bytR k l, 0) else ([], errR k l) by rw [ptR, hE]; exact if_pos rfl)
  obtain ⟨R, hR⟩ : ∃ R, R = ptR l p k := ⟨_, rfl⟩
  rw [← hR]
  rw [← hR] at HPT
  obtain ⟨len, hlen⟩ : ∃ len, len = l.length := ⟨_, rfl⟩
  have HL := Lib.hid hlen
  have HA := Lib.hid ha; have HI := Lib.hid hi
  rw [← hlen] at hl kh ⊢
  clear hR hE ha hi hlen
  obtain ⟨S0, hS0⟩ : ∃ S0 : ByteArray, S0 = ⟨E.toArray⟩ := ⟨_, rfl⟩
  rw [← hS0] at kh
  have HS0 := Lib.hid (show S0 = ba (E ++ bytR k (l.take 0)) by rw [hS0, List.take_zero, bytR, List.append_nil]; rfl)
  have HE0 := Lib.hid (show errR k l = errR k (l.drop 0) from rfl)
  clear hS0
  go_enter Try.func14, Try.ntmps14
  go_wp2_with (go_at_call 29; (with_reducible refine (kh _).mono ?_); rintro e w1 ⟨rfl, b1⟩)
  have HB1 := Lib.hid b1
  clear b1 kh
  go_loopw [8, 10] (fun s i wr => ∃ (q : Nat) (S : ByteArray), q ≤ len ∧ i = .int .i64 q ∧ s = .string S ∧ Hid (S = ba (E ++ bytR k (l.take q))) ∧ Hid (Below w.heap.size w wr) ∧ Hid (errR k l = errR k (l.drop q))) (fun _ i _ => len - (intOf i).toNat)
  case atStart => exact ⟨0, S0, by omega, rfl, rfl, HS0, HB1, HE0⟩
  case round =>
    obtain ⟨q, S, hq, rfl, rfl, hS, hBr, hEr⟩ := hrel
    clear HS0 HB1 HE0
    have hSz : S.size ≤ 32 + 520 * 4096 := by
      have := bytR_le k (l.take q)
      rw [List.length_take] at this
      rw [hS.out, ba_size, List.length_append]; omega
    by_cases hlt : q < len
    case neg =>
      have hql : l.take q = l := List.take_of_length_le (by have := HL.out; omega)
      have hqd : l.drop q = [] := List.drop_of_length_le (by have := HL.out; omega)
      have HR := Lib.hid (show R = (E ++ bytR k l, 0) by
        have h1 := hEr.out
        rw [hqd] at h1
        rw [HPT.out, if_pos (show errR k l = 0 from h1)])
      rw [hql] at hS
      clear hql hqd
      go_wp2
      go_ret2
      rw [HR.out, hS.out]
      exact ⟨rfl, hBr.out⟩
    have hlt' : q < l.length := by have := HL.out; omega
    obtain ⟨b, off, rfl, hbw, c0, c1⟩ := recs_next HA.out hBr.out q hlt'
    have HS := Lib.hid (bytR_snoc k hlt')
    have HC := Lib.hid (errR_cons k hlt')
    have hin := HI.out l[q] (List.getElem_mem hlt')
    obtain ⟨x, hx⟩ : ∃ x, x = l[q] := ⟨_, rfl⟩
    rw [← hx] at c0 c1 HS HC hin
    obtain ⟨⟨n1, n2⟩, n3⟩ := hin
    have kp := fun w => qwrite_any x.n n1 n2 (ba x.d) (by rw [ba_size]; omega) k k1 k2 w
    rw [ba_list] at kp
    obtain ⟨n, hn⟩ : ∃ n, n = x.n := ⟨_, rfl⟩
    obtain ⟨d, hd⟩ : ∃ d, d = ba x.d := ⟨_, rfl⟩
    rw [← hn] at c0
    rw [← hd] at c1
    rw [← hn, ← hd] at kp
    rw [← hn] at HS HC
    have hwl := wrP_len n x.d k
    obtain ⟨T, g, hT⟩ : ∃ (T : List UInt8) (g : Int), wrP n x.d k = (T, g) := ⟨_, _, rfl⟩
    rw [hT] at kp HS HC hwl
    simp only at kp HS HC hwl
    obtain ⟨U, hU⟩ : ∃ U : ByteArray, U = ⟨T.toArray⟩ := ⟨_, rfl⟩
    rw [← hU] at kp
    have HU := Lib.hid (show U = ba T from hU)
    have hUz : U.size ≤ 520 := by rw [HU.out, ba_size]; omega
    have hlti : (q : Int) < len := by omega
    have e1 := app_size S U
    clear hx hn hd hlt' hT n1 n2 n3 hU
    go_upto_region 7 with (fail)
    go_region_held3 (fun v => v.cell? ⟨b, off + q * 2, none⟩ = some (.int .i64 n) ∧ v.cell? ⟨b, off + q * 2 + 1, none⟩ = some (.string d) ∧ (Below w.heap.size w v ∧ Below wr.heap.size wr v))
      (first | assumption | exact ⟨c0, c1, hBr.out, Below.refl _ _⟩ | exact ⟨c0, c1, hBr.out.drew, (Below.refl _ _).drew⟩ | exact part_held hbw c0 c1 (And.right (And.right (by assumption))) (by assumption))
      ((go_at_call 30; (with_reducible refine (kp _).mono ?_); rintro e w4 ⟨rfl, hb⟩))
    rename_i hHeld
    have HB4 := Lib.hid (And.left (And.right (And.right hHeld)))
    clear hHeld hb kp
    by_cases g0 : g = 0
    case neg =>
      have t1 : (g != 0) = true := by simpa using g0
      have HR := Lib.hid (show R = ([], g) by
        have h1 : errR k l = g := by rw [hEr.out, HC.out, if_neg g0]
        rw [HPT.out, if_neg (by rw [h1]; exact g0), h1])
      clear g0
      go_wp2
      go_ret2
      rw [HR.out]
      exact ⟨rfl, HB4.out⟩
    subst g0
    rw [if_pos rfl] at HC
    have HE1 := Lib.hid (show errR k l = errR k (l.drop (q + 1)) by rw [hEr.out, HC.out])
    have HS1 := Lib.hid (show S ++ U = ba (E ++ bytR k (l.take (q + 1))) by rw [HS.out, ← List.append_assoc, ← ba_app, ← hS.out, ← HU.out])
    go_wp2
    go_roundw
    case rel => exact ⟨q + 1, S ++ U, by omega, by go_num, rfl, HS1, HB4, HE1⟩
    case measure => simp [intOf]; omega
end Go.Proofs.Ytjmciknelkodcaa
