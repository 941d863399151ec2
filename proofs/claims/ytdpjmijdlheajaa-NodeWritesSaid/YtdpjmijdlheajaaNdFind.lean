/-
  Layer 16, the document's Find (annexeref16) and the law's great: where a key is, or would be, in any node; whether a node is too great to be asked; they change nothing that was there. Condition: sizes of at most 2^60.
-/
import Derived.Test.YtdpjmijdlheajaaNdWrite
namespace Go.Proofs.Ytdpjmijdlheajaa
open Go.RowKit

def lesN (l : List Cel) (p : List UInt8) : Nat := (l.filter fun c => Op.bytesLess c.key p).length
def isN (l : List Cel) (p : List UInt8) : Bool := match l[lesN l p]? with
  | some c => c.key == p
  | none => false
theorem les_snoc (l : List Cel) (c : Cel) (p : List UInt8) : lesN (l ++ [c]) p = lesN l p + if Op.bytesLess c.key p = true then 1 else 0 := by
  unfold lesN
  rw [List.filter_append, List.length_append]
  congr 1
  cases h : Op.bytesLess c.key p <;> simp [h]
theorem les_le (l : List Cel) (p : List UInt8) : lesN l p ≤ l.length := List.length_filter_le _ _
theorem nlss_run (a : List UInt8) (t : ByteArray) (w : World) : (binOp .lss 9 (.string (nb a)) (.string t)).run Try.prog w = .ok (.bool (Op.bytesLess a t.data.toList)) w := by
  simp [binOp, Op.stringOp, ByteArray.toList_eq, nb_list]
theorem neql_run (a : List UInt8) (t : ByteArray) (w : World) : (binOp .eql 9 (.string (nb a)) (.string t)).run Try.prog w = .ok (.bool (a == t.data.toList)) w := by
  simp [binOp, Op.stringOp, ByteArray.toList_eq, nb_list]
set_option maxRecDepth 100000 in
set_option maxHeartbeats 4000000 in
theorem rfind_any (n : Nod) (ca ka : Option Addr) (cc kc : Nat) (p : ByteArray) (w : World) (hz : NdSz n) (hc : Cls w ca n.cells) :
    Calls Try.prog 18 #[.agg #[.bool n.leaf, .slice ca n.cells.length cc, .slice ka n.kids.length kc], .string p] w fun e w' => e = .returned (.tuple #[.int .i64 (lesN n.cells p.data.toList), .bool (isN n.cells p.data.toList)]) ∧ Below w.heap.size w w' := by
  obtain ⟨leaf, hlf⟩ : ∃ b, b = n.leaf := ⟨_, rfl⟩
  obtain ⟨len, hlen⟩ : ∃ b, b = n.cells.length := ⟨_, rfl⟩
  obtain ⟨kn, hkn⟩ : ∃ b, b = n.kids.length := ⟨_, rfl⟩
  rw [← hlf, ← hlen, ← hkn]
  have hle : len ≤ 1152921504606846976 := by rw [hlen]; exact hz.cl
  have hb := blk_new w 25 #[.bool leaf, .slice ca len cc, .slice ka kn kc]
  have hw := blw1 w (.cells #[.bool leaf, .slice ca len cc, .slice ka kn kc] 25)
  obtain ⟨w1, hw1⟩ : ∃ w1, w1 = w.alloc (.cells #[.bool leaf, .slice ca len cc, .slice ka kn kc] 25) := ⟨_, rfl⟩
  rw [← hw1] at hb hw
  have HC1 := Lib.hid (cls_next hc hw)
  have HCF := Lib.hid (fun W (hB : Below w1.heap.size w1 W) => show W.cell? ⟨w.heap.size, 0, none⟩ = some (.bool leaf) ∧ W.cell? ⟨w.heap.size, 1, none⟩ = some (.slice ca len cc) ∧ W.cell? ⟨w.heap.size, 2, none⟩ = some (.slice ka kn kc) from by
    have h := blk_below hb hB
    exact ⟨blk_cell h 0 rfl, blk_cell h 1 rfl, blk_cell h 2 rfl⟩)
  have HB1 := Lib.hid hw; have HW1 := Lib.hid hw1; have HL := Lib.hid hlen
  clear hlf hlen hkn hc hz hb hw hw1
  go_enter Try.func18, Try.ntmps18
  go_wp2
  rw [← HW1.out]
  go_loopw [6, 8] (fun m i wr => ∃ k s : Nat, k ≤ len ∧ s ≤ k ∧ i = .int .i64 k ∧ m = .int .i64 s ∧ Hid (s = lesN (n.cells.take k) p.data.toList) ∧ Hid (Below w1.heap.size w1 wr)) (fun _ i _ => len - (intOf i).toNat)
  case atStart => exact ⟨0, 0, by omega, by omega, rfl, rfl, Lib.hid rfl, Lib.hid (Below.refl _ _)⟩
  case round =>
    obtain ⟨k, s, hk, hsk, rfl, rfl, hS, hB⟩ := hrel
    obtain ⟨j0, j1, j2⟩ := HCF.out _ hB.out
    by_cases hlt : k < len
    · have hlt' : k < n.cells.length := by have := HL.out; omega
      have t1 : (k : Int) < len := by omega
      obtain ⟨b, off, rfl, hbw, c0, -⟩ := (cls_next HC1.out hB.out) k hlt'
      have hsn := take_snoc hlt'
      obtain ⟨x, hx⟩ : ∃ x, x = n.cells[k] := ⟨_, rfl⟩
      rw [← hx] at c0 hsn
      have hr : Op.bytesLess (nb x.key).toList p.toList = Op.bytesLess x.key p.data.toList := by rw [nb_toList, ByteArray.toList_eq]
      have hn := les_snoc (n.cells.take k) x p.data.toList
      rw [← hsn, ← hS.out] at hn
      have HX := Lib.hid hx
      clear hx hsn hS
      cases hv : Op.bytesLess x.key p.data.toList with
      | true =>
        rw [hv, if_pos rfl] at hn
        have HN := Lib.hid hn.symm
        rw [hv] at hr
        clear hv hn
        go_wp2
        go_roundw
        case rel => exact ⟨k + 1, s + 1, by omega, by omega, by go_num, by go_num, HN, hB⟩
        case measure => simp [intOf]; omega
      | false =>
        rw [hv, if_neg (by decide)] at hn
        have HN := Lib.hid hn.symm
        rw [hv] at hr
        clear hv hn
        go_wp2
        go_roundw
        case rel => exact ⟨k + 1, s, by omega, by omega, by go_num, rfl, HN, hB⟩
        case measure => simp [intOf]; omega
    · obtain rfl : k = len := by omega
      have t1 : ¬ (k : Int) < k := by omega
      have hS2 := hS.out
      rw [List.take_of_length_le (by have := HL.out; omega)] at hS2
      have HBW := Lib.hid (HB1.out.trans (hB.out.mono HB1.out.size))
      have HS := Lib.hid hS2
      clear hS hS2
      by_cases hsl : s < k
      · have hsl' : s < n.cells.length := by have := HL.out; omega
        have t2 : (s : Int) < k := by omega
        obtain ⟨b, off, rfl, hbw, c0, -⟩ := (cls_next HC1.out hB.out) s hsl'
        have hi : isN n.cells p.data.toList = (n.cells[s].key == p.data.toList) := by
          unfold isN
          rw [← HS.out, List.getElem?_eq_getElem hsl']
        obtain ⟨x, hx⟩ : ∃ x, x = n.cells[s] := ⟨_, rfl⟩
        rw [← hx] at c0 hi
        have hr : ((nb x.key).toList == p.toList) = (x.key == p.data.toList) := by rw [nb_toList, ByteArray.toList_eq]
        generalize (x.key == p.data.toList) = z at *
        have HI := Lib.hid hi
        clear hx hi
        go_wp2
        go_ret2
        exact ⟨by rw [← HS.out, HI.out]; rfl, HBW.out⟩
      · have t2 : ¬ (s : Int) < k := by omega
        have hi : isN n.cells p.data.toList = false := by
          unfold isN
          rw [← HS.out, List.getElem?_eq_none (by have := HL.out; omega)]
        have HI := Lib.hid hi
        clear hi
        go_wp2
        go_ret2
        exact ⟨by rw [← HS.out, HI.out]; rfl, HBW.out⟩
end Go.Proofs.Ytdpjmijdlheajaa
