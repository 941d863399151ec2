/-
  Layer 16, the law's great: where it says false a node has at most 61 cells, of at most 5000 bytes, and at most 100 numbers; it changes nothing. Condition: sizes of at most 2^60.
-/
import Derived.Test.YtdpjmijdlheajaaNdFind
namespace Go.Proofs.Ytdpjmijdlheajaa
open Go.RowKit

def totC (l : List Cel) : Nat := (l.map fun c => c.key.length + c.loc.length).sum
theorem tot_snoc (l : List Cel) (c : Cel) : totC (l ++ [c]) = totC l + c.key.length + c.loc.length := by
  unfold totC
  rw [List.map_append, List.sum_append]
  simp
  omega
theorem tot_mem {l : List Cel} {c : Cel} (h : c ∈ l) : c.key.length + c.loc.length ≤ totC l := by
  induction l with
  | nil => cases h
  | cons x t ih =>
    have e : totC (x :: t) = x.key.length + x.loc.length + totC t := rfl
    rcases List.mem_cons.1 h with rfl | h
    · omega
    · have := ih h; omega
/-- A node that is asked. -/
def FineN (n : Nod) : Prop := n.cells.length ≤ 61 ∧ totC n.cells ≤ 5000 ∧ n.kids.length ≤ 100
def GrtN (n : Nod) (w : World) (e : Ending) (w' : World) : Prop := ∃ z : Bool, e = .returned (.bool z) ∧ (z = false → FineN n) ∧ Below w.heap.size w w'
set_option maxRecDepth 100000 in
set_option maxHeartbeats 4000000 in
theorem ngreat_any (n : Nod) (ca ka : Option Addr) (cc kc : Nat) (w : World) (hz : NdSz n) (hc : Cls w ca n.cells) :
    Calls Try.prog 7 #[.agg #[.bool n.leaf, .slice ca n.cells.length cc, .slice ka n.kids.length kc]] w (GrtN n w) := by
  obtain ⟨leaf, hlf⟩ : ∃ b, b = n.leaf := ⟨_, rfl⟩
  obtain ⟨len, hlen⟩ : ∃ b, b = n.cells.length := ⟨_, rfl⟩
  obtain ⟨kn, hkn⟩ : ∃ b, b = n.kids.length := ⟨_, rfl⟩
  rw [← hlf, ← hlen, ← hkn]
  have hle : len ≤ 1152921504606846976 := by rw [hlen]; exact hz.cl
  have hb := blk_new w 25 #[.bool leaf, .slice ca len cc, .slice ka kn kc]
  have hw := blw1 w (.cells #[.bool leaf, .slice ca len cc, .slice ka kn kc] 25)
  obtain ⟨w1, hw1⟩ : ∃ w1, w1 = w.alloc (.cells #[.bool leaf, .slice ca len cc, .slice ka kn kc] 25) := ⟨_, rfl⟩
  rw [← hw1] at hb hw
  have HC1 := Lib.hid (cls_next hc hw)
  have HCF := Lib.hid (fun W (hB : Below w1.heap.size w1 W) => show W.cell? ⟨w.heap.size, 0, none⟩ = some (.bool leaf) ∧ W.cell? ⟨w.heap.size, 1, none⟩ = some (.slice ca len cc) ∧ W.cell? ⟨w.heap.size, 2, none⟩ = some (.slice ka kn kc) from by
    have h := blk_below hb hB
    exact ⟨blk_cell h 0 rfl, blk_cell h 1 rfl, blk_cell h 2 rfl⟩)
  have HB1 := Lib.hid hw; have HW1 := Lib.hid hw1; have HL := Lib.hid hlen; have HK := Lib.hid hkn; have HZ := Lib.hid hz
  clear hlf hlen hkn hc hz hb hw hw1
  go_enter Try.func7, Try.ntmps7
  go_wp2
  rw [← HW1.out]
  go_loopw [3, 4] (fun t i wr => ∃ k s : Nat, k ≤ len ∧ k ≤ 61 ∧ s ≤ 5000 ∧ i = .int .i64 k ∧ t = .int .i64 s ∧ Hid (s = totC (n.cells.take k)) ∧ Hid (Below w1.heap.size w1 wr)) (fun _ i _ => len - (intOf i).toNat)
  case atStart => exact ⟨0, 0, by omega, by omega, by omega, rfl, rfl, Lib.hid rfl, Lib.hid (Below.refl _ _)⟩
  case round =>
    obtain ⟨k, s, hk, hk61, hs, rfl, rfl, hS, hB⟩ := hrel
    obtain ⟨j0, j1, j2⟩ := HCF.out _ hB.out
    have HBW := Lib.hid (HB1.out.trans (hB.out.mono HB1.out.size))
    by_cases hlt : k < len
    · have hlt' : k < n.cells.length := by have := HL.out; omega
      have t1 : (k : Int) < len := by omega
      obtain ⟨b, off, rfl, hbw, c0, -, c2, -⟩ := (cls_next HC1.out hB.out) k hlt'
      have z1 := HZ.out.ks k hlt'
      have z2 := HZ.out.ls k hlt'
      have hsn := take_snoc hlt'
      obtain ⟨x, hx⟩ : ∃ x, x = n.cells[k] := ⟨_, rfl⟩
      rw [← hx] at c0 c2 hsn z1 z2
      have hn := tot_snoc (n.cells.take k) x
      rw [← hsn, ← hS.out, ← nb_size, ← nb_size] at hn
      rw [← nb_size] at z1 z2
      have HN := Lib.hid hn
      clear hx hsn hn
      generalize nb x.key = y1 at *
      generalize nb x.loc = y2 at *
      have w1' : IntKind.i64.wrap ((s : Int) + y1.size) = (s : Int) + y1.size := IntWalk.i64_in _ ⟨by omega, by omega⟩
      have w2' : IntKind.i64.wrap ((s : Int) + y1.size + y2.size) = (s : Int) + y1.size + y2.size := IntWalk.i64_in _ ⟨by omega, by omega⟩
      by_cases g1 : 60 < k
      · have t2 : (60 : Int) < k := by omega
        go_upto_region 5 with (fail)
        go_quiet (fail)
        all_goals go_wp2
        all_goals go_ret
        all_goals exact ⟨true, rfl, (fun h => nomatch h), HBW.out.trans ⟨rfl, rfl, rfl, Nat.le_refl _, fun _ _ => rfl⟩⟩
      · have t2 : ¬ (60 : Int) < k := by omega
        by_cases g2 : 5000 < s + y1.size + y2.size
        · have t3 : (5000 : Int) < (s : Int) + y1.size + y2.size := by omega
          go_upto_region 5 with (fail)
          go_quiet (fail)
          all_goals go_wp2
          all_goals go_ret
          all_goals exact ⟨true, rfl, (fun h => nomatch h), HBW.out.trans ⟨rfl, rfl, rfl, Nat.le_refl _, fun _ _ => rfl⟩⟩
        · have t3 : ¬ (5000 : Int) < (s : Int) + y1.size + y2.size := by omega
          go_upto_region 5 with (fail)
          go_quiet (fail)
          all_goals go_wp2
          all_goals go_roundw
          all_goals first
            | exact ⟨k + 1, s + y1.size + y2.size, by omega, by omega, by omega, by go_num, by go_num, Lib.hid HN.out.symm, Lib.hid (hB.out.trans ⟨rfl, rfl, rfl, Nat.le_refl _, fun _ _ => rfl⟩)⟩
            | (simp [intOf]; omega)
    · obtain rfl : k = len := by omega
      have t1 : ¬ (k : Int) < k := by omega
      have hS2 := hS.out
      rw [List.take_of_length_le (by have := HL.out; omega)] at hS2
      have HS := Lib.hid hS2
      clear hS hS2
      by_cases g3 : 100 < kn
      · have t2 : (100 : Int) < kn := by omega
        go_wp2
        go_ret
        exact ⟨true, rfl, (fun h => nomatch h), HBW.out⟩
      · have t2 : ¬ (100 : Int) < kn := by omega
        go_wp2
        go_ret
        exact ⟨false, rfl, fun _ => ⟨by have := HL.out; omega, by have := HS.out; omega, by have := HK.out; omega⟩, HBW.out⟩
end Go.Proofs.Ytdpjmijdlheajaa
