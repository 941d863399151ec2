/-
  Layer 13, how hot looks at a disk: visible, read, Journal, journalOf, counts. Condition: the disk is calm; files of at most 1048576 bytes, paths of at most 30000.
  Layer 13, the document's names and State: each returns its plain function and changes nothing that was there. Condition: each file has at most 1048576 bytes.
-/
import Derived.BigQuiet
import Derived.Test.YthfebcfdhmihcaaGreatDoorMh10
import Derived.Test.YthfebcfdhmihcaaGreatDoorMh12
import Derived.Test.YthfebcfdhmihcaaGreatDoorMh7
namespace Go.Proofs.YthfebcfdhmihcaaGreatDoor
open Go.RowKit

/-- The files are not too big. -/
def SmlF (l : List F13) : Prop := ∀ f ∈ l, f.2.length ≤ 1048576
theorem fld_super (k p : Int) (a : Option Addr) (n cap : Nat) (s : ByteArray) (W : World) : (Instr.field 75 (.agg #[.int .i64 k, .int .i64 p, .slice a n cap, .string s]) 3).run Tryz.prog W = .ok (.string s) W := by kernel_rfl

set_option maxRecDepth 100000 in
set_option maxHeartbeats 1000000 in
theorem names13_any (a : Option Addr) (cap : Nat) (l : List F13) (p : List UInt8) (w : World) (hl : l.length ≤ 4611686018427387904) (hp : p.length ≤ 1099511627776) (hm : SmlF l) (ha : Fls w a l) :
    Calls Tryz.prog 95 #[.slice a l.length cap, .string (ba p)] w fun e w' => e = .returned (.string (ba (namF l p))) ∧ Below w.heap.size w w' := by
  have kj := fun W => jour13_any p hp W
  have kf := fun W (h : Fls W a l) => find13_any a cap l (p ++ jx) W hl h
  have HA := Lib.hid ha
  unfold namF
  obtain ⟨len, hlen⟩ : ∃ len, len = l.length := ⟨_, rfl⟩
  rw [← hlen] at kf hl ⊢
  rcases fnd_look l (p ++ jx) with ⟨h1, h2, -⟩ | ⟨k, hk, h1, h2, -⟩
  · rw [h1] at kf
    rw [h2]
    clear h1 h2 ha hlen
    simp only
    go_enter Tryz.func95, Tryz.ntmps95
    go_wp2_with (first
      | (go_at_call 43; (with_reducible refine (kj _).mono ?_); rintro e w1 ⟨rfl, rfl⟩)
      | (go_at_call 41; (with_reducible refine (kf _ HA.out).mono ?_); rintro e w2 ⟨rfl, rfl⟩))
    go_ret
    exact ⟨rfl, Below.refl _ _⟩
  · rw [h1] at kf
    rw [h2]
    obtain ⟨b, off, rfl, hbw, -, c1⟩ := ha k hk
    have kr := fun W => qread11_any l[k].2 (hm _ (List.getElem_mem hk)) W
    have hk' : k < len := by omega
    have hki : (k : Int) < len := by omega
    have hk0 : ¬ (k : Int) < 0 := by omega
    obtain ⟨d, hd⟩ : ∃ d, d = l[k].2 := ⟨_, rfl⟩
    rw [← hd] at c1 kr ⊢
    have kfl := fld_super
    clear h1 h2 ha hlen hd hk hm
    simp only
    go_enter Tryz.func95, Tryz.ntmps95
    go_wp2_with (first
      | (go_at_call 43; (with_reducible refine (kj _).mono ?_); rintro e w1 ⟨rfl, rfl⟩)
      | (go_at_call 41; (with_reducible refine (kf _ HA.out).mono ?_); rintro e w2 ⟨rfl, rfl⟩)
      | (go_at_call 42; (with_reducible refine (kr _).mono ?_); rintro e w3 ⟨hB, a3, cap3, rfl, -⟩))
    go_ret
    exact ⟨rfl, hB⟩
theorem hot_k {l : List F13} {d : List UInt8} (h : ¬ 0 < (rdJ d).k) : hotF l d = false := by unfold hotF; rw [decide_eq_false h]; rfl
theorem hot_e {l : List F13} {d : List UInt8} (h : 0 < (rdJ d).k) (he : (rdJ d).s = []) : hotF l d = true := by unfold hotF; rw [decide_eq_true h, he]; rfl
theorem hot_n {l : List F13} {d : List UInt8} (h : 0 < (rdJ d).k) (he : (rdJ d).s ≠ []) : hotF l d = decide (0 ≤ fndI l (rdJ d).s) := by
  unfold hotF
  rw [decide_eq_true h, show ((rdJ d).s == []) = false by simpa using he]
  rw [Bool.true_and, Bool.false_or, Bool.eq_iff_iff, decide_eq_true_iff, fnd_ge]

set_option maxRecDepth 100000 in
set_option maxHeartbeats 1000000 in
theorem state13_any (a : Option Addr) (cap : Nat) (l : List F13) (p : List UInt8) (w : World) (hl : l.length ≤ 4611686018427387904) (hp : p.length ≤ 1099511627776) (hm : SmlF l) (ha : Fls w a l) :
    Calls Tryz.prog 14 #[.slice a l.length cap, .string (ba p)] w fun e w' => e = .returned (.int .i64 (staF l p)) ∧ Below w.heap.size w w' := by
  have kj := fun W => jour13_any p hp W
  have kf := fun q W (h : Fls W a l) => find13_any a cap l q W hl h
  have HA := Lib.hid ha
  unfold staF
  obtain ⟨len, hlen⟩ : ∃ len, len = l.length := ⟨_, rfl⟩
  rw [← hlen] at kf hl ⊢
  rcases fnd_look l (p ++ jx) with ⟨h1, h2, -⟩ | ⟨k, hk, h1, h2, -⟩
  · have kf1 := kf (p ++ jx)
    rw [h1] at kf1
    rw [h2]
    clear h1 h2 ha hlen kf
    simp only
    go_enter Tryz.func14, Tryz.ntmps14
    go_wp2_with (first
      | (go_at_call 43; (with_reducible refine (kj _).mono ?_); rintro e w1 ⟨rfl, rfl⟩)
      | (go_at_call 41; (with_reducible refine (kf1 _ HA.out).mono ?_); rintro e w2 ⟨rfl, rfl⟩))
    go_ret
    exact ⟨rfl, Below.refl _ _⟩
  · have kf1 := kf (p ++ jx)
    rw [h1] at kf1
    rw [h2]
    obtain ⟨b, off, rfl, hbw, -, c1⟩ := ha k hk
    have kr := fun W => qread11_any l[k].2 (hm _ (List.getElem_mem hk)) W
    have hk' : k < len := by omega
    have hki : (k : Int) < len := by omega
    have hk0 : ¬ (k : Int) < 0 := by omega
    obtain ⟨d, hd⟩ : ∃ d, d = l[k].2 := ⟨_, rfl⟩
    rw [← hd] at c1 kr ⊢
    have kf2 := kf (rdJ d).s
    simp only
    obtain ⟨h, hh⟩ : ∃ h, h = hotF l d := ⟨_, rfl⟩
    rw [← hh]
    unfold ReadQ at kr
    have hh0 : ¬ 0 < (rdJ d).k → h = false := fun e => hh.trans (hot_k e)
    have hh1 : 0 < (rdJ d).k → (rdJ d).s = [] → h = true := fun e e' => hh.trans (hot_e e e')
    have hh2 : 0 < (rdJ d).k → (rdJ d).s ≠ [] → h = decide (0 ≤ fndI l (rdJ d).s) := fun e e' => hh.trans (hot_n e e')
    clear h1 h2 ha hlen hd hk hm kf hh
    generalize fndI l (rdJ d).s = fi at *
    generalize rdJ d = J at *
    obtain ⟨K, P, R, s⟩ := J
    simp only at kr kf2 hh0 hh1 hh2
    by_cases g1 : 0 < K
    · have g1' : (0 : Int) < (K : Int) := by omega
      by_cases g2 : s = []
      · obtain rfl := hh1 g1 g2
        have te' : (ba s).toList = [] := by rw [ByteArray.toList_eq, ba_list, g2]
        have te : (ba s).toList.isEmpty = true := by rw [te']; rfl
        clear hh0 hh1 hh2 g2
        go_enter Tryz.func14, Tryz.ntmps14
        go_wp2_with (first
          | (go_at_call 43; (with_reducible refine (kj _).mono ?_); rintro e w1 ⟨rfl, rfl⟩)
          | (go_at_call 41; (with_reducible refine (kf1 _ HA.out).mono ?_); rintro e w2 ⟨rfl, rfl⟩)
          | (go_at_call 41; (with_reducible refine (kf2 _ (fls_alloc (fls_next HA.out HB.out) _)).mono ?_); rintro e w2 ⟨rfl, rfl⟩)
          | (go_at_call 42; (with_reducible refine (kr _).mono ?_); rintro e w3 ⟨hB, a3, cap3, rfl, -⟩; have HB := Lib.hid hB; clear hB; have HJ := Lib.hid (blk_new w3 75 #[.int .i64 K, .int .i64 P, .slice a3 R.length cap3, .string (ba s)]); have j0 := blk_cell HJ.out 0 rfl; have j3 := blk_cell HJ.out 3 rfl))
        go_ret
        exact ⟨rfl, HB.out.alloc HB.out.size _⟩
      · obtain rfl := hh2 g1 g2
        have te' : ¬ (ba s).toList = [] := by rw [ByteArray.toList_eq, ba_list]; exact g2
        have te : (ba s).toList.isEmpty = false := by simpa using te'
        clear hh0 hh1 hh2 g2
        by_cases gi : 0 ≤ fi
        · rw [decide_eq_true gi]
          go_enter Tryz.func14, Tryz.ntmps14
          go_wp2_with (first
            | (go_at_call 43; (with_reducible refine (kj _).mono ?_); rintro e w1 ⟨rfl, rfl⟩)
            | (go_at_call 41; (with_reducible refine (kf1 _ HA.out).mono ?_); rintro e w2 ⟨rfl, rfl⟩)
            | (go_at_call 41; (with_reducible refine (kf2 _ (fls_alloc (fls_next HA.out HB.out) _)).mono ?_); rintro e w2 ⟨rfl, rfl⟩)
            | (go_at_call 42; (with_reducible refine (kr _).mono ?_); rintro e w3 ⟨hB, a3, cap3, rfl, -⟩; have HB := Lib.hid hB; clear hB; have HJ := Lib.hid (blk_new w3 75 #[.int .i64 K, .int .i64 P, .slice a3 R.length cap3, .string (ba s)]); have j0 := blk_cell HJ.out 0 rfl; have j3 := blk_cell HJ.out 3 rfl))
          go_ret
          exact ⟨rfl, HB.out.alloc HB.out.size _⟩
        · rw [decide_eq_false gi]
          go_enter Tryz.func14, Tryz.ntmps14
          go_wp2_with (first
            | (go_at_call 43; (with_reducible refine (kj _).mono ?_); rintro e w1 ⟨rfl, rfl⟩)
            | (go_at_call 41; (with_reducible refine (kf1 _ HA.out).mono ?_); rintro e w2 ⟨rfl, rfl⟩)
            | (go_at_call 41; (with_reducible refine (kf2 _ (fls_alloc (fls_next HA.out HB.out) _)).mono ?_); rintro e w2 ⟨rfl, rfl⟩)
            | (go_at_call 42; (with_reducible refine (kr _).mono ?_); rintro e w3 ⟨hB, a3, cap3, rfl, -⟩; have HB := Lib.hid hB; clear hB; have HJ := Lib.hid (blk_new w3 75 #[.int .i64 K, .int .i64 P, .slice a3 R.length cap3, .string (ba s)]); have j0 := blk_cell HJ.out 0 rfl; have j3 := blk_cell HJ.out 3 rfl))
          go_ret
          exact ⟨rfl, HB.out.alloc HB.out.size _⟩
    · obtain rfl := hh0 g1
      have g1' : ¬ (0 : Int) < (K : Int) := by omega
      clear hh0 hh1 hh2
      go_enter Tryz.func14, Tryz.ntmps14
      go_wp2_with (first
        | (go_at_call 43; (with_reducible refine (kj _).mono ?_); rintro e w1 ⟨rfl, rfl⟩)
        | (go_at_call 41; (with_reducible refine (kf1 _ HA.out).mono ?_); rintro e w2 ⟨rfl, rfl⟩)
        | (go_at_call 41; (with_reducible refine (kf2 _ (fls_alloc (fls_next HA.out HB.out) _)).mono ?_); rintro e w2 ⟨rfl, rfl⟩)
        | (go_at_call 42; (with_reducible refine (kr _).mono ?_); rintro e w3 ⟨hB, a3, cap3, rfl, -⟩; have HB := Lib.hid hB; clear hB; have HJ := Lib.hid (blk_new w3 75 #[.int .i64 K, .int .i64 P, .slice a3 R.length cap3, .string (ba s)]); have j0 := blk_cell HJ.out 0 rfl; have j3 := blk_cell HJ.out 3 rfl))
      go_ret
      exact ⟨rfl, HB.out.alloc HB.out.size _⟩
end Go.Proofs.YthfebcfdhmihcaaGreatDoor

namespace Go.Proofs.YthfebcfdhmihcaaGreatDoor
open Go.RowKit
variable {P : Nat → Prop} {ea : Addr} {b n m : Nat} {l : List F13} {Q : PQ} {w : World}

theorem blw_drN {B : Nat} {v v' : World} (h : Below B v v') (k : Nat) : Below B v (v'.drewN k) := ⟨h.os, h.tape, h.output, h.size, h.block⟩
theorem hvisible_any (h : Dk P ea b n m l Q w) (p : List UInt8) (hp : p.length ≤ 1000000) :
    Calls Tryz.prog 34 #[.pointer (some ⟨b, 0, none⟩), .string (ba p)] w fun e w' => e = .returned (.bool (lookF l p).isSome) ∧ w' = w := by
  have HC := Lib.hid (dk_size h p hp)
  clear h hp
  go_enter Tryz.func34, Tryz.ntmps34
  go_wp2_with (go_at_call 78; (with_reducible refine HC.out.mono ?_); rintro e w1 ⟨rfl, rfl⟩)
  go_ret
  exact ⟨rfl, rfl⟩
theorem hfailing_ok (w : World) : Calls Tryz.prog 87 #[.int .i64 0] w fun e w' => e = .returned .nilIface ∧ w' = w := by
  go_enter Tryz.func87, Tryz.ntmps87
  go_wp2
  go_ret
  exact ⟨rfl, rfl⟩
theorem hfailing_no (x : Int) (hx : (x == 0) = false) (w : World) : Calls Tryz.prog 87 #[.int .i64 x] w fun e w' => e = .returned (.iface 29 (.int .i64 x)) ∧ w' = w := by
  go_enter Tryz.func87, Tryz.ntmps87
  go_wp2
  go_ret
  exact ⟨rfl, rfl⟩
theorem hjournal_any (p : List UInt8) (hp : p.length ≤ 1000000) (w : World) :
    Calls Tryz.prog 21 #[.string (ba p)] w fun e w' => e = .returned (.string (ba (p ++ jx))) ∧ w' = w := by
  have hs := ba_size p
  have hE : ba p ++ (⟨#[45, 106]⟩ : ByteArray) = ba (p ++ jx) := by
    apply ByteArray.ext
    simp [ba, jx]
  go_enter Tryz.func21, Tryz.ntmps21
  go_wp2
  go_ret
  exact ⟨rfl, rfl⟩
theorem hread_none (h : Dk P ea b n m l Q w) (p : List UInt8) (hp : p.length ≤ 1000000) (hx : lookF l p = none) :
    Calls Tryz.prog 71 #[.pointer (some ⟨b, 0, none⟩), .string (ba p)] w fun e w' => e = .returned (.tuple #[.string ⟨#[]⟩, .iface 283 (.pointer (some ea))]) ∧ Below w.heap.size w w' := by
  have hc := dk_size h p hp
  rw [hx] at hc
  have HC := Lib.hid hc
  have hab := h.gl.ab
  clear h hp hc hx
  go_enter Tryz.func71, Tryz.ntmps71
  go_wp2_with (go_at_call 78; (with_reducible refine HC.out.mono ?_); rintro e w1 ⟨rfl, rfl⟩)
  go_quiet (fail)
  go_wp2
  go_ret2
  exact ⟨rfl, blw_drN (Below.refl _ _) _⟩
theorem hread_some (h : Dk P ea b n m l Q w) (p x : List UInt8) (hp : p.length ≤ 1000000) (hx : lookF l p = some x) (hn : n + 1 ≤ 100000) :
    Calls Tryz.prog 71 #[.pointer (some ⟨b, 0, none⟩), .string (ba p)] w fun e w' => e = .returned (.tuple #[.string (ba x), .nilIface]) ∧ Dk P ea b (n + 1) m l Q w' ∧ Fr P w w' := by
  have hc := dk_size h p hp
  rw [hx] at hc
  have HC := Lib.hid hc
  have HR := Lib.hid (dk_read h p x hp hx hn)
  have hf := fun W => hfailing_ok W
  clear h hp hc hx
  go_enter Tryz.func71, Tryz.ntmps71
  go_wp2_with (first | (go_at_call 78; (with_reducible refine HC.out.mono ?_); rintro e w1 ⟨rfl, rfl⟩) | (go_at_call 106; (with_reducible refine HR.out.mono ?_); rintro e w2 ⟨rfl, hD, hF⟩; have HD := Lib.hid hD; have HF := Lib.hid hF; clear hD hF) | (go_at_call 87; (with_reducible refine (hf _).mono ?_); rintro e w3 ⟨rfl, rfl⟩))
  go_ret2
  exact ⟨rfl, HD.out, HF.out⟩

def zJrn : Array Value := #[.int .i64 0, .int .i64 0, .slice none 0 0, .string ⟨#[]⟩]
/-- A journal as a value. -/
def jrnV (d : List UInt8) (a : Option Addr) (cap : Nat) : Array Value := #[.int .i64 (rdJ d).k, .int .i64 (rdJ d).p, .slice a (rdJ d).L.length cap, .string (ba (rdJ d).s)]
theorem recs_heap {w' : World} {a : Option Addr} {L : List R11} (h : Recs w a L) (hs : w.heap.size ≤ w'.heap.size) (hb : ∀ g o, a = some ⟨g, o, none⟩ → g < w.heap.size → w'.heap[g]? = w.heap[g]?) : Recs w' a L := by
  intro j hj
  obtain ⟨g, o, ha, hlt, h1, h2⟩ := h j hj
  have e := hb g o ha hlt
  exact ⟨g, o, ha, Nat.lt_of_lt_of_le hlt hs, (World.cell?_of_block (a := ⟨g, o + j * 2, none⟩) e).trans h1, (World.cell?_of_block (a := ⟨g, o + j * 2 + 1, none⟩) e).trans h2⟩


/-- A struct of four cells stored into a block of our own. -/
def put4 (w : World) (g : Nat) (v0 v1 v2 v3 : Value) : World := (((w.setCell ⟨g, 0, none⟩ v0).setCell ⟨g, 1, none⟩ v1).setCell ⟨g, 2, none⟩ v2).setCell ⟨g, 3, none⟩ v3
theorem put4_heap (w : World) (g : Nat) (v0 v1 v2 v3 : Value) {k : Nat} (hk : k ≠ g) : (put4 w g v0 v1 v2 v3).heap[k]? = w.heap[k]? :=
  (Below.heap_setCell _ _ _ _ hk).trans ((Below.heap_setCell _ _ _ _ hk).trans ((Below.heap_setCell _ _ _ _ hk).trans (Below.heap_setCell _ _ _ _ hk)))
theorem put4_size (w : World) (g : Nat) (v0 v1 v2 v3 : Value) : (put4 w g v0 v1 v2 v3).heap.size = w.heap.size := by unfold put4; simp
theorem put4_below {w w' : World} {g : Nat} (h : Below w.heap.size w w') (hg : w.heap.size ≤ g) (v0 v1 v2 v3 : Value) : Below w.heap.size w (put4 w' g v0 v1 v2 v3) :=
  blw_set (blw_set (blw_set (blw_set h hg _ _) hg _ _) hg _ _) hg _ _
theorem put4_fr {P : Nat → Prop} {w w' : World} {g : Nat} (h : Fr P w w') (hg : ∀ k, P k → k ≠ g) (v0 v1 v2 v3 : Value) : Fr P w (put4 w' g v0 v1 v2 v3) :=
  ⟨h.os, h.tape, h.output, by rw [put4_size]; exact h.size, fun k hk => (put4_heap _ _ _ _ _ _ (hg k hk)).trans (h.blk k hk)⟩
theorem journalOf_none (h : Dk P ea b n m l Q w) (p : List UInt8) (hp : p.length ≤ 999000) (hx : lookF l (p ++ jx) = none) :
    Calls Tryz.prog 27 #[.pointer (some ⟨b, 0, none⟩), .string (ba p)] w fun e w' => e = .returned (.tuple #[.agg zJrn, .iface 283 (.pointer (some ea))]) ∧ Below w.heap.size w w' := by
  have hA := dk_alloc h (.cells zJrn 55)
  have hjl : (p ++ jx).length ≤ 1000000 := by rw [List.length_append]; have : jx.length = 2 := rfl; omega
  have HR := Lib.hid (hread_none hA (p ++ jx) hjl hx)
  have kj := fun W => hjournal_any p (by omega) W
  have hb0 : Blk (w.alloc (.cells zJrn 55)) w.heap.size 55 zJrn := blk_new _ _ _
  have HB := Lib.hid hb0
  clear h hA hx hb0 hjl
  unfold zJrn at *
  go_enter Tryz.func27, Tryz.ntmps27
  go_wp2_with (first | (go_at_call 21; (with_reducible refine (kj _).mono ?_); rintro e w1 ⟨rfl, rfl⟩) | (go_at_call 71; (with_reducible refine HR.out.mono ?_); rintro e w2 ⟨rfl, hB⟩; have hb2 := blk_below HB.out hB; have HB2 := Lib.hid hb2; have z0 := blk_cell hb2 0 rfl; have z1 := blk_cell hb2 1 rfl; have z2 := blk_cell hb2 2 rfl; have z3 := blk_cell hb2 3 rfl; have f0 := blk_frozen hb2 0; have f1 := blk_frozen hb2 1; have f2 := blk_frozen hb2 2; have f3 := blk_frozen hb2 3; have HBW := Lib.hid (blw_new hB); clear hB hb2))
  refine bodyPost_ret (results_pair rfl _ _ w.heap.size _ _ _ rfl (blk_set (blk_set (blk_set (blk_set HB2.out 0 _) 1 _) 2 _) 3 _) Tryz.underlying55 rfl (by kernel_rfl)) rfl ?_
  exact ⟨rfl, blw_set (blw_set (blw_set (blw_set HBW.out (Nat.le_refl _) _ _) (Nat.le_refl _) _ _) (Nat.le_refl _) _ _) (Nat.le_refl _) _ _⟩

/-- What journalOf leaves of a journal that is there: its records lie beside the disk. -/
def JofQ (P : Nat → Prop) (ea : Addr) (b n m : Nat) (l : List F13) (Q : PQ) (d : List UInt8) (w : World) (e : Ending) (w' : World) : Prop :=
  ∃ (a : Option Addr) (cap : Nat) (R : Nat → Prop), e = .returned (.tuple #[.agg (jrnV d a cap), .nilIface]) ∧ Dk (fun k => P k ∨ R k) ea b n m l Q w' ∧ Fr P w w' ∧ Recs w' a (rdJ d).L ∧ ∀ g o, a = some ⟨g, o, none⟩ → w.heap.size ≤ g ∧ (g < w'.heap.size → R g)
theorem journalOf_some (h : Dk P ea b n m l Q w) (p d : List UInt8) (hp : p.length ≤ 999000) (hx : lookF l (p ++ jx) = some d) (hd : d.length ≤ 1048576) (hn : n + 1 ≤ 100000) :
    Calls Tryz.prog 27 #[.pointer (some ⟨b, 0, none⟩), .string (ba p)] w (JofQ P ea b (n + 1) m l Q d w) := by
  have hjl : (p ++ jx).length ≤ 1000000 := by rw [List.length_append]; have : jx.length = 2 := rfl; omega
  have hA := dk_add h (.cells zJrn 55)
  have HR := Lib.hid (hread_some hA (p ++ jx) d hjl hx hn)
  have kj := fun W => hjournal_any p (by omega) W
  have kr := fun W => jread11_new d hd W
  have hb0 : Blk (w.alloc (.cells zJrn 55)) w.heap.size 55 zJrn := blk_new _ _ _
  have HB := Lib.hid hb0
  have HF0 := Lib.hid (fr_below (P := P) (blw1 w (.cells zJrn 55)) h.lt)
  have HLT := Lib.hid h.lt; have HGP := Lib.hid h.gn
  have HGN := Lib.hid (show 6 ≤ w.heap.size by
    have := h.lt (6 - 1) (h.gn _ (by decide)); omega)
  obtain ⟨J, hJ⟩ : ∃ J, J = rdJ d := ⟨_, rfl⟩
  unfold JofQ jrnV
  rw [← hJ] at kr ⊢
  clear h hA hx hb0 hjl hJ
  unfold zJrn at *
  go_enter Tryz.func27, Tryz.ntmps27
  go_wp2_with (first
    | (go_at_call 21; (with_reducible refine (kj _).mono ?_); rintro e w1 ⟨rfl, rfl⟩)
    | (go_at_call 71; (with_reducible refine HR.out.mono ?_); rintro e w2 ⟨rfl, hD, hF⟩; have HD := Lib.hid hD; have HF := Lib.hid hF; have HB1 := Lib.hid (fr_blk hF (.inr rfl) HB.out); clear hD hF)
    | (go_at_call 72; (with_reducible refine (kr _).mono ?_); rintro e w3 ⟨hB, a, cap, rfl, hR, hRN⟩; have hb2 := blk_below HB1.out hB; have HB2 := Lib.hid hb2; have z0 := blk_cell hb2 0 rfl; have z1 := blk_cell hb2 1 rfl; have z2 := blk_cell hb2 2 rfl; have z3 := blk_cell hb2 3 rfl; have f0 := blk_frozen hb2 0; have f1 := blk_frozen hb2 1; have f2 := blk_frozen hb2 2; have f3 := blk_frozen hb2 3; have HBW := Lib.hid hB; have HRE := Lib.hid hR; have HRN := Lib.hid hRN; clear hB hb2 hR hRN))
  refine bodyPost_ret (results_pair rfl _ _ w.heap.size _ _ _ rfl (blk_set (blk_set (blk_set (blk_set HB2.out 0 _) 1 _) 2 _) 3 _) Tryz.underlying55 rfl (by kernel_rfl)) rfl ?_
  have hsz : w.heap.size < w2.heap.size := Nat.lt_of_lt_of_le (by simp) HF.out.size
  have hne : ∀ k, P k → k ≠ w.heap.size := fun k hk => Nat.ne_of_lt (HLT.out k hk)
  refine ⟨a, cap, fun k => w2.heap.size ≤ k ∧ k < w3.heap.size, rfl, ?_, ?_, ?_, ?_⟩
  · refine dk_less (dk_keep (dk_grab HD.out HBW.out) (.inl (.inr rfl)) HGN.out (fun k hk => put4_heap w3 w.heap.size _ _ _ _ hk) (put4_size w3 w.heap.size _ _ _ _)) (fun k hk => ?_) (fun k hk => .inl (HGP.out k hk))
    rcases hk with hk | hk
    · exact .inl (.inl hk)
    · exact .inr hk
  · refine put4_fr (((HF0.out.trans (HF.out.mono fun k hk => .inl hk)).trans (dk_fr (dk_less HD.out (fun k hk => .inl hk) HGP.out) HBW.out))) hne _ _ _ _
  · refine recs_heap HRE.out (Nat.le_of_eq (put4_size w3 w.heap.size _ _ _ _).symm) (fun g o e _ => put4_heap w3 w.heap.size _ _ _ _ ?_)
    have := HRN.out g o e
    omega
  · intro g o e
    refine ⟨?_, fun hg => ⟨HRN.out g o e, Nat.lt_of_lt_of_eq hg (put4_size w3 w.heap.size _ _ _ _)⟩⟩
    have := HRN.out g o e
    omega
end Go.Proofs.YthfebcfdhmihcaaGreatDoor
