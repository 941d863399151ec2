/-
  Layer 13, the document's Recover: a new list, the files behind a restoration; nothing that was there has turned. Condition: paths of at most 30000 bytes, files of at most 1048576.
  Layer 13: deletion: the step that deletes a path; settle: its steps, laid, and what it returns of their error. Condition: paths of at most 999000 bytes.
  Layer 13: settle: the journal is read and synced, the file restored, the journal removed. Condition: the disk is calm, the sizes fit.
  Layer 13: settle, as a whole: a file without a journal; one that is made what it was; one whose path is refused. Condition: the disk is calm, the sizes fit.
  Layer 13: settle, as a whole: a file without a journal; one that is made what it was; one whose path is refused. Condition: the disk is calm, the sizes fit.
  Layer 13: settle, where the path of a hot file is refused: it fails, and all files stay. Condition: the disk is calm, the sizes fit.
  Layer 13: a set of paths in memory (map[string]struct{}); has. Condition: at most 100000 members, paths of at most a million bytes.
  Layer 13: namedBy: the set of the super-journals that the journals of some files name. Condition: the disk is calm; at most 1000 files.
  Layer 13: journals: the files that have a journal, as a new slice; nothing that was there has turned. Condition: the disk is calm, at most 1000 files.
  Layer 11, the document's Apply (annexeref11): the same bytes ('apD' = 'apL'); it changes nothing that was there. Condition: numbers are ints, at most 4096 pages in the journal, strings of at most 2^40 bytes.
-/
import Derived.Maps.OwnSet
import Derived.Deep.AppendSrc
import Derived.Laws.AppendOwn
import Derived.Deep.Cut
import Derived.Test.YthfebcfdhmihcaaGreatDoorMh19
import Derived.Test.YthfebcfdhmihcaaGreatDoorMh16
namespace Go.Proofs.YthfebcfdhmihcaaGreatDoor
open Go.RowKit
variable {P : Nat → Prop} {ea : Addr} {b n m : Nat} {l : List F13} {Q : PQ} {w : World}

def delS (q : List UInt8) : ByteArray := ⟨#[100, 101, 108, 101, 116, 101, 32]⟩ ++ ba q
/-- The boxes of a deletion. -/
def DelB (rb g1 g2 : Nat) (q : List UInt8) (w : World) : Prop := w.cell? ⟨g1, 0, none⟩ = some (.pointer (some ⟨rb, 0, none⟩)) ∧ w.cell? ⟨g2, 0, none⟩ = some (.string (ba q)) ∧ g1 < w.heap.size ∧ g2 < w.heap.size
theorem delb_below {rb g1 g2 : Nat} {q : List UInt8} {w' : World} (h : DelB rb g1 g2 q w) (hb : Below w.heap.size w w') : DelB rb g1 g2 q w' :=
  ⟨by rw [World.cell?_of_block (a := ⟨g1, 0, none⟩) (hb.block g1 h.2.2.1)]; exact h.1, by rw [World.cell?_of_block (a := ⟨g2, 0, none⟩) (hb.block g2 h.2.2.2)]; exact h.2.1, Nat.lt_of_lt_of_le h.2.2.1 hb.size, Nat.lt_of_lt_of_le h.2.2.2 hb.size⟩
theorem delb_fr {rb g1 g2 : Nat} {q : List UInt8} {w' : World} (h : DelB rb g1 g2 q w) (hF : Fr P w w') (h1 : P g1) (h2 : P g2) : DelB rb g1 g2 q w' :=
  ⟨(hF.cell (a := ⟨g1, 0, none⟩) h1).trans h.1, (hF.cell (a := ⟨g2, 0, none⟩) h2).trans h.2.1, Nat.lt_of_lt_of_le h.2.2.1 hF.size, Nat.lt_of_lt_of_le h.2.2.2 hF.size⟩
set_option maxRecDepth 100000 in
theorem hdeletion_any (rb : Nat) (q : List UInt8) (hq : q.length ≤ 1000000) (w : World) :
    Calls Tryz.prog 91 #[.pointer (some ⟨rb, 0, none⟩), .string (ba q)] w fun e w' => e = .returned (.agg #[.string (delS q), .func (.func 125) #[] #[.pointer (some ⟨w.heap.size, 0, none⟩), .pointer (some ⟨w.heap.size + 1, 0, none⟩)]]) ∧ DelB rb w.heap.size (w.heap.size + 1) q w' ∧ Below w.heap.size w w' := by
  have hs := ba_size q
  have hE := Lib.hid (show (⟨#[100, 101, 108, 101, 116, 101, 32]⟩ : ByteArray) ++ ba q = delS q from rfl)
  have hcat : ¬ 9223372036854775807 < 7 + (ba q).size := by omega
  clear hs
  go_enter Tryz.func91, Tryz.ntmps91
  go_wp2
  have hb3 : Blk (((w.alloc (.cells #[.pointer (some ⟨rb, 0, none⟩)] 77)).alloc (.cells #[.string (ba q)] 9)).alloc (.cells #[.string ((⟨#[100, 101, 108, 101, 116, 101, 32]⟩ : ByteArray) ++ ba q), .func (.func 125) #[] #[.pointer (some ⟨w.heap.size, 0, none⟩), .pointer (some ⟨w.heap.size + 1, 0, none⟩)]] 83)) (w.heap.size + 1 + 1) 83 #[.string ((⟨#[100, 101, 108, 101, 116, 101, 32]⟩ : ByteArray) ++ ba q), .func (.func 125) #[] #[.pointer (some ⟨w.heap.size, 0, none⟩), .pointer (some ⟨w.heap.size + 1, 0, none⟩)]] := blk_at (by simp)
  refine bodyPost_ret (results_cell_row rfl _ _ (w.heap.size + 1 + 1) _ _ _ _ rfl hb3 Tryz.underlying83 rfl (by kernel_rfl)) rfl ?_
  refine ⟨rfl, ⟨?_, ?_, by simp; omega, by simp⟩, (((Below.refl _ w).alloc (Nat.le_refl _) _).alloc (by simp) _).alloc (by simp; omega) _⟩
  · exact cell_alloc (cell_alloc (by simp) _) _
  · exact cell_alloc (by rw [World.cell?_alloc_at _ _ _ _ (by simp)]; rfl) _

def nmS (q : List UInt8) (j : Nat) : ByteArray := match j with
  | 0 => ⟨#[114, 101, 97, 100, 32, 116, 104, 101, 32, 106, 111, 117, 114, 110, 97, 108]⟩
  | 1 => ⟨#[115, 121, 110, 99, 32, 116, 104, 101, 32, 106, 111, 117, 114, 110, 97, 108]⟩
  | 2 => ⟨#[114, 101, 115, 116, 111, 114, 101, 32, 116, 104, 101, 32, 102, 105, 108, 101]⟩
  | 3 => delS q
  | _ => ⟨#[115, 121, 110, 99, 32, 116, 104, 101, 32, 100, 105, 114, 101, 99, 116, 111, 114, 121]⟩
def kfS (j : Nat) : Nat := match j with
  | 0 => 88
  | 1 => 89
  | 2 => 90
  | 3 => 125
  | _ => 45
def raS (rb j : Nat) : Array Value := if j = 3 then #[] else #[.pointer (some ⟨rb, 0, none⟩)]
def caS (g1 g2 j : Nat) : Array Value := if j = 3 then #[.pointer (some ⟨g1, 0, none⟩), .pointer (some ⟨g2, 0, none⟩)] else #[]
theorem enters_S (j : Nat) : ∀ args v, (callFunc (kfS j) args).run Tryz.prog v = .ok (.enter (kfS j) args) v := by
  match j with
  | 0 => exact enters_of Tryz.func88 (by kernel_rfl) rfl
  | 1 => exact enters_of Tryz.func89 (by kernel_rfl) rfl
  | 2 => exact enters_of Tryz.func90 (by kernel_rfl) rfl
  | 3 => exact enters_of Tryz.func125 (by kernel_rfl) rfl
  | _ + 4 => exact enters_of Tryz.func45 (by kernel_rfl) rfl
def stS (rb g1 g2 : Nat) (q : List UInt8) : Array Value := #[.string (nmS q 0), .func (.func (kfS 0)) (raS rb 0) (caS g1 g2 0), .string (nmS q 1), .func (.func (kfS 1)) (raS rb 1) (caS g1 g2 1), .string (nmS q 2), .func (.func (kfS 2)) (raS rb 2) (caS g1 g2 2), .string (nmS q 3), .func (.func (kfS 3)) (raS rb 3) (caS g1 g2 3), .string (nmS q 4), .func (.func (kfS 4)) (raS rb 4) (caS g1 g2 4)]
theorem sts_cells {v : World} {sb rb g1 g2 : Nat} {q : List UInt8} (h : Blk v sb 83 (stS rb g1 g2 q)) : ∀ j, j < 5 → v.cell? ⟨sb, 0 + j * 2, none⟩ = some (.string (nmS q j)) ∧ v.cell? ⟨sb, 0 + j * 2 + 1, none⟩ = some (.func (.func (kfS j)) (raS rb j) (caS g1 g2 j)) := by
  intro j hj
  match j, hj with
  | 0, _ => exact ⟨blk_cell h 0 rfl, blk_cell h 1 rfl⟩
  | 1, _ => exact ⟨blk_cell h 2 rfl, blk_cell h 3 rfl⟩
  | 2, _ => exact ⟨blk_cell h 4 rfl, blk_cell h 5 rfl⟩
  | 3, _ => exact ⟨blk_cell h 6 rfl, blk_cell h 7 rfl⟩
  | 4, _ => exact ⟨blk_cell h 8 rfl, blk_cell h 9 rfl⟩

/-- What settle makes of the steps' error. -/
def setA (z : Bool) (x : Value) : Value := if z = true then .nilIface else x
set_option maxRecDepth 100000 in
set_option maxHeartbeats 2000000 in
/-- settle: whatever its steps leave (QQ), told by whether the error is errAbsent (z). -/
theorem settle_walk {rb : Nat} {p : List UInt8} {j0 j1 j2 j3 : Value} {hot cr z : Bool} {QQ : Value → World → Prop} (hr : Blk w rb 79 (rcC b p j0 j1 j2 j3 hot cr)) (hp : p.length ≤ 999000)
    (ho : ∀ w1 g1 g2, Below w.heap.size w w1 → w.heap.size ≤ g1 → w.heap.size ≤ g2 → DelB rb g1 g2 (p ++ jx) w1 → Calls Tryz.prog 44 #[.slice (some ⟨w1.heap.size, 0, none⟩) 5 5] (w1.alloc (.cells (stS rb g1 g2 (p ++ jx)) 83)) fun e w' => ∃ x, e = .returned x ∧ QQ x w')
    (hz : ∀ x W, QQ x W → W.cell? ⟨0, 0, none⟩ = some (.iface 283 (.pointer (some ea))) ∧ Calls Tryz.prog 28 #[x, .iface 283 (.pointer (some ea))] W fun e w' => e = .returned (.bool z) ∧ w' = W) :
    Calls Tryz.prog 46 #[.pointer (some ⟨rb, 0, none⟩)] w fun e w' => ∃ x, QQ x w' ∧ e = .returned (setA z x) := by
  have c1 := blk_cell hr 1 (v := .string (ba p)) rfl
  have hjl : (p ++ jx).length ≤ 1000000 := by rw [List.length_append]; have : jx.length = 2 := rfl; omega
  have kj := fun W => hjournal_any p (by omega) W
  have kd := fun W => hdeletion_any rb (p ++ jx) hjl W
  have HO := Lib.hid ho
  have HZ := Lib.hid hz
  clear hr hjl ho hz
  unfold stS nmS kfS raS caS at HO
  simp only [Nat.reduceEqDiff, reduceIte] at HO
  obtain ⟨q, hq⟩ : ∃ q, q = p ++ jx := ⟨_, rfl⟩
  rw [← hq] at kj kd HO
  clear hq
  cases z
  all_goals
    go_enter Tryz.func46, Tryz.ntmps46
    go_wp2_with (first
      | (go_at_call 21; (with_reducible refine (kj _).mono ?_); rintro e w1 ⟨rfl, rfl⟩)
      | (go_at_call 91; (with_reducible refine (kd _).mono ?_); rintro e w2 ⟨rfl, hDB, hB⟩; have HOO := Lib.hid (HO.out w2 _ _ hB (Nat.le_refl _) (Nat.le_succ _) hDB); clear hDB hB)
      | (go_at_call 44; (with_reducible refine HOO.out.mono ?_); rintro e w3 ⟨x, rfl, hQ⟩; have HQ := Lib.hid hQ; obtain ⟨hab, hIs⟩ := HZ.out _ _ hQ; have HIS := Lib.hid hIs; clear hQ hIs)
      | (go_at_call 28; (with_reducible refine HIS.out.mono ?_); rintro e w4 ⟨rfl, rfl⟩))
    go_ret
    exact ⟨_, HQ.out, rfl⟩
end Go.Proofs.YthfebcfdhmihcaaGreatDoor

namespace Go.Proofs.YthfebcfdhmihcaaGreatDoor
open Go.RowKit
variable {P : Nat → Prop} {ea : Addr} {b n m : Nat} {l : List F13} {Q : PQ} {w : World}

/-- The disk and the recovery, whatever lies in the recovery. -/
def RsE (P : Nat → Prop) (ea : Addr) (b n m rb : Nat) (l : List F13) (Q : PQ) (p : List UInt8) (w v : World) : Prop := ∃ j0 j1 j2 j3 hot cr, RsI P ea b n m rb l Q p j0 j1 j2 j3 hot cr w v
/-- The journal in the recovery, its records beside the disk. -/
def RdI (P : Nat → Prop) (ea : Addr) (b n m rb : Nat) (l : List F13) (p d : List UInt8) (w v : World) : Prop :=
  ∃ (a : Option Addr) (cap : Nat) (R : Nat → Prop), Dk (fun k => P k ∨ R k) ea b n m l QD v ∧ Fr (Bt P rb) w v ∧ Blk v rb 79 (rcC b p (.int .i64 (rdJ d).k) (.int .i64 (rdJ d).p) (.slice a (rdJ d).L.length cap) (.string (ba (rdJ d).s)) (hotF l d) false) ∧ Recs v a (rdJ d).L ∧ ((rdJ d).L ≠ [] → ∀ g o, a = some ⟨g, o, none⟩ → R g ∧ g ≠ rb)
theorem rse_up {rb n' m' : Nat} {Q' : PQ} {p : List UInt8} {v : World} (h : RsE P ea b n m rb l Q p w v) (hn : n ≤ n') (hn' : n' ≤ 100000) (hm : m ≤ m') (hQ : ∀ d q, Q d q → Q' d q) : RsE P ea b n' m' rb l Q' p w v := by
  obtain ⟨j0, j1, j2, j3, hot, cr, hI⟩ := h
  exact ⟨j0, j1, j2, j3, hot, cr, rs_up hI hn hn' hm hQ⟩

/-- The first step, at a journal that is there. -/
theorem ss_read {rb : Nat} {p d : List UInt8} {j0 j1 j2 j3 : Value} {hot : Bool} {v : World} {t0 : TypeId} {cs : Array Value} {F : Value → World → Prop} (hrb : P rb) (hg : 6 ≤ rb) (hI : RsI P ea b n m rb l QD p j0 j1 j2 j3 hot false w v) (hp : p.length ≤ 999000) (hx : lookF l (p ++ jx) = some d) (hd : d.length ≤ 1048576) (hn : n + 1 ≤ 100000) :
    Calls Tryz.prog 88 #[.pointer (some ⟨rb, 0, none⟩)] (v.alloc (.cells cs t0)) (StepQ (RdI P ea b (n + 1) m rb l p d w) F v.heap.size t0 cs) := by
  obtain ⟨hD, hB⟩ := rs_alloc (.cells cs t0) hI
  refine (readj_some hD (.inl hrb) hg hB hp hx hd hn).mono fun e w' hq => ?_
  obtain ⟨he, a, cap, R, h1, h2, h3, h4, h5⟩ := hq
  obtain ⟨f1, f2⟩ := sq_fr hI.2.1 hI.1.lt hrb h2
  refine ⟨f2, .inl ⟨he, a, cap, R, dk_less h1 (fun k hk => hk.elim (fun h => .inl (.inl h)) .inr) (fun k hk => .inl (hI.1.gn k hk)), f1, h3, h4, fun hne g o e => ⟨(h5 g o e).2 ?_, (h5 g o e).1⟩⟩⟩
  obtain ⟨g', o', e', hlt, -⟩ := h4 0 (List.length_pos_iff.2 hne)
  rw [e] at e'
  cases e'
  exact hlt
/-- The second step. -/
theorem ss_sync {rb : Nat} {p d : List UInt8} {v : World} {t0 : TypeId} {cs : Array Value} {F : Value → World → Prop} (hrb : P rb) (hgn : ∀ k, k < 6 → P k) (hI : RdI P ea b n m rb l p d w v) (hp : p.length ≤ 999000) (hx : lookF l (p ++ jx) = some d) (hn : n + 2 + m ≤ 100000) :
    Calls Tryz.prog 89 #[.pointer (some ⟨rb, 0, none⟩)] (v.alloc (.cells cs t0)) (StepQ (RdI P ea b (n + 1 + m) m rb l p d w) F v.heap.size t0 cs) := by
  obtain ⟨a, cap, R, h1, h2, h3, h4, h5⟩ := hI
  have hD := dk_add h1 (.cells cs t0)
  refine (syncjour_any hD (blk_alloc h3 _) hp hx hn).mono fun e w' hq => ?_
  obtain ⟨he, hD', hF'⟩ := hq
  have hrlt := h1.lt rb (.inl hrb)
  refine ⟨fr_blk hF' (.inr rfl) (blk_new v t0 cs), .inl ⟨he, a, cap, R, dk_less hD' (fun k hk => .inl hk) h1.gn, ?_, fr_blk hF' (.inl (.inl hrb)) (blk_alloc h3 _), ?_, h5⟩⟩
  · exact (h2.trans (fr_al fun k hk => h1.lt k (.inl hk.1))).trans (hF'.mono fun k hk => .inl (.inl hk.1))
  · exact recs_fr (recs_next h4 (blw1 v (.cells cs t0))) hF' (fun hne g o e => .inl (.inr (h5 hne g o e).1))
end Go.Proofs.YthfebcfdhmihcaaGreatDoor

namespace Go.Proofs.YthfebcfdhmihcaaGreatDoor
open Go.RowKit
variable {P : Nat → Prop} {ea : Addr} {b n m : Nat} {l : List F13} {Q : PQ} {w : World}

theorem look_ins_ne {p x q : List UInt8} (hq : q ≠ p) : ∀ l : List F13, lookF (insF (p, x) l) q = lookF l q
  | [] => by unfold insF lookF; simp [Ne.symm hq]
  | y :: r => by
    have ih := look_ins_ne (x := x) hq r
    unfold insF
    split
    · unfold lookF at ih ⊢
      by_cases e : y.1 = q
      · simp [e]
      · rw [List.find?_cons_of_neg (by simpa using e), List.find?_cons_of_neg (by simpa using e)]; exact ih
    · split
      · rename_i he
        unfold lookF
        rw [List.find?_cons_of_neg (by simpa using Ne.symm hq), List.find?_cons_of_neg (by rw [he]; simpa using Ne.symm hq)]
      · unfold lookF
        rw [List.find?_cons_of_neg (by simpa using Ne.symm hq)]
theorem jx_ne (p : List UInt8) : p ++ jx ≠ p := fun e => by
  have := congrArg List.length e
  rw [List.length_append] at this
  have hj : jx.length = 2 := rfl
  omega
theorem hotl_cold {l : List F13} {p d : List UInt8} (hx : lookF l (p ++ jx) = some d) (h : hotF l d = false) : hotL l p = l := by
  unfold hotL
  rw [sta_some hx, h]
  rfl
theorem hotl_hot {l : List F13} {p d : List UInt8} (hs : SrtF l) (hx : lookF l (p ++ jx) = some d) (h : hotF l d = true) : hotL l p = insF (p, apD (rdJ d).p (rdJ d).L ((lookF l p).getD [])) l := by
  unfold hotL
  rw [sta_some hx, h, if_pos rfl, if_pos rfl, hx, with_is hs]
  rfl
theorem hotl_none {l : List F13} {p : List UInt8} (hx : lookF l (p ++ jx) = none) : hotL l p = l := by
  unfold hotL
  rw [sta_none hx]
  rfl
theorem hotl_look {l : List F13} {p d : List UInt8} (hs : SrtF l) (hx : lookF l (p ++ jx) = some d) : lookF (hotL l p) (p ++ jx) = some d := by
  cases h : hotF l d with
  | false => rw [hotl_cold hx h]; exact hx
  | true => rw [hotl_hot hs hx h, look_ins_ne (jx_ne p)]; exact hx
theorem sq_back {rb n' m' : Nat} {l' : List F13} {Q' : PQ} {p : List UInt8} {P' : Nat → Prop} {v w' : World} {t0 : TypeId} {cs : Array Value} {F : Value → World → Prop} {e : Ending} (hF : Fr (Bt P rb) w v) (hlt : ∀ k, P k → k < v.heap.size) (hrb : P rb) (hgn : ∀ k, k < 6 → P k) (hPP : ∀ k, (P k ∨ k = v.heap.size) → P' k) (he : e = .returned .nilIface) (hI : RsE P' ea b n' m' rb l' Q' p (v.alloc (.cells cs t0)) w') :
    StepQ (RsE P ea b n' m' rb l' Q' p w) F v.heap.size t0 cs e w' := by
  obtain ⟨j0, j1, j2, j3, hot, cr, h1, h2, h3⟩ := hI
  obtain ⟨f1, f2⟩ := sq_fr hF hlt hrb (h2.mono fun k hk => ⟨hPP k hk.1, hk.2⟩)
  exact ⟨f2, .inl ⟨he, j0, j1, j2, j3, hot, cr, dk_less h1 (fun k hk => hPP k (.inl hk)) hgn, f1, h3⟩⟩
/-- The third step. -/
theorem ss_rest {rb : Nat} {p d : List UInt8} {v : World} {t0 : TypeId} {cs : Array Value} {F : Value → World → Prop} (hrb : P rb) (hgn : ∀ k, k < 6 → P k) (hlt : ∀ k, P k → k < v.heap.size) (hg : 6 ≤ rb) (hI : RdI P ea b n m rb l p d w v) (hp : p.length ≤ 999000) (hx : lookF l (p ++ jx) = some d) (hd : d.length ≤ 1048576) (hm : SmlF l) (hl : l.length < 60) (ht : totF l + 1025000 ≤ 4000000) (hok : hotF l d = true → (lookF l p).isSome = true ∨ pathB p = true) (hn : n + 12000 + 3 * m ≤ 100000) :
    Calls Tryz.prog 90 #[.pointer (some ⟨rb, 0, none⟩)] (v.alloc (.cells cs t0)) (StepQ (RsE P ea b (n + 10037 + 2 * m) (m + 2011) rb (hotL l p) QD p w) F v.heap.size t0 cs) := by
  obtain ⟨a, cap, R, h1, h2, h3, h4, h5⟩ := hI
  have hD := dk_add h1 (.cells cs t0)
  have hB := blk_alloc h3 (.cells cs t0)
  cases hh : hotF l d with
  | false =>
    rw [hh] at hB
    rw [hotl_cold hx hh]
    refine (restore_cold hB).mono fun e w' hq => ?_
    obtain ⟨he, rfl⟩ := hq
    exact sq_back h2 hlt hrb hgn (fun k hk => hk.elim (fun h => .inl (.inl h)) .inr) he ⟨_, _, _, _, _, _, dk_mono hD (by omega) (by omega) (by omega) fun _ _ h => h, Fr.refl _ _, hB⟩
  | true =>
    rw [hh] at hB
    rw [hotl_hot (dk_srt h1) hx hh]
    refine (restore_ok hD (.inl (.inl hrb)) hg hB hd (recs_next h4 (blw1 v _)) (fun hne g o e => ⟨.inl (.inr (h5 hne g o e).1), (h5 hne g o e).2⟩) hp hm hl ht (hok hh) hn).mono fun e w' hq => ?_
    obtain ⟨he, cr, hI⟩ := hq
    exact sq_back h2 hlt hrb hgn (fun k hk => hk.elim (fun h => .inl (.inl h)) .inr) he ⟨_, _, _, _, _, _, hI⟩
/-- A deletion. -/
theorem ss_del {rb g1 g2 : Nat} {p q x : List UInt8} {v : World} {t0 : TypeId} {cs : Array Value} {F : Value → World → Prop} (hrb : P rb) (h1 : P g1) (h2 : P g2) (hne1 : g1 ≠ rb) (hne2 : g2 ≠ rb) (hdb : DelB rb g1 g2 q w) (hI : RsE P ea b n m rb l QD p w v) (hq : q.length ≤ 1000000) (hx : lookF l q = some x) (hn : n + 3 ≤ 100000) :
    Calls Tryz.prog 125 #[.pointer (some ⟨g1, 0, none⟩), .pointer (some ⟨g2, 0, none⟩)] (v.alloc (.cells cs t0)) (StepQ (RsE P ea b (n + 3) (m + 1) rb (wtoF l q) QD p w) F v.heap.size t0 cs) := by
  obtain ⟨j0, j1, j2, j3, hot, cr, hI⟩ := hI
  obtain ⟨hD, hB⟩ := rs_alloc (.cells cs t0) hI
  have hdb2 := delb_below (delb_fr hdb hI.2.1 ⟨h1, hne1⟩ ⟨h2, hne2⟩) (blw1 v (.cells cs t0))
  refine (del1_any hD hB hdb2.1 hdb2.2.1 hq hx hn).mono fun e w' hq => ?_
  exact sq_back hI.2.1 hI.1.lt hrb hI.1.gn (fun k hk => hk) hq.1 ⟨_, _, _, _, _, _, hq.2.1, bt_mono hq.2.2, fr_blk hq.2.2 (.inl hrb) hB⟩
/-- The directory is synced. -/
theorem ss_dir {rb : Nat} {p : List UInt8} {v : World} {t0 : TypeId} {cs : Array Value} {F : Value → World → Prop} (hrb : P rb) (hI : RsE P ea b n m rb l QD p w v) (hn : n + 2 + m ≤ 100000) :
    Calls Tryz.prog 45 #[.pointer (some ⟨rb, 0, none⟩)] (v.alloc (.cells cs t0)) (StepQ (RsE P ea b (n + 1 + m) 0 rb l QN p w) F v.heap.size t0 cs) := by
  obtain ⟨j0, j1, j2, j3, hot, cr, hI⟩ := hI
  obtain ⟨hD, hB⟩ := rs_alloc (.cells cs t0) hI
  refine (syncdir_any hD hB hn).mono fun e w' hq => ?_
  exact sq_back hI.2.1 hI.1.lt hrb hI.1.gn (fun k hk => hk) hq.1 ⟨_, _, _, _, _, _, hq.2.1, bt_mono hq.2.2, fr_blk hq.2.2 (.inl hrb) hB⟩
end Go.Proofs.YthfebcfdhmihcaaGreatDoor

namespace Go.Proofs.YthfebcfdhmihcaaGreatDoor
open Go.RowKit
variable {P : Nat → Prop} {ea : Addr} {b n m : Nat} {l : List F13} {Q : PQ} {w : World}

theorem wto_none {l : List F13} {q : List UInt8} (h : lookF l q = none) : wtoF l q = l := by
  unfold wtoF
  rw [List.filter_eq_self]
  intro f hf
  simpa using look_none h f hf
theorem rse_base {P2 : Nat → Prop} {rb : Nat} {p : List UInt8} {W0 v : World} (h : RsE P2 ea b n m rb l Q p W0 v) (hPP : ∀ k, P k → P2 k) (hgn : ∀ k, k < 6 → P k) (hF : Fr (Bt P rb) w W0) : RsE P ea b n m rb l Q p w v := by
  obtain ⟨j0, j1, j2, j3, hot, cr, h1, h2, h3⟩ := h
  exact ⟨j0, j1, j2, j3, hot, cr, dk_less h1 hPP hgn, hF.trans (h2.mono fun k hk => ⟨hPP k hk.1, hk.2⟩), h3⟩
/-- The invariant of settle's steps. -/
def SeJ (P : Nat → Prop) (ea : Addr) (b n rb : Nat) (l : List F13) (p d : List UInt8) (j0 j1 j2 j3 : Value) (hot : Bool) (w : World) (j : Nat) : World → Prop := match j with
  | 0 => RsI P ea b n 0 rb l QD p j0 j1 j2 j3 hot false w
  | 1 => RdI P ea b (n + 1) 0 rb l p d w
  | 2 => RdI P ea b (n + 2) 0 rb l p d w
  | 3 => RsE P ea b (n + 10039) 2011 rb (hotL l p) QD p w
  | 4 => RsE P ea b (n + 10042) 2012 rb (wtoF (hotL l p) (p ++ jx)) QD p w
  | _ => RsE P ea b (n + 12055) 0 rb (wtoF (hotL l p) (p ++ jx)) QN p w
theorem rse_fr {rb : Nat} {p : List UInt8} {v : World} (h : RsE P ea b n m rb l Q p w v) : Fr (Bt P rb) w v := by
  obtain ⟨j0, j1, j2, j3, hot, cr, -, h2, -⟩ := h; exact h2
theorem rdi_fr {rb : Nat} {p d : List UInt8} {v : World} (h : RdI P ea b n m rb l p d w v) : Fr (Bt P rb) w v := by
  obtain ⟨a, cap, R, -, h2, -⟩ := h; exact h2
theorem rdi_lt {rb : Nat} {p d : List UInt8} {v : World} (h : RdI P ea b n m rb l p d w v) : ∀ k, P k → k < v.heap.size := by
  obtain ⟨a, cap, R, h1, -⟩ := h
  exact fun k hk => h1.lt k (.inl hk)
theorem sej_fr {rb : Nat} {p d : List UInt8} {j0 j1 j2 j3 : Value} {hot : Bool} {v : World} : ∀ j, SeJ P ea b n rb l p d j0 j1 j2 j3 hot w j v → Fr (Bt P rb) w v
  | 0, h => h.2.1
  | 1, h => rdi_fr h
  | 2, h => rdi_fr h
  | 3, h => rse_fr h
  | 4, h => rse_fr h
  | _ + 5, h => rse_fr h
theorem rse_gl {rb : Nat} {p : List UInt8} {v : World} (h : RsE P ea b n m rb l Q p w v) : Gl ea v := by
  obtain ⟨j0, j1, j2, j3, hot, cr, h1, -⟩ := h; exact h1.gl

set_option maxRecDepth 100000 in
theorem settle_ok {rb : Nat} {p d : List UInt8} {j0 j1 j2 j3 : Value} {hot : Bool} (h : Dk P ea b n 0 l QN w) (hP : P rb) (hg : 6 ≤ rb) (hr : Blk w rb 79 (rcC b p j0 j1 j2 j3 hot false))
    (hp : p.length ≤ 999000) (hx : lookF l (p ++ jx) = some d) (hm : SmlF l) (hl : l.length < 60) (ht : totF l + 1025000 ≤ 4000000) (hok : hotF l d = true → (lookF l p).isSome = true ∨ pathB p = true) (hn : n + 13000 ≤ 100000) :
    Calls Tryz.prog 46 #[.pointer (some ⟨rb, 0, none⟩)] w fun e w' => e = .returned .nilIface ∧ RsE P ea b (n + 12055) 0 rb (wtoF (hotL l p) (p ++ jx)) QN p w w' := by
  obtain ⟨f0, hf0, -, hfd⟩ := look_mem hx
  have hd : d.length ≤ 1048576 := by rw [← hfd]; exact hm f0 hf0
  have hjl : (p ++ jx).length ≤ 1000000 := by rw [List.length_append]; have : jx.length = 2 := rfl; omega
  have hrlt := h.lt rb hP
  refine (settle_walk (ea := ea) (z := false) (QQ := fun x v => x = .nilIface ∧ RsE P ea b (n + 12055) 0 rb (wtoF (hotL l p) (p ++ jx)) QN p w v) hr hp ?_ ?_).mono ?_
  · intro w1 g1 g2 hB hg1 hg2 hDB
    have hB2 : Below w.heap.size w (w1.alloc (.cells (stS rb g1 g2 (p ++ jx)) 83)) := hB.alloc hB.size _
    have hA := dk_grab (dk_nd h) hB2
    have hbs : Blk (w1.alloc (.cells (stS rb g1 g2 (p ++ jx)) 83)) w1.heap.size 83 (stS rb g1 g2 (p ++ jx)) := blk_new _ _ _
    have hDB2 := delb_below hDB (blw1 w1 (.cells (stS rb g1 g2 (p ++ jx)) 83))
    have hw1 := hB.size
    obtain ⟨W0, hW0⟩ : ∃ W0, W0 = w1.alloc (.cells (stS rb g1 g2 (p ++ jx)) 83) := ⟨_, rfl⟩
    have hs0 : W0.heap.size = w1.heap.size + 1 := by rw [hW0]; simp
    rw [← hW0] at hB2 hA hbs hDB2 ⊢
    obtain ⟨P2, hP2⟩ : ∃ P2 : Nat → Prop, P2 = fun k => P k ∨ (w.heap.size ≤ k ∧ k < W0.heap.size) := ⟨_, rfl⟩
    rw [← hP2] at hA
    have hPP : ∀ k, P k → P2 k := fun k hk => by rw [hP2]; exact .inl hk
    have hPn : ∀ k, w.heap.size ≤ k → k < W0.heap.size → P2 k := fun k h1 h2 => by rw [hP2]; exact .inr ⟨h1, h2⟩
    have hrb2 := hPP rb hP
    have hF0 : Fr (Bt P rb) w W0 := fr_below hB2 fun k hk => h.lt k hk.1
    have h0 : SeJ P2 ea b n rb l p d j0 j1 j2 j3 hot W0 0 W0 := ⟨hA, Fr.refl _ _, blk_below hr hB2⟩
    refine (inorder_any w1.heap.size 0 5 5 (by decide) (nmS (p ++ jx)) kfS (raS rb) (caS g1 g2) (SeJ P2 ea b n rb l p d j0 j1 j2 j3 hot W0) (fun _ _ _ => False) ?_ (fun j _ => enters_S j) ?_ _ h0).mono ?_
    · intro j v hj hI
      exact sts_cells (fr_blk (sej_fr j hI) ⟨hPn _ hw1 (by omega), by omega⟩ hbs) j hj
    · intro j v t0 cs hj hI
      have hgn2 := hA.gn
      match j, hj, hI with
      | 0, _, hI => exact ss_read hrb2 hg hI hp hx hd (by omega)
      | 1, _, hI => exact ss_sync hrb2 hgn2 hI hp hx (by omega)
      | 2, _, hI => exact ss_rest hrb2 hgn2 (rdi_lt hI) hg hI hp hx hd hm hl ht hok (by omega)
      | 3, _, hI => exact ss_del hrb2 (hPn g1 hg1 hDB2.2.2.1) (hPn g2 hg2 hDB2.2.2.2) (by omega) (by omega) hDB2 hI hjl (hotl_look (dk_srt h) hx) (by omega)
      | 4, _, hI => exact ss_dir hrb2 hI (by omega)
    · intro e w' hq
      rcases hq with ⟨he, hI⟩ | ⟨j, x, v, -, hF, -⟩
      · exact ⟨_, he, rfl, rse_base hI hPP h.gn hF0⟩
      · exact hF.elim
  · rintro x W ⟨rfl, hE⟩
    exact ⟨(rse_gl hE).ab, is_nil ea W⟩
  · rintro e w' ⟨x, ⟨rfl, hE⟩, he⟩
    exact ⟨he, hE⟩
set_option maxRecDepth 100000 in
theorem settle_none {rb : Nat} {p : List UInt8} {j0 j1 j2 j3 : Value} {hot : Bool} (h : Dk P ea b n 0 l QN w) (hP : P rb) (hr : Blk w rb 79 (rcC b p j0 j1 j2 j3 hot false)) (hp : p.length ≤ 999000) (hx : lookF l (p ++ jx) = none) :
    Calls Tryz.prog 46 #[.pointer (some ⟨rb, 0, none⟩)] w fun e w' => e = .returned .nilIface ∧ RsE P ea b n 0 rb (wtoF (hotL l p) (p ++ jx)) QN p w w' := by
  have hrlt := h.lt rb hP
  rw [hotl_none hx, wto_none hx]
  refine (settle_walk (ea := ea) (z := true) (QQ := fun x v => ∃ g s, x = .iface 145 (.pointer (some ⟨g, 0, none⟩)) ∧ Blk v g 147 #[.string s, .iface 283 (.pointer (some ea))] ∧ RsE P ea b n 0 rb l QN p w v) hr hp ?_ ?_).mono ?_
  · intro w1 g1 g2 hB hg1 hg2 hDB
    have hB2 : Below w.heap.size w (w1.alloc (.cells (stS rb g1 g2 (p ++ jx)) 83)) := hB.alloc hB.size _
    have hA := dk_grab h hB2
    have hbs : Blk (w1.alloc (.cells (stS rb g1 g2 (p ++ jx)) 83)) w1.heap.size 83 (stS rb g1 g2 (p ++ jx)) := blk_new _ _ _
    have hw1 := hB.size
    obtain ⟨W0, hW0⟩ : ∃ W0, W0 = w1.alloc (.cells (stS rb g1 g2 (p ++ jx)) 83) := ⟨_, rfl⟩
    have hs0 : W0.heap.size = w1.heap.size + 1 := by rw [hW0]; simp
    rw [← hW0] at hB2 hA hbs ⊢
    obtain ⟨P2, hP2⟩ : ∃ P2 : Nat → Prop, P2 = fun k => P k ∨ (w.heap.size ≤ k ∧ k < W0.heap.size) := ⟨_, rfl⟩
    rw [← hP2] at hA
    have hPP : ∀ k, P k → P2 k := fun k hk => by rw [hP2]; exact .inl hk
    have hPn : ∀ k, w.heap.size ≤ k → k < W0.heap.size → P2 k := fun k h1 h2 => by rw [hP2]; exact .inr ⟨h1, h2⟩
    have hrb2 := hPP rb hP
    have hF0 : Fr (Bt P rb) w W0 := fr_below hB2 fun k hk => h.lt k hk.1
    have h0 : RsI P2 ea b n 0 rb l QN p j0 j1 j2 j3 hot false W0 W0 := ⟨hA, Fr.refl _ _, blk_below hr hB2⟩
    refine (inorder_any w1.heap.size 0 5 5 (by decide) (nmS (p ++ jx)) kfS (raS rb) (caS g1 g2) (fun j v => j = 0 ∧ RsI P2 ea b n 0 rb l QN p j0 j1 j2 j3 hot false W0 v) (fun _ x v => x = .iface 283 (.pointer (some ea)) ∧ RsI P2 ea b n 0 rb l QN p j0 j1 j2 j3 hot false W0 v) ?_ (fun j _ => enters_S j) ?_ _ ⟨rfl, h0⟩).mono ?_
    · intro j v hj hI
      exact sts_cells (fr_blk hI.2.2.1 ⟨hPn _ hw1 (by omega), by omega⟩ hbs) j hj
    · intro j v t0 cs hj hI
      obtain ⟨rfl, hI⟩ := hI
      obtain ⟨hD, hBk⟩ := rs_alloc (.cells cs t0) hI
      refine (readj_none hD hBk hp hx).mono fun e w' hq => ?_
      obtain ⟨f1, f2⟩ := sq_fr hI.2.1 hI.1.lt hrb2 (bt_mono (dk_fr hD hq.2))
      exact ⟨f2, .inr ⟨_, _, hq.1, rfl, dk_less (dk_below hD hq.2) (fun k hk => .inl hk) hA.gn, f1, blk_below hBk hq.2⟩⟩
    · intro e w' hq
      rcases hq with ⟨-, hI⟩ | ⟨j, x, v, -, ⟨rfl, hI⟩, rfl, he⟩
      · exact absurd hI.1 (by decide)
      · refine ⟨_, he, v.heap.size, nmS (p ++ jx) j, rfl, blk_new _ _ _, rse_base (P2 := P2) (W0 := W0) ⟨j0, j1, j2, j3, hot, false, dk_alloc hI.1 _, hI.2.1.trans (fr_al fun k hk => hI.1.lt k hk.1), blk_alloc hI.2.2 _⟩ hPP h.gn hF0⟩
  · rintro x W ⟨g, s, rfl, hb, hE⟩
    exact ⟨(rse_gl hE).ab, is_wrap hb⟩
  · rintro e w' ⟨x, ⟨g, s, rfl, hb, hE⟩, he⟩
    exact ⟨he, hE⟩
end Go.Proofs.YthfebcfdhmihcaaGreatDoor

namespace Go.Proofs.YthfebcfdhmihcaaGreatDoor
open Go.RowKit
variable {P : Nat → Prop} {ea : Addr} {b n m : Nat} {l : List F13} {Q : PQ} {w : World}

/-- A failure that wraps a failure that wraps an error of the api. -/
def NoE (x : Value) (v : World) : Prop := ∃ (g2 g : Nat) (s2 s : ByteArray), x = .iface 145 (.pointer (some ⟨g2, 0, none⟩)) ∧ Blk v g2 147 #[.string s2, .iface 145 (.pointer (some ⟨g, 0, none⟩))] ∧ Blk v g 147 #[.string s, .iface 29 (.int .i64 13)]
def SnJ (P : Nat → Prop) (ea : Addr) (b n rb : Nat) (l : List F13) (p d : List UInt8) (j0 j1 j2 j3 : Value) (hot : Bool) (w : World) (j : Nat) (v : World) : Prop := match j with
  | 0 => RsI P ea b n 0 rb l QD p j0 j1 j2 j3 hot false w v
  | 1 => RdI P ea b (n + 1) 0 rb l p d w v
  | 2 => RdI P ea b (n + 2) 0 rb l p d w v
  | _ => False
theorem snj_fr {rb : Nat} {p d : List UInt8} {j0 j1 j2 j3 : Value} {hot : Bool} {v : World} : ∀ j, SnJ P ea b n rb l p d j0 j1 j2 j3 hot w j v → Fr (Bt P rb) w v
  | 0, h => h.2.1
  | 1, h => rdi_fr h
  | 2, h => rdi_fr h
  | _ + 3, h => False.elim h
def SnF (P : Nat → Prop) (ea : Addr) (b n rb : Nat) (l : List F13) (p : List UInt8) (w : World) (x : Value) (v : World) : Prop := ∃ (g : Nat) (s : ByteArray), x = .iface 145 (.pointer (some ⟨g, 0, none⟩)) ∧ Blk v g 147 #[.string s, .iface 29 (.int .i64 13)] ∧ RsE P ea b (n + 5) 0 rb l QD p w v
set_option maxRecDepth 100000 in
theorem settle_no {rb : Nat} {p d : List UInt8} {j0 j1 j2 j3 : Value} {hot : Bool} (h : Dk P ea b n 0 l QN w) (hP : P rb) (hg : 6 ≤ rb) (hr : Blk w rb 79 (rcC b p j0 j1 j2 j3 hot false))
    (hp : p.length ≤ 999000) (hx : lookF l (p ++ jx) = some d) (hm : SmlF l) (hh : hotF l d = true) (hno : lookF l p = none) (hb : pathB p = false) (hn : n + 13000 ≤ 100000) :
    Calls Tryz.prog 46 #[.pointer (some ⟨rb, 0, none⟩)] w fun e w' => ∃ x, e = .returned x ∧ NoE x w' ∧ RsE P ea b (n + 5) 0 rb l QD p w w' := by
  obtain ⟨f0, hf0, -, hfd⟩ := look_mem hx
  have hd : d.length ≤ 1048576 := by rw [← hfd]; exact hm f0 hf0
  have hrlt := h.lt rb hP
  refine (settle_walk (ea := ea) (z := false) (QQ := fun x v => NoE x v ∧ RsE P ea b (n + 5) 0 rb l QD p w v) hr hp ?_ ?_).mono ?_
  · intro w1 g1 g2 hB hg1 hg2 hDB
    have hB2 : Below w.heap.size w (w1.alloc (.cells (stS rb g1 g2 (p ++ jx)) 83)) := hB.alloc hB.size _
    have hA := dk_grab (dk_nd h) hB2
    have hbs : Blk (w1.alloc (.cells (stS rb g1 g2 (p ++ jx)) 83)) w1.heap.size 83 (stS rb g1 g2 (p ++ jx)) := blk_new _ _ _
    have hw1 := hB.size
    obtain ⟨W0, hW0⟩ : ∃ W0, W0 = w1.alloc (.cells (stS rb g1 g2 (p ++ jx)) 83) := ⟨_, rfl⟩
    have hs0 : W0.heap.size = w1.heap.size + 1 := by rw [hW0]; simp
    rw [← hW0] at hB2 hA hbs ⊢
    obtain ⟨P2, hP2⟩ : ∃ P2 : Nat → Prop, P2 = fun k => P k ∨ (w.heap.size ≤ k ∧ k < W0.heap.size) := ⟨_, rfl⟩
    rw [← hP2] at hA
    have hPP : ∀ k, P k → P2 k := fun k hk => by rw [hP2]; exact .inl hk
    have hPn : ∀ k, w.heap.size ≤ k → k < W0.heap.size → P2 k := fun k h1 h2 => by rw [hP2]; exact .inr ⟨h1, h2⟩
    have hrb2 := hPP rb hP
    have hF0 : Fr (Bt P rb) w W0 := fr_below hB2 fun k hk => h.lt k hk.1
    have h0 : SnJ P2 ea b n rb l p d j0 j1 j2 j3 hot W0 0 W0 := ⟨hA, Fr.refl _ _, blk_below hr hB2⟩
    refine (inorder_any w1.heap.size 0 5 5 (by decide) (nmS (p ++ jx)) kfS (raS rb) (caS g1 g2) (SnJ P2 ea b n rb l p d j0 j1 j2 j3 hot W0) (fun _ x v => SnF P2 ea b n rb l p W0 x v) ?_ (fun j _ => enters_S j) ?_ _ h0).mono ?_
    · intro j v hj hI
      exact sts_cells (fr_blk (snj_fr j hI) ⟨hPn _ hw1 (by omega), by omega⟩ hbs) j hj
    · intro j v t0 cs hj hI
      have hgn2 := hA.gn
      match j, hj, hI with
      | 0, _, hI => exact ss_read hrb2 hg hI hp hx hd (by omega)
      | 1, _, hI => exact ss_sync hrb2 hgn2 hI hp hx (by omega)
      | 2, _, hI =>
        obtain ⟨a, cap, R, h1, h2, h3, h4, h5⟩ := hI
        have hD := dk_add h1 (.cells cs t0)
        rw [hh] at h3
        refine (restore_no hD (.inl (.inl hrb2)) hg (blk_alloc h3 (.cells cs t0)) hp hno hb (by omega)).mono fun e w' hq => ?_
        obtain ⟨g, s, he, hbk, -, cr, hI'⟩ := hq
        obtain ⟨f1, f2⟩ := sq_fr h2 (fun k hk => h1.lt k (.inl hk)) hrb2 (hI'.2.1.mono fun k hk => ⟨hk.1.elim (fun h => .inl (.inl h)) .inr, hk.2⟩)
        exact ⟨f2, .inr ⟨_, _, he, g, s, rfl, hbk, _, _, _, _, _, _, dk_less hI'.1 (fun k hk => .inl (.inl hk)) hgn2, f1, hI'.2.2⟩⟩
      | 3, _, hI => exact False.elim hI
      | 4, _, hI => exact False.elim hI
    · intro e w' hq
      rcases hq with ⟨-, hI⟩ | ⟨j, x, v, -, ⟨g, s, rfl, hbk, hE⟩, rfl, he⟩
      · exact False.elim hI
      · refine ⟨_, he, ⟨v.heap.size, g, nmS (p ++ jx) j, s, rfl, blk_new _ _ _, blk_alloc hbk _⟩, rse_base (P2 := P2) (W0 := W0) ?_ hPP h.gn hF0⟩
        obtain ⟨k0, k1, k2, k3, hot', cr, e1, e2, e3⟩ := hE
        exact ⟨k0, k1, k2, k3, hot', cr, dk_alloc e1 _, e2.trans (fr_al fun k hk => e1.lt k hk.1), blk_alloc e3 _⟩
  · rintro x W ⟨⟨g2, g, s2, s, rfl, hb2, hb1⟩, hE⟩
    exact ⟨(rse_gl hE).ab, is_wrap2 hb2 hb1⟩
  · rintro e w' ⟨x, ⟨hN, hE⟩, he⟩
    exact ⟨x, he, hN, hE⟩
end Go.Proofs.YthfebcfdhmihcaaGreatDoor

namespace Go.Proofs.YthfebcfdhmihcaaGreatDoor
open Go.RowKit Go.Maps
variable {w : World}

theorem underSt : Tryz.prog.underlying 64 = some (.map 9 126) := by kernel_rfl
theorem zeroSt (w : World) : (zeroValue 126).run Tryz.prog w = .ok (.agg #[]) w := by kernel_rfl
/-- A set of our own in block g. -/
def PSet (w : World) (g q : Nat) (f : List UInt8 → Bool) : Prop := ∃ D, w.ownsMap (H := Unit) Tryz.prog 9 unitElem g q D ∧ ∀ k, has D (.string k) = f k
theorem pset_lt {g q : Nat} {f : List UInt8 → Bool} (h : PSet w g q f) : g < w.heap.size := by
  obtain ⟨D, ⟨es, clock, hb, -⟩, -⟩ := h
  exact (Array.getElem?_eq_some_iff.1 hb).1
theorem pset_keep {w' : World} {g q : Nat} {f : List UInt8 → Bool} (h : PSet w g q f) (hk : w'.heap[g]? = w.heap[g]?) : PSet w' g q f := by
  obtain ⟨D, ⟨es, clock, hb, rest⟩, hf⟩ := h
  exact ⟨D, ⟨es, clock, hk.trans hb, rest⟩, hf⟩
theorem pset_new {g : Nat} (h : w.heap[g]? = some (.map #[] 0)) : PSet w g 0 (fun _ => false) :=
  ⟨.map [], ⟨#[], 0, h, ⟨by simp, MapKept.stamped_empty 0, by simp⟩, Nat.le_refl _, rfl⟩, fun _ => rfl⟩
theorem pset_look {g q : Nat} {f : List UInt8 → Bool} (h : PSet w g q f) (k : List UInt8) (hk : k.length ≤ 1000000) :
    (Instr.lookup 64 (.map (some g)) (.string (ba k)) true).run Tryz.prog w = .ok (.tuple #[.agg #[], .bool (f k)]) w := by
  obtain ⟨D, hown, hf⟩ := h
  have hkey : keyOf Tryz.prog 9 (.string (ba k)) = some (.string k) := by
    have := keyStr (p := ba k) (by rw [ba_size]; exact hk)
    rw [ba_list] at this
    exact this
  obtain ⟨v, ps, hrun, hR⟩ := hown.look_ok lawStr underSt (zeroSt w) unitElem_mk hkey
  obtain ⟨rfl, -⟩ := unitElem_inv hR
  rw [hrun, hf k]
theorem pset_store {g q : Nat} {f : List UInt8 → Bool} (h : PSet w g q f) (hq : q ≤ 100000) (k : List UInt8) (hk : k.length ≤ 1000000) :
    ∃ w', (Instr.mapUpdate 64 (.map (some g)) (.string (ba k)) (.agg #[])).run Tryz.prog w = .ok () w' ∧ PSet w' g (q + 1) (fun j => j == k || f j) ∧ w'.heap.size = w.heap.size ∧ w'.os = w.os ∧ w'.tape = w.tape ∧ w'.output = w.output ∧ ∀ j, j ≠ g → w'.heap[j]? = w.heap[j]? := by
  obtain ⟨D, hown, hf⟩ := h
  have hD := hown.isMap
  have hkey : keyOf Tryz.prog 9 (.string (ba k)) = some (.string k) := by
    have := keyStr (p := ba k) (by rw [ba_size]; exact hk)
    rw [ba_list] at this
    exact this
  obtain ⟨w', hrun, hown', hturn⟩ := hown.store lawStr underSt (by unfold maxLen; omega) hkey (val := .agg #[]) unitElem_mk
  have hgr := hturn.grown
  have hzz : w'.heap.size = w.heap.size := by obtain ⟨es, clock, es', clock', _, rfl⟩ := hturn; exact Array.size_setIfInBounds
  refine ⟨w', hrun, ⟨_, hown', fun j => ?_⟩, hzz, hgr.os, hgr.tape, hgr.output, fun j hr => ?_⟩
  · by_cases e : j = k
    · subst e
      have hkl : WideAt.IsKeyLit (Lit.string j) := trivial
      rw [has_put_same hD hkl]; simp
    · have hne : (Lit.string j) ≠ Lit.string k := fun h => e (Lit.string.inj h)
      rw [has_put_other hne, hf j]
      simp [e]
  · rcases Nat.lt_or_ge j w.heap.size with hk | hk
    · exact hgr.block j hk (fun e => hr (Option.some.inj e))
    · rw [Array.getElem?_eq_none hk, Array.getElem?_eq_none (by rw [hzz]; exact hk)]

theorem hhas_any {g q : Nat} {f : List UInt8 → Bool} (h : PSet w g q f) (k : List UInt8) (hk : k.length ≤ 1000000) :
    Calls Tryz.prog 35 #[.map (some g), .string (ba k)] w fun e w' => e = .returned (.bool (f k)) ∧ Below w.heap.size w w' := by
  have hl := pset_look h k hk
  clear h
  generalize f k = z at *
  go_enter Tryz.func35, Tryz.ntmps35
  go_wp2
  go_ret
  exact ⟨rfl, (Below.refl _ _).alloc (Nat.le_refl _) _⟩
end Go.Proofs.YthfebcfdhmihcaaGreatDoor

namespace Go.Proofs.YthfebcfdhmihcaaGreatDoor
open Go.RowKit
variable {P : Nat → Prop} {ea : Addr} {b n m : Nat} {l : List F13} {Q : PQ} {w : World}

theorem pset_mono {g q q' : Nat} {f : List UInt8 → Bool} (h : PSet w g q f) (hq : q ≤ q') : PSet w g q' f := by
  obtain ⟨D, ⟨es, clock, hb, hF, hs, hD⟩, hf⟩ := h
  exact ⟨D, ⟨es, clock, hb, hF, Nat.le_trans hs hq, hD⟩, hf⟩
theorem strs_fr {w' : World} {a : Option Addr} {L : List (List UInt8)} (h : Strs w a L) (hF : Fr P w w') (hP : ∀ g o, a = some ⟨g, o, none⟩ → g < w.heap.size → P g) : Strs w' a L := by
  intro j hj
  obtain ⟨g, o, ha, hlt, hc⟩ := h j hj
  exact ⟨g, o, ha, Nat.lt_of_lt_of_le hlt hF.size, by rw [hF.cell (a := ⟨g, o + j, none⟩) (hP g o ha hlt)]; exact hc⟩
/-- Does the journal of one of these files name k? -/
def nam1 (l : List F13) (k c : List UInt8) : Bool := match lookF l (c ++ jx) with
  | none => false
  | some d => (rdJ d).s == k
def namB (l : List F13) (FL : List (List UInt8)) (k : List UInt8) : Bool := FL.any (nam1 l k)
theorem namB_none {l : List F13} {FL : List (List UInt8)} {j : Nat} (hj : j < FL.length) (hx : lookF l (FL[j] ++ jx) = none) : namB l (FL.take (j + 1)) = namB l (FL.take j) := by
  funext k
  unfold namB
  rw [take_snoc FL j hj, List.any_append]
  simp [nam1, hx]
theorem namB_some {l : List F13} {FL : List (List UInt8)} {j : Nat} (hj : j < FL.length) {d : List UInt8} (hx : lookF l (FL[j] ++ jx) = some d) : namB l (FL.take (j + 1)) = fun k => k == (rdJ d).s || namB l (FL.take j) k := by
  funext k
  unfold namB
  rw [take_snoc FL j hj, List.any_append]
  simp only [List.any_cons, List.any_nil, Bool.or_false]
  rw [Bool.or_comm]
  congr 1
  unfold nam1
  rw [hx]
  simp only
  rw [Bool.eq_iff_iff, beq_iff_eq, beq_iff_eq]
  exact eq_comm

set_option maxRecDepth 100000 in
set_option maxHeartbeats 1000000 in
theorem hnamed_any (a : Option Addr) (cap : Nat) (FL : List (List UInt8)) (h : Dk P ea b n m l Q w) (hS : Strs w a FL) (hP : ∀ g o, a = some ⟨g, o, none⟩ → g < w.heap.size → P g) (hl : FL.length ≤ 1000) (hz : ∀ c, c ∈ FL → c.length ≤ 900000) (hm : SmlF l) (hn : n + FL.length ≤ 100000) :
    Calls Tryz.prog 31 #[.pointer (some ⟨b, 0, none⟩), .slice a FL.length cap] w fun e w' => ∃ g, e = .returned (.tuple #[.map (some g), .nilIface]) ∧ Dk (fun k => P k ∨ k = g) ea b (n + FL.length) m l Q w' ∧ Fr P w w' ∧ ∃ q, PSet w' g q (namB l FL) := by
  obtain ⟨g, hg⟩ : ∃ g, g = w.heap.size := ⟨_, rfl⟩
  have hmm := @run_makeMap Tryz.prog
  have hA := dk_add h (.map #[] 0)
  rw [← hg] at hA
  have HD0 := Lib.hid hA
  have HF0 := Lib.hid (fr_below (P := P) (blw1 w (.map #[] 0)) h.lt)
  have HLT := Lib.hid h.lt
  have HPG := Lib.hid hP
  have HS0 := Lib.hid hS
  have HS1 := Lib.hid (show PSet (w.alloc (.map #[] 0)) g 0 (namB l (FL.take 0)) by
    have := pset_new (w := w.alloc (.map #[] 0)) (g := w.heap.size) (heap_alloc_new _ _)
    rw [hg]
    exact this)
  have HM := Lib.hid hm; have HZ := Lib.hid hz
  obtain ⟨len, hlen⟩ : ∃ len, len = FL.length := ⟨_, rfl⟩
  rw [← hlen] at hl hn ⊢
  have HL := Lib.hid hlen
  have HN := Lib.hid hn
  have HGW := Lib.hid hg
  have HGE := Lib.hid (show 6 ≤ g by have := h.lt (6 - 1) (h.gn _ (by decide)); omega)
  clear h hS hP hA hm hz hlen hn hg
  obtain ⟨W0, hW0⟩ : ∃ W0, W0 = w.alloc (.map #[] 0) := ⟨_, rfl⟩
  have HW0 := Lib.hid hW0
  rw [← hW0] at HD0 HF0 HS1
  clear hW0
  go_enter Tryz.func31, Tryz.ntmps31
  go_wp2
  rw [← HW0.out, ← HGW.out]
  clear HW0
  go_loopw [14] (fun i wr => ∃ j : Nat, j ≤ len ∧ i = .int .i64 j ∧ Hid (Dk (fun k => P k ∨ k = g) ea b (n + j) m l Q wr) ∧ Hid (Fr P w wr) ∧ Hid (PSet wr g j (namB l (FL.take j)))) (fun i _ => len - (intOf i).toNat)
  case atStart => exact ⟨0, by omega, rfl, HD0, HF0, HS1⟩
  case round =>
    obtain ⟨j, hj, rfl, hD, hF, hSe⟩ := hrel
    clear HD0 HF0 HS1
    by_cases hlt : j < len
    · have hjl : j < FL.length := by have := HL.out; omega
      have t1 : (j : Int) < len := by omega
      obtain ⟨bg, off, rfl, hbw, c0⟩ := strs_fr HS0.out hF.out HPG.out j hjl
      have hcl := HZ.out _ (List.getElem_mem hjl)
      have hnj := HN.out
      cases hx : lookF l (FL[j] ++ jx) with
      | none =>
        have HJ := Lib.hid (journalOf_none hD.out FL[j] (by omega) hx)
        have kab := fun W (hb : Below wr.heap.size wr W) => (dk_below hD.out hb).gl.ab
        have ki := fun W => is_same ea W
        have HNB := Lib.hid (namB_none hjl hx)
        obtain ⟨c, hc⟩ : ∃ c, c = FL[j] := ⟨_, rfl⟩
        rw [← hc] at c0 HJ
        unfold zJrn at HJ
        clear hx hc hcl
        go_wp2_with (first
          | (go_at_call 27; (with_reducible refine HJ.out.mono ?_); rintro e w1 ⟨rfl, hB⟩; have HB := Lib.hid hB; have hab := cell_alloc (kab w1 hB) (.cells #[.int .i64 0, .int .i64 0, .slice none 0 0, .string ⟨#[]⟩] 55); clear hB)
          | (go_at_call 28; (with_reducible refine (ki _).mono ?_); rintro e w2 ⟨rfl, rfl⟩))
        go_roundw
        case rel =>
          have hB2 := HB.out.alloc HB.out.size (.cells #[.int .i64 0, .int .i64 0, .slice none 0 0, .string ⟨#[]⟩] 55)
          refine ⟨j + 1, by omega, by go_num, Lib.hid (dk_up (dk_below hD.out hB2) (by omega) (by omega)), Lib.hid (hF.out.trans (fr_below hB2 (fun k hk => hD.out.lt k (.inl hk)))), Lib.hid ?_⟩
          rw [HNB.out]
          exact pset_mono (pset_keep hSe.out (hB2.block g (pset_lt hSe.out))) (Nat.le_succ j)
        case measure => simp [intOf]; omega
      | some d =>
        obtain ⟨f, hf, -, hfd⟩ := look_mem hx
        have hdl : d.length ≤ 1048576 := by rw [← hfd]; exact HM.out f hf
        have HJ := Lib.hid (journalOf_some hD.out FL[j] d (by omega) hx hdl (by omega))
        have ki := fun W => is_nil ea W
        have HNB := Lib.hid (namB_some hjl hx)
        have hsl := rdJ_s d
        obtain ⟨c, hc⟩ : ∃ c, c = FL[j] := ⟨_, rfl⟩
        rw [← hc] at c0 HJ
        unfold JofQ jrnV at HJ
        generalize rdJ d = J at HJ HNB hsl
        obtain ⟨K, pg, R0, s⟩ := J
        simp only at HJ HNB hsl
        clear hx hc hcl hf hfd hdl
        go_wp2_with (first
          | (go_at_call 27; (with_reducible refine HJ.out.mono ?_); rintro e w1 ⟨a1, cap1, R1, rfl, hD1, hF1, -, -⟩; have HD1 := Lib.hid hD1; have HF1 := Lib.hid hF1; have hab := cell_alloc hD1.gl.ab (.cells #[.int .i64 (K : Int), .int .i64 pg, .slice a1 R0.length cap1, .string (ba s)] 55); obtain ⟨W4, hst, hS4, hz4, ho4, ht4, hu4, hk4⟩ := pset_store (pset_keep (pset_keep hSe.out (hF1.blk g (.inr rfl))) (heap_alloc_old w1 (.cells #[.int .i64 (K : Int), .int .i64 pg, .slice a1 R0.length cap1, .string (ba s)] 55) (Nat.lt_of_lt_of_le (pset_lt hSe.out) hF1.size))) (by omega) s (by omega); have HS4 := Lib.hid hS4; have HZ4 := Lib.hid hz4; have HK4 := Lib.hid hk4; have HO4 := Lib.hid (And.intro ho4 (And.intro ht4 hu4)); clear hD1 hF1 hS4 hz4 ho4 ht4 hu4 hk4)
          | (go_at_call 28; (with_reducible refine (ki _).mono ?_); rintro e w2 ⟨rfl, rfl⟩))
        go_roundw
        case rel =>
          have hge := HGE.out
          have hBa := blw1 w1 (.cells #[.int .i64 (K : Int), .int .i64 pg, .slice a1 R0.length cap1, .string (ba s)] 55)
          have hDa := dk_below HD1.out hBa
          have hne : ∀ k, P k → k ≠ g := fun k hk e => by have := HLT.out k hk; have := HGW.out; omega
          refine ⟨j + 1, by omega, by go_num, Lib.hid ?_, Lib.hid ?_, Lib.hid ?_⟩
          · exact dk_less (dk_keep hDa (.inl (.inr rfl)) hge HK4.out HZ4.out) (fun k hk => .inl hk) (fun k hk => hD.out.gn k hk)
          · have hFa : Fr P w (w1.alloc (.cells #[.int .i64 (K : Int), .int .i64 pg, .slice a1 R0.length cap1, .string (ba s)] 55)) := (hF.out.trans (HF1.out.mono fun k hk => .inl hk)).trans (fr_below hBa fun k hk => HD1.out.lt k (.inl (.inl hk)))
            exact ⟨HO4.out.1.trans hFa.os, HO4.out.2.1.trans hFa.tape, HO4.out.2.2.trans hFa.output, by rw [HZ4.out]; exact hFa.size, fun k hk => (HK4.out k (hne k hk)).trans (hFa.blk k hk)⟩
          · rw [HNB.out]; exact HS4.out
        case measure => simp [intOf]; omega
    · obtain rfl : j = len := by omega
      have t1 : ¬ (j : Int) < j := by omega
      have HE := Lib.hid (show FL.take j = FL by rw [HL.out]; exact List.take_length)
      go_wp2
      go_ret2
      refine ⟨g, rfl, hD.out, hF.out, j, ?_⟩
      have := hSe.out
      rw [HE.out] at this
      exact this
end Go.Proofs.YthfebcfdhmihcaaGreatDoor

namespace Go.Proofs.YthfebcfdhmihcaaGreatDoor
open Go.RowKit
variable {P : Nat → Prop} {ea : Addr} {b n m : Nat} {l : List F13} {Q : PQ} {w : World}

def strC13 (p : List UInt8) : Value := .string (ba p)
theorem news_s (W : World) (p : List UInt8) : ∀ j u, [strC13 p][j]? = some u → (W.alloc (.cells #[.string (ba p)] 9)).cell? ((⟨W.heap.size, 0, none⟩ : Addr).add j) = some u := by
  intro j u hj
  match j, hj with
  | 0, hj => simp at hj; subst hj; simp [Addr.add, strC13]
theorem one_s (p : List UInt8) : ∀ u ∈ [strC13 p], u.oneCell' = true := by intro u hu; simp at hu; subst hu; rfl
/-- An own row of strings. -/
def SRow (w : World) (N : Nat) (v : Value) (L : List (List UInt8)) : Prop := w.ownsRow N 9 1 v L.length (L.map strC13)
theorem srow_nil (w : World) (N : Nat) : SRow w N (.slice none 0 0) [] := World.ownsRow_nil _ _ _ _
theorem srow_app {w : World} {N : Nat} {v : Value} {L : List (List UInt8)} {p : List UInt8} (h : w.ownsRow N 9 1 v (L.length + 1) (L.map strC13 ++ [strC13 p])) : SRow w N v (L ++ [p]) := by
  unfold SRow
  rw [List.map_append, List.length_append]
  exact h
theorem srow_strs {w : World} {N : Nat} {v : Value} {L : List (List UInt8)} (h : SRow w N v L) : ∃ a cap, v = .slice a L.length cap ∧ Strs w a L ∧ ∀ g o, a = some ⟨g, o, none⟩ → N ≤ g ∧ v.ownBlock = some g := by
  rcases h.2 with ⟨rfl, h0⟩ | ⟨g, cap, cur, rfl, hb, hg, -⟩
  · refine ⟨none, 0, by rw [h0], fun j hj => ?_, fun g o e => by cases e⟩
    omega
  · refine ⟨some ⟨g, 0, none⟩, cap, rfl, fun j hj => ⟨g, 0, rfl, (Array.getElem?_eq_some_iff.1 hg).1, ?_⟩, fun g o e => by cases e; exact ⟨hb, rfl⟩⟩
    have := h.cells (g := g) rfl j (strC13 L[j]) (by rw [List.getElem?_map, List.getElem?_eq_getElem hj]; rfl)
    rw [Addr.add_lit, Nat.zero_add] at this
    rw [Nat.zero_add]
    exact this
theorem srow_below {w w' : World} {N : Nat} {v : Value} {L : List (List UInt8)} (h : SRow w N v L) (hb : Below w.heap.size w w') : SRow w' N v L :=
  World.ownsRow.kept (row := none) h ⟨hb.os, hb.tape, hb.output, hb.size, fun k hk _ => hb.block k hk⟩ (Classical.em _)
theorem name_strs {w : World} {v : Value} {L : List (List UInt8)} (h : NameRow w v L) : ∃ a cap, v = .slice a L.length cap ∧ Strs w a L := by
  obtain ⟨a, cap, rfl, hc⟩ := h
  refine ⟨a, cap, rfl, fun j hj => ?_⟩
  obtain ⟨g, ha, hlt, h1⟩ := hc j hj
  exact ⟨g, 0, ha, hlt, by rw [Nat.zero_add]; exact h1⟩
theorem srow_mono {w : World} {N N' : Nat} {v : Value} {L : List (List UInt8)} (h : SRow w N v L) (hN : N' ≤ N) : SRow w N' v L := by
  refine ⟨h.1, ?_⟩
  rcases h.2 with h | ⟨g, cap, cur, h1, h2, h3⟩
  · exact .inl h
  · exact .inr ⟨g, cap, cur, h1, Nat.le_trans hN h2, h3⟩
theorem below_srow {w W W' : World} {v : Value} {L : List (List UInt8)} (h : Below w.heap.size w W) (ho : SRow W w.heap.size v L) (hg : W.grownBy W' v.ownBlock) : Below w.heap.size w W' :=
  h.grown hg h.size (fun k e => (World.ownsRow.lt ho k e).1)
theorem trim_len (c p : List UInt8) : (Lib.trimSuffix c p).length ≤ c.length := by
  unfold Lib.trimSuffix
  split
  · rw [List.length_take]; omega
  · exact Nat.le_refl _
def jn1 (p : List UInt8) : Option (List UInt8) := if Lib.hasSuffix p jx = true ∧ Lib.trimSuffix p jx ≠ [] then some (Lib.trimSuffix p jx) else none
def jnL (L : List (List UInt8)) : List (List UInt8) := L.filterMap jn1
theorem jn_none {L : List (List UInt8)} {j : Nat} (hj : j < L.length) (h : jn1 L[j] = none) : jnL (L.take (j + 1)) = jnL (L.take j) := by
  unfold jnL
  rw [take_snoc L j hj, List.filterMap_append]
  simp [h]
theorem jn_some {L : List (List UInt8)} {j : Nat} (hj : j < L.length) {x : List UInt8} (h : jn1 L[j] = some x) : jnL (L.take (j + 1)) = jnL (L.take j) ++ [x] := by
  unfold jnL
  rw [take_snoc L j hj, List.filterMap_append]
  simp [h]
theorem jn_len (L : List (List UInt8)) : (jnL L).length ≤ L.length := List.length_filterMap_le _ _

set_option maxRecDepth 100000 in
set_option maxHeartbeats 1000000 in
theorem hjournals_any (h : Dk P ea b n m l Q w) (hl : l.length ≤ 1000) (hz : ∀ f, f ∈ l → f.1.length ≤ 900000) :
    Calls Tryz.prog 32 #[.pointer (some ⟨b, 0, none⟩)] w fun e w' => ∃ v, e = .returned v ∧ SRow w' w.heap.size v (jnL (l.map (·.1))) ∧ Below w.heap.size w w' := by
  have HN := Lib.hid (dk_names h)
  have hz2 : ∀ c, c ∈ l.map (·.1) → c.length ≤ 900000 := fun c hc => by
    obtain ⟨f, hf, rfl⟩ := List.mem_map.1 hc
    exact hz f hf
  have hl2 : (l.map (·.1)).length ≤ 1000 := by rw [List.length_map]; exact hl
  generalize l.map (·.1) = L at *
  have HZ := Lib.hid hz2
  obtain ⟨len, hlen⟩ : ∃ len, len = L.length := ⟨_, rfl⟩
  rw [← hlen] at hl2
  have HL := Lib.hid hlen
  obtain ⟨i1, hi1, hz1, hs1, hb1⟩ := infoS
  have kc := fun (p : List UInt8) (hp : p.length ≤ 900000) W => Tryz.strings_CutSuffix (ba p) ⟨#[45, 106]⟩ W (by rw [ba_size]; omega)
  clear h hz hz2 hl hlen
  go_enter Tryz.func32, Tryz.ntmps32
  go_wp2_with (go_at_call 20; (with_reducible refine HN.out.mono ?_); rintro e w1 ⟨x, rfl, hNR, hB, hNV⟩; obtain ⟨a, cap, hxe, hST⟩ := name_strs hNR; rw [← HL.out] at hxe; subst hxe; have HB := Lib.hid hB; have HST := Lib.hid hST; have HNA := Lib.hid (fun g o (e : a = some ⟨g, o, none⟩) (hg : g < w1.heap.size) => hg); clear hNR hB hST hNV)
  go_loopw [3, 11] (fun v i wr => ∃ j : Nat, j ≤ len ∧ i = .int .i64 j ∧ Hid (SRow wr w1.heap.size v (jnL (L.take j))) ∧ Hid (Below w1.heap.size w1 wr)) (fun _ i _ => len - (intOf i).toNat)
  case atStart => exact ⟨0, by omega, rfl, Lib.hid (srow_nil _ _), Lib.hid (Below.refl _ _)⟩
  case round =>
    obtain ⟨j, hj, rfl, hR, hB2⟩ := hrel
    by_cases hlt : j < len
    · have hjl : j < L.length := by have := HL.out; omega
      have t1 : (j : Int) < len := by omega
      have hst2 := strs_below HST.out hB2.out
      obtain ⟨bg, off, rfl, hbw, c0⟩ := hst2 j hjl
      have hcl := HZ.out _ (List.getElem_mem hjl)
      have HJ1 := Lib.hid (fun h => jn_none (L := L) hjl h)
      have HJ2 := Lib.hid (fun x h => jn_some (L := L) hjl (x := x) h)
      obtain ⟨c, hc⟩ : ∃ c, c = L[j] := ⟨_, rfl⟩
      rw [← hc] at c0 hcl HJ1 HJ2
      have kcc := fun W => kc c hcl W
      rw [ba_list, show ([45, 106] : List UInt8) = jx from rfl] at kcc
      clear kc hc
      have hj1 : jn1 c = if Lib.hasSuffix c jx = true ∧ Lib.trimSuffix c jx ≠ [] then some (Lib.trimSuffix c jx) else none := rfl
      obtain ⟨z, hz⟩ : ∃ z, z = Lib.hasSuffix c jx := ⟨_, rfl⟩
      obtain ⟨T, hT⟩ : ∃ T, T = Lib.trimSuffix c jx := ⟨_, rfl⟩
      rw [← hz, ← hT] at kcc hj1
      have hTl : T.length ≤ 1000000 := by rw [hT]; exact Nat.le_trans (trim_len c jx) (by omega)
      clear hz hT
      have kcd : ∀ W : World, Calls Tryz.prog 76 #[.string (ba c), .string ⟨#[45, 106]⟩] W fun e w' => e = .returned (.tuple #[.string (ba T), .bool z]) ∧ w' = W := kcc
      clear kcc
      cases z with
      | false =>
        have HJ3 := Lib.hid (HJ1.out (by rw [hj1, if_neg (by simp)]))
        clear hj1 HJ1 HJ2
        go_wp2_with (go_at_call 76; (with_reducible refine (kcd _).mono ?_); rintro e w2 ⟨rfl, rfl⟩)
        go_roundw
        case rel => exact ⟨j + 1, by omega, by go_num, Lib.hid (by rw [HJ3.out]; exact hR.out), hB2⟩
        case measure => simp [intOf]; omega
      | true =>
        by_cases hTe : T = []
        · have HJ3 := Lib.hid (HJ1.out (by rw [hj1, if_neg (by simp [hTe])]))
          have te' : (ba T).toList = [] := by rw [ByteArray.toList_eq, ba_list, hTe]
          have te : (ba T).toList.isEmpty = true := by rw [te']; rfl
          clear hj1 HJ1 HJ2 hTe
          generalize ba T = X at *
          go_wp2_with (go_at_call 76; (with_reducible refine (kcd _).mono ?_); rintro e w2 ⟨rfl, rfl⟩)
          go_roundw
          case rel => exact ⟨j + 1, by omega, by go_num, Lib.hid (by rw [HJ3.out]; exact hR.out), hB2⟩
          case measure => simp [intOf]; omega
        · have HJ3 := Lib.hid (HJ2.out T (by rw [hj1, if_pos ⟨rfl, hTe⟩]))
          have te' : (ba T).toList ≠ [] := by rw [ByteArray.toList_eq, ba_list]; exact hTe
          have te : (ba T).toList.isEmpty = false := by
            cases e : (ba T).toList with
            | nil => exact absurd e te'
            | cons _ _ => rfl
          have hcnt : (jnL (L.take j)).length ≤ 1000 := by
            have := jn_len (L.take j)
            rw [List.length_take] at this
            omega
          clear hj1 HJ1 HJ2 hTe
          generalize jnL (L.take j) = M at *
          go_wp2_with (first
            | (go_at_call 76; (with_reducible refine (kcd _).mono ?_); rintro e w2 ⟨rfl, rfl⟩)
            | (at_builtin; refine wpList_append_own _ rfl _ _ 43 rfl w1.heap.size 9 i1 _ 1 16 Tryz.underlying43 hi1 hz1 hs1 hb1 rfl (by decide) _ _ _ rfl (srow_below hR.out (blw1 _ _)) _ 1 1 [strC13 T] rfl rfl (news_s _ T) (one_s T) (by unfold maxLen; omega) (by omega) (Nat.le_trans hB2.out.size (by simp)) ?_; intro v3 w3 hown3 hgrow3 hnil3))
          go_roundw
          case rel => exact ⟨j + 1, by omega, by go_num, Lib.hid (by rw [HJ3.out]; exact srow_app hown3), Lib.hid (below_srow (hB2.out.alloc hB2.out.size _) (srow_below hR.out (blw1 _ _)) hgrow3)⟩
          case measure => simp [intOf]; omega
    · obtain rfl : j = len := by omega
      have t1 : ¬ (j : Int) < j := by omega
      have HE := Lib.hid (show L.take j = L by rw [HL.out]; exact List.take_length)
      go_wp2
      go_ret
      have hr := srow_mono hR.out HB.out.size
      rw [HE.out] at hr
      exact ⟨_, rfl, hr, HB.out.trans (hB2.out.mono HB.out.size)⟩
end Go.Proofs.YthfebcfdhmihcaaGreatDoor

namespace Go.Proofs.YthfebcfdhmihcaaGreatDoor
open Go.RowKit

theorem stD_len (s : List UInt8) (r : R11) : (stD s r).length ≤ max s.length 1024000 := by
  unfold stD
  split
  · rename_i h
    have h1 := atA_le h
    have h2 := (okA_iff.1 h).2.2
    rw [putD_len (by rw [List.length_append, List.length_replicate]; omega), List.length_append, List.length_replicate]
    omega
  · omega
theorem foldD_len (L : List R11) : ∀ s : List UInt8, (L.foldl stD s).length ≤ max s.length 1024000 := by
  induction L with
  | nil => intro s; show s.length ≤ _; omega
  | cons r t ih =>
    intro s
    have h1 := ih (stD s r)
    have h2 := stD_len s r
    rw [List.foldl_cons]; omega

set_option maxRecDepth 100000 in
theorem noughts_any (n : Int) (h1 : -9223372036854775808 ≤ n) (h2 : n ≤ 281474976710656) (w : World) :
    Calls Tryz.prog 93 #[.int .i64 n] w fun e w' => e = .returned (.string (ba (List.replicate n.toNat 0))) ∧ Below w.heap.size w w' := by
  obtain ⟨m, hm⟩ : ∃ m : Nat, m = n.toNat := ⟨_, rfl⟩
  rw [← hm]
  have hmm : max n 0 = (m : Int) := by omega
  have hmk := fun W => run_make_row' (P := Tryz.prog) 100 5 (.int .u8 0) 1 Tryz.underlying100 infoU8 rfl .i64 .i64 m (by omega) (by omega) W
  have hcv := conv_bytes (made_bytes w m) (n := m) (List.length_replicate ..)
  have HB := Lib.hid (blw1 w (.cells (madeCells #[.int .u8 0] m) 5))
  clear hm
  go_enter Tryz.func93, Tryz.ntmps93
  go_wp2
  go_ret
  exact ⟨rfl, HB.out⟩
theorem sext_take' (l : List UInt8) (k : Nat) : (ba l).extract 0 k = ba (l.take k) := by
  apply ByteArray.ext
  simp [ba, ByteArray.data_extract]
theorem sext_drop' (l : List UInt8) (k : Nat) : (ba l).extract k (ba l).size = ba (l.drop k) := by
  apply ByteArray.ext
  simp [ba, ByteArray.data_extract, ByteArray.size]
  exact List.take_of_length_le (by simp)
theorem ext_put (T : List UInt8) (o : Nat) (d : ByteArray) (hd : d.data.toList.length = 512) (ho : o + 512 ≤ T.length) : (ba T).extract 0 o ++ d ++ (ba T).extract (o + 512) (ba T).size = ba (putD T o d.data.toList) := by
  rw [sext_take', sext_drop']
  conv => lhs; rw [← ba_back d]
  rw [ba_app, ba_app, putD, hd, List.append_assoc]

set_option maxRecDepth 100000 in
set_option maxHeartbeats 4000000 in
theorem qapply_any (k p : Int) (a : Option Addr) (cap : Nat) (l : List R11) (sp : ByteArray) (s : List UInt8) (p1 : -9223372036854775808 ≤ p) (p2 : p ≤ 9223372036854775807) (w : World) (hs : s.length ≤ 1099511627776) (hl : l.length ≤ 4096) (ha : Recs w a l) :
    Calls Tryz.prog 49 #[.agg #[.int .i64 k, .int .i64 p, .slice a l.length cap, .string sp], .string (ba s)] w fun e w' => e = .returned (.string (ba (apD p l s))) ∧ Below w.heap.size w w' := by
  obtain ⟨N, hN⟩ : ∃ N, N = clN p := ⟨_, rfl⟩
  have hN2 : N ≤ 2000 := by rw [hN]; exact clN_le p
  have hmm : max 0 (min p 2000) = (N : Int) := by rw [hN]; unfold clN; omega
  obtain ⟨M, hM⟩ : ∃ M, M = N * 512 := ⟨_, rfl⟩
  have hwM : IntKind.i64.wrap ((N : Int) * 512) = (M : Int) := by rw [aw64 (by omega) (by omega)]; omega
  have hM2 : M ≤ 1024000 := by omega
  have HRES := Lib.hid (show apD p l s = fitL M (l.foldl stD s) by rw [hM, hN]; rfl)
  obtain ⟨R, hR⟩ : ∃ R, R = apD p l s := ⟨_, rfl⟩
  rw [← hR] at HRES ⊢
  have HK := Lib.hid (blk_new w 75 #[.int .i64 k, .int .i64 p, .slice a l.length cap, .string sp])
  have HB0 := Lib.hid (blw1 w (.cells #[.int .i64 k, .int .i64 p, .slice a l.length cap, .string sp] 75))
  obtain ⟨len, hlen⟩ : ∃ len, len = l.length := ⟨_, rfl⟩
  have HL := Lib.hid hlen
  have HA := Lib.hid ha
  rw [← hlen] at hl HK HB0 ⊢
  have HS0 := Lib.hid (show ba s = ba ((l.take 0).foldl stD s) from rfl)
  clear hR hN hM hlen ha
  go_enter Tryz.func49, Tryz.ntmps49
  go_wp2
  revert HK HB0
  generalize w.alloc (.cells #[.int .i64 k, .int .i64 p, .slice a len cap, .string sp] 75) = W0
  intro HB0 HK
  go_loopw [1, 5] (fun t i wr => ∃ (q : Nat) (S : ByteArray), q ≤ len ∧ i = .int .i64 q ∧ t = .string S ∧ Hid (S = ba ((l.take q).foldl stD s)) ∧ Hid (Blk wr w.heap.size 75 #[.int .i64 k, .int .i64 p, .slice a len cap, .string sp]) ∧ Hid (Below w.heap.size w wr)) (fun _ i _ => len - (intOf i).toNat)
  case atStart => exact ⟨0, _, by omega, rfl, rfl, HS0, HK, HB0⟩
  case round =>
    clear HS0 HK HB0
    obtain ⟨q, S, hq, rfl, rfl, hS, hK, hB⟩ := hrel
    have j1 := blk_cell hK.out 1 rfl
    have j2 := blk_cell hK.out 2 rfl
    have hSz : S.size ≤ 1099512651776 := by
      have := foldD_len (l.take q) s
      rw [hS.out, ba_size]; omega
    by_cases hlt : q < len
    case neg =>
      have hql : l.take q = l := List.take_of_length_le (by have := HL.out; omega)
      rw [hql] at hS
      have kn := fun w => noughts_any ((M : Int) - S.size) (by omega) (by omega) w
      obtain ⟨Z, hZ⟩ : ∃ Z : ByteArray, Z = ba (List.replicate ((M : Int) - S.size).toNat 0) := ⟨_, rfl⟩
      rw [← hZ] at kn
      have hZz : Z.size = M - S.size := by rw [hZ, ba_size, List.length_replicate]; omega
      have hZb : Z.size ≤ 1024000 := by omega
      have e1 := app_size S Z
      have hTz : M ≤ S.size + Z.size := by omega
      have hTi : (M : Int) ≤ (S.size : Int) + Z.size := by omega
      have HFIN := Lib.hid (show (S ++ Z).extract 0 M = ba R by
        have hsl : S.size = (l.foldl stD s).length := by rw [hS.out, ba_size]
        have hz : ((M : Int) - S.size).toNat = M - (l.foldl stD s).length := by omega
        rw [HRES.out, hZ, hz, hS.out, ba_app, sext_take', fitL])
      have hwm : IntKind.i64.wrap ((M : Int) - S.size) = (M : Int) - S.size := IntWalk.i64_in _ ⟨by omega, by omega⟩
      clear hZ hql e1 hZz
      go_wp2_with (go_at_call 93; (refine (kn _).mono ?_); rintro e w2 ⟨rfl, b2⟩)
      go_ret
      rw [HFIN.out]
      exact ⟨rfl, hB.out.trans (b2.mono hB.out.size)⟩
    have hlt' : q < l.length := by have := HL.out; omega
    obtain ⟨b, off, rfl, hbw, c0, c1⟩ := recs_next HA.out hB.out q hlt'
    have HS := Lib.hid (apD_snoc (s := s) hlt')
    obtain ⟨x, hx⟩ : ∃ x, x = l[q] := ⟨_, rfl⟩
    rw [← hx] at c0 c1 HS
    obtain ⟨n, hn⟩ : ∃ n, n = x.n := ⟨_, rfl⟩
    obtain ⟨d, hd⟩ : ∃ d, d = ba x.d := ⟨_, rfl⟩
    have hdz : d.size = x.d.length := by rw [hd, ba_size]
    rw [← hn] at c0
    rw [← hd] at c1
    have hok := okA_iff (N := 2000) (r := x)
    rw [← hn, ← hdz] at hok
    have HN := Lib.hid hn; have HD := Lib.hid hd
    obtain ⟨Q, hQ⟩ : ∃ Q, Q = (l.take q).foldl stD s := ⟨_, rfl⟩
    rw [← hQ] at hS HS
    have HBN := Lib.hid (fun (o : Obj) => hB.out.alloc hB.out.size o)
    have HKN := Lib.hid (fun (o : Obj) => blk_alloc hK.out o)
    clear hx hn hd hlt' hQ hdz
    by_cases hc : okA 2000 x = true
    case neg =>
      have HS1 := Lib.hid (show S = ba ((l.take (q + 1)).foldl stD s) by rw [HS.out, stD, if_neg hc]; exact hS.out)
      have hcs : decide (n < 1) = true ∨ (decide (n < 1) = false ∧ decide (2000 < n) = true) ∨ (decide (n < 1) = false ∧ decide (2000 < n) = false ∧ ((d.size : Int) != 512) = true) := by
        by_cases h1 : 1 ≤ n
        · by_cases h2 : n ≤ 2000
          · refine .inr (.inr ⟨decide_eq_false (by omega), decide_eq_false (by omega), ?_⟩)
            simp only [bne_iff_ne, ne_eq]
            exact fun h3 => hc (hok.2 ⟨h1, h2, by omega⟩)
          · exact .inr (.inl ⟨decide_eq_false (by omega), decide_eq_true (by omega)⟩)
        · exact .inl (decide_eq_true (by omega))
      clear hok hc
      rcases hcs with h1 | ⟨h1, h2⟩ | ⟨h1, h2, h3⟩
      all_goals (
        go_wp2
        go_roundw
        case rel => exact ⟨q + 1, S, by omega, by go_num, rfl, HS1, Lib.hid (HKN.out _), Lib.hid (HBN.out _)⟩
        case measure => simp [intOf]; omega)
    obtain ⟨h1, h2, h3⟩ := hok.1 hc
    have hat := atA_le hc
    have hat2 : ((atA x : Nat) : Int) = (n - 1) * 512 := by unfold atA; rw [← HN.out]; omega
    obtain ⟨o, ho⟩ : ∃ o, o = atA x := ⟨_, rfl⟩
    rw [← ho] at hat hat2
    have h3' : (d.size : Int) = 512 := by omega
    have ho5 : o + 512 ≤ 1024000 := by omega
    have hw8 : (n - 1) * 512 = (o : Int) := by omega
    obtain ⟨o5, ho6⟩ : ∃ o5 : Nat, o5 = o + 512 := ⟨_, rfl⟩
    have hw9 : IntKind.i64.wrap ((o : Int) + 512) = (o5 : Int) := by rw [aw64 (by omega) (by omega)]; omega
    have kn := fun w => noughts_any ((o5 : Int) - S.size) (by omega) (by omega) w
    obtain ⟨Z, hZ⟩ : ∃ Z : ByteArray, Z = ba (List.replicate ((o5 : Int) - S.size).toNat 0) := ⟨_, rfl⟩
    rw [← hZ] at kn
    have hZz : Z.size = o5 - S.size := by rw [hZ, ba_size, List.length_replicate]; omega
    have hZb : Z.size ≤ 1024000 := by omega
    have e1 := app_size S Z
    obtain ⟨T, hT⟩ : ∃ T : ByteArray, T = S ++ Z := ⟨_, rfl⟩
    have hTz : o5 ≤ T.size := by rw [hT]; omega
    have hTb : T.size ≤ 1099513675776 := by rw [hT]; omega
    have hTo : o ≤ T.size := by omega
    have hTi : (o5 : Int) ≤ T.size := by omega
    have hToi : (o : Int) ≤ T.size := by omega
    have HFIN := Lib.hid (show T.extract 0 o ++ d ++ T.extract o5 T.size = ba ((l.take (q + 1)).foldl stD s) by
      have hsl : S.size = Q.length := by rw [hS.out, ba_size]
      have hTe : T = ba (Q ++ List.replicate (o + 512 - Q.length) 0) := by
        rw [hT, hZ, hS.out, ba_app, ba_size]
        congr 3
        omega
      have hx5 := (okA_iff.1 hc).2.2
      have hdl : d.data.toList = x.d := by rw [HD.out, ba_list]
      rw [hTe, ho6, ext_put _ _ _ (by rw [hdl]; exact hx5) (by rw [List.length_append, List.length_replicate]; omega), hdl, HS.out, stD, if_pos hc, ← ho])
    have HT := Lib.hid hT
    clear hok hc ho hat hat2 ho6 hZ hZz hT e1
    have hoi : (o : Int) ≤ 1023488 := by omega
    have f1 : decide (n < 1) = false := decide_eq_false (by omega)
    have f2 : decide (2000 < n) = false := decide_eq_false (by omega)
    have f3 : ((d.size : Int) != 512) = false := by simp [h3']
    go_upto_region 8 with (go_at_call 93; (refine (kn _).mono ?_); rintro e w2 ⟨rfl, b2⟩)
    rw [← HT.out]
    clear f1 f2 f3 hw8
    have c1' := blk_cell (blk_below (blk_new wr 142 #[.int .i64 n, .string d]) b2) 1 rfl
    go_quiet (fail)
    rw [HFIN.out]
    have hk2 := blk_below (HKN.out (.cells #[.int .i64 n, .string d] 142)) b2
    have HK2 := Lib.hid (show Blk (w2.drewN nq) w.heap.size 75 #[.int .i64 k, .int .i64 p, .slice (some ⟨b, off, none⟩) len cap, .string sp] from hk2)
    clear hk2
    have hb := (HBN.out (.cells #[.int .i64 n, .string d] 142)).trans (b2.mono (HBN.out (.cells #[.int .i64 n, .string d] 142)).size)
    have HB2 := Lib.hid (show Below w.heap.size w (w2.drewN nq) from ⟨hb.os, hb.tape, hb.output, hb.size, hb.block⟩)
    have HE := Lib.hid (show ba ((l.take (q + 1)).foldl stD s) = ba ((l.take (q + 1)).foldl stD s) from rfl)
    clear hb b2 c0 c1 c1' kn hw9
    obtain ⟨S2, hS2⟩ : ∃ S2, S2 = ba ((l.take (q + 1)).foldl stD s) := ⟨_, rfl⟩
    rw [← hS2]
    have HS2 := Lib.hid hS2
    clear hS2
    go_wp2
    go_roundw
    case rel => exact ⟨q + 1, S2, by omega, by go_num, rfl, HS2, HK2, HB2⟩
    case measure => simp [intOf]; omega
end Go.Proofs.YthfebcfdhmihcaaGreatDoor

namespace Go.Proofs.YthfebcfdhmihcaaGreatDoor
open Go.RowKit

def NamF (l : List F13) : Prop := ∀ f ∈ l, f.1.length ≤ 30000
/-- A slice of these files, in this world. -/
def FlV (W : World) (l : List F13) (v : Value) (wx : World) : Prop := ∃ a cap, v = .slice a l.length cap ∧ Fls wx a l ∧ Below W.heap.size W wx
theorem hot_no {l : List F13} {p : List UInt8} (h : staF l p ≠ 1) : hotL l p = l := by unfold hotL; rw [if_neg h]
theorem hot_yes {l : List F13} {p d s : List UInt8} (h : staF l p = 1) (h2 : lookF l (p ++ jx) = some d) (h3 : (lookF l p).getD [] = s) : hotL l p = witF l (p, apD (rdJ d).p (rdJ d).L s) := by
  unfold hotL; rw [if_pos h, h2, h3]; rfl
theorem sta_look {l : List F13} {p : List UInt8} (h : staF l p = 1) (h2 : lookF l (p ++ jx) = none) : False := by
  unfold staF at h; rw [h2] at h; cases h

set_option maxRecDepth 100000 in
set_option maxHeartbeats 2000000 in
theorem recov13_any (a : Option Addr) (cap : Nat) (l : List F13) (p : List UInt8) (w : World) (hl : l.length ≤ 4294967296) (hp : p.length ≤ 30000) (hm : SmlF l) (hn : NamF l) (ha : Fls w a l) :
    Calls Tryz.prog 16 #[.slice a l.length cap, .string (ba p)] w (FlsQ (recF l p) w) := by
  have kj := fun W => jour13_any p (by omega) W
  have kf := fun q W (h : Fls W a l) => find13_any a cap l q W (by omega) h
  have ks := fun W (h : Fls W a l) => state13_any a cap l p W (by omega) (by omega) hm h
  have HA := Lib.hid ha
  have hhl := hot_len l p
  have HHM := Lib.hid (show SmlF (hotL l p) from fun f hf => by
    rcases hot_mem hf with ⟨-, h⟩ | h
    · omega
    · exact hm f h)
  have HHN := Lib.hid (show NamF (hotL l p) from fun f hf => by
    rcases hot_mem hf with ⟨h, -⟩ | h
    · rw [h]; exact hp
    · exact hn f h)
  have kwt := fun W f (h : Fls W a l) => with13_any a cap l f W (by omega) h
  obtain ⟨len, hlen⟩ : ∃ len, len = l.length := ⟨_, rfl⟩
  rw [← hlen] at kf ks kwt hl hhl ⊢
  have HMA := Lib.hid hm; have HLEN := Lib.hid hlen; clear hlen
  go_enter Tryz.func16, Tryz.ntmps16
  have kf1 := kf (p ++ jx)
  go_upto_if 17 with (first
      | (go_at_call 43; (with_reducible refine (kj _).mono ?_); rintro e w1 ⟨rfl, rfl⟩)
      | (go_at_call 41; (with_reducible refine (kf1 _ HA.out).mono ?_); rintro e w2 ⟨rfl, rfl⟩)
      | (go_at_call 14; (with_reducible refine (ks _ HA.out).mono ?_); rintro e w3 ⟨rfl, b3⟩; have HB3 := Lib.hid b3; clear b3))
  go_cut [0, 5, 6, 7, 13, 17] from 18 (fun v _ _ _ _ _ wx => Hid (FlV w (hotL l p) v wx))
  case first =>
    by_cases hs : staF l p = 1
    · have g1 : (staF l p == 1) = true := by rw [hs]; rfl
      rcases fnd_look l (p ++ jx) with ⟨-, h2, -⟩ | ⟨k, hk, h1, h2, -⟩
      · exact (sta_look hs h2).elim
      rw [h1]
      obtain ⟨b, off, rfl, hbw, -, c1⟩ := HA.out k hk
      have HA3 := Lib.hid (fls_next HA.out HB3.out)
      have d1 := (HB3.out.cell (p := ⟨b, off + k * 2 + 1, none⟩) hbw).trans c1
      have hd1 := HMA.out _ (List.getElem_mem hk)
      have kr := fun W => qread11_any l[k].2 hd1 W
      have hk' : k < len := by have := HLEN.out; omega
      have hki : (k : Int) < len := by omega
      have hk0 : ¬ (k : Int) < 0 := by omega
      obtain ⟨hL, hP1, hP2⟩ := rdJ_ok hd1
      have HEQ := Lib.hid (fun s (h3 : (lookF l p).getD [] = s) => hot_yes hs h2 h3)
      obtain ⟨d, hd⟩ : ∃ d, d = l[k].2 := ⟨_, rfl⟩
      rw [← hd] at c1 d1 kr hL hP1 hP2 HEQ
      unfold ReadQ at kr
      have kf2 := kf p
      clear hd hd1 hk h1 h2 kf kf1 kj ks hhl c1
      generalize rdJ d = J at *
      obtain ⟨K, P, R, sp⟩ := J
      simp only at kr HEQ hL hP1 hP2
      have kap := fun aR cR (s : List UInt8) W hs => qapply_any K P aR cR R (ba sp) s (by omega) (by omega) W hs hL
      rcases fnd_look l p with ⟨e1, e2, -⟩ | ⟨k2, hk2, e1, e2, -⟩
      · rw [e1] at kf2
        have HE := Lib.hid (HEQ.out [] (by rw [e2]; rfl))
        have kap2 := fun aR cR W => kap aR cR [] W (by simp)
        have kw := fun W => kwt W (p, apD P R [])
        simp only at kw
        clear e1 e2 HEQ kap kwt hs
        go_wp2_with (first
          | (go_at_call 41; (with_reducible refine (kf2 _ HA3.out).mono ?_); rintro e w4 ⟨rfl, rfl⟩)
          | (go_at_call 42; (with_reducible refine (kr _).mono ?_); rintro e w5 ⟨hB5, a5, cap5, rfl, hR5⟩; have HB5 := Lib.hid hB5; have HR5 := Lib.hid hR5; clear hB5 hR5)
          | (go_at_call 49; refine (kap2 _ _ _ HR5.out).mono ?_; rintro e w6 ⟨rfl, b6⟩; have HB6 := Lib.hid (HB3.out.trans ((HB5.out.trans (b6.mono HB5.out.size)).mono HB3.out.size)); clear b6)
          | (go_at_call 48; (with_reducible refine (kw _ (fls_next HA.out HB6.out)).mono ?_); rintro e w7 ⟨a7, cap7, rfl, hF7, b7⟩; have HF7 := Lib.hid hF7.1; have HB7 := Lib.hid b7; clear b7 hF7))
        go_meet
        exact Lib.hid ⟨a7, cap7, by rw [HE.out], by rw [HE.out]; exact HF7.out, HB6.out.trans (HB7.out.mono HB6.out.size)⟩
      · rw [e1] at kf2
        obtain ⟨b', off', e', -, -, c2⟩ := HA.out k2 hk2
        obtain ⟨rfl, rfl⟩ : b = b' ∧ off = off' := by injection e' with e'; injection e' with q1 q2; exact ⟨q1, q2⟩
        have d2 := (HB3.out.cell (p := ⟨b, off + k2 * 2 + 1, none⟩) hbw).trans c2
        have hs2 := HMA.out _ (List.getElem_mem hk2)
        have hk2' : k2 < len := by have := HLEN.out; omega
        have hk2i : (k2 : Int) < len := by omega
        have hk20 : (0 : Int) ≤ (k2 : Int) := by omega
        obtain ⟨s, hsd⟩ : ∃ s, s = l[k2].2 := ⟨_, rfl⟩
        have HE := Lib.hid (HEQ.out s (by rw [e2, hsd]; rfl))
        rw [← hsd] at d2 hs2
        have kap2 := fun aR cR W => kap aR cR s W (by omega)
        have kw := fun W => kwt W (p, apD P R s)
        simp only at kw
        clear e1 e2 e' c2 HEQ kap kwt hs hs2 hk2 hsd
        go_wp2_with (first
          | (go_at_call 41; (with_reducible refine (kf2 _ HA3.out).mono ?_); rintro e w4 ⟨rfl, rfl⟩)
          | (go_at_call 42; (with_reducible refine (kr _).mono ?_); rintro e w5 ⟨hB5, a5, cap5, rfl, hR5⟩; have HB5 := Lib.hid hB5; have HR5 := Lib.hid hR5; clear hB5 hR5)
          | (go_at_call 49; refine (kap2 _ _ _ HR5.out).mono ?_; rintro e w6 ⟨rfl, b6⟩; have HB6 := Lib.hid (HB3.out.trans ((HB5.out.trans (b6.mono HB5.out.size)).mono HB3.out.size)); clear b6)
          | (go_at_call 48; (with_reducible refine (kw _ (fls_next HA.out HB6.out)).mono ?_); rintro e w7 ⟨a7, cap7, rfl, hF7, b7⟩; have HF7 := Lib.hid hF7.1; have HB7 := Lib.hid b7; clear b7 hF7))
        go_meet
        exact Lib.hid ⟨a7, cap7, by rw [HE.out], by rw [HE.out]; exact HF7.out, HB6.out.trans (HB7.out.mono HB6.out.size)⟩
    · have g1 : (staF l p == 1) = false := by simpa using hs
      have HE := Lib.hid (hot_no hs)
      clear hs
      go_wp2_with fail
      go_meet
      exact Lib.hid ⟨a, cap, by rw [HE.out, ← HLEN.out], by rw [HE.out]; exact fls_next HA.out HB3.out, HB3.out⟩
  case rest =>
    obtain ⟨a1, cap1, rfl, hF1, hB1⟩ := hcut.out
    have HF1 := Lib.hid hF1; have HB1 := Lib.hid hB1
    clear hF1 hB1 hcut kf kf1 ks kwt
    obtain ⟨h, hh⟩ : ∃ h, h = hotL l p := ⟨_, rfl⟩
    have HREC := Lib.hid (show recF l p = gonF (wtoF (hotL l p) (p ++ jx)) p from rfl)
    rw [← hh] at HHM HHN hhl HF1 HREC ⊢
    clear hh
    have hh1 : h.length ≤ 8589934593 := by omega
    have kwo := fun W (hF : Fls W a1 h) => without13_any a1 cap1 h (p ++ jx) W (by omega) hF
    have hwl := wto_len h (p ++ jx)
    have HSM := Lib.hid (show SmlF (wtoF h (p ++ jx)) from fun f hf => HHM.out f (wto_mem hf))
    have HNM := Lib.hid (show NamF (wtoF h (p ++ jx)) from fun f hf => HHN.out f (wto_mem hf))
    obtain ⟨m, hm2⟩ : ∃ m, m = wtoF h (p ++ jx) := ⟨_, rfl⟩
    rw [← hm2] at kwo hwl HSM HNM HREC
    have hml : m.length ≤ 8589934593 := by omega
    clear hm2 hwl hm hn
    have kgo := fun aM cM x W hx1 hx2 (hF : Fls W aM m) => goes13_any aM cM m x p W (by omega) hx1 hx2 HSM.out hF
    unfold FlsQ at kwo
    have kdel := fun aO cO (O : List F13) q W hO (hF : Fls W aO O) => without13_any aO cO O q W hO hF
    obtain ⟨n, hnd⟩ : ∃ n, n = m.length := ⟨_, rfl⟩
    have HN := Lib.hid hnd
    rw [← hnd] at hml kwo kgo
    clear hnd
    go_wp2_with (first
      | (go_at_call 43; (with_reducible refine (kj _).mono ?_); rintro e w1 ⟨rfl, rfl⟩)
      | (go_at_call 50; (with_reducible refine (kwo _ HF1.out).mono ?_); rintro e w2 ⟨a2, cap2, rfl, ⟨hF2, hN2⟩, b2⟩; have HF2 := Lib.hid hF2; have HN2 := Lib.hid (news_mono hN2 HB1.out.size); clear hN2; have HB2 := Lib.hid (HB1.out.trans (b2.mono HB1.out.size)); clear b2 hF2))
    go_loopw [8, 9] (fun v i wr => ∃ k : Nat, k ≤ n ∧ i = .int .i64 k ∧ ∃ aO cO, v = .slice aO ((m.take k).foldl (gstF m p) m).length cO ∧ Hid (Fls wr aO ((m.take k).foldl (gstF m p) m)) ∧ Hid (NewS w.heap.size aO) ∧ Hid (Below w2.heap.size w2 wr)) (fun _ i _ => n - (intOf i).toNat)
    case atStart => exact ⟨0, by omega, rfl, a2, cap2, by rw [HN.out]; rfl, HF2, HN2, Lib.hid (Below.refl _ _)⟩
    case round =>
      obtain ⟨k, hk, rfl, aO, cO, rfl, hFO, hNO, hB⟩ := hrel
      have hol := gst_len m p (m.take k) m
      by_cases hlt : k < n
      · have hlt' : k < m.length := by have := HN.out; omega
        obtain ⟨b, off, rfl, hbw, c0, c1⟩ := (fls_next HF2.out hB.out) k hlt'
        have hsn := gst_snoc m m p hlt'
        have hx1 := HNM.out _ (List.getElem_mem hlt')
        have hx2 := HSM.out _ (List.getElem_mem hlt')
        have t1 : (k : Int) < n := by omega
        obtain ⟨x, hx⟩ : ∃ x, x = m[k] := ⟨_, rfl⟩
        rw [← hx] at c0 c1 hsn hx1 hx2
        have HSN := Lib.hid hsn
        have hok : ((m.take k).foldl (gstF m p) m).length ≤ 1099511627776 := by have := HN.out; omega
        have kg := fun (cM : Nat) W (hF : Fls W (some ⟨b, off, none⟩) m) => kgo _ cM x W hx1 hx2 hF
        have kd := fun (q : List UInt8) W hF => kdel aO cO ((m.take k).foldl (gstF m p) m) q W hok hF
        have HFM := Lib.hid (fls_next HF2.out hB.out)
        clear hx hsn hlt' kgo kdel hx1 hx2 hol hok
        generalize (m.take k).foldl (gstF m p) m = O at *
        cases hg : goeF m x p with
        | true =>
          rw [hg] at kg
          have HNX := Lib.hid (show (m.take (k + 1)).foldl (gstF m p) m = wtoF O x.1 by rw [HSN.out, gstF, if_pos hg])
          clear hg HSN
          go_wp2_with (first
            | (go_at_call 51; (with_reducible refine (kg _ _ HFM.out).mono ?_); rintro e w4 ⟨rfl, b4⟩; have HB4 := Lib.hid b4; clear b4; have d0 := (HB4.out.cell (p := ⟨b, off + k * 2, none⟩) hbw).trans c0)
            | (go_at_call 50; (with_reducible refine (kd _ _ (fls_next hFO.out HB4.out)).mono ?_); rintro e w5 ⟨a5, cap5, rfl, ⟨hF5, hN5⟩, b5⟩; have HF5 := Lib.hid hF5; have HN5 := Lib.hid (news_mono hN5 (Nat.le_trans HB2.out.size (Nat.le_trans hB.out.size HB4.out.size))); clear hN5; have HB5 := Lib.hid b5; clear b5 hF5))
          go_roundw
          case rel => exact ⟨k + 1, by omega, by go_num, a5, cap5, by rw [HNX.out], Lib.hid (by rw [HNX.out]; exact HF5.out), HN5, Lib.hid (hB.out.trans ((HB4.out.trans (HB5.out.mono HB4.out.size)).mono hB.out.size))⟩
          case measure => simp [intOf]; omega
        | false =>
          rw [hg] at kg
          have HNX := Lib.hid (show (m.take (k + 1)).foldl (gstF m p) m = O by rw [HSN.out, gstF, if_neg (by rw [hg]; decide)])
          clear hg HSN
          go_wp2_with (first
            | (go_at_call 51; (with_reducible refine (kg _ _ HFM.out).mono ?_); rintro e w4 ⟨rfl, b4⟩; have HB4 := Lib.hid b4; clear b4))
          go_roundw
          case rel => exact ⟨k + 1, by omega, by go_num, aO, cO, by rw [HNX.out], Lib.hid (by rw [HNX.out]; exact fls_next hFO.out HB4.out), hNO, Lib.hid (hB.out.trans (HB4.out.mono hB.out.size))⟩
          case measure => simp [intOf]; omega
      · have t1 : ¬ (k : Int) < n := by omega
        have hk2 : m.take k = m := List.take_of_length_le (by have := HN.out; omega)
        rw [hk2] at hFO ⊢
        clear hk2 hol kgo kdel
        go_wp2
        go_ret
        unfold FlsQ
        rw [HREC.out]
        exact ⟨_, _, rfl, ⟨hFO.out, hNO.out⟩, HB2.out.trans (hB.out.mono HB2.out.size)⟩
end Go.Proofs.YthfebcfdhmihcaaGreatDoor
