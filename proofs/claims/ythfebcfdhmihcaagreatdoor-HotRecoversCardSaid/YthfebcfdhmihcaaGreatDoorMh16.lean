/-
  Layer 13: create: a file that is not there is made, or its path is refused. Condition: the disk is calm, the sizes fit.
  Layer 13, the document's goes: it returns its plain function and changes nothing that was there. Condition: paths of at most 30000 bytes, files of at most 1048576.
  Layer 13, the document's without and with: a new list of files; nothing that was there has turned. Condition: the memory's own bounds.
  Layer 13, the document's with: a new list of files; nothing that was there has turned. Condition: the memory's own bounds.
  Layer 13: bounds on what is read from a journal, and on the files behind a restoration (mathematics only). Condition: a journal has at most 1048576 bytes.
  Layer 13: counts, State: whether a journal counts, and the state of a file. Condition: the disk is calm; files of at most 1048576 bytes, paths of at most 30000.
  Layer 13: the small steps of a recovery: syncDirectory, syncJournal, syncFile, syncCreation, a deletion. Condition: the disk is calm, the sizes fit.
-/
import Derived.Deep.AppendLies
import Derived.Deep.OwnRows
import Derived.Maps.RangeWalk
import Derived.StillTailTactics
import Derived.Test.YthfebcfdhmihcaaGreatDoorMh13
import Derived.Test.YthfebcfdhmihcaaGreatDoorMh15
import Derived.Test.YthfebcfdhmihcaaGreatDoorMh6
import Derived.Test.YthfebcfdhmihcaaGreatDoorMh10
import Derived.Test.YthfebcfdhmihcaaGreatDoorMh7
namespace Go.Proofs.YthfebcfdhmihcaaGreatDoor
open Go.RowKit

theorem decS_ok {s : List UInt8} (h : (decS s).2 = 0) : (decS s).1.length ≤ 12 ∧ ∀ c ∈ (decS s).1, c.length ≤ 40 := by
  unfold decS at h ⊢
  split at h
  · rename_i he
    rw [if_pos he]
    have hc : ckS (flP s) = 0 := by
      unfold encS at he
      split at he
      · assumption
      · rename_i hne
        exact absurd (congrArg Prod.snd he) hne
    obtain ⟨-, h1, h2, -⟩ := ckS_ok.1 hc
    exact ⟨h1, fun c hc => (okS_iff.1 (h2 c hc)).2⟩
  · cases h
theorem goe_no {l : List F13} {x : F13} {p : List UInt8} (h : (supD x.1).2 = false) : goeF l x p = false := by unfold goeF; rw [if_pos h]
theorem goe_bad {l : List F13} {x : F13} {p : List UInt8} (h : (supD x.1).2 = true) (h2 : (decS x.2).2 ≠ 0) : goeF l x p = ((supD x.1).1 == p) := by unfold goeF; rw [if_neg (by rw [h]; decide), if_pos h2]
theorem goe_ok {l : List F13} {x : F13} {p : List UInt8} (h : (supD x.1).2 = true) (h2 : (decS x.2).2 = 0) : goeF l x p = ((decS x.2).1.all (fun c => !(namF l c == x.1)) && (decS x.2).1.any (fun c => c == p)) := by unfold goeF; rw [if_neg (by rw [h]; decide), if_neg (by rw [h2]; decide)]

set_option maxRecDepth 100000 in
set_option maxHeartbeats 1000000 in
theorem goes13_any (a : Option Addr) (cap : Nat) (l : List F13) (x : F13) (p : List UInt8) (w : World) (hl : l.length ≤ 4611686018427387904) (hx1 : x.1.length ≤ 30000) (hx2 : x.2.length ≤ 1048576) (hm : SmlF l) (ha : Fls w a l) :
    Calls Tryz.prog 51 #[.slice a l.length cap, .agg #[.string (ba x.1), .string (ba x.2)], .string (ba p)] w fun e w' => e = .returned (.bool (goeF l x p)) ∧ Below w.heap.size w w' := by
  obtain ⟨r, hr⟩ : ∃ r, r = goeF l x p := ⟨_, rfl⟩
  rw [← hr]
  have ks := fun W => super13_any x.1 hx1 W
  have kd := fun W => r10decode_any (ba x.2) (by rw [ba_size]; exact hx2) W
  rw [ba_list] at kd
  have kn := fun q (hq : q.length ≤ 40) W (h : Fls W a l) => names13_any a cap l q W hl (by omega) hm h
  have HX := Lib.hid (blk_new w 46 #[.string (ba x.1), .string (ba x.2)])
  have HB0 := Lib.hid (blw1 w (.cells #[.string (ba x.1), .string (ba x.2)] 46))
  have HA := Lib.hid (fls_next ha HB0.out)
  have x0 := blk_cell HX.out 0 rfl
  have x1 := blk_cell HX.out 1 rfl
  have h1 : (supD x.1).2 = false → r = false := fun h => hr.trans (goe_no h)
  have h2 : (supD x.1).2 = true → (decS x.2).2 ≠ 0 → r = ((supD x.1).1 == p) := fun h h' => hr.trans (goe_bad h h')
  have h3 : (supD x.1).2 = true → (decS x.2).2 = 0 → r = ((decS x.2).1.all (fun c => !(namF l c == x.1)) && (decS x.2).1.any (fun c => c == p)) := fun h h' => hr.trans (goe_ok h h')
  have hdk := @decS_ok x.2
  clear hr ha
  obtain ⟨len, hlen⟩ : ∃ len, len = l.length := ⟨_, rfl⟩
  rw [← hlen] at hl kn ⊢
  clear hlen
  generalize supD x.1 = so at *
  obtain ⟨o, ok⟩ := so
  generalize decS x.2 = ds at *
  obtain ⟨C, er⟩ := ds
  simp only at ks kd h1 h2 h3 hdk
  cases ok with
  | false =>
    obtain rfl := h1 rfl
    clear h1 h2 h3 hdk kn
    go_enter Tryz.func51, Tryz.ntmps51
    go_wp2_with (first
      | (go_at_call 12; (with_reducible refine (ks _).mono ?_); rintro e w1 ⟨rfl, b1⟩))
    go_ret
    exact ⟨rfl, HB0.out.trans (b1.mono HB0.out.size)⟩
  | true =>
    have h2' := h2 rfl
    have h3' := h3 rfl
    clear h1 h2 h3
    by_cases he : er = 0
    · subst he
      obtain ⟨hn, hc40⟩ := hdk rfl
      have h3'' := h3' rfl
      clear h2' h3' hdk
      obtain ⟨n, hnd⟩ : ∃ n, n = C.length := ⟨_, rfl⟩
      have HN := Lib.hid hnd
      have HR := Lib.hid h3''
      have HC40 := Lib.hid hc40
      rw [← hnd] at hn kd
      clear hnd h3'' hc40
      go_enter Tryz.func51, Tryz.ntmps51
      go_wp2_with (first
        | (go_at_call 12; (with_reducible refine (ks _).mono ?_); rintro e w1 ⟨rfl, b1⟩; have HB1 := Lib.hid b1; clear b1; have y1 := (HB1.out.cell (p := ⟨w.heap.size, 1, none⟩) (blk_lt HX.out)).trans x1)
        | (go_at_call 94; (with_reducible refine (kd _).mono ?_); rintro e w2 ⟨a2, cap2, rfl, hS2, b2⟩; have HS2 := Lib.hid hS2; have HB2 := Lib.hid b2; clear b2 hS2))
      have HBW := Lib.hid (HB1.out.trans (HB2.out.mono HB1.out.size))
      clear x0 x1 y1 HB1 HB2
      go_loopw [11, 12] (fun b i wr => ∃ k : Nat, k ≤ n ∧ i = .int .i64 k ∧ b = .bool ((C.take k).any (fun c => c == p)) ∧ Hid ((C.take k).all (fun c => !(namF l c == x.1)) = true) ∧ Hid (Below (w.alloc (.cells #[.string (ba x.1), .string (ba x.2)] 46)).heap.size (w.alloc (.cells #[.string (ba x.1), .string (ba x.2)] 46)) wr) ∧ Hid (Strs wr a2 C)) (fun _ i _ => n - (intOf i).toNat)
      case atStart => exact ⟨0, by omega, rfl, rfl, Lib.hid rfl, HBW, HS2⟩
      case round =>
        obtain ⟨k, hk, rfl, rfl, hAl, hB, hS⟩ := hrel
        clear HBW HS2
        by_cases hlt : k < n
        · have hlt' : k < C.length := by have := HN.out; omega
          obtain ⟨bc, oc, rfl, hbc, c0⟩ := hS.out k hlt'
          have hc := HC40.out C[k] (List.getElem_mem hlt')
          have hsn : C.take (k + 1) = C.take k ++ [C[k]] := List.take_succ_eq_append_getElem hlt'
          obtain ⟨c, hcd⟩ : ∃ c, c = C[k] := ⟨_, rfl⟩
          rw [← hcd] at c0 hc hsn
          have HSN := Lib.hid hsn
          have t1 : (k : Int) < n := by omega
          have e1 := ba_eq c p
          have e4 := ba_eq (namF l c) x.1
          have kn1 := kn c hc
          have HAr := Lib.hid (fls_next HA.out hB.out)
          have x0 := (hB.out.cell (p := ⟨w.heap.size, 0, none⟩) (blk_lt HX.out)).trans (blk_cell HX.out 0 (v := .string (ba x.1)) rfl)
          have hg : w.heap.size < wr.heap.size := Nat.lt_of_lt_of_le (blk_lt HX.out) hB.out.size
          have HG := Lib.hid (show ∀ v, Below wr.heap.size wr v → v.cell? ⟨bc, oc + k, none⟩ = some (.string (ba c)) ∧ v.cell? ⟨w.heap.size, 0, none⟩ = some (.string (ba x.1)) ∧ Below wr.heap.size wr v from fun v hv => ⟨(hv.cell (p := ⟨bc, oc + k, none⟩) hbc).trans c0, (hv.cell (p := ⟨w.heap.size, 0, none⟩) hg).trans x0, hv⟩)
          have HNX := Lib.hid (show ∀ v, Below wr.heap.size wr v → namF l c ≠ x.1 → (C.take (k + 1)).all (fun c => !(namF l c == x.1)) = true ∧ Below (w.alloc (.cells #[.string (ba x.1), .string (ba x.2)] 46)).heap.size (w.alloc (.cells #[.string (ba x.1), .string (ba x.2)] 46)) v ∧ Strs v (some ⟨bc, oc, none⟩) C from fun v hv hne => ⟨by
            rw [HSN.out, List.all_append, hAl.out]; simpa using hne, hB.out.trans (hv.mono hB.out.size), strs_below hS.out hv⟩)
          have HHT := Lib.hid (show namF l c = x.1 → r = false from fun he => by
            rw [HR.out, Bool.and_eq_false_iff]
            refine .inl (List.all_eq_false.2 ⟨C[k], List.getElem_mem hlt', ?_⟩)
            rw [← hcd, he]; simp)
          have HAY := Lib.hid (show (C.take (k + 1)).any (fun c => c == p) = ((C.take k).any (fun c => c == p) || decide (c = p)) by
            rw [HSN.out, List.any_append, Bool.eq_iff_iff]; simp)
          have HBE := Lib.hid (show ∀ v, Below wr.heap.size wr v → Below w.heap.size w v from fun v hv => HB0.out.trans ((hB.out.trans (hv.mono hB.out.size)).mono HB0.out.size))
          clear hsn hcd hlt' hAl hB hS HR HSN hc
          generalize (C.take k).any (fun c => c == p) = z at *
          have hzs : (z = true) ∨ (z = false ∧ c = p) ∨ (z = false ∧ ¬ c = p) := by
            cases z
            · by_cases h : c = p
              · exact .inr (.inl ⟨rfl, h⟩)
              · exact .inr (.inr ⟨rfl, h⟩)
            · exact .inl rfl
          by_cases hnm : namF l c = x.1
          · obtain rfl := HHT.out hnm
            rw [decide_eq_true hnm] at e4
            clear HHT HNX HAY hnm
            have HCP := Lib.hid hzs
            rcases hzs with rfl | ⟨rfl, hcp⟩ | ⟨rfl, hcp⟩
            all_goals (try (first | rw [decide_eq_true hcp] at e1 | rw [decide_eq_false hcp] at e1); clear hcp)
            all_goals (
              clear HCP
              go_upto_region 12 with (fail)
              go_region_held3 (fun v => v.cell? ⟨bc, oc + k, none⟩ = some (.string (ba c)) ∧ v.cell? ⟨w.heap.size, 0, none⟩ = some (.string (ba x.1)) ∧ Below wr.heap.size wr v)
                (first | assumption | exact HG.out _ (Below.refl _ _) | exact HG.out _ (Below.refl _ _).drew | exact HG.out _ (Below.trans (And.right (And.right (by assumption))) (Below.mono (by assumption) (Below.size (And.right (And.right (by assumption)))))))
                ((go_at_call 95; (with_reducible refine (kn1 _ (fls_next HAr.out (And.right (And.right (by assumption))))).mono ?_); rintro e w3 ⟨rfl, hb⟩))
              go_wp2
              go_ret
              exact ⟨rfl, HBE.out _ (And.right (And.right (by assumption)))⟩)
          · rw [decide_eq_false hnm] at e4
            clear HHT HBE
            rcases hzs with rfl | ⟨rfl, hcp⟩ | ⟨rfl, hcp⟩
            · have HAY2 := Lib.hid (show (C.take (k + 1)).any (fun c => c == p) = true by rw [HAY.out]; simp [*])
              clear HAY
              try clear hcp
              have HNM := Lib.hid hnm
              clear hnm
              go_upto_region 12 with (fail)
              go_region_held3 (fun v => v.cell? ⟨bc, oc + k, none⟩ = some (.string (ba c)) ∧ v.cell? ⟨w.heap.size, 0, none⟩ = some (.string (ba x.1)) ∧ Below wr.heap.size wr v)
                (first | assumption | exact HG.out _ (Below.refl _ _) | exact HG.out _ (Below.refl _ _).drew | exact HG.out _ (Below.trans (And.right (And.right (by assumption))) (Below.mono (by assumption) (Below.size (And.right (And.right (by assumption)))))))
                ((go_at_call 95; (with_reducible refine (kn1 _ (fls_next HAr.out (And.right (And.right (by assumption))))).mono ?_); rintro e w3 ⟨rfl, hb⟩))
              rename_i hHeld
              have HF := Lib.hid (HNX.out _ (And.right (And.right hHeld)) HNM.out)
              clear hHeld
              go_wp2
              go_roundw
              case rel => exact ⟨k + 1, by omega, by go_num, by rw [HAY2.out], Lib.hid HF.out.1, Lib.hid HF.out.2.1, Lib.hid HF.out.2.2⟩
              case measure => simp [intOf]; omega
            · rw [decide_eq_true hcp] at e1
              have HAY2 := Lib.hid (show (C.take (k + 1)).any (fun c => c == p) = true by rw [HAY.out]; simp [*])
              clear HAY
              try clear hcp
              have HNM := Lib.hid hnm
              clear hnm
              go_upto_region 12 with (fail)
              go_region_held3 (fun v => v.cell? ⟨bc, oc + k, none⟩ = some (.string (ba c)) ∧ v.cell? ⟨w.heap.size, 0, none⟩ = some (.string (ba x.1)) ∧ Below wr.heap.size wr v)
                (first | assumption | exact HG.out _ (Below.refl _ _) | exact HG.out _ (Below.refl _ _).drew | exact HG.out _ (Below.trans (And.right (And.right (by assumption))) (Below.mono (by assumption) (Below.size (And.right (And.right (by assumption)))))))
                ((go_at_call 95; (with_reducible refine (kn1 _ (fls_next HAr.out (And.right (And.right (by assumption))))).mono ?_); rintro e w3 ⟨rfl, hb⟩))
              rename_i hHeld
              have HF := Lib.hid (HNX.out _ (And.right (And.right hHeld)) HNM.out)
              clear hHeld
              go_wp2
              go_roundw
              case rel => exact ⟨k + 1, by omega, by go_num, by rw [HAY2.out], Lib.hid HF.out.1, Lib.hid HF.out.2.1, Lib.hid HF.out.2.2⟩
              case measure => simp [intOf]; omega
            · rw [decide_eq_false hcp] at e1
              have HAY2 := Lib.hid (show (C.take (k + 1)).any (fun c => c == p) = false by rw [HAY.out]; simp [*])
              clear HAY
              try clear hcp
              have HNM := Lib.hid hnm
              clear hnm
              go_upto_region 12 with (fail)
              go_region_held3 (fun v => v.cell? ⟨bc, oc + k, none⟩ = some (.string (ba c)) ∧ v.cell? ⟨w.heap.size, 0, none⟩ = some (.string (ba x.1)) ∧ Below wr.heap.size wr v)
                (first | assumption | exact HG.out _ (Below.refl _ _) | exact HG.out _ (Below.refl _ _).drew | exact HG.out _ (Below.trans (And.right (And.right (by assumption))) (Below.mono (by assumption) (Below.size (And.right (And.right (by assumption)))))))
                ((go_at_call 95; (with_reducible refine (kn1 _ (fls_next HAr.out (And.right (And.right (by assumption))))).mono ?_); rintro e w3 ⟨rfl, hb⟩))
              rename_i hHeld
              have HF := Lib.hid (HNX.out _ (And.right (And.right hHeld)) HNM.out)
              clear hHeld
              go_wp2
              go_roundw
              case rel => exact ⟨k + 1, by omega, by go_num, by rw [HAY2.out], Lib.hid HF.out.1, Lib.hid HF.out.2.1, Lib.hid HF.out.2.2⟩
              case measure => simp [intOf]; omega
        · have t1 : ¬ (k : Int) < n := by omega
          have hk2 : C.take k = C := List.take_of_length_le (by have := HN.out; omega)
          have HR2 := Lib.hid (show r = (C.take k).any (fun c => c == p) by
            have := hAl.out
            rw [hk2] at this ⊢
            rw [HR.out, this, Bool.true_and])
          clear hAl hk2
          generalize (C.take k).any (fun c => c == p) = z at *
          obtain rfl := HR2.out
          go_wp2
          go_ret
          exact ⟨rfl, HB0.out.trans (hB.out.mono HB0.out.size)⟩
    · obtain rfl := h2' he
      have g0 : (er != 0) = true := by simpa using he
      have e1 := ba_eq o p
      have e2 : (o == p) = decide (o = p) := by rw [Bool.eq_iff_iff]; simp
      rw [e2]
      clear h2' h3' hdk kn he e2
      go_enter Tryz.func51, Tryz.ntmps51
      go_wp2_with (first
        | (go_at_call 12; (with_reducible refine (ks _).mono ?_); rintro e w1 ⟨rfl, b1⟩; have HB1 := Lib.hid b1; clear b1; have y1 := (HB1.out.cell (p := ⟨w.heap.size, 1, none⟩) (blk_lt HX.out)).trans x1)
        | (go_at_call 94; (with_reducible refine (kd _).mono ?_); rintro e w2 ⟨a2, cap2, rfl, -, b2⟩; have HB2 := Lib.hid b2; clear b2))
      go_ret
      exact ⟨rfl, HB0.out.trans ((HB1.out.trans (HB2.out.mono HB1.out.size)).mono HB0.out.size)⟩
end Go.Proofs.YthfebcfdhmihcaaGreatDoor

namespace Go.Proofs.YthfebcfdhmihcaaGreatDoor
open Go.RowKit

/-- None of the old blocks. -/
def NewS (N : Nat) (a : Option Addr) : Prop := ∀ g o q, a = some ⟨g, o, q⟩ → N ≤ g
theorem news_mono {N N' : Nat} {a : Option Addr} (h : NewS N a) (hN : N' ≤ N) : NewS N' a := fun g o q e => Nat.le_trans hN (h g o q e)
theorem news_own {W : World} {base size n m cap : Nat} {e : TypeId} {a : Option Addr} {xs : List Value} (h : W.ownsRow base e size (.slice a m cap) n xs) : NewS base a := by
  intro g o q he
  subst he
  exact (h.lt g rfl).1
/-- A new slice of files. -/
def FlsQ (l : List F13) (w : World) (e : Ending) (w' : World) : Prop := ∃ a cap, e = .returned (.slice a l.length cap) ∧ (Fls w' a l ∧ NewS w.heap.size a) ∧ Below w.heap.size w w'
theorem fnews (W : World) (f : F13) (t : TypeId) : ∀ j u, (f13C f)[j]? = some u → (W.alloc (.cells #[.string (ba f.1), .string (ba f.2)] t)).cell? ((⟨W.heap.size, 0, none⟩ : Addr).add j) = some u := by
  intro j u hj
  have h := blk_new W t #[.string (ba f.1), .string (ba f.2)]
  rw [raddr_add]
  match j, hj with
  | 0, hj => simp [f13C] at hj; subst hj; exact blk_cell h 0 rfl
  | 1, hj => simp [f13C] at hj; subst hj; exact blk_cell h 1 rfl
theorem wto_snoc {l : List F13} {p : List UInt8} {k : Nat} (hk : k < l.length) : wtoF (l.take (k + 1)) p = if l[k].1 = p then wtoF (l.take k) p else wtoF (l.take k) p ++ [l[k]] := by
  unfold wtoF
  rw [List.take_succ_eq_append_getElem hk, List.filter_append]
  by_cases h : l[k].1 = p <;> simp [h]
set_option maxRecDepth 100000 in
set_option maxHeartbeats 4000000 in
theorem without13_any (a : Option Addr) (cap : Nat) (l : List F13) (p : List UInt8) (w : World) (hl : l.length ≤ 1099511627776) (ha : Fls w a l) :
    Calls Tryz.prog 50 #[.slice a l.length cap, .string (ba p)] w (FlsQ (wtoF l p) w) := by
  obtain ⟨len, hlen⟩ : ∃ len, len = l.length := ⟨_, rfl⟩
  rw [← hlen] at hl ⊢
  obtain ⟨i1, hi1, hz1, hs1, hb1⟩ := info_parts infoF13
  have HA := Lib.hid ha; clear ha
  have HL := Lib.hid hlen; clear hlen
  go_enter Tryz.func50, Tryz.ntmps50
  go_wp2
  go_loopw [5, 6] (fun v i wr => ∃ (k : Nat) (M : List F13), k ≤ len ∧ i = .int .i64 k ∧ Hid (M = wtoF (l.take k) p) ∧ Hid (wr.ownsRow w.heap.size 46 2 v M.length (flsC M)) ∧ Hid (Below w.heap.size w wr)) (fun _ i _ => len - (intOf i).toNat)
  case atStart => exact ⟨0, [], by omega, rfl, Lib.hid rfl, Lib.hid (World.ownsRow_nil _ _ _ _), Lib.hid (Below.refl _ _)⟩
  case round =>
    obtain ⟨k, M, hk, rfl, hM, hO, hB⟩ := hrel
    have hMl : M.length ≤ k := by rw [hM.out]; exact Nat.le_trans (wto_len _ _) (by rw [List.length_take]; omega)
    by_cases hlt : k < len
    · have hlt' : k < l.length := by have := HL.out; omega
      obtain ⟨b, off, rfl, hbw, c0, c1⟩ := (fls_next HA.out hB.out) k hlt'
      have t1 : (k : Int) < len := by omega
      have e1 := ba_eq l[k].1 p
      have hsn := wto_snoc (p := p) hlt'
      obtain ⟨f, hf⟩ : ∃ f, f = l[k] := ⟨_, rfl⟩
      rw [← hf] at c0 c1 e1 hsn
      have hsz := hB.out.size
      clear hf hlt' HA
      by_cases hq : f.1 = p
      · rw [decide_eq_true hq] at e1
        rw [if_pos hq] at hsn
        have HM := Lib.hid (hM.out.trans hsn.symm)
        clear hsn hq hM
        generalize ba f.1 = s at *
        go_wp2
        go_roundw
        case rel => exact ⟨k + 1, M, by omega, by go_num, HM, hO, hB⟩
        case measure => simp [intOf]; omega
      · rw [decide_eq_false hq] at e1
        rw [if_neg hq] at hsn
        have HM := Lib.hid (show M ++ [f] = wtoF (l.take (k + 1)) p by rw [hsn, hM.out])
        have HN := Lib.hid (fnews wr f 46)
        have HF1 := Lib.hid (fone f)
        have HC := Lib.hid (show f13C f = [.string (ba f.1), .string (ba f.2)] from rfl)
        have HS := Lib.hid (flsC_snoc M f)
        clear hsn hq hM HC
        go_wp2_with (at_builtin; refine wpList_append_lies _ rfl _ _ _ rfl w.heap.size 46 i1 _ 2 32 Tryz.underlying22 hi1 hz1 hs1 hb1 rfl (by omega) u5 M.length (flsC M) rfl (hO.out.alloc _) ⟨wr.heap.size, 0, none⟩ 1 1 (f13C f) rfl rfl HN.out HF1.out (by omega) (by unfold maxLen; omega) (by omega) (by simp only [World.size_alloc]; omega) (wr.heap.size + 1) (by simp) ?_; intro g3 cap3 w3 hown3 hgrow3 hat3 hlt3)
        have HO3 := Lib.hid (show w3.ownsRow w.heap.size 46 2 (.slice (some ⟨g3, 0, none⟩) (M.length + 1) cap3) (M ++ [f]).length (flsC (M ++ [f])) by rw [HS.out, List.length_append]; exact hown3)
        have HB3 := Lib.hid (rbelow_own (hB.out.alloc (by omega) _) (hO.out.alloc _) hgrow3)
        clear hown3 hgrow3 hat3 hlt3 hO hB HN HF1 HS
        go_roundw
        case rel => exact ⟨k + 1, M ++ [f], by omega, by go_num, HM, HO3, HB3⟩
        case measure => simp [intOf]; omega
    · have t1 : ¬ (k : Int) < len := by omega
      obtain rfl : M = wtoF l p := by rw [hM.out, List.take_of_length_le (by have := HL.out; omega)]
      obtain ⟨a', cap', rfl, -, hF⟩ := fls_of_own hO.out
      have HF := Lib.hid (show _ ∧ _ from ⟨hF, news_own hO.out⟩)
      clear hM hO hF hMl
      go_wp2
      go_ret
      exact ⟨_, _, rfl, HF.out, hB.out⟩
end Go.Proofs.YthfebcfdhmihcaaGreatDoor

namespace Go.Proofs.YthfebcfdhmihcaaGreatDoor
open Go.RowKit

theorem hless_before : ∀ a b : List UInt8, Op.bytesLess a b = bytesBefore a b
  | [], [] => rfl
  | [], _ :: _ => rfl
  | _ :: _, [] => rfl
  | x :: a, y :: b => by simp [Op.bytesLess, bytesBefore, hless_before a b]
theorem geq_run (a b : List UInt8) (w : World) : (binOp .geq 9 (.string (ba a)) (.string (ba b))).run Tryz.prog w = .ok (.bool (!bytesBefore a b)) w := by
  rw [← hless_before a b]
  simp [binOp, Op.stringOp, ByteArray.toList_eq, ba_list]
theorem wst_snoc (f : F13) {l : List F13} {k : Nat} (hk : k < l.length) : (l.take (k + 1)).foldl (wstF f) ([], true) = wstF f ((l.take k).foldl (wstF f) ([], true)) l[k] := by
  rw [List.take_succ_eq_append_getElem hk, List.foldl_append]; rfl
theorem wst_len (f : F13) (l : List F13) : ∀ a : List F13 × Bool, (l.foldl (wstF f) a).1.length ≤ a.1.length + 2 * l.length := by
  induction l with
  | nil => intro a; simp
  | cons x t ih =>
    intro a
    have h := ih (wstF f a x)
    have h2 : (wstF f a x).1.length ≤ a.1.length + 2 := by
      unfold wstF
      simp only [List.length_append]
      split <;> split <;> simp
    rw [List.foldl_cons, List.length_cons]
    omega

/-- What a round of with holds: the list of our own, the box of the file that is put. -/
structure WI (f : F13) (w : World) (v : Value) (out : List F13) (wr : World) : Prop where
  own : wr.ownsRow (w.heap.size + 1) 46 2 v out.length (flsC out)
  below : Below w.heap.size w wr
  box : Blk wr w.heap.size 46 #[.string (ba f.1), .string (ba f.2)]
variable {f : F13} {w wr w3 : World} {v v3 : Value} {out : List F13}
theorem wi_drew (h : WI f w v out wr) (n : Nat) : WI f w v out (wr.drewN n) := ⟨h.own, ⟨h.below.os, h.below.tape, h.below.output, h.below.size, h.below.block⟩, h.box⟩
theorem wi_row (h : WI f w v out wr) (q : Nat) (o : Obj) : ((wr.drewN q).alloc o).ownsRow (w.heap.size + 1) 46 2 v out.length (flsC out) := rown_below (wi_drew h q).own (blw1 _ o)
theorem wi_base (h : WI f w v out wr) (q : Nat) (o : Obj) : w.heap.size + 1 ≤ ((wr.drewN q).alloc o).heap.size := by
  have h1 := blk_lt h.box
  have : ((wr.drewN q).alloc o).heap.size = wr.heap.size + 1 := by simp
  omega
theorem wi_row0 (h : WI f w v out wr) (o : Obj) : (wr.alloc o).ownsRow (w.heap.size + 1) 46 2 v out.length (flsC out) := rown_below h.own (blw1 _ o)
theorem wi_base0 (h : WI f w v out wr) (o : Obj) : w.heap.size + 1 ≤ (wr.alloc o).heap.size := wi_base h 0 o
theorem wi_app (h : WI f w v out wr) (x : F13) {q : Nat} {o : Obj} (ho : w3.ownsRow (w.heap.size + 1) 46 2 v3 (out.length + 1) (flsC out ++ f13C x)) (hg : ((wr.drewN q).alloc o).grownBy w3 v.ownBlock) : WI f w v3 (out ++ [x]) w3 := by
  have hO' := wi_row h q o
  have hB := (wi_drew h q).below
  refine ⟨by rw [flsC_snoc, List.length_append]; exact ho, (hB.alloc hB.size o).grown hg (hB.alloc hB.size o).size (fun k e => Nat.le_of_succ_le (hO'.lt k e).1), ?_⟩
  have h1 := blk_alloc (wi_drew h q).box o
  exact (hg.block _ (blk_lt h1) (fun e => by have := (hO'.lt _ e.symm).1; omega)).trans h1
theorem wi_app0 (h : WI f w v out wr) (x : F13) {o : Obj} (ho : w3.ownsRow (w.heap.size + 1) 46 2 v3 (out.length + 1) (flsC out ++ f13C x)) (hg : (wr.alloc o).grownBy w3 v.ownBlock) : WI f w v3 (out ++ [x]) w3 := wi_app (q := 0) h x ho hg
set_option maxRecDepth 100000 in
set_option maxHeartbeats 4000000 in
theorem with13_any (a : Option Addr) (cap : Nat) (l : List F13) (f : F13) (w : World) (hl : l.length ≤ 1099511627776) (ha : Fls w a l) :
    Calls Tryz.prog 48 #[.slice a l.length cap, .agg #[.string (ba f.1), .string (ba f.2)]] w (FlsQ (witF l f) w) := by
  obtain ⟨len, hlen⟩ : ∃ len, len = l.length := ⟨_, rfl⟩
  rw [← hlen] at hl ⊢
  obtain ⟨i1, hi1, hz1, hs1, hb1⟩ := info_parts infoF13
  have HA := Lib.hid ha; clear ha
  have HL := Lib.hid hlen; clear hlen
  have H0 := Lib.hid (show WI f w (.slice none 0 0) [] (w.alloc (.cells #[.string (ba f.1), .string (ba f.2)] 46)) from ⟨World.ownsRow_nil _ _ _ _, blw1 _ _, blk_new _ _ _⟩)
  go_enter Tryz.func48, Tryz.ntmps48
  go_wp2
  go_loopw [5, 6, 7] (fun v z i wr => ∃ k : Nat, k ≤ len ∧ i = .int .i64 k ∧ z = .bool ((l.take k).foldl (wstF f) ([], true)).2 ∧ Hid (WI f w v ((l.take k).foldl (wstF f) ([], true)).1 wr)) (fun _ _ i _ => len - (intOf i).toNat)
  case atStart => exact ⟨0, by omega, rfl, rfl, H0⟩
  case round =>
    obtain ⟨k, hk, rfl, rfl, hI⟩ := hrel
    clear H0
    have hln := wst_len f (l.take k) ([], true)
    rw [List.length_take, List.length_nil] at hln
    have hln2 : ((l.take k).foldl (wstF f) ([], true)).1.length ≤ 2 * len := by omega
    have hsz := hI.out.below.size
    have hsz2 := blk_lt hI.out.box
    clear hln
    by_cases hlt : k < len
    · have hlt' : k < l.length := by have := HL.out; omega
      obtain ⟨b, off, rfl, hbw, c0, c1⟩ := HA.out k hlt'
      have hst := wst_snoc f hlt'
      obtain ⟨x, hx⟩ : ∃ x, x = l[k] := ⟨_, rfl⟩
      rw [← hx] at c0 c1 hst
      have HST := Lib.hid hst
      have HX0 := Lib.hid c0; have HX1 := Lib.hid c1
      have t1 : (k : Int) < len := by omega
      clear hx hst
      generalize (l.take k).foldl (wstF f) ([], true) = st at *
      obtain ⟨out, pb⟩ := st
      simp only at hI HST hln2 ⊢
      have d0 := (hI.out.below.cell (p := ⟨b, off + k * 2, none⟩) hbw).trans c0
      have d1 := (hI.out.below.cell (p := ⟨b, off + k * 2 + 1, none⟩) hbw).trans c1
      have x0 := blk_cell hI.out.box 0 (v := .string (ba f.1)) rfl
      have x1 := blk_cell hI.out.box 1 (v := .string (ba f.2)) rfl
      clear c0 c1 hlt'
      have hge := fun W => geq_run x.1 f.1 W
      have e1 := ba_eq x.1 f.1
      cases hbv : bytesBefore x.1 f.1 with
      | true =>
        have hne : ¬ x.1 = f.1 := fun e => by rw [e, WideAt.bytes_irrefl] at hbv; cases hbv
        rw [hbv] at hge
        rw [decide_eq_false hne] at e1
        cases pb with
        | true =>
          have HS2 := Lib.hid (show (l.take (k + 1)).foldl (wstF f) ([], true) = (out ++ [x], true) by rw [HST.out]; simp [wstF, hbv, hne, WideAt.bytes_irrefl])
          clear hne hbv HST HA
          go_upto_region 6 with (fail)
          go_quiet (fail)
          go_upto_region 9 with (fail)
          go_quiet (fail)
          go_wp2_with (at_builtin; refine wpList_append_own _ rfl _ _ 22 rfl (w.heap.size + 1) 46 i1 _ 2 32 Tryz.underlying22 hi1 hz1 hs1 hb1 rfl (by decide) _ _ _ rfl (wi_row hI.out _ _) _ 1 1 (f13C x) rfl rfl (fnews _ x _) (fone x) (by unfold maxLen; (try simp only [List.length_append, List.length_cons, List.length_nil]); omega) (by (try simp only [List.length_append, List.length_cons, List.length_nil]); omega) (wi_base hI.out _ _) ?_; intro v4 w4 hown4 hgrow4 hnil4)
          have HI4 := Lib.hid (wi_app hI.out x hown4 hgrow4)
          clear hown4 hgrow4 hnil4
          go_roundw
          case rel => exact ⟨k + 1, by omega, by go_num, by rw [HS2.out], Lib.hid (by rw [HS2.out]; exact HI4.out)⟩
          case measure => simp [intOf]; omega
        | false =>
          have HS2 := Lib.hid (show (l.take (k + 1)).foldl (wstF f) ([], true) = (out ++ [x], false) by rw [HST.out]; simp [wstF, hbv, hne, WideAt.bytes_irrefl])
          clear hne hbv HST HA
          go_upto_region 6 with (fail)
          go_quiet (fail)
          go_upto_region 9 with (fail)
          go_quiet (fail)
          go_wp2_with (at_builtin; refine wpList_append_own _ rfl _ _ 22 rfl (w.heap.size + 1) 46 i1 _ 2 32 Tryz.underlying22 hi1 hz1 hs1 hb1 rfl (by decide) _ _ _ rfl (wi_row hI.out _ _) _ 1 1 (f13C x) rfl rfl (fnews _ x _) (fone x) (by unfold maxLen; (try simp only [List.length_append, List.length_cons, List.length_nil]); omega) (by (try simp only [List.length_append, List.length_cons, List.length_nil]); omega) (wi_base hI.out _ _) ?_; intro v4 w4 hown4 hgrow4 hnil4)
          have HI4 := Lib.hid (wi_app hI.out x hown4 hgrow4)
          clear hown4 hgrow4 hnil4
          go_roundw
          case rel => exact ⟨k + 1, by omega, by go_num, by rw [HS2.out], Lib.hid (by rw [HS2.out]; exact HI4.out)⟩
          case measure => simp [intOf]; omega
      | false =>
        rw [hbv] at hge
        by_cases hne : x.1 = f.1
        · rw [decide_eq_true hne] at e1
          cases pb with
          | true =>
            have HS2 := Lib.hid (show (l.take (k + 1)).foldl (wstF f) ([], true) = ((out ++ [f]), false) by rw [HST.out]; simp [wstF, hbv, hne, WideAt.bytes_irrefl])
            clear hne hbv HST HA
            go_upto_region 6 with (fail)
            go_quiet (fail)
            go_upto_region 9 with (at_builtin; refine wpList_append_own _ rfl _ _ 22 rfl (w.heap.size + 1) 46 i1 _ 2 32 Tryz.underlying22 hi1 hz1 hs1 hb1 rfl (by decide) _ _ _ rfl (wi_row hI.out _ _) _ 1 1 (f13C f) rfl rfl (fnews _ f _) (fone f) (by unfold maxLen; (try simp only [List.length_append, List.length_cons, List.length_nil]); omega) (by (try simp only [List.length_append, List.length_cons, List.length_nil]); omega) (wi_base hI.out _ _) ?_; intro v3 w3 hown3 hgrow3 hnil3)
            have HI3 := Lib.hid (wi_app hI.out f hown3 hgrow3)
            have d0 := (HI3.out.below.cell (p := ⟨b, off + k * 2, none⟩) hbw).trans HX0.out
            have d1 := (HI3.out.below.cell (p := ⟨b, off + k * 2 + 1, none⟩) hbw).trans HX1.out
            have x0 := blk_cell HI3.out.box 0 (v := .string (ba f.1)) rfl
            have x1 := blk_cell HI3.out.box 1 (v := .string (ba f.2)) rfl
            clear hown3 hgrow3 hnil3
            go_quiet (fail)
            go_wp2
            go_roundw
            case rel => exact ⟨k + 1, by omega, by go_num, by rw [HS2.out], Lib.hid (by rw [HS2.out]; exact wi_drew HI3.out _)⟩
            case measure => simp [intOf]; omega
          | false =>
            have HS2 := Lib.hid (show (l.take (k + 1)).foldl (wstF f) ([], true) = (out, false) by rw [HST.out]; simp [wstF, hbv, hne, WideAt.bytes_irrefl])
            clear hne hbv HST HA
            go_upto_region 6 with (fail)
            go_quiet (fail)
            go_upto_region 9 with (fail)
            go_quiet (fail)
            go_wp2
            go_roundw
            case rel => exact ⟨k + 1, by omega, by go_num, by rw [HS2.out], Lib.hid (by rw [HS2.out]; exact wi_drew hI.out _)⟩
            case measure => simp [intOf]; omega
        · rw [decide_eq_false hne] at e1
          cases pb with
          | true =>
            have HS2 := Lib.hid (show (l.take (k + 1)).foldl (wstF f) ([], true) = ((out ++ [f]) ++ [x], false) by rw [HST.out]; simp [wstF, hbv, hne, WideAt.bytes_irrefl])
            clear hne hbv HST HA
            go_upto_region 6 with (fail)
            go_quiet (fail)
            go_upto_region 9 with (at_builtin; refine wpList_append_own _ rfl _ _ 22 rfl (w.heap.size + 1) 46 i1 _ 2 32 Tryz.underlying22 hi1 hz1 hs1 hb1 rfl (by decide) _ _ _ rfl (wi_row hI.out _ _) _ 1 1 (f13C f) rfl rfl (fnews _ f _) (fone f) (by unfold maxLen; (try simp only [List.length_append, List.length_cons, List.length_nil]); omega) (by (try simp only [List.length_append, List.length_cons, List.length_nil]); omega) (wi_base hI.out _ _) ?_; intro v3 w3 hown3 hgrow3 hnil3)
            have HI3 := Lib.hid (wi_app hI.out f hown3 hgrow3)
            have d0 := (HI3.out.below.cell (p := ⟨b, off + k * 2, none⟩) hbw).trans HX0.out
            have d1 := (HI3.out.below.cell (p := ⟨b, off + k * 2 + 1, none⟩) hbw).trans HX1.out
            have x0 := blk_cell HI3.out.box 0 (v := .string (ba f.1)) rfl
            have x1 := blk_cell HI3.out.box 1 (v := .string (ba f.2)) rfl
            clear hown3 hgrow3 hnil3
            go_quiet (fail)
            go_wp2_with (at_builtin; refine wpList_append_own _ rfl _ _ 22 rfl (w.heap.size + 1) 46 i1 _ 2 32 Tryz.underlying22 hi1 hz1 hs1 hb1 rfl (by decide) _ _ _ rfl (wi_row HI3.out _ _) _ 1 1 (f13C x) rfl rfl (fnews _ x _) (fone x) (by unfold maxLen; (try simp only [List.length_append, List.length_cons, List.length_nil]); omega) (by (try simp only [List.length_append, List.length_cons, List.length_nil]); omega) (wi_base HI3.out _ _) ?_; intro v4 w4 hown4 hgrow4 hnil4)
            have HI4 := Lib.hid (wi_app HI3.out x hown4 hgrow4)
            clear hown4 hgrow4 hnil4
            go_roundw
            case rel => exact ⟨k + 1, by omega, by go_num, by rw [HS2.out], Lib.hid (by rw [HS2.out]; exact HI4.out)⟩
            case measure => simp [intOf]; omega
          | false =>
            have HS2 := Lib.hid (show (l.take (k + 1)).foldl (wstF f) ([], true) = (out ++ [x], false) by rw [HST.out]; simp [wstF, hbv, hne, WideAt.bytes_irrefl])
            clear hne hbv HST HA
            go_upto_region 6 with (fail)
            go_quiet (fail)
            go_upto_region 9 with (fail)
            go_quiet (fail)
            go_wp2_with (at_builtin; refine wpList_append_own _ rfl _ _ 22 rfl (w.heap.size + 1) 46 i1 _ 2 32 Tryz.underlying22 hi1 hz1 hs1 hb1 rfl (by decide) _ _ _ rfl (wi_row hI.out _ _) _ 1 1 (f13C x) rfl rfl (fnews _ x _) (fone x) (by unfold maxLen; (try simp only [List.length_append, List.length_cons, List.length_nil]); omega) (by (try simp only [List.length_append, List.length_cons, List.length_nil]); omega) (wi_base hI.out _ _) ?_; intro v4 w4 hown4 hgrow4 hnil4)
            have HI4 := Lib.hid (wi_app hI.out x hown4 hgrow4)
            clear hown4 hgrow4 hnil4
            go_roundw
            case rel => exact ⟨k + 1, by omega, by go_num, by rw [HS2.out], Lib.hid (by rw [HS2.out]; exact HI4.out)⟩
            case measure => simp [intOf]; omega
    · have t1 : ¬ (k : Int) < len := by omega
      have hw : (l.take k) = l := List.take_of_length_le (by have := HL.out; omega)
      rw [hw] at hI hln2 ⊢
      have HWE := Lib.hid (show witF l f = wendF f (l.foldl (wstF f) ([], true)) from rfl)
      clear hw
      generalize l.foldl (wstF f) ([], true) = st at *
      obtain ⟨out, pb⟩ := st
      simp only at hI hln2 ⊢
      cases pb with
      | false =>
        obtain ⟨a', cap', rfl, -, hF⟩ := fls_of_own hI.out.own
        have HF := Lib.hid (show _ ∧ _ from ⟨hF, news_mono (news_own hI.out.own) (Nat.le_succ _)⟩)
        clear hF
        go_wp2
        go_ret
        unfold FlsQ
        rw [HWE.out]
        exact ⟨_, _, rfl, HF.out, hI.out.below⟩
      | true =>
        have x0 := blk_cell hI.out.box 0 (v := .string (ba f.1)) rfl
        have x1 := blk_cell hI.out.box 1 (v := .string (ba f.2)) rfl
        go_wp2_with (at_builtin; refine wpList_append_own _ rfl _ _ 22 rfl (w.heap.size + 1) 46 i1 _ 2 32 Tryz.underlying22 hi1 hz1 hs1 hb1 rfl (by decide) _ _ _ rfl (wi_row0 hI.out _) _ 1 1 (f13C f) rfl rfl (fnews _ f _) (fone f) (by unfold maxLen; (try simp only [List.length_append, List.length_cons, List.length_nil]); omega) (by (try simp only [List.length_append, List.length_cons, List.length_nil]); omega) (wi_base0 hI.out _) ?_; intro v3 w3 hown3 hgrow3 hnil3)
        have HI3 := Lib.hid (wi_app0 hI.out f hown3 hgrow3)
        clear hown3 hgrow3 hnil3
        go_ret
        unfold FlsQ
        rw [HWE.out]
        obtain ⟨a', cap', e, -, hF⟩ := fls_of_own HI3.out.own
        have ho := HI3.out.own
        rw [e] at ho
        exact ⟨_, _, congrArg _ e, ⟨hF, news_mono (news_own ho) (Nat.le_succ _)⟩, HI3.out.below⟩
end Go.Proofs.YthfebcfdhmihcaaGreatDoor

namespace Go.Proofs.YthfebcfdhmihcaaGreatDoor
open Go.RowKit

theorem rdG_bd5 : ∀ (f : Nat) (s : List UInt8) (j : Q11), 520 * j.L.length + s.length ≤ 1048576 → 0 ≤ j.p ∧ j.p ≤ 2000 → 520 * (rdG f s j).1.L.length ≤ 1048576 ∧ 0 ≤ (rdG f s j).1.p ∧ (rdG f s j).1.p ≤ 2000 := by
  intro f
  induction f with
  | zero => intro s j h hp; exact ⟨by show 520 * j.L.length ≤ _; omega, hp⟩
  | succ f ih =>
    intro s j h hp
    rw [rdG]
    cases hf : fsS s with
    | none => exact ⟨by show 520 * j.L.length ≤ _; omega, hp⟩
    | some g =>
      simp only
      split
      · exact ⟨by show 520 * j.L.length ≤ _; omega, hp⟩
      · obtain ⟨hgp, -, -, h1, h2⟩ := fsS_ok hf
        refine ih _ _ ?_ hgp
        have := addR_len g.L j.L
        rw [h1, List.length_drop]
        show 520 * (addR j.L g.L).length + _ ≤ _
        omega
theorem rdJ_ok {s : List UInt8} (h : s.length ≤ 1048576) : (rdJ s).L.length ≤ 4096 ∧ 0 ≤ (rdJ s).p ∧ (rdJ s).p ≤ 2000 := by
  obtain ⟨h1, h2⟩ := rdG_bd5 (s.length + 1) s ⟨0, 0, []⟩ (by simpa using h) ⟨Int.le_refl _, by decide⟩
  refine ⟨?_, h2⟩
  show (rdG (s.length + 1) s ⟨0, 0, []⟩).1.L.length ≤ 4096
  omega
theorem apD_len (p : Int) (L : List R11) (s : List UInt8) : (apD p L s).length ≤ 1024000 := by
  rw [apD_eq, apL_len]
  have := clN_le p
  omega
theorem wst_mem {f y : F13} : ∀ (l : List F13) (a : List F13 × Bool), y ∈ (l.foldl (wstF f) a).1 → y ∈ a.1 ∨ y = f ∨ y ∈ l
  | [], _, h => .inl h
  | x :: t, a, h => by
    rw [List.foldl_cons] at h
    rcases wst_mem t _ h with h | h | h
    · unfold wstF at h
      simp only [List.mem_append] at h
      rcases h with (h | h) | h
      · exact .inl h
      · split at h
        · exact .inr (.inl (by simpa using h))
        · cases h
      · split at h
        · cases h
        · exact .inr (.inr (by simp at h; simp [h]))
    · exact .inr (.inl h)
    · exact .inr (.inr (List.mem_cons_of_mem _ h))
theorem wit_mem {l : List F13} {f y : F13} (h : y ∈ witF l f) : y = f ∨ y ∈ l := by
  unfold witF wendF at h
  split at h
  · rcases List.mem_append.1 h with h | h
    · rcases wst_mem l _ h with h | h
      · cases h
      · exact h
    · exact .inl (by simpa using h)
  · rcases wst_mem l _ h with h | h
    · cases h
    · exact h
theorem wto_mem {l : List F13} {p : List UInt8} {y : F13} (h : y ∈ wtoF l p) : y ∈ l := (List.mem_filter.1 h).1
theorem hot_mem {l : List F13} {p : List UInt8} {y : F13} (h : y ∈ hotL l p) : (y.1 = p ∧ y.2.length ≤ 1024000) ∨ y ∈ l := by
  unfold hotL at h
  split at h
  · rcases wit_mem h with rfl | h
    · exact .inl ⟨rfl, apD_len _ _ _⟩
    · exact .inr h
  · exact .inr h
theorem wit_len (l : List F13) (f : F13) : (witF l f).length ≤ 2 * l.length + 1 := by
  have := wst_len f l ([], true)
  unfold witF wendF
  simp only [List.length_nil] at this
  split
  · rw [List.length_append]; simp only [List.length_cons, List.length_nil]; omega
  · omega
theorem hot_len (l : List F13) (p : List UInt8) : (hotL l p).length ≤ 2 * l.length + 1 := by
  unfold hotL
  split
  · exact wit_len _ _
  · omega
theorem gst_snoc (l L0 : List F13) (p : List UInt8) {M : List F13} {k : Nat} (hk : k < M.length) : (M.take (k + 1)).foldl (gstF l p) L0 = gstF l p ((M.take k).foldl (gstF l p) L0) M[k] := by
  rw [List.take_succ_eq_append_getElem hk, List.foldl_append]; rfl
theorem gst_len (l : List F13) (p : List UInt8) : ∀ (M L0 : List F13), (M.foldl (gstF l p) L0).length ≤ L0.length
  | [], _ => Nat.le_refl _
  | x :: t, L0 => by
    rw [List.foldl_cons]
    refine Nat.le_trans (gst_len l p t _) ?_
    unfold gstF
    split
    · exact wto_len _ _
    · exact Nat.le_refl _
end Go.Proofs.YthfebcfdhmihcaaGreatDoor

namespace Go.Proofs.YthfebcfdhmihcaaGreatDoor
open Go.RowKit
variable {P : Nat → Prop} {ea : Addr} {b n m : Nat} {l : List F13} {Q : PQ} {w : World}

theorem rdJ_s (d : List UInt8) : (rdJ d).s.length ≤ 40 := by
  unfold rdJ endJ
  simp only
  split
  · unfold namS
    split
    · simp only
      unfold nmP pthP
      split
      · simp
      · simp only [List.length_take]; omega
    · simp
  · simp
theorem hot_n2 {l : List F13} {d : List UInt8} (h : 0 < (rdJ d).k) (he : (rdJ d).s ≠ []) : hotF l d = (lookF l (rdJ d).s).isSome := by
  unfold hotF
  rw [decide_eq_true h, show ((rdJ d).s == []) = false by simpa using he]
  rfl
theorem hcounts_any (h : Dk P ea b n m l Q w) (d : List UInt8) (a : Option Addr) (cap : Nat) :
    Calls Tryz.prog 30 #[.pointer (some ⟨b, 0, none⟩), .agg (jrnV d a cap)] w fun e w' => e = .returned (.bool (hotF l d)) ∧ Below w.heap.size w w' := by
  have hsl := rdJ_s d
  have hh0 : ¬ 0 < (rdJ d).k → hotF l d = false := hot_k
  have hh1 : 0 < (rdJ d).k → (rdJ d).s = [] → hotF l d = true := hot_e
  have hh2 : 0 < (rdJ d).k → (rdJ d).s ≠ [] → hotF l d = (lookF l (rdJ d).s).isSome := hot_n2
  unfold jrnV
  generalize hotF l d = H at *
  have kv := fun W (hd : Dk P ea b n m l Q W) => hvisible_any hd (rdJ d).s (by omega)
  generalize rdJ d = J at *
  obtain ⟨K, p, R, s⟩ := J
  simp only at *
  have HD := Lib.hid h
  clear h
  have HB := Lib.hid (blw1 w (.cells #[.int .i64 (K : Int), .int .i64 p, .slice a R.length cap, .string (ba s)] 55))
  by_cases g1 : 0 < K
  · have g1' : (0 : Int) < (K : Int) := by omega
    by_cases g2 : s = []
    · obtain rfl := hh1 g1 g2
      have te' : (ba s).toList = [] := by rw [ByteArray.toList_eq, ba_list, g2]
      have te : (ba s).toList.isEmpty = true := by rw [te']; rfl
      clear hh0 hh1 hh2 kv g2 hsl
      generalize ba s = X at *
      go_enter Tryz.func30, Tryz.ntmps30
      go_wp2
      go_ret
      exact ⟨rfl, HB.out⟩
    · obtain rfl := hh2 g1 g2
      have te' : (ba s).toList ≠ [] := by rw [ByteArray.toList_eq, ba_list]; exact g2
      have te : (ba s).toList.isEmpty = false := by
        cases e : (ba s).toList with
        | nil => exact absurd e te'
        | cons _ _ => rfl
      clear hh0 hh1 hh2 g2 hsl
      generalize ba s = X at *
      go_enter Tryz.func30, Tryz.ntmps30
      go_wp2_with (go_at_call 34; (with_reducible refine (kv _ (dk_alloc HD.out _)).mono ?_); rintro e w1 ⟨rfl, rfl⟩)
      go_ret
      exact ⟨rfl, HB.out⟩
  · obtain rfl := hh0 g1
    have g1' : ¬ (0 : Int) < (K : Int) := by omega
    clear hh0 hh1 hh2 kv hsl
    go_enter Tryz.func30, Tryz.ntmps30
    go_wp2
    go_ret
    exact ⟨rfl, HB.out⟩

/-- What a look leaves: the disk with one more counted call. -/
def LookQ (P : Nat → Prop) (ea : Addr) (b n m : Nat) (l : List F13) (Q : PQ) (x : Value) (w : World) (e : Ending) (w' : World) : Prop := e = .returned x ∧ Dk P ea b n m l Q w' ∧ Fr P w w'
theorem sta_none {l : List F13} {p : List UInt8} (h : lookF l (p ++ jx) = none) : staF l p = 0 := by unfold staF; rw [h]
theorem sta_some {l : List F13} {p d : List UInt8} (h : lookF l (p ++ jx) = some d) : staF l p = if hotF l d = true then 1 else 2 := by unfold staF; rw [h]
theorem hstate_any (h : Dk P ea b n m l Q w) (p : List UInt8) (hp : p.length ≤ 999000) (hm : SmlF l) (hn : n + 1 ≤ 100000) :
    Calls Tryz.prog 9 #[.pointer (some ⟨b, 0, none⟩), .string (ba p)] w (LookQ P ea b (n + 1) m l Q (.tuple #[.int .i64 (staF l p), .int .i64 0]) w) := by
  unfold LookQ
  cases hx : lookF l (p ++ jx) with
  | none =>
    have HJ := Lib.hid (journalOf_none h p hp hx)
    have kab := fun W (hb : Below w.heap.size w W) => (dk_below h hb).gl.ab
    have ki := fun W => is_same ea W
    have HD := Lib.hid (fun W (hb : Below w.heap.size w W) => (⟨dk_up (dk_below h hb) (Nat.le_succ n) hn, dk_fr h hb⟩ : Dk P ea b (n + 1) m l Q W ∧ Fr P w W))
    rw [sta_none hx]
    clear h hx hm
    unfold zJrn at HJ
    go_enter Tryz.func9, Tryz.ntmps9
    go_wp2_with (first
      | (go_at_call 27; (with_reducible refine HJ.out.mono ?_); rintro e w1 ⟨rfl, hB⟩; have HB := Lib.hid hB; have hab := cell_alloc (kab w1 hB) (.cells #[.int .i64 0, .int .i64 0, .slice none 0 0, .string ⟨#[]⟩] 55); clear hB)
      | (go_at_call 28; (with_reducible refine (ki _).mono ?_); rintro e w2 ⟨rfl, rfl⟩))
    go_ret2
    exact ⟨rfl, HD.out _ (HB.out.alloc HB.out.size _)⟩
  | some d =>
    obtain ⟨f, hf, -, hfd⟩ := look_mem hx
    have HJ := Lib.hid (journalOf_some h p d hp hx (by rw [← hfd]; exact hm f hf) hn)
    have ki := fun W => is_nil ea W
    have HLT := Lib.hid h.lt
    have HGP := Lib.hid h.gn
    rw [sta_some hx]
    obtain ⟨H, hH⟩ : ∃ H, H = hotF l d := ⟨_, rfl⟩
    have kc := fun W (P' : Nat → Prop) (a : Option Addr) (cap : Nat) (hD : Dk P' ea b (n + 1) m l Q W) => hcounts_any hD d a cap
    rw [← hH] at kc ⊢
    unfold JofQ at HJ
    unfold jrnV at HJ kc
    generalize rdJ d = J at *
    obtain ⟨K, pg, R0, s⟩ := J
    simp only at HJ kc
    clear h hx hm hf hfd hH
    go_enter Tryz.func9, Tryz.ntmps9
    go_wp2_with (first
      | (go_at_call 27; (with_reducible refine HJ.out.mono ?_); rintro e w1 ⟨a, cap, R, rfl, hD, hF, -, -⟩; have HD := Lib.hid hD; have HF := Lib.hid hF; have hab := cell_alloc hD.gl.ab (.cells #[.int .i64 (K : Int), .int .i64 pg, .slice a R0.length cap, .string (ba s)] 55); clear hD hF)
      | (go_at_call 28; (with_reducible refine (ki _).mono ?_); rintro e w2 ⟨rfl, rfl⟩)
      | (go_at_call 30; (with_reducible refine (kc _ _ _ _ (dk_alloc HD.out _)).mono ?_); rintro e w3 ⟨rfl, hB⟩; have HB := Lib.hid (blw_new hB); clear hB))
    all_goals go_ret2
    all_goals exact ⟨by first | rfl | simp_all, dk_less (dk_below HD.out HB.out) (fun k hk => .inl hk) HGP.out, HF.out.trans (dk_fr (dk_less HD.out (fun k hk => .inl hk) HGP.out) HB.out)⟩
end Go.Proofs.YthfebcfdhmihcaaGreatDoor

namespace Go.Proofs.YthfebcfdhmihcaaGreatDoor
open Go.RowKit
variable {P : Nat → Prop} {ea : Addr} {b n m : Nat} {l : List F13} {Q : PQ} {w : World}

/-- The cells of a recovery. -/
def rcC (b : Nat) (p : List UInt8) (j0 j1 j2 j3 : Value) (hot cr : Bool) : Array Value := #[.pointer (some ⟨b, 0, none⟩), .string (ba p), j0, j1, j2, j3, .bool hot, .bool cr]
/-- What a step that goes well leaves. -/
def NilQ (P : Nat → Prop) (ea : Addr) (b n m : Nat) (l : List F13) (Q : PQ) (w : World) (e : Ending) (w' : World) : Prop := e = .returned .nilIface ∧ Dk P ea b n m l Q w' ∧ Fr P w w'

theorem syncdir_any {rb : Nat} {p : List UInt8} {j0 j1 j2 j3 : Value} {hot cr : Bool} (h : Dk P ea b n m l QD w) (hr : Blk w rb 79 (rcC b p j0 j1 j2 j3 hot cr)) (hn : n + 2 + m ≤ 100000) :
    Calls Tryz.prog 45 #[.pointer (some ⟨rb, 0, none⟩)] w (NilQ P ea b (n + 1 + m) 0 l QN w) := by
  unfold NilQ
  have c0 := blk_cell hr 0 (v := .pointer (some ⟨b, 0, none⟩)) rfl
  have HS := Lib.hid (dk_dirsync h hn)
  have hf := fun W => hfailing_ok W
  unfold DkQ at HS
  clear h hr
  go_enter Tryz.func45, Tryz.ntmps45
  go_wp2_with (first
    | (go_at_call 26; (with_reducible refine HS.out.mono ?_); rintro e w1 ⟨rfl, hD, hF⟩; have HD := Lib.hid hD; have HF := Lib.hid hF; clear hD hF)
    | (go_at_call 87; (with_reducible refine (hf _).mono ?_); rintro e w2 ⟨rfl, rfl⟩))
  go_ret
  exact ⟨rfl, HD.out, HF.out⟩
set_option maxRecDepth 100000 in
theorem syncjour_any {rb : Nat} {p d : List UInt8} {j0 j1 j2 j3 : Value} {hot cr : Bool} (h : Dk P ea b n m l QD w) (hr : Blk w rb 79 (rcC b p j0 j1 j2 j3 hot cr)) (hp : p.length ≤ 999000) (hx : lookF l (p ++ jx) = some d) (hn : n + 2 + m ≤ 100000) :
    Calls Tryz.prog 89 #[.pointer (some ⟨rb, 0, none⟩)] w (NilQ P ea b (n + 1 + m) m l QD w) := by
  unfold NilQ
  have c0 := blk_cell hr 0 (v := .pointer (some ⟨b, 0, none⟩)) rfl
  have c1 := blk_cell hr 1 (v := .string (ba p)) rfl
  have hjl : (p ++ jx).length ≤ 1000000 := by rw [List.length_append]; have : jx.length = 2 := rfl; omega
  have HS := Lib.hid (dk_syncF (p ++ jx) d (dk_toF (dk_drew h) (p ++ jx) d hx) hjl hx hn)
  have hf := fun W => hfailing_ok W
  have q1 := fun W => (hjournal_any p (by omega) W)
  have HFR := Lib.hid (fun W (hF : Fr P w.drew W) => (⟨hF.os, hF.tape, hF.output, hF.size, hF.blk⟩ : Fr P w W))
  unfold DkQ at HS
  clear h hr
  go_enter Tryz.func89, Tryz.ntmps89
  go_upto_region 1 with (fail)
  refine wp_region_still_tail 9 (by kernel_rfl) (by kernel_rfl) ?_
  simp only [List.take_succ_cons, List.take_zero, List.drop_succ_cons, List.drop_zero]
  still_step
  still_step
  still_step
  still_step
  still_step
  still_step
  still_step
  still_step
  still_call (q1 _)
  refine wpStill_nil ?_
  change wpList _ _ _ _ _ w.drew
  clear c0 c1
  generalize w.drew = W at HS HFR ⊢
  go_wp2_with (first
    | (go_at_call 25; (with_reducible refine HS.out.mono ?_); rintro e w1 ⟨rfl, hD, hF⟩; have HD := Lib.hid hD; have HF := Lib.hid hF; clear hD hF)
    | (go_at_call 87; (with_reducible refine (hf _).mono ?_); rintro e w2 ⟨rfl, rfl⟩))
  go_ret
  exact ⟨rfl, HD.out, HFR.out _ HF.out⟩
set_option maxRecDepth 100000 in
theorem syncfile_any {rb : Nat} {p x : List UInt8} {j0 j1 j2 j3 : Value} {hot cr : Bool} (h : Dk P ea b n m l (QF p) w) (hr : Blk w rb 79 (rcC b p j0 j1 j2 j3 hot cr)) (hp : p.length ≤ 999000) (hx : lookF l p = some x) (hn : n + 2 + m ≤ 100000) :
    Calls Tryz.prog 123 #[.pointer (some ⟨rb, 0, none⟩)] w (NilQ P ea b (n + 1 + m) m l QD w) := by
  unfold NilQ
  have c0 := blk_cell hr 0 (v := .pointer (some ⟨b, 0, none⟩)) rfl
  have c1 := blk_cell hr 1 (v := .string (ba p)) rfl
  have HS := Lib.hid (dk_syncF p x (dk_drew h) (by omega) hx hn)
  have hf := fun W => hfailing_ok W
  have HFR := Lib.hid (fun W (hF : Fr P w.drew W) => (⟨hF.os, hF.tape, hF.output, hF.size, hF.blk⟩ : Fr P w W))
  unfold DkQ at HS
  clear h hr
  go_enter Tryz.func123, Tryz.ntmps123
  go_upto_region 1 with (fail)
  refine wp_region_still_tail 8 (by kernel_rfl) (by kernel_rfl) ?_
  simp only [List.take_succ_cons, List.take_zero, List.drop_succ_cons, List.drop_zero]
  still_step
  still_step
  still_step
  still_step
  still_step
  still_step
  still_step
  still_step
  refine wpStill_nil ?_
  change wpList _ _ _ _ _ w.drew
  clear c0 c1
  generalize w.drew = W at HS HFR ⊢
  go_wp2_with (first
    | (go_at_call 25; (with_reducible refine HS.out.mono ?_); rintro e w1 ⟨rfl, hD, hF⟩; have HD := Lib.hid hD; have HF := Lib.hid hF; clear hD hF)
    | (go_at_call 87; (with_reducible refine (hf _).mono ?_); rintro e w2 ⟨rfl, rfl⟩))
  go_ret
  exact ⟨rfl, HD.out, HFR.out _ HF.out⟩
set_option maxRecDepth 100000 in
/-- The closure of a deletion: r lies in a box at g1, the path in a box at g2. -/
theorem del1_any {rb g1 g2 : Nat} {p q x : List UInt8} {j0 j1 j2 j3 : Value} {hot cr : Bool} (h : Dk P ea b n m l QD w) (hr : Blk w rb 79 (rcC b p j0 j1 j2 j3 hot cr)) (h1 : w.cell? ⟨g1, 0, none⟩ = some (.pointer (some ⟨rb, 0, none⟩))) (h2 : w.cell? ⟨g2, 0, none⟩ = some (.string (ba q)))
    (hq : q.length ≤ 1000000) (hx : lookF l q = some x) (hn : n + 3 ≤ 100000) :
    Calls Tryz.prog 125 #[.pointer (some ⟨g1, 0, none⟩), .pointer (some ⟨g2, 0, none⟩)] w (NilQ P ea b (n + 3) (m + 1) (wtoF l q) QD w) := by
  unfold NilQ
  have c0 := blk_cell hr 0 (v := .pointer (some ⟨b, 0, none⟩)) rfl
  have HS := Lib.hid (dk_delete (dk_drew h) q x hq hx hn)
  have hf := fun W => hfailing_ok W
  have HFR := Lib.hid (fun W (hF : Fr P w.drew W) => (⟨hF.os, hF.tape, hF.output, hF.size, hF.blk⟩ : Fr P w W))
  unfold DkQ at HS
  clear h hr
  go_enter Tryz.func125, Tryz.ntmps125
  go_upto_region 1 with (fail)
  refine wp_region_still_tail 5 (by kernel_rfl) (by kernel_rfl) ?_
  simp only [List.take_succ_cons, List.take_zero, List.drop_succ_cons, List.drop_zero]
  still_step
  still_step
  still_step
  still_step
  still_step
  refine wpStill_nil ?_
  change wpList _ _ _ _ _ w.drew
  clear c0 h1 h2
  generalize w.drew = W at HS HFR ⊢
  go_wp2_with (first
    | (go_at_call 126; (with_reducible refine HS.out.mono ?_); rintro e w1 ⟨rfl, hD, hF⟩; have HD := Lib.hid hD; have HF := Lib.hid hF; clear hD hF)
    | (go_at_call 87; (with_reducible refine (hf _).mono ?_); rintro e w2 ⟨rfl, rfl⟩))
  go_ret
  exact ⟨rfl, HD.out, HFR.out _ HF.out⟩
set_option maxRecDepth 100000 in
theorem synccr_no {rb : Nat} {p : List UInt8} {j0 j1 j2 j3 : Value} {hot : Bool} (hr : Blk w rb 79 (rcC b p j0 j1 j2 j3 hot false)) :
    Calls Tryz.prog 124 #[.pointer (some ⟨rb, 0, none⟩)] w fun e w' => e = .returned .nilIface ∧ w' = w := by
  have c7 := blk_cell hr 7 (v := .bool false) rfl
  clear hr
  go_enter Tryz.func124, Tryz.ntmps124
  go_wp2
  go_ret
  exact ⟨rfl, rfl⟩
set_option maxRecDepth 100000 in
theorem synccr_yes {rb : Nat} {p : List UInt8} {j0 j1 j2 j3 : Value} {hot : Bool} (h : Dk P ea b n m l QD w) (hr : Blk w rb 79 (rcC b p j0 j1 j2 j3 hot true)) (hn : n + 2 + m ≤ 100000) :
    Calls Tryz.prog 124 #[.pointer (some ⟨rb, 0, none⟩)] w (NilQ P ea b (n + 1 + m) 0 l QN w) := by
  have c7 := blk_cell hr 7 (v := .bool true) rfl
  have HS := Lib.hid (syncdir_any h hr hn)
  unfold NilQ at *
  clear h hr
  go_enter Tryz.func124, Tryz.ntmps124
  go_wp2_with (go_at_call 45; (with_reducible refine HS.out.mono ?_); rintro e w1 ⟨rfl, hD, hF⟩; have HD := Lib.hid hD; have HF := Lib.hid hF; clear hD hF)
  go_ret
  exact ⟨rfl, HD.out, HF.out⟩
set_option maxRecDepth 100000 in
theorem create_there {rb : Nat} {p x : List UInt8} {j0 j1 j2 j3 : Value} {hot cr : Bool} (h : Dk P ea b n m l Q w) (hr : Blk w rb 79 (rcC b p j0 j1 j2 j3 hot cr)) (hp : p.length ≤ 999000) (hx : lookF l p = some x) :
    Calls Tryz.prog 121 #[.pointer (some ⟨rb, 0, none⟩)] w fun e w' => e = .returned .nilIface ∧ Below w.heap.size w w' := by
  have c0 := blk_cell hr 0 (v := .pointer (some ⟨b, 0, none⟩)) rfl
  have c1 := blk_cell hr 1 (v := .string (ba p)) rfl
  have hv := hvisible_any (dk_drew h) p (by omega)
  rw [hx] at hv
  have HV := Lib.hid hv
  clear h hr hv
  go_enter Tryz.func121, Tryz.ntmps121
  go_upto_region 1 with (fail)
  refine wp_region_still_tail 8 (by kernel_rfl) (by kernel_rfl) ?_
  simp only [List.take_succ_cons, List.take_zero, List.drop_succ_cons, List.drop_zero]
  still_step
  still_step
  still_step
  still_step
  still_step
  still_step
  still_step
  still_step
  refine wpStill_nil ?_
  change wpList _ _ _ _ _ w.drew
  clear c0 c1
  have HBW := Lib.hid (show Below w.heap.size w w.drew from (Below.refl _ _).drew)
  generalize w.drew = W at HV HBW ⊢
  go_wp2_with (go_at_call 34; (with_reducible refine HV.out.mono ?_); rintro e w1 ⟨rfl, rfl⟩)
  go_ret
  exact ⟨rfl, HBW.out⟩
end Go.Proofs.YthfebcfdhmihcaaGreatDoor

namespace Go.Proofs.YthfebcfdhmihcaaGreatDoor
open Go.RowKit
variable {P : Nat → Prop} {ea : Addr} {b n m : Nat} {l : List F13} {Q : PQ} {w : World}

theorem fr_undrew {P : Nat → Prop} {v W : World} (h : Fr P v.drew W) : Fr P v W := ⟨h.os, h.tape, h.output, h.size, h.blk⟩
theorem fr_set {rb i : Nat} {v : Value} : Fr (fun k => P k ∧ k ≠ rb) w (w.setCell ⟨rb, i, none⟩ v) :=
  ⟨rfl, rfl, rfl, by simp, fun k hk => Below.heap_setCell _ _ _ _ hk.2⟩

set_option maxRecDepth 100000 in
theorem create_new {rb : Nat} {p : List UInt8} {j0 j1 j2 j3 : Value} {hot cr : Bool} (h : Dk P ea b n m l QD w) (hP : P rb) (hg : 6 ≤ rb) (hr : Blk w rb 79 (rcC b p j0 j1 j2 j3 hot cr)) (hp : p.length ≤ 999000) (hx : lookF l p = none) (hl : l.length < 60) (hb : pathB p = true) (hn : n + 3 ≤ 100000) :
    Calls Tryz.prog 121 #[.pointer (some ⟨rb, 0, none⟩)] w fun e w' => e = .returned .nilIface ∧ Dk P ea b (n + 3) (m + 1) (insF (p, []) l) QD w' ∧ Fr (fun k => P k ∧ k ≠ rb) w w' ∧ Blk w' rb 79 (rcC b p j0 j1 j2 j3 hot true) := by
  have c0 := blk_cell hr 0 (v := .pointer (some ⟨b, 0, none⟩)) rfl
  have c1 := blk_cell hr 1 (v := .string (ba p)) rfl
  have hv := hvisible_any (dk_drew h) p (by omega)
  rw [hx] at hv
  have HV := Lib.hid hv
  have hr1 : Blk w.drew rb 79 (rcC b p j0 j1 j2 j3 hot cr) := hr
  have hr2 := blk_set hr1 7 (.bool true)
  have hD2 := dk_drew (dk_keep (dk_drew h) hP hg (fun k hk => Below.heap_setCell w.drew ⟨rb, 7, none⟩ (.bool true) k hk) (by simp))
  have HS := Lib.hid (dk_create hD2 p (by omega) hx hl hb hn)
  unfold DkQ at HS
  have HFR := Lib.hid (fun W (hF : Fr P (w.drew.setCell ⟨rb, 7, none⟩ (.bool true)).drew W) => show Fr (fun k => P k ∧ k ≠ rb) w W from fr_undrew ((fr_set (P := P) (w := w.drew) (rb := rb) (i := 7) (v := .bool true)).trans (⟨hF.os, hF.tape, hF.output, hF.size, fun k hk => hF.blk k hk.1⟩ : Fr (fun k => P k ∧ k ≠ rb) (w.drew.setCell ⟨rb, 7, none⟩ (.bool true)) W)))
  have HBR := Lib.hid (fun W (hF : Fr P (w.drew.setCell ⟨rb, 7, none⟩ (.bool true)).drew W) => show Blk W rb 79 (rcC b p j0 j1 j2 j3 hot true) from (hF.blk rb hP).trans hr2)
  have z7 := blk_cell hr1 7 (v := .bool cr) rfl
  have f7 := blk_frozen hr1 7
  have d0 := blk_cell hr2 0 (v := .pointer (some ⟨b, 0, none⟩)) rfl
  have d1 := blk_cell hr2 1 (v := .string (ba p)) rfl
  have hf := fun W => hfailing_ok W
  clear h hr hr1 hr2 hD2 hv
  go_enter Tryz.func121, Tryz.ntmps121
  go_upto_region 1 with (fail)
  refine wp_region_still_tail 8 (by kernel_rfl) (by kernel_rfl) ?_
  simp only [List.take_succ_cons, List.take_zero, List.drop_succ_cons, List.drop_zero]
  still_step
  still_step
  still_step
  still_step
  still_step
  still_step
  still_step
  still_step
  refine wpStill_nil ?_
  change wpList _ _ _ _ _ w.drew
  clear c0 c1
  revert HV HS HFR HBR z7 f7 d0 d1
  generalize w.drew = W
  intro HV HS HFR HBR z7 f7 d0 d1
  go_upto_region 4 with (go_at_call 34; (with_reducible refine HV.out.mono ?_); rintro e w1 ⟨rfl, rfl⟩)
  clear z7 f7
  revert HS HFR HBR d0 d1
  generalize w1.setCell ⟨rb, 7, none⟩ (.bool true) = W2
  intro HS HFR HBR d0 d1
  refine wp_region_still_tail 8 (by kernel_rfl) (by kernel_rfl) ?_
  simp only [List.take_succ_cons, List.take_zero, List.drop_succ_cons, List.drop_zero]
  still_step
  still_step
  still_step
  still_step
  still_step
  still_step
  still_step
  still_step
  refine wpStill_nil ?_
  change wpList _ _ _ _ _ W2.drew
  clear d0 d1
  generalize W2.drew = W3 at HS HFR HBR ⊢
  go_wp2_with (first
    | (go_at_call 23; (with_reducible refine HS.out.mono ?_); rintro e w1 ⟨rfl, hD, hF⟩; have HD := Lib.hid hD; have HF := Lib.hid hF; clear hD hF)
    | (go_at_call 87; (with_reducible refine (hf _).mono ?_); rintro e w2 ⟨rfl, rfl⟩))
  go_ret
  exact ⟨rfl, HD.out, HFR.out _ HF.out, HBR.out _ HF.out⟩

set_option maxRecDepth 100000 in
theorem create_bad {rb : Nat} {p : List UInt8} {j0 j1 j2 j3 : Value} {hot cr : Bool} (h : Dk P ea b n m l QD w) (hP : P rb) (hg : 6 ≤ rb) (hr : Blk w rb 79 (rcC b p j0 j1 j2 j3 hot cr)) (hp : p.length ≤ 999000) (hx : lookF l p = none) (hb : pathB p = false) (hn : n + 3 ≤ 100000) :
    Calls Tryz.prog 121 #[.pointer (some ⟨rb, 0, none⟩)] w fun e w' => e = .returned (.iface 29 (.int .i64 13)) ∧ Dk P ea b (n + 3) m l QD w' ∧ Fr (fun k => P k ∧ k ≠ rb) w w' ∧ Blk w' rb 79 (rcC b p j0 j1 j2 j3 hot true) := by
  have c0 := blk_cell hr 0 (v := .pointer (some ⟨b, 0, none⟩)) rfl
  have c1 := blk_cell hr 1 (v := .string (ba p)) rfl
  have hv := hvisible_any (dk_drew h) p (by omega)
  rw [hx] at hv
  have HV := Lib.hid hv
  have hr1 : Blk w.drew rb 79 (rcC b p j0 j1 j2 j3 hot cr) := hr
  have hr2 := blk_set hr1 7 (.bool true)
  have hD2 := dk_drew (dk_keep (dk_drew h) hP hg (fun k hk => Below.heap_setCell w.drew ⟨rb, 7, none⟩ (.bool true) k hk) (by simp))
  have HS := Lib.hid (dk_create_bad hD2 p (by omega) hb hn)
  unfold DkQ at HS
  have HFR := Lib.hid (fun W (hF : Fr P (w.drew.setCell ⟨rb, 7, none⟩ (.bool true)).drew W) => show Fr (fun k => P k ∧ k ≠ rb) w W from fr_undrew ((fr_set (P := P) (w := w.drew) (rb := rb) (i := 7) (v := .bool true)).trans (⟨hF.os, hF.tape, hF.output, hF.size, fun k hk => hF.blk k hk.1⟩ : Fr (fun k => P k ∧ k ≠ rb) (w.drew.setCell ⟨rb, 7, none⟩ (.bool true)) W)))
  have HBR := Lib.hid (fun W (hF : Fr P (w.drew.setCell ⟨rb, 7, none⟩ (.bool true)).drew W) => show Blk W rb 79 (rcC b p j0 j1 j2 j3 hot true) from (hF.blk rb hP).trans hr2)
  have z7 := blk_cell hr1 7 (v := .bool cr) rfl
  have f7 := blk_frozen hr1 7
  have d0 := blk_cell hr2 0 (v := .pointer (some ⟨b, 0, none⟩)) rfl
  have d1 := blk_cell hr2 1 (v := .string (ba p)) rfl
  have hf := fun W => hfailing_no 13 (by decide) W
  clear h hr hr1 hr2 hD2 hv
  go_enter Tryz.func121, Tryz.ntmps121
  go_upto_region 1 with (fail)
  refine wp_region_still_tail 8 (by kernel_rfl) (by kernel_rfl) ?_
  simp only [List.take_succ_cons, List.take_zero, List.drop_succ_cons, List.drop_zero]
  still_step
  still_step
  still_step
  still_step
  still_step
  still_step
  still_step
  still_step
  refine wpStill_nil ?_
  change wpList _ _ _ _ _ w.drew
  clear c0 c1
  revert HV HS HFR HBR z7 f7 d0 d1
  generalize w.drew = W
  intro HV HS HFR HBR z7 f7 d0 d1
  go_upto_region 4 with (go_at_call 34; (with_reducible refine HV.out.mono ?_); rintro e w1 ⟨rfl, rfl⟩)
  clear z7 f7
  revert HS HFR HBR d0 d1
  generalize w1.setCell ⟨rb, 7, none⟩ (.bool true) = W2
  intro HS HFR HBR d0 d1
  refine wp_region_still_tail 8 (by kernel_rfl) (by kernel_rfl) ?_
  simp only [List.take_succ_cons, List.take_zero, List.drop_succ_cons, List.drop_zero]
  still_step
  still_step
  still_step
  still_step
  still_step
  still_step
  still_step
  still_step
  refine wpStill_nil ?_
  change wpList _ _ _ _ _ W2.drew
  clear d0 d1
  generalize W2.drew = W3 at HS HFR HBR ⊢
  go_wp2_with (first
    | (go_at_call 23; (with_reducible refine HS.out.mono ?_); rintro e w1 ⟨rfl, hD, hF⟩; have HD := Lib.hid hD; have HF := Lib.hid hF; clear hD hF)
    | (go_at_call 87; (with_reducible refine (hf _).mono ?_); rintro e w2 ⟨rfl, rfl⟩))
  go_ret
  exact ⟨rfl, HD.out, HFR.out _ HF.out, HBR.out _ HF.out⟩
end Go.Proofs.YthfebcfdhmihcaaGreatDoor
