/-
  Layer 12: Dirty of the program: the numbers of the dirty pages, sorted, in a slice of its own. Condition: the lists have at most 499999 elements.
-/
import Derived.Test.YtkpgekfejfbpjaaCchGet
import Derived.Test.YtkpgekfejfbpjaaShelf
import Derived.Sort.OwnSortedInts
import Derived.OwnWalk
namespace Go.Proofs.Ytkpgekfejfbpjaa
open Go.RowKit
variable {L : CL} {ρ ρ' : Nat → Option CRole} {S : CS} {A : AP} {w w' : World}

theorem infoI : ∃ i, Try.prog.info? 3 = some i ∧ i.zero = some (.int .i64 0) ∧ i.size = 1 ∧ i.bytes = 8 := by
  have h : (Try.prog.info? 3).map (fun i => (i.zero, i.size, i.bytes)) = some (some (.int .i64 0), 1, 8) := by kernel_rfl
  obtain ⟨i, hi, hz⟩ := Option.map_eq_some_iff.1 h
  simp only [Prod.mk.injEq] at hz
  exact ⟨i, hi, hz⟩
def intC (x : Int) : Value := .int .i64 x
def sliceLen : Value → Nat
  | .slice _ n _ => n
  | _ => 0
theorem own_len {base : Nat} {e : TypeId} {size : Nat} {v : Value} {n : Nat} {xs : List Value} (h : w.ownsRow base e size v n xs) : sliceLen v = n := by
  rcases h.2 with ⟨rfl, rfl⟩ | ⟨g, cap, cur, rfl, -⟩ <;> rfl
theorem own_below {base : Nat} {e : TypeId} {size : Nat} {v : Value} {n : Nat} {xs : List Value} (h : w.ownsRow base e size v n xs) (hb : Below w.heap.size w w') : w'.ownsRow base e size v n xs :=
  h.kept (row := none) ⟨hb.os, hb.tape, hb.output, hb.size, fun k hk _ => hb.block k hk⟩ (Classical.em _)
theorem below_own {W W' : World} {e : TypeId} {size : Nat} {v : Value} {n : Nat} {xs : List Value} (h : Below w.heap.size w W) (ho : W.ownsRow w.heap.size e size v n xs) (hg : W.grownBy W' v.ownBlock) : Below w.heap.size w W' :=
  h.grown hg h.size (fun k e => (ho.lt k e).1)
theorem newsI (W : World) (x : Value) (t : TypeId) : ∀ j u, [x][j]? = some u → (W.alloc (.cells #[x] t)).cell? ((⟨W.heap.size, 0, none⟩ : Addr).add j) = some u := fun j u hu => by
  have hj : j = 0 := by
    have := (List.getElem?_eq_some_iff.1 hu).1
    simp at this
    exact this
  subst hj
  simp at hu
  subst hu
  exact blk_cell (blk_new W t #[x]) 0 rfl
theorem oneI (z : Int) : ∀ u ∈ [Value.int .i64 z], u.oneCell' = true := by
  intro u hu
  rw [List.mem_singleton] at hu
  subst hu
  rfl
/-- The numbers are sorted in place. -/
theorem sort_own {v : Value} {l : List Int} {base : Nat} (h : w.ownsRow base 3 1 v l.length (l.map intC)) (hl : l.length ≤ 1000000) :
    Calls Try.prog 28 #[v] w fun e w' => e = .returned (.tuple #[]) ∧ w'.ownsRow base 3 1 v (l.mergeSort fun x y => decide (x ≤ y)).length ((l.mergeSort fun x y => decide (x ≤ y)).map intC) ∧ w.grownBy w' v.ownBlock := by
  have hsl : (l.mergeSort fun x y => decide (x ≤ y)).length = l.length := List.length_mergeSort _
  rcases h.2 with ⟨rfl, h0⟩ | ⟨g, cap, cur, rfl, hb, hg, hn, hcap, hcs, htake⟩
  · have hl0 : l = [] := List.eq_nil_of_length_eq_zero h0
    subst hl0
    refine (Try.slices_Sort_int_none none 0 w).mono fun e w' hq => ⟨hq.1, ?_, ?_⟩
    · rw [hq.2]; simpa using h
    · rw [hq.2]; exact World.grownBy.refl _ _
  · have hH : Go.Sort.Holds (Value.int .i64) w g 0 l.toArray := holds_of_blockI hg (by rw [Nat.mul_one] at htake; exact htake)
    refine (Try.slices_Sort_int g 0 cap l w hH (Array.getElem?_eq_some_iff.1 hg).1 (by omega)).mono fun e w' hq => ?_
    obtain ⟨rfl, n, os, rfl⟩ := hq
    refine ⟨rfl, ?_, grownBy_sortedI _⟩
    have h9 := ownsRow_sortedI (n := n) (os := os) (ts := l.mergeSort fun x y => decide (x ≤ y)) hsl hb hg hn hcap hcs
    rw [hsl]
    exact h9

set_option maxHeartbeats 2000000 in
set_option maxRecDepth 100000 in
theorem dirty_any (h : CacheI L ρ A w) (hlen : ∀ t, (A.li t).length ≤ 499999) :
    Calls Try.prog 19 #[.pointer (some ⟨L.c, 0, none⟩)] w fun e w' => ∃ v, e = .returned v ∧ w'.ownsRow w.heap.size 3 1 v (dirtyA A).length ((dirtyA A).map intC) ∧ Below w.heap.size w w' := by
  obtain ⟨⟨S, hI, hG, rfl⟩, hA, hh⟩ := h
  have hlS : ∀ t, (S.li t).length ≤ 499999 := fun t => by rw [← abs_len]; exact hlen t
  have hdl : ((abs S).li true).map (·.1) = (S.li true).map fun e => (S.pg e).n := by
    show ((S.li true).map (eP S)).map (·.1) = _
    rw [List.map_map]
    rfl
  have hKL := len_any hI
  have hkl := hG.kl
  unfold dirtyA
  rw [hdl]
  obtain ⟨N, hN⟩ : ∃ N, N = S.keys.length := ⟨_, rfl⟩
  rw [← hN] at hKL hkl
  have HKL := Lib.hid hKL; have HI := Lib.hid hI
  by_cases hz : N = 0
  · have h0 : S.li true = [] := List.eq_nil_of_length_eq_zero (by omega)
    rw [h0]
    subst hz
    clear hI hG hA hh hlS hlen hdl hKL hkl hN h0
    go_enter Try.func19, Try.ntmps19
    go_wp2_with (first
      | (go_at_call 17; refine HKL.out.mono ?_; rintro e1 w1 ⟨rfl, hw⟩; rw [hw]; clear hw))
    first | go_ret | go_returns
    refine ⟨_, rfl, ?_, Below.refl _ _⟩
    rw [List.map_nil, List.mergeSort_nil, List.map_nil]
    exact World.ownsRow_nil _ _ _ _
  · have hz2 : ¬ (N : Int) = 0 := by omega
    have hz3 : ((N : Int) == 0) = false := beq_eq_false_iff_ne.2 hz2
    have c3 := (ca_cells hI.blk).2.2.2
    obtain ⟨l0, -, -⟩ := li_cells (hI.lst true)
    have hlt := hlS true
    have hN2 : N ≤ 999998 := by have := hlS false; omega
    generalize hT : S.li true = T at l0 hlt ⊢
    have HT := Lib.hid hT
    obtain ⟨num, hnum⟩ : ∃ num : Nat → Int, num = fun e => (S.pg e).n := ⟨_, rfl⟩
    rw [← hnum]
    have HNUM := Lib.hid hnum
    unfold ptr at c3
    simp only [Option.map_some] at c3
    obtain ⟨i1, hi1, hz1, hs1, hb1⟩ := infoI
    have HLT := Lib.hid hlt
    clear hI hG hA hh hlS hlen hdl hKL hkl hN hT hnum hlt
    go_enter Try.func19, Try.ntmps19
    go_wp2_with (first
      | (go_at_call 17; refine HKL.out.mono ?_; rintro e1 w1 ⟨rfl, hw⟩; rw [hw]; clear hw))
    clear c3 l0 HKL
    go_loopw [3, 4] (fun t3 t4 wr => ∃ (a b : List Nat), T = a ++ b ∧ t4 = ptr b.head? ∧ Hid (wr.ownsRow w.heap.size 3 1 t3 a.length ((a.map num).map intC)) ∧ Hid (Below w.heap.size w wr)) (fun t3 _ _ => T.length - sliceLen t3)
    case atStart => exact ⟨[], T, rfl, rfl, Lib.hid (World.ownsRow_nil _ _ _ _), Lib.hid (Below.refl _ _)⟩
    case round =>
      obtain ⟨a, b, hab, rfl, hO, hB⟩ := hrel
      cases b with
      | nil =>
        rw [List.append_nil] at hab
        subst hab
        have hS := sort_own (l := T.map num) (v := u3) (w := wr) (base := w.heap.size) (by rw [List.length_map]; exact hO.out) (by rw [List.length_map]; have := HLT.out; omega)
        have HS := Lib.hid hS
        simp only [List.head?_nil, ptr, Option.map_none]
        clear hS
        go_wp2_with (first
          | (go_at_call 28; refine HS.out.mono ?_; rintro e1 w2 ⟨rfl, q1, q2⟩; have Q1 := Lib.hid q1; have Q2 := Lib.hid q2; clear q1 q2))
        first | go_ret | go_returns
        exact ⟨_, rfl, Q1.out, below_own hB.out hO.out Q2.out⟩
      | cons e r =>
        have hel := ((HI.out.below hB.out).ele true a e r (HT.out.trans hab)).2
        obtain ⟨y0, -, -, -, y4⟩ := el_cells hel
        have hx : (S.pg e).n = num e := by rw [HNUM.out]
        rw [hx] at y0
        have HAB := Lib.hid hab
        have hal : a.length ≤ 499999 := by have := HLT.out; rw [hab] at this; simp at this; omega
        obtain ⟨z, hz⟩ : ∃ z, z = num e := ⟨_, rfl⟩
        rw [← hz] at y0
        have HZ := Lib.hid hz
        simp only [List.head?_cons, ptr, Option.map_some] at y4 ⊢
        have hbs := hB.out.size
        clear hel hab hx hz y4
        go_wp2_with (at_builtin; refine wpList_append_own _ rfl _ _ 40 rfl w.heap.size 3 i1 (.int .i64 0) 1 8 Try.underlying40 hi1 hz1 hs1 hb1 rfl (by decide) _ _ _ rfl (hO.out.alloc _) ⟨wr.heap.size, 0, none⟩ 1 1 [.int .i64 z] rfl rfl (newsI wr (.int .i64 z) _) (oneI z) (by unfold maxLen; omega) (by omega) (by simp only [World.size_alloc]; omega) ?_; intro v3 w3 hown3 hgrow3 hnil3
                     have HB3 := Lib.hid (below_own (hB.out.alloc hbs (.cells #[.int .i64 z] 3)) (hO.out.alloc _) hgrow3)
                     obtain ⟨-, -, -, -, y4⟩ := el_cells ((HI.out.below HB3.out).ele true a e r (HT.out.trans HAB.out)).2
                     have HO3 : Hid (w3.ownsRow w.heap.size 3 1 v3 (a ++ [e]).length (((a ++ [e]).map num).map intC)) := by
                       rw [List.length_append, List.map_append, List.map_append, List.map_singleton, List.map_singleton, ← HZ.out]
                       exact hown3
                     have HL3 := Lib.hid (own_len HO3.out)
                     have HL0 := Lib.hid (own_len hO.out)
                     clear hown3 hgrow3 hnil3)
        go_roundw
        case rel => exact ⟨a ++ [e], r, by rw [HAB.out]; simp, rfl, HO3, HB3⟩
        case measure =>
          show T.length - sliceLen v3 < T.length - sliceLen u3
          rw [HL3.out, HL0.out, HAB.out, List.length_append, List.length_append, List.length_cons, List.length_singleton]
          omega
end Go.Proofs.Ytkpgekfejfbpjaa
