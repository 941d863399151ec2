/-
  Layer 5, the document's Decode (annexeref05): it returns the row that the bytes hold, or the first error ('decR'), and changes nothing that was there. Condition: at most 2^47 - 4096 bytes.
-/
import Derived.Test.YtpkhbafgepdogaaRecDec
import Derived.Test.YtpkhbafgepdogaaVarRefGet
import Derived.OwnWalk
namespace Go.Proofs.Ytpkhbafgepdogaa
open Go.RowKit

theorem infoU64 : (Try.prog.info? 38).map (fun i => (i.zero, i.size, i.bytes)) = some (some (.int .u64 0), 1, 8) := by kernel_rfl
def markC (m : Nat) : Value := .int .u64 (m : Int)
def valC (v : Val) : List Value := [.int .i64 v.k, .int .i64 v.n, .string v.s]
def valsC (vs : List Val) : List Value := vs.flatMap valC
theorem valsC_snoc (vs : List Val) (v : Val) : valsC (vs ++ [v]) = valsC vs ++ valC v := by simp [valsC]
theorem valsC_len (vs : List Val) : (valsC vs).length = vs.length * 3 := by
  induction vs with
  | nil => rfl
  | cons v t ih => rw [valsC, List.flatMap_cons, List.length_append, ← valsC, ih]; simp [valC]; omega
theorem own_below {w w' : World} {base : Nat} {e : TypeId} {size : Nat} {v : Value} {n : Nat} {xs : List Value} (h : w.ownsRow base e size v n xs) (hb : Below w.heap.size w w') : w'.ownsRow base e size v n xs :=
  h.kept (row := none) ⟨hb.os, hb.tape, hb.output, hb.size, fun k hk _ => hb.block k hk⟩ (Classical.em _)
theorem below_own {w W W' : World} {e : TypeId} {size : Nat} {v : Value} {n : Nat} {xs : List Value} (h : Below w.heap.size w W) (ho : W.ownsRow w.heap.size e size v n xs) (hg : W.grownBy W' v.ownBlock) : Below w.heap.size w W' :=
  h.grown hg h.size (fun k e => (ho.lt k e).1)

theorem all_snoc {ms : List Nat} {m : Nat} (h : ∀ x ∈ ms, x ≤ 2003) (hm : m ≤ 2003) : ∀ x ∈ ms ++ [m], x ≤ 2003 := by
  intro y hy
  rcases List.mem_append.1 hy with hy | hy
  · exact h y hy
  · simp at hy; omega
theorem addr_add (g j : Nat) : (⟨g, 0, none⟩ : Addr).add j = ⟨g, j, none⟩ := by cases j <;> simp [Addr.add]
/-- The marks lie in memory, in a block of numbers. -/
def MarksAt (W : World) (am : Option Addr) (ms : List Nat) : Prop :=
  ∀ j (hj : j < ms.length), ∃ g, am = some ⟨g, 0, none⟩ ∧ W.cell? ⟨g, j, none⟩ = some (.int .u64 (ms[j] : Int)) ∧ g < W.heap.size ∧ ∃ cur fr, W.heap[g]? = some (.cells cur 38 fr)
theorem marks_of_own {W : World} {base : Nat} {v : Value} {n : Nat} {ms : List Nat} (h : W.ownsRow base 38 1 v n (ms.map markC)) : ∃ am cap, v = .slice am n cap ∧ MarksAt W am ms := by
  have hl := h.1
  rw [List.length_map, Nat.mul_one] at hl
  rcases h.2 with ⟨rfl, rfl⟩ | ⟨g, cap, cur, rfl, hb, hg, -⟩
  · exact ⟨none, 0, rfl, fun j hj => by omega⟩
  · refine ⟨some ⟨g, 0, none⟩, cap, rfl, fun j hj => ⟨g, rfl, ?_, (Array.getElem?_eq_some_iff.1 hg).1, cur, _, hg⟩⟩
    have := h.cells (g := g) rfl j (markC ms[j]) (by rw [List.getElem?_map, List.getElem?_eq_getElem hj]; rfl)
    rw [addr_add] at this
    exact this
theorem marks_grown {W W' : World} {am : Option Addr} {ms : List Nat} {row : Option Nat} (h : MarksAt W am ms) (hg : W.grownBy W' row) (hr : ∀ k, row = some k → ∃ cur fr, W.heap[k]? = some (.cells cur 32 fr)) : MarksAt W' am ms := by
  intro j hj
  obtain ⟨g, rfl, hc, hlt, cur, fr, hb⟩ := h j hj
  have hne : some g ≠ row := fun e => by
    obtain ⟨c2, f2, h2⟩ := hr g e.symm
    rw [hb] at h2
    simp at h2
  have hbk := hg.block g hlt hne
  exact ⟨g, rfl, (World.cell?_of_block hbk).trans hc, Nat.lt_of_lt_of_le hlt hg.size, cur, fr, hbk.trans hb⟩
theorem marks_below {W W' : World} {am : Option Addr} {ms : List Nat} (h : MarksAt W am ms) (hb : Below W.heap.size W W') : MarksAt W' am ms :=
  marks_grown (row := none) h ⟨hb.os, hb.tape, hb.output, hb.size, fun k hk _ => hb.block k hk⟩ (fun k e => by cases e)
theorem own_kind {W : World} {base : Nat} {e : TypeId} {size : Nat} {v : Value} {n : Nat} {xs : List Value} (h : W.ownsRow base e size v n xs) : ∀ k, v.ownBlock = some k → ∃ cur fr, W.heap[k]? = some (.cells cur e fr) := by
  intro k hk
  rcases h.2 with ⟨rfl, rfl⟩ | ⟨g, cap, cur, rfl, hb, hg, -⟩
  · cases hk
  · obtain rfl : g = k := Option.some.inj hk
    exact ⟨cur, _, hg⟩
theorem valsC_at {vs : List Val} {j : Nat} (hj : j < vs.length) : (valsC vs)[j * 3]? = some (.int .i64 vs[j].k) ∧ (valsC vs)[j * 3 + 1]? = some (.int .i64 vs[j].n) ∧ (valsC vs)[j * 3 + 2]? = some (.string vs[j].s) := by
  induction vs generalizing j with
  | nil => simp at hj
  | cons v t ih =>
    have e : valsC (v :: t) = .int .i64 v.k :: .int .i64 v.n :: .string v.s :: valsC t := rfl
    rw [e]
    cases j with
    | zero => simp
    | succ j =>
      have := ih (j := j) (by simpa using hj)
      rw [show (j + 1) * 3 = j * 3 + 3 by omega]
      simpa using this
theorem vals_of_own {W : World} {base : Nat} {v : Value} {n : Nat} {vs : List Val} (h : W.ownsRow base 32 3 v n (valsC vs)) (hc : ∀ x ∈ vs, checkZ x.k x.n x.s = 0) (hn : ∀ x ∈ vs, I64 x.n) : ∃ a cap, v = .slice a n cap ∧ vs.length = n ∧ Vals W a vs := by
  have hl := h.1
  rw [valsC_len] at hl
  have hln : vs.length = n := by omega
  rcases h.2 with ⟨rfl, rfl⟩ | ⟨g, cap, cur, rfl, hb, hg, -⟩
  · exact ⟨none, 0, rfl, hln, fun j hj => by omega⟩
  · refine ⟨some ⟨g, 0, none⟩, cap, rfl, hln, fun j hj => ?_⟩
    have hm := List.getElem_mem hj
    have h5 := (check_ok (hc _ hm)).2.2.2.2
    obtain ⟨c0, c1, c2⟩ := valsC_at hj
    have d0 := h.cells (g := g) rfl _ _ c0
    have d1 := h.cells (g := g) rfl _ _ c1
    have d2 := h.cells (g := g) rfl _ _ c2
    refine ⟨by omega, hn _ hm, g, 0, rfl, (Array.getElem?_eq_some_iff.1 hg).1, ?_, ?_, ?_⟩
    · rw [addr_add] at d0; rw [Nat.zero_add]; exact d0
    · rw [addr_add] at d1; rw [Nat.zero_add]; exact d1
    · rw [addr_add] at d2; rw [Nat.zero_add]; exact d2
theorem valS_one (l : List UInt8) : valS 1 l = if (getR l).2.2 = 0 then (⟨1, unfoldZ (getR l).1, ⟨#[]⟩⟩, l.drop (getR l).2.1, 0) else (val0, l, (getR l).2.2) := by
  rw [valS, if_neg (by decide), if_pos rfl]
theorem valS_big {m : Nat} (h0 : m ≠ 0) (h1 : m ≠ 1) (l : List UInt8) : valS m l = if l.length < sizeM m then (val0, l, 1) else (⟨kindM m, 0, (bz l).extract 0 (sizeM m)⟩, l.drop (sizeM m), 0) := by
  rw [valS, if_neg h0, if_neg h1, bz_take]; rfl
theorem kind_big {m : Nat} (h0 : m ≠ 0) (h1 : m ≠ 1) : kindM m = 2 + (m : Int) % 2 := by
  unfold kindM; rw [if_neg h0, if_neg h1]; split <;> omega
theorem half_big {m : Nat} (h0 : m ≠ 0) (h1 : m ≠ 1) : (m : Int) / 2 = (sizeM m : Int) + 1 := by unfold sizeM; omega
theorem news1 (W : World) (x : Value) (t : TypeId) : ∀ j u, [x][j]? = some u → (W.alloc (.cells #[x] t)).cell? ((⟨W.heap.size, 0, none⟩ : Addr).add j) = some u := by
  intro j u hj
  match j, hj with
  | 0, hj => simp at hj; subst hj; simp [Addr.add]
theorem news3 (W : World) (v : Val) (t : TypeId) : ∀ j u, (valC v)[j]? = some u → (W.alloc (.cells #[.int .i64 v.k, .int .i64 v.n, .string v.s] t)).cell? ((⟨W.heap.size, 0, none⟩ : Addr).add j) = some u := by
  intro j u hj
  have h := blk_new W t #[.int .i64 v.k, .int .i64 v.n, .string v.s]
  match j, hj with
  | 0, hj => simp [valC] at hj; subst hj; exact blk_cell h 0 rfl
  | 1, hj => simp [valC] at hj; subst hj; exact blk_cell h 1 rfl
  | 2, hj => simp [valC] at hj; subst hj; exact blk_cell h 2 rfl
theorem one1 (m : Nat) : ∀ u ∈ [markC m], u.oneCell' = true := by intro u hu; simp at hu; subst hu; rfl
theorem one3 (v : Val) : ∀ u ∈ valC v, u.oneCell' = true := by
  intro u hu
  simp [valC] at hu
  rcases hu with rfl | rfl | rfl <;> rfl

set_option maxRecDepth 100000 in
set_option maxHeartbeats 2000000 in
theorem rdecode_any (l : List UInt8) (w : World) (hs : l.length ≤ 140737488351232) :
    Calls Try.prog 13 #[.string (bz l)] w fun e w' => Below w.heap.size w w' ∧ ∃ a cap, e = .returned (.tuple #[.slice a (decR l).1.length cap, .int .i64 (decR l).2]) ∧ Vals w' a (decR l).1 := by
  have hg := fun w => rget_any (bz l) (by rw [bz_size]; omega) w
  rw [bz_list] at hg
  by_cases h0 : (getR l).2.2 = 0
  · by_cases h16 : 16 < (getR l).1
    · obtain ⟨-, e2⟩ := dec_many h0 h16
      rw [e2]
      clear e2
      generalize getR l = r at *
      obtain ⟨n, k, e⟩ := r
      simp only at hg h0 h16
      subst h0
      have h16' : (16 : Int) < n := by omega
      go_enter Try.func13, Try.ntmps13
      go_wp2_with (go_at_call 30; refine (hg _).mono ?_; rintro e w1 ⟨rfl, b1⟩)
      go_ret2
      exact ⟨b1, none, 0, rfl, vals_nil _ _⟩
    · obtain ⟨-, e2⟩ := dec_few h0 h16
      have hk := (get_form h0).2.2.2
      have hre : restR l = l.drop (getR l).2.1 := by rw [restR, if_pos h0]
      rw [e2, hre]
      have hrl := rest_len l
      rw [hre] at hrl
      clear e2 hre
      generalize getR l = r at *
      obtain ⟨n, k, e⟩ := r
      simp only at hg h0 h16 hrl hk ⊢
      subst h0
      have hn : n ≤ 16 := by omega
      have wn : IntKind.i64.wrap (n : Int) = n := by rw [IntKind.wrap_i64]; omega
      have h3 : k ≤ (bz l).size := by rw [bz_size]; exact hk
      have h4 : (k : Int) ≤ (bz l).size := by omega
      obtain ⟨i1, hi1, hz1, hs1, hb1⟩ := info_parts infoU64
      obtain ⟨R, hR⟩ : ∃ R, R = marksS n [] (l.drop k) := ⟨_, rfl⟩
      rw [← hR]
      have HR := Lib.hid hR; clear hR
      go_enter Try.func13, Try.ntmps13
      go_wp2_with (go_at_call 30; refine (hg _).mono ?_; rintro e w1 ⟨rfl, b1⟩)
      rw [bz_drop]
      have HB1 := Lib.hid b1
      clear b1 hg
      go_loopw [0, 7, 8] (fun t0 t7 i wr => ∃ (j : Nat) (ms : List Nat) (l' : List UInt8), j ≤ n ∧ i = .int .i64 j ∧ t0 = .string (bz l') ∧ l'.length ≤ l.length ∧ Hid (ms.length = j) ∧ Hid (∀ m ∈ ms, m ≤ 2003) ∧ Hid (R = marksS (n - j) ms l') ∧ Hid (wr.ownsRow w.heap.size 38 1 t7 j (ms.map markC)) ∧ Hid (Below w.heap.size w wr)) (fun _ _ i _ => n - (intOf i).toNat)
      case atStart => exact ⟨0, [], l.drop k, by omega, rfl, rfl, hrl, Lib.hid rfl, Lib.hid (by simp), HR, Lib.hid (World.ownsRow_nil _ _ _ _), HB1⟩
      case round =>
        obtain ⟨j, ms, l', hj, rfl, rfl, hl', hjm, hmm, hz, hown, hB⟩ := hrel
        clear HR HB1
        by_cases hlt : j < n
        · have hz' := hz.out
          rw [show n - j = (n - (j + 1)) + 1 by omega, marksS, markS] at hz'
          have hg := fun w => rget_any (bz l') (by rw [bz_size]; omega) w
          rw [bz_list] at hg
          have hgf := get_form (l := l')
          have hrl' := rest_len l'
          unfold restR at hrl'
          generalize getR l' = r at *
          obtain ⟨m, q, e⟩ := r
          simp only at hg hgf hz' hrl'
          clear hz
          by_cases h0 : e = 0
          · subst h0
            rw [if_pos rfl] at hz' hrl'
            replace hgf := (hgf rfl).2.2.2
            by_cases h2 : 2003 < m
            · rw [if_pos h2] at hz'
              simp only at hz'
              rw [if_neg (by omega)] at hz'
              have HZ := Lib.hid hz'
              clear hz'
              have h2' : (2003 : Int) < m := by omega
              go_wp2_with (go_at_call 30; refine (hg _).mono ?_; rintro e w2 ⟨rfl, b2⟩)
              go_ret2
              rw [HZ.out, show finR ([], [], 12) = ([], 12) from rfl]
              exact ⟨hB.out.trans (b2.mono hB.out.size), none, 0, rfl, vals_nil _ _⟩
            · rw [if_neg h2] at hz'
              simp only [if_true] at hz'
              have HZ := Lib.hid hz'
              clear hz'
              have g3 : q ≤ (bz l').size := by rw [bz_size]; exact hgf
              have g4 : (q : Int) ≤ (bz l').size := by omega
              have h2' : (m : Int) ≤ 2003 := by omega
              have hj' : j < 16 := by omega
              go_wp2_with (first
                | (go_at_call 30; refine (hg _).mono ?_; rintro e w2 ⟨rfl, b2⟩)
                | (at_builtin; refine wpList_append_own _ rfl _ _ 70 rfl w.heap.size 38 i1 (.int .u64 0) 1 8 Try.underlying70 hi1 hz1 hs1 hb1 rfl (by decide) _ _ _ rfl ((own_below hown.out b2).alloc _) ⟨w2.heap.size, 0, none⟩ 1 1 [markC m] rfl rfl (news1 w2 (markC m) _) (one1 m) (by unfold maxLen; omega) (by omega) (by have h1 := hB.out.size; have h2 := b2.size; simp only [World.size_alloc]; omega) ?_; intro v3 w3 hown3 hgrow3 hnil3))
              have HO3 : Hid (w3.ownsRow w.heap.size 38 1 v3 (j + 1) ((ms ++ [m]).map markC)) := by rw [List.map_append]; exact hown3
              have HB3 := Lib.hid (below_own ((hB.out.trans (b2.mono hB.out.size)).alloc (by have h1 := hB.out.size; have h2 := b2.size; omega) (.cells #[markC m] 38)) ((own_below hown.out b2).alloc _) hgrow3)
              clear hown3 hgrow3 hnil3
              go_roundw
              case rel => exact ⟨j + 1, ms ++ [m], l'.drop q, by omega, by go_num, by rw [bz_drop], by omega, Lib.hid (by rw [List.length_append, hjm.out]; rfl), Lib.hid (all_snoc hmm.out (by omega)), HZ, HO3, HB3⟩
              case measure => simp [intOf]; omega
          · rw [if_neg h0] at hz'
            simp only at hz'
            rw [if_neg h0] at hz'
            have HZ := Lib.hid hz'
            have t1 : (e != 0) = true := by simpa using h0
            have HE := Lib.hid h0
            clear hz' h0 hrl' hgf
            go_wp2_with (go_at_call 30; refine (hg _).mono ?_; rintro e w2 ⟨rfl, b2⟩)
            go_ret2
            rw [HZ.out, show finR ([], [], e) = ([], e) by rw [finR, if_neg HE.out]]
            exact ⟨hB.out.trans (b2.mono hB.out.size), none, 0, rfl, vals_nil _ _⟩
        · have hz' := hz.out
          rw [show n - j = 0 by omega, marksS] at hz'
          obtain ⟨am, capm, rfl, hma⟩ := marks_of_own hown.out
          have HMA := Lib.hid hma
          obtain rfl : j = n := by omega
          obtain ⟨V, hV⟩ : ∃ V, V = valsS (ms.drop 0) [] l' := ⟨_, rfl⟩
          have HF : Hid (finR R = lastR V) := by rw [hz', hV]; exact rfl
          have HV := Lib.hid hV; have HV0 := Lib.hid (show V = valsS ms [] l' from hV)
          obtain ⟨i2, hi2, hz2, hs2, hb2⟩ := infoV
          clear hz hz' hV hma hown
          go_wp2
          go_loopw [0, 12, 13] (fun t0 t12 i wr => ∃ (q : Nat) (vs : List Val) (l2 : List UInt8), q ≤ j ∧ i = .int .i64 q ∧ t0 = .string (bz l2) ∧ l2.length ≤ l.length ∧ Hid (vs.length = q) ∧ Hid (V = valsS (ms.drop q) vs l2) ∧ Hid (wr.ownsRow w.heap.size 32 3 t12 q (valsC vs)) ∧ Hid (MarksAt wr am ms) ∧ Hid (Below w.heap.size w wr)) (fun _ _ i _ => j - (intOf i).toNat)
          case atStart => exact ⟨0, [], l', by omega, rfl, rfl, hl', Lib.hid rfl, HV, Lib.hid (World.ownsRow_nil _ _ _ _), HMA, hB⟩
          case round =>
            clear HV HMA hB
            obtain ⟨q, vs, l2, hq, rfl, rfl, hl2, hqv, hz, hown, hma, hB⟩ := hrel
            by_cases hlt2 : q < j
            · have hlt' : q < ms.length := by have := hjm.out; omega
              have hz' := hz.out
              rw [List.drop_eq_getElem_cons hlt', valsS] at hz'
              obtain ⟨g, rfl, cg, hgl, -⟩ := hma.out q hlt'
              have hm := hmm.out ms[q] (List.getElem_mem hlt')
              generalize ms[q] = m at *
              clear hz hlt'
              have hq' : q < 16 := by omega
              by_cases m0 : m = 0
              · subst m0
                rw [show valS 0 l2 = (val0, l2, 0) from rfl] at hz'
                simp only [if_true] at hz'
                have HZ := Lib.hid hz'; clear hz'
                simp only [Int.natCast_zero] at cg
                go_wp2_with (at_builtin; refine wpList_append_own _ rfl _ _ 22 rfl w.heap.size 32 i2 (.agg #[.int .i64 0, .int .i64 0, .string ⟨#[]⟩]) 3 32 Try.underlying22 hi2 hz2 hs2 hb2 rfl (by decide) _ _ _ rfl (hown.out.alloc _) ⟨wr.heap.size, 0, none⟩ 1 1 (valC val0) rfl rfl (news3 wr val0 _) (one3 val0) (by unfold maxLen; omega) (by omega) (by simp only [World.size_alloc]; have h1 := hB.out.size; omega) ?_; intro v3 w3 hown3 hgrow3 hnil3)
                have HO3 : Hid (w3.ownsRow w.heap.size 32 3 v3 (q + 1) (valsC (vs ++ [val0]))) := by rw [valsC_snoc]; exact hown3
                have HB3 := Lib.hid (below_own (hB.out.alloc hB.out.size _) (hown.out.alloc _) hgrow3)
                have HM3 := Lib.hid (marks_grown (marks_below hma.out (below_alloc _ _)) hgrow3 (own_kind (hown.out.alloc _)))
                clear hown3 hgrow3 hnil3
                go_roundw
                case rel => exact ⟨q + 1, vs ++ [val0], l2, by omega, by go_num, rfl, by omega, Lib.hid (by rw [List.length_append, hqv.out]; rfl), HZ, HO3, HM3, HB3⟩
                case measure => simp [intOf]; omega
              by_cases m1 : m = 1
              · subst m1
                rw [valS_one] at hz'
                have hg := fun w => rget_any (bz l2) (by rw [bz_size]; omega) w
                rw [bz_list] at hg
                have hgf := get_form (l := l2)
                generalize getR l2 = r at *
                obtain ⟨x, k2, e⟩ := r
                simp only at hg hgf hz'
                simp only [Int.natCast_one] at cg
                by_cases h0 : e = 0
                · subst h0
                  rw [if_pos rfl] at hz'
                  simp only [if_true] at hz'
                  have hx := (hgf rfl).2.1
                  replace hgf := (hgf rfl).2.2.2
                  have hu := fun w => rvunfold_any (x : Int) (by omega) (by omega) w
                  obtain ⟨u, hu'⟩ : ∃ u, u = unfoldZ (x : Int) := ⟨_, rfl⟩
                  rw [← hu'] at hz' hu
                  have HZ := Lib.hid hz'
                  have g3 : k2 ≤ (bz l2).size := by rw [bz_size]; exact hgf
                  have g4 : (k2 : Int) ≤ (bz l2).size := by omega
                  have hdl : (l2.drop k2).length ≤ l2.length := by simp
                  clear hz' hx hu' hgf
                  go_wp2_with (first
                    | (go_at_call 30; refine (hg _).mono ?_; rintro e w2 ⟨rfl, b2⟩)
                    | (go_at_call 31; refine (hu _).mono ?_; rintro e w4 ⟨rfl, rfl⟩)
                    | (at_builtin; refine wpList_append_own _ rfl _ _ 22 rfl w.heap.size 32 i2 (.agg #[.int .i64 0, .int .i64 0, .string ⟨#[]⟩]) 3 32 Try.underlying22 hi2 hz2 hs2 hb2 rfl (by decide) _ _ _ rfl ((own_below hown.out b2).alloc _) ⟨w2.heap.size, 0, none⟩ 1 1 (valC ⟨1, u, ⟨#[]⟩⟩) rfl rfl (news3 w2 ⟨1, u, ⟨#[]⟩⟩ _) (one3 ⟨1, u, ⟨#[]⟩⟩) (by unfold maxLen; omega) (by omega) (by simp only [World.size_alloc]; have h1 := hB.out.size; have h2 := b2.size; omega) ?_; intro v3 w3 hown3 hgrow3 hnil3))
                  have HO3 : Hid (w3.ownsRow w.heap.size 32 3 v3 (q + 1) (valsC (vs ++ [⟨1, u, ⟨#[]⟩⟩]))) := by rw [valsC_snoc]; exact hown3
                  have HB3 := Lib.hid (below_own ((hB.out.trans (b2.mono hB.out.size)).alloc (by have h1 := hB.out.size; have h2 := b2.size; omega) _) ((own_below hown.out b2).alloc _) hgrow3)
                  have HM3 := Lib.hid (marks_grown (marks_below (marks_below hma.out b2) (below_alloc _ _)) hgrow3 (own_kind ((own_below hown.out b2).alloc _)))
                  clear hown3 hgrow3 hnil3
                  go_roundw
                  case rel => exact ⟨q + 1, vs ++ [⟨1, u, ⟨#[]⟩⟩], l2.drop k2, by omega, by go_num, by rw [bz_drop], by omega, Lib.hid (by rw [List.length_append, hqv.out]; rfl), HZ, HO3, HM3, HB3⟩
                  case measure => simp [intOf]; omega
                · rw [if_neg h0] at hz'
                  simp only at hz'
                  rw [if_neg h0] at hz'
                  have HZ : Hid (finR R = ([], e)) := by rw [HF.out, hz', lastR, if_neg h0]; exact rfl
                  have t1 : (e != 0) = true := by simpa using h0
                  clear hz' h0 hgf
                  go_wp2_with (go_at_call 30; refine (hg _).mono ?_; rintro e w2 ⟨rfl, b2⟩)
                  go_ret2
                  rw [HZ.out]
                  exact ⟨hB.out.trans (b2.mono hB.out.size), none, 0, rfl, vals_nil _ _⟩
              · rw [valS_big m0 m1] at hz'
                rw [kind_big m0 m1] at hz'
                have e0 : ((m : Int) == 0) = false := by simpa using m0
                have e1 : ((m : Int) == 1) = false := by simp; omega
                have hd := half_big m0 m1
                have hsz : sizeM m ≤ 1000 := by unfold sizeM; omega
                have hm' : (m : Int) ≤ 2003 := by omega
                generalize sizeM m = z at *
                by_cases hl : l2.length < z
                · rw [if_pos hl] at hz'
                  simp only at hz'
                  rw [if_neg (by decide)] at hz'
                  have HZ : Hid (finR R = ([], 1)) := by rw [HF.out, hz']; rfl
                  have hl' : ((bz l2).size : Int) < z := by rw [bz_size]; omega
                  clear hz' hl m0 m1 hm
                  go_wp2
                  go_ret2
                  rw [HZ.out]
                  exact ⟨hB.out, none, 0, rfl, vals_nil _ _⟩
                · rw [if_neg hl] at hz'
                  simp only [if_true] at hz'
                  have HZ := Lib.hid hz'
                  have g3 : z ≤ (bz l2).size := by rw [bz_size]; omega
                  have g4 : (z : Int) ≤ (bz l2).size := by omega
                  have g5 : ¬ ((bz l2).size : Int) < z := by omega
                  have hdl : (l2.drop z).length ≤ l2.length := by simp
                  clear hz' hl m0 m1 hm
                  go_wp2_with (at_builtin; refine wpList_append_own _ rfl _ _ 22 rfl w.heap.size 32 i2 (.agg #[.int .i64 0, .int .i64 0, .string ⟨#[]⟩]) 3 32 Try.underlying22 hi2 hz2 hs2 hb2 rfl (by decide) _ _ _ rfl (hown.out.alloc _) ⟨wr.heap.size, 0, none⟩ 1 1 (valC ⟨2 + (m : Int) % 2, 0, (bz l2).extract 0 z⟩) rfl rfl (news3 wr ⟨2 + (m : Int) % 2, 0, (bz l2).extract 0 z⟩ _) (one3 ⟨2 + (m : Int) % 2, 0, (bz l2).extract 0 z⟩) (by unfold maxLen; omega) (by omega) (by simp only [World.size_alloc]; have h1 := hB.out.size; omega) ?_; intro v3 w3 hown3 hgrow3 hnil3)
                  have HO3 : Hid (w3.ownsRow w.heap.size 32 3 v3 (q + 1) (valsC (vs ++ [⟨2 + (m : Int) % 2, 0, (bz l2).extract 0 z⟩]))) := by rw [valsC_snoc]; exact hown3
                  have HB3 := Lib.hid (below_own (hB.out.alloc hB.out.size _) (hown.out.alloc _) hgrow3)
                  have HM3 := Lib.hid (marks_grown (marks_below hma.out (below_alloc _ _)) hgrow3 (own_kind (hown.out.alloc _)))
                  clear hown3 hgrow3 hnil3
                  go_roundw
                  case rel => exact ⟨q + 1, vs ++ [⟨2 + (m : Int) % 2, 0, (bz l2).extract 0 z⟩], l2.drop z, by omega, by go_num, by rw [bz_drop], by omega, Lib.hid (by rw [List.length_append, hqv.out]; rfl), HZ, HO3, HM3, HB3⟩
                  case measure => simp [intOf]; omega
            · have hz' := hz.out
              rw [List.drop_eq_nil_of_le (by have := hjm.out; omega), valsS] at hz'
              obtain rfl : q = j := by omega
              obtain ⟨u, u1, -, u3, u4, -⟩ := vals_form ms [] l' vs l2 hmm.out (HV0.out.symm.trans hz')
              rw [List.nil_append] at u1
              subst u1
              obtain ⟨ao, capo, rfl, hvl, hvv⟩ := vals_of_own hown.out u3 u4
              have HVV := Lib.hid hvv; have HVL := Lib.hid hvl
              clear hvv hvl u3 u4 hown
              by_cases h3 : l2 = []
              · have HZ : Hid (finR R = (vs, 0)) := by rw [HF.out, hz', h3]; rfl
                clear hz hz'
                subst h3
                rw [show bz [] = ⟨#[]⟩ from rfl]
                go_wp2
                go_ret2
                rw [HZ.out]
                exact ⟨hB.out, ao, capo, by simp only [HVL.out]; exact rfl, HVV.out⟩
              · have HZ : Hid (finR R = ([], 2)) := by rw [HF.out, hz', lastR, if_pos rfl, if_neg h3]; exact rfl
                have t1 : (bz l2).toList.isEmpty = false := by rw [empty_size, bz_size]; simpa using h3
                clear hz hz' h3
                go_wp2
                go_ret2
                rw [HZ.out]
                exact ⟨hB.out, none, 0, rfl, vals_nil _ _⟩
  · obtain ⟨-, e2⟩ := dec_bad h0
    rw [e2]
    clear e2
    generalize getR l = r at *
    obtain ⟨n, k, e⟩ := r
    simp only at hg h0 ⊢
    have t1 : (e != 0) = true := by simpa using h0
    clear h0
    go_enter Try.func13, Try.ntmps13
    go_wp2_with (go_at_call 30; refine (hg _).mono ?_; rintro e w1 ⟨rfl, b1⟩)
    go_ret2
    exact ⟨b1, none, 0, rfl, vals_nil _ _⟩
end Go.Proofs.Ytpkhbafgepdogaa
