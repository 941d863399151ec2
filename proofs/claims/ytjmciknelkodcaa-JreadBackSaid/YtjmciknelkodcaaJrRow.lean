/-
  What the rows of layer 11's statements share: a slice of pages, and a slice of slices of pages, as an argument, opened to what the walks ask.
-/
import Derived.Test.YtjmciknelkodcaaJhRow
import Derived.Test.YtjmciknelkodcaaJrPart
import Derived.Deep.Slices
import Derived.ChangeSlices
namespace Go.Proofs.Ytjmciknelkodcaa
open Go.ChangeShapes Go.WideShapes Go.ChangeAt Go.RowKit Go.Deep

theorem cellsStr : Try.prog.cellsOf 9 = 1 := by kernel_rfl
theorem cellsQRec : Try.prog.cellsOf 43 = 2 := by kernel_rfl
theorem cellsQRecs : Try.prog.cellsOf 27 = 1 := by kernel_rfl
section
variable {H : Type} {enc : TypeId × Value → H} {W W' : World}
theorem weights_all {e : TypeId} {d : DataW H} : ∀ {l : List (DataW H)}, d ∈ l → ∀ n ∈ d.weights Try.prog e, n ∈ DataW.weightsAll Try.prog e l
  | x :: l, h, n, hn => by
    rw [List.mem_cons] at h
    simp only [DataW.weightsAll, List.mem_append]
    rcases h with rfl | h
    · exact .inl hn
    · exact .inr (weights_all h n hn)
theorem sz_slice {t e : TypeId} {l sp : List (DataW H)} {d : DataW H} (ht : Try.prog.underlying t = some (.slice e)) (h : Sz t (.slice l sp)) (hd : d ∈ l) : Sz e d := by
  intro n hn
  refine h n ?_
  simp only [DataW.weights, ht, List.mem_cons, List.mem_append]
  exact .inr (.inl (weights_all hd n hn))
theorem sz_len {t e : TypeId} {l sp : List (DataW H)} (ht : Try.prog.underlying t = some (.slice e)) (h : Sz t (.slice l sp)) : (l.length + sp.length) * Try.prog.bytesOf e ≤ 140737488351232 := h _ (by simp [DataW.weights, ht])

set_option maxRecDepth 100000 in
theorem rec_cells {fuel : Nat} {cs : List Value} {x : DataW H × List MemPlace} (h : DataW.trod enc Try.prog W 0 (fun _ => true) true fuel 43 cs = some x) :
    ∃ n d, cs = [.int .i64 n, .string d] ∧ (Lit.int .i64 n).wf = true ∧ x.1 = .agg [.lit (.int .i64 n), .lit (.string d.data.toList)] := by
  obtain ⟨xs, m, -, hx, hlen, hxl, hf⟩ := DataW.trod_struct Try.underlying43 h
  rw [cellsQRec] at hlen
  match cs, hlen with
  | [c0, c1], _ =>
    match xs, hxl with
    | [y0, y1], _ =>
      have h0 : DataW.trod enc Try.prog W 0 (fun _ => true) true m 3 [c0] = some y0 := by have := hf 0 _ rfl; change DataW.trod _ _ _ _ _ _ _ 3 (List.take (Try.prog.cellsOf 3) (List.drop 0 _)) = _ at this; rw [cellsInt] at this; exact this
      have h1 : DataW.trod enc Try.prog W 0 (fun _ => true) true m 9 [c1] = some y1 := by have := hf 1 _ rfl; change DataW.trod _ _ _ _ _ _ _ 9 (List.take (Try.prog.cellsOf 9) (List.drop 1 _)) = _ at this; rw [cellsStr] at this; exact this
      obtain ⟨n, e0, rfl, w0⟩ := DataW.trod_int Try.underlying3 h0
      obtain ⟨d, e1, rfl, -⟩ := DataW.trod_string Try.underlying9 h1
      simp only [List.cons.injEq, and_true] at e0 e1
      subst e0 e1
      exact ⟨n, d, rfl, w0, by rw [hx]; rfl⟩
set_option maxRecDepth 100000 in
theorem sz_rec {d0 : DataW H} {l1 : List UInt8} (h : Sz 43 (.agg [d0, .lit (.string l1)] : DataW H)) : l1.length ≤ 140737488351232 := h _ (by simp [DataW.weights, DataW.weightsEach, Try.underlying43])
set_option maxRecDepth 100000 in
theorem recs_of {fuel : Nat} {sv : Value} {y : DataW H × List MemPlace} (h : DataW.trod enc Try.prog W 0 (fun _ => true) true fuel 27 [sv] = some y) (hz : Sz 27 y.1) (hlt : ∀ p, p ∈ y.2 → p.block < W.heap.size) :
    ∃ a cap l, sv = .slice a (List.length l) cap ∧ l.length ≤ 140737488351232 ∧ IntsR l ∧ Recs W a l := by
  rcases open_slice Try.underlying27 h with ⟨hcs, -⟩ | ⟨a', len, cap', m, n, D, Pl, hcs, -, hl, hm, hmm, hx, hi⟩
  · injection hcs with e _
    exact ⟨none, 0, [], e, Nat.zero_le _, (fun r hr => by cases hr), recs_nil _ _⟩
  · injection hcs with e _
    simp only [if_true] at hmm
    subst hmm
    have hx1 : y.1 = _ := congrArg Prod.fst hx
    have hx2 : y.2 = _ := congrArg Prod.snd hx
    simp only at hx1 hx2
    rw [hx1] at hz
    have hlen : len ≤ 140737488351232 := by
      have := sz_len Try.underlying27 hz
      have e : Try.prog.bytesOf 43 = 24 := by kernel_rfl
      rw [List.length_map, List.length_range, e] at this
      omega
    have hel0 : ∀ j, j < len → Sz 43 (D j) := fun j hj => sz_slice Try.underlying27 hz (List.mem_map.2 ⟨j, List.mem_range.2 hj, rfl⟩)
    have hel : ∀ j, j < len → ∃ o : R11, ((-9223372036854775808 ≤ o.n ∧ o.n ≤ 9223372036854775807) ∧ o.d.length ≤ 4611686018427387904) ∧ W.cell? (a'.add (j * 2)) = some (.int .i64 o.n) ∧ W.cell? (a'.add (j * 2 + 1)) = some (.string (ba o.d)) := by
      intro j hj
      obtain ⟨cs', hc, ht⟩ := hi j (by omega)
      obtain ⟨n', d, e, w0, ex⟩ := rec_cells ht
      rw [cellsQRec] at hc
      obtain ⟨_, _, hat⟩ := World.cells?_some hc
      have c0 := hat 0 (by decide)
      have c1 := hat 1 (by decide)
      rw [e] at c0 c1
      rw [Go.Deep.add_add] at c0 c1
      have hsz := hel0 j hj
      rw [show D j = _ from ex] at hsz
      have z1 := sz_rec hsz
      have q0 := bounds_i64 w0
      refine ⟨⟨n', d.data.toList⟩, ⟨⟨q0.1, q0.2⟩, by show d.data.toList.length ≤ _; omega⟩, c0, ?_⟩
      rw [ba_back]; exact c1
    obtain ⟨f, hf⟩ : ∃ f : Nat → R11, f = fun j => if hj : j < len then (hel j hj).choose else ⟨0, []⟩ := ⟨_, rfl⟩
    have hlf : ((List.range len).map f).length = len := by simp
    have hspec : ∀ j (hj : j < len), ((-9223372036854775808 ≤ (f j).n ∧ (f j).n ≤ 9223372036854775807) ∧ (f j).d.length ≤ 4611686018427387904) ∧ W.cell? (a'.add (j * 2)) = some (.int .i64 (f j).n) ∧ W.cell? (a'.add (j * 2 + 1)) = some (.string (ba (f j).d)) := by
      intro j hj
      have := (hel j hj).choose_spec
      rw [show f j = (hel j hj).choose by simp [hf, hj]]
      exact this
    refine ⟨some a', _, (List.range len).map f, by rw [hlf]; exact e, by omega, fun r hr => ?_, fun j hj => ?_⟩
    · obtain ⟨j, hj, rfl⟩ := List.mem_map.1 hr
      exact (hspec j (List.mem_range.1 hj)).1
    · rw [hlf] at hj
      obtain ⟨-, h1, h2⟩ := hspec j hj
      rw [show ((List.range len).map f)[j]'(by rw [hlf]; exact hj) = f j by simp]
      obtain ⟨b, off, spot⟩ := a'
      have hspot : spot = none := by
        obtain ⟨y, -, h0, -⟩ := hel 0 (by omega)
        simpa [Addr.add] using World.cell?_spot h0
      subst hspot
      refine ⟨b, off, rfl, ?_, ?_, ?_⟩
      · refine hlt (.cell b off) (by rw [hx2]; exact List.mem_append_left _ (MemPlace.mem_row.2 ⟨0, by rw [cellsQRec]; omega, by simp⟩))
      · rw [add_plain] at h1; exact h1
      · rw [add_plain] at h2; exact h2
set_option maxRecDepth 100000 in
theorem open_recs {b0 : Nat} {r : Reach} {v : Value} {d : DataW H} {p : List MemPlace} (hlt : ∀ x ∈ p, x.block < W.heap.size) (hv : Value.okWide Try.prog W r b0 27 v) (h : DataW.Trod enc Try.prog W 0 (fun _ => true) true 27 v d p) (hz : Sz 27 d) :
    ∃ a cap l, v = .slice a (List.length l) cap ∧ l.length ≤ 140737488351232 ∧ IntsR l ∧ Recs W a l := by
  obtain ⟨a, len, cap, rfl⟩ := okWide_slice Try.underlying27 hv
  obtain ⟨fuel, hf⟩ := h
  exact recs_of (y := (d, p)) hf hz hlt

/-- A slice of slices of pages lies in memory. -/
def Recss (w : World) (a : Option Addr) (L : List (List R11)) : Prop :=
  ∀ j (hj : j < L.length), ∃ b off a' cap', a = some ⟨b, off, none⟩ ∧ b < w.heap.size ∧ w.cell? ⟨b, off + j, none⟩ = some (.slice a' L[j].length cap') ∧ L[j].length ≤ 140737488351232 ∧ IntsR L[j] ∧ Recs w a' L[j]
set_option maxRecDepth 100000 in
theorem open_recss {b0 : Nat} {r : Reach} {v : Value} {d : DataW H} {p : List MemPlace} (hlt : ∀ x ∈ p, x.block < W.heap.size) (hv : Value.okWide Try.prog W r b0 47 v) (h : DataW.Trod enc Try.prog W 0 (fun _ => true) true 47 v d p) (hz : Sz 47 d) :
    ∃ a cap l, v = .slice a (List.length l) cap ∧ l.length ≤ 140737488351232 ∧ Recss W a l := by
  obtain ⟨a, len, cap, rfl⟩ := okWide_slice Try.underlying47 hv
  obtain ⟨fuel, hf⟩ := h
  rcases open_slice Try.underlying47 hf with ⟨hcs, -⟩ | ⟨a', len', cap', m, n, D, Pl, hcs, -, hl, hm, hmm, hx, hi⟩
  · simp [Value.cells] at hcs
    obtain ⟨rfl, rfl, rfl⟩ := hcs
    exact ⟨none, 0, [], rfl, Nat.zero_le _, fun j hj => absurd hj (Nat.not_lt_zero j)⟩
  · simp [Value.cells] at hcs
    obtain ⟨rfl, rfl, rfl⟩ := hcs
    simp only [if_true] at hmm
    subst hmm
    simp only [Prod.mk.injEq] at hx
    obtain ⟨rfl, hx2⟩ := hx
    have hlen : len ≤ 140737488351232 := by
      have := sz_len Try.underlying47 hz
      have e : Try.prog.bytesOf 27 = 24 := by kernel_rfl
      rw [List.length_map, List.length_range, e] at this
      omega
    have hel0 : ∀ j, j < len → Sz 27 (D j) := fun j hj => sz_slice Try.underlying47 hz (List.mem_map.2 ⟨j, List.mem_range.2 hj, rfl⟩)
    have hel : ∀ j, j < len → ∃ o : List R11, ∃ a1 cap1, W.cell? (a'.add (j * 1)) = some (.slice a1 o.length cap1) ∧ o.length ≤ 140737488351232 ∧ IntsR o ∧ Recs W a1 o := by
      intro j hj
      obtain ⟨cs', hc, ht⟩ := hi j (by omega)
      rw [cellsQRecs] at hc
      obtain ⟨_, hcl, hat⟩ := World.cells?_some hc
      have c0 := hat 0 (by decide)
      match cs', hcl with
      | [sv], _ =>
        have hplt : ∀ q, q ∈ Pl j → q.block < W.heap.size := fun q hq => hlt q (by
          rw [hx2]
          exact List.mem_append_right _ (List.mem_flatMap.2 ⟨j, List.mem_range.2 (by omega), hq⟩))
        obtain ⟨a1, cap1, l, rfl, h1, h2, h3⟩ := recs_of ht (hel0 j hj) hplt
        exact ⟨l, a1, cap1, by simpa [Addr.add] using c0, h1, h2, h3⟩
    obtain ⟨f, hf⟩ : ∃ f : Nat → List R11, f = fun j => if hj : j < len then (hel j hj).choose else [] := ⟨_, rfl⟩
    have hlf : ((List.range len).map f).length = len := by simp
    refine ⟨some a', _, (List.range len).map f, by rw [hlf], by omega, fun j hj => ?_⟩
    have hj : j < len := by omega
    have hs := (hel j hj).choose_spec
    rw [show ((List.range len).map f)[j] = (hel j hj).choose by simp [hf, hj]]
    generalize (hel j hj).choose = x at hs
    obtain ⟨a1, cap1, h1, h2, h3, h4⟩ := hs
    obtain ⟨b, off, spot⟩ := a'
    have hspot : spot = none := by
      obtain ⟨y, a2, c2, h0, -⟩ := hel 0 (by omega)
      simpa [Addr.add] using World.cell?_spot h0
    subst hspot
    refine ⟨b, off, a1, cap1, rfl, ?_, ?_, h2, h3, h4⟩
    · rw [hx2] at hlt
      refine hlt (.cell b off) (List.mem_append_left _ (MemPlace.mem_row.2 ⟨0, by rw [cellsQRecs]; omega, by simp⟩))
    · rw [add_plain, Nat.mul_one] at h1; exact h1
end
end Go.Proofs.Ytjmciknelkodcaa
