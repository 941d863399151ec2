/-
  What the rows of CacheDoes and CacheTrue share: a slice of operations as an argument, opened to what the walks ask.
-/
import Derived.Test.YtkpgekfejfbpjaaJhRow
import Derived.Test.YtkpgekfejfbpjaaCcLaw1
import Derived.Deep.Slices
import Derived.ChangeSlices
namespace Go.Proofs.Ytkpgekfejfbpjaa
open Go.ChangeShapes Go.WideShapes Go.ChangeAt Go.RowKit Go.Deep

theorem cellsStr : Try.prog.cellsOf 9 = 1 := by kernel_rfl
theorem cellsOpC : Try.prog.cellsOf 30 = 3 := by kernel_rfl
section
variable {H : Type} {enc : TypeId × Value → H} {W W' : World}
theorem weights_all {e : TypeId} {d : DataW H} : ∀ {l : List (DataW H)}, d ∈ l → ∀ n ∈ d.weights Try.prog e, n ∈ DataW.weightsAll Try.prog e l
  | x :: l, h, n, hn => by
    rw [List.mem_cons] at h
    simp only [DataW.weightsAll, List.mem_append]
    rcases h with rfl | h
    · exact .inl hn
    · exact .inr (weights_all h n hn)
theorem sz_slice {t e : TypeId} {l sp : List (DataW H)} {d : DataW H} (ht : Try.prog.underlying t = some (.slice e)) (h : Sz t (.slice l sp)) (hd : d ∈ l) : Sz e d := by
  intro n hn
  refine h n ?_
  simp only [DataW.weights, ht, List.mem_cons, List.mem_append]
  exact .inr (.inl (weights_all hd n hn))
theorem sz_len {t e : TypeId} {l sp : List (DataW H)} (ht : Try.prog.underlying t = some (.slice e)) (h : Sz t (.slice l sp)) : (l.length + sp.length) * Try.prog.bytesOf e ≤ 140737488351232 := h _ (by simp [DataW.weights, ht])

set_option maxRecDepth 100000 in
theorem opc_cells {fuel : Nat} {cs : List Value} {x : DataW H × List MemPlace} (h : DataW.trod enc Try.prog W 0 (fun _ => true) true fuel 30 cs = some x) :
    ∃ kd n dt, cs = [.int .i64 kd, .int .i64 n, .string dt] ∧ (Lit.int .i64 kd).wf = true ∧ (Lit.int .i64 n).wf = true ∧ x.1 = .agg [.lit (.int .i64 kd), .lit (.int .i64 n), .lit (.string dt.data.toList)] := by
  obtain ⟨xs, m, -, hx, hlen, hxl, hf⟩ := DataW.trod_struct Try.underlying30 h
  rw [cellsOpC] at hlen
  match cs, hlen with
  | [c0, c1, c2], _ =>
    match xs, hxl with
    | [y0, y1, y2], _ =>
      have h0 : DataW.trod enc Try.prog W 0 (fun _ => true) true m 3 [c0] = some y0 := by have := hf 0 _ rfl; change DataW.trod _ _ _ _ _ _ _ 3 (List.take (Try.prog.cellsOf 3) (List.drop 0 _)) = _ at this; rw [cellsInt] at this; exact this
      have h1 : DataW.trod enc Try.prog W 0 (fun _ => true) true m 3 [c1] = some y1 := by have := hf 1 _ rfl; change DataW.trod _ _ _ _ _ _ _ 3 (List.take (Try.prog.cellsOf 3) (List.drop 1 _)) = _ at this; rw [cellsInt] at this; exact this
      have h2 : DataW.trod enc Try.prog W 0 (fun _ => true) true m 9 [c2] = some y2 := by have := hf 2 _ rfl; change DataW.trod _ _ _ _ _ _ _ 9 (List.take (Try.prog.cellsOf 9) (List.drop 2 _)) = _ at this; rw [cellsStr] at this; exact this
      obtain ⟨kd, e0, rfl, w0⟩ := DataW.trod_int Try.underlying3 h0
      obtain ⟨n, e1, rfl, w1⟩ := DataW.trod_int Try.underlying3 h1
      obtain ⟨dt, e2, rfl, -⟩ := DataW.trod_string Try.underlying9 h2
      simp only [List.cons.injEq, and_true] at e0 e1 e2
      subst e0 e1 e2
      exact ⟨kd, n, dt, rfl, w0, w1, by rw [hx]; rfl⟩
set_option maxRecDepth 100000 in
theorem sz_opc {d0 d1 : DataW H} {l2 : List UInt8} (h : Sz 30 (.agg [d0, d1, .lit (.string l2)] : DataW H)) : l2.length ≤ 140737488351232 := h _ (by simp [DataW.weights, DataW.weightsEach, Try.underlying30])
set_option maxRecDepth 100000 in
theorem open_opsC {b0 : Nat} {r : Reach} {v : Value} {d : DataW H} {p : List MemPlace} (hlt : ∀ x ∈ p, x.block < W.heap.size) (hv : Value.okWide Try.prog W r b0 22 v) (h : DataW.Trod enc Try.prog W 0 (fun _ => true) true 22 v d p) (hz : Sz 22 d) :
    ∃ a cap l, v = .slice a (List.length l) cap ∧ l.length ≤ 140737488351232 ∧ OpsC W a l := by
  obtain ⟨a, len, cap, rfl⟩ := okWide_slice Try.underlying22 hv
  obtain ⟨fuel, hf⟩ := h
  rcases open_slice Try.underlying22 hf with ⟨hcs, -⟩ | ⟨a', len', cap', m, n, D, Pl, hcs, -, hl, hm, hmm, hx, hi⟩
  · simp [Value.cells] at hcs
    obtain ⟨rfl, rfl, rfl⟩ := hcs
    exact ⟨none, 0, [], rfl, Nat.zero_le _, fun j hj => absurd hj (Nat.not_lt_zero j)⟩
  · simp [Value.cells] at hcs
    obtain ⟨rfl, rfl, rfl⟩ := hcs
    simp only [if_true] at hmm
    subst hmm
    simp only [Prod.mk.injEq] at hx
    obtain ⟨rfl, hx2⟩ := hx
    have hlen : len ≤ 140737488351232 := by
      have := sz_len Try.underlying22 hz
      have e : Try.prog.bytesOf 30 = 32 := by kernel_rfl
      rw [List.length_map, List.length_range, e] at this
      omega
    have hel0 : ∀ j, j < len → Sz 30 (D j) := fun j hj => sz_slice Try.underlying22 hz (List.mem_map.2 ⟨j, List.mem_range.2 hj, rfl⟩)
    have hel : ∀ j, j < len → ∃ o : OpC, OpCOk o ∧ W.cell? (a'.add (j * 3)) = some (.int .i64 o.kind) ∧ W.cell? (a'.add (j * 3 + 1)) = some (.int .i64 o.n) ∧ W.cell? (a'.add (j * 3 + 2)) = some (.string o.data) := by
      intro j hj
      obtain ⟨cs', hc, ht⟩ := hi j (by omega)
      obtain ⟨kd, n, dt, e, w0, w1, ex⟩ := opc_cells ht
      rw [cellsOpC] at hc
      obtain ⟨_, _, hat⟩ := World.cells?_some hc
      have c0 := hat 0 (by decide)
      have c1 := hat 1 (by decide)
      have c2 := hat 2 (by decide)
      rw [e] at c0 c1 c2
      rw [Go.Deep.add_add] at c0 c1 c2
      have hsz := hel0 j hj
      rw [show D j = _ from ex] at hsz
      have z2 := sz_opc hsz
      have q0 := bounds_i64 w0; have q1 := bounds_i64 w1
      have e2 : dt.data.toList.length = dt.size := by simp
      exact ⟨⟨kd, n, dt⟩, ⟨q0.1, q0.2, q1.1, q1.2, by show dt.size ≤ _; omega⟩, c0, c1, c2⟩
    obtain ⟨f, hf⟩ : ∃ f : Nat → OpC, f = fun j => if hj : j < len then (hel j hj).choose else ⟨0, 0, ⟨#[]⟩⟩ := ⟨_, rfl⟩
    have hlf : ((List.range len).map f).length = len := by simp
    refine ⟨some a', _, (List.range len).map f, by rw [hlf], by omega, fun j hj => ?_⟩
    have hj : j < len := by omega
    have hs := (hel j hj).choose_spec
    rw [show ((List.range len).map f)[j] = (hel j hj).choose by simp [hf, hj]]
    generalize (hel j hj).choose = o at hs
    obtain ⟨b, off, spot⟩ := a'
    have hspot : spot = none := by
      obtain ⟨y, -, h0, -⟩ := hel 0 (by omega)
      simpa [Addr.add] using World.cell?_spot h0
    subst hspot
    obtain ⟨s1, k0, k1, k2⟩ := hs
    rw [add_plain] at k0 k1 k2
    refine ⟨s1, b, off, rfl, ?_, k0, k1, k2⟩
    rw [hx2] at hlt
    refine hlt (.cell b off) (List.mem_append_left _ (MemPlace.mem_row.2 ⟨0, ?_, by simp⟩))
    rw [cellsOpC]; omega
end
end Go.Proofs.Ytkpgekfejfbpjaa
