/-
  What the rows of layer 16's statements share: a node as an argument, opened to what the walks ask.
-/
import Derived.Test.YtdpjmijdlheajaaJhRow
import Derived.Test.YtdpjmijdlheajaaNdVal
import Derived.ChangeSlices
namespace Go.Proofs.Ytdpjmijdlheajaa
open Go.ChangeShapes Go.WideShapes Go.ChangeAt Go.RowKit Go.Deep

theorem ncellsStr : Try.prog.cellsOf 9 = 1 := by kernel_rfl
theorem ncellsCell : Try.prog.cellsOf 45 = 4 := by kernel_rfl
theorem ncellsNode : Try.prog.cellsOf 25 = 3 := by kernel_rfl
theorem ncellsBool : Try.prog.cellsOf 4 = 1 := by kernel_rfl
theorem ncellsCells : Try.prog.cellsOf 22 = 1 := by kernel_rfl
theorem ncellsInts : Try.prog.cellsOf 23 = 1 := by kernel_rfl
section
variable {H : Type} {enc : TypeId × Value → H} {W W' : World}
theorem nweights_all {e : TypeId} {d : DataW H} : ∀ {l : List (DataW H)}, d ∈ l → ∀ n ∈ d.weights Try.prog e, n ∈ DataW.weightsAll Try.prog e l
  | x :: l, h, n, hn => by
    rw [List.mem_cons] at h
    simp only [DataW.weightsAll, List.mem_append]
    rcases h with rfl | h
    · exact .inl hn
    · exact .inr (nweights_all h n hn)
theorem nsz_slice {t e : TypeId} {l sp : List (DataW H)} {d : DataW H} (ht : Try.prog.underlying t = some (.slice e)) (h : Sz t (.slice l sp)) (hd : d ∈ l) : Sz e d := by
  intro n hn
  refine h n ?_
  simp only [DataW.weights, ht, List.mem_cons, List.mem_append]
  exact .inr (.inl (nweights_all hd n hn))
theorem nsz_len {t e : TypeId} {l sp : List (DataW H)} (ht : Try.prog.underlying t = some (.slice e)) (h : Sz t (.slice l sp)) : (l.length + sp.length) * Try.prog.bytesOf e ≤ 140737488351232 := h _ (by simp [DataW.weights, ht])
set_option maxRecDepth 100000 in
theorem cel_cells {fuel : Nat} {cs : List Value} {x : DataW H × List MemPlace} (h : DataW.trod enc Try.prog W 0 (fun _ => true) true fuel 45 cs = some x) :
    ∃ k n l o, cs = [.string k, .int .i64 n, .string l, .int .i64 o] ∧ x.1 = .agg [.lit (.string k.data.toList), .lit (.int .i64 n), .lit (.string l.data.toList), .lit (.int .i64 o)] := by
  obtain ⟨xs, m, -, hx, hlen, hxl, hf⟩ := DataW.trod_struct Try.underlying45 h
  rw [ncellsCell] at hlen
  match cs, hlen with
  | [c0, c1, c2, c3], _ =>
    match xs, hxl with
    | [y0, y1, y2, y3], _ =>
      have h0 : DataW.trod enc Try.prog W 0 (fun _ => true) true m 9 [c0] = some y0 := by have := hf 0 _ rfl; change DataW.trod _ _ _ _ _ _ _ 9 (List.take (Try.prog.cellsOf 9) (List.drop 0 _)) = _ at this; rw [ncellsStr] at this; exact this
      have h1 : DataW.trod enc Try.prog W 0 (fun _ => true) true m 3 [c1] = some y1 := by have := hf 1 _ rfl; change DataW.trod _ _ _ _ _ _ _ 3 (List.take (Try.prog.cellsOf 3) (List.drop 1 _)) = _ at this; rw [cellsInt] at this; exact this
      have h2 : DataW.trod enc Try.prog W 0 (fun _ => true) true m 9 [c2] = some y2 := by have := hf 2 _ rfl; change DataW.trod _ _ _ _ _ _ _ 9 (List.take (Try.prog.cellsOf 9) (List.drop 2 _)) = _ at this; rw [ncellsStr] at this; exact this
      have h3 : DataW.trod enc Try.prog W 0 (fun _ => true) true m 3 [c3] = some y3 := by have := hf 3 _ rfl; change DataW.trod _ _ _ _ _ _ _ 3 (List.take (Try.prog.cellsOf 3) (List.drop 3 _)) = _ at this; rw [cellsInt] at this; exact this
      obtain ⟨k, e0, rfl, -⟩ := DataW.trod_string Try.underlying9 h0
      obtain ⟨n, e1, rfl, -⟩ := DataW.trod_int Try.underlying3 h1
      obtain ⟨l, e2, rfl, -⟩ := DataW.trod_string Try.underlying9 h2
      obtain ⟨o, e3, rfl, -⟩ := DataW.trod_int Try.underlying3 h3
      simp only [List.cons.injEq, and_true] at e0 e1 e2 e3
      subst e0 e1 e2 e3
      exact ⟨k, n, l, o, rfl, by rw [hx]; rfl⟩
set_option maxRecDepth 100000 in
theorem sz_cel {d1 d3 : DataW H} {l0 l2 : List UInt8} (h : Sz 45 (.agg [.lit (.string l0), d1, .lit (.string l2), d3] : DataW H)) : l0.length ≤ 140737488351232 ∧ l2.length ≤ 140737488351232 :=
  ⟨h _ (by simp [DataW.weights, DataW.weightsEach, Try.underlying45]), h _ (by simp [DataW.weights, DataW.weightsEach, Try.underlying45])⟩
set_option maxRecDepth 100000 in
theorem cels_of {fuel : Nat} {sv : Value} {y : DataW H × List MemPlace} (h : DataW.trod enc Try.prog W 0 (fun _ => true) true fuel 22 [sv] = some y) (hz : Sz 22 y.1) (hlt : ∀ p, p ∈ y.2 → p.block < W.heap.size) :
    ∃ a cap l, sv = .slice a (List.length l) cap ∧ (a = none → cap = 0) ∧ l.length ≤ 1152921504606846976 ∧ (∀ x ∈ l, x.key.length ≤ 140737488351232 ∧ x.loc.length ≤ 140737488351232) ∧ Cls W a l := by
  rcases open_slice Try.underlying22 h with ⟨hcs, -⟩ | ⟨a', len, cap, m, n, D, Pl, hcs, -, hl, hm, hmm, hx, hi⟩
  · injection hcs with e _
    exact ⟨none, 0, [], e, fun _ => rfl, Nat.zero_le _, fun x hx => (by cases hx), fun k hk => absurd hk (Nat.not_lt_zero k)⟩
  · injection hcs with e _
    simp only [if_true] at hmm
    subst hmm
    have hx1 : y.1 = _ := congrArg Prod.fst hx
    have hx2 : y.2 = _ := congrArg Prod.snd hx
    simp only at hx1 hx2
    rw [hx1] at hz
    have hlen : len ≤ 140737488351232 := by
      have := nsz_len Try.underlying22 hz
      have e : Try.prog.bytesOf 45 = 48 := by kernel_rfl
      rw [List.length_map, List.length_range, e] at this
      omega
    have hel0 : ∀ j, j < len → Sz 45 (D j) := fun j hj => nsz_slice Try.underlying22 hz (List.mem_map.2 ⟨j, List.mem_range.2 hj, rfl⟩)
    have hel : ∀ j, j < len → ∃ c : Cel, (c.key.length ≤ 140737488351232 ∧ c.loc.length ≤ 140737488351232) ∧ W.cell? (a'.add (j * 4)) = some (.string (nb c.key)) ∧ W.cell? (a'.add (j * 4 + 1)) = some (.int .i64 c.len) ∧ W.cell? (a'.add (j * 4 + 2)) = some (.string (nb c.loc)) ∧ W.cell? (a'.add (j * 4 + 3)) = some (.int .i64 c.ov) := by
      intro j hj
      obtain ⟨cs', hc, ht⟩ := hi j (by omega)
      obtain ⟨k, n, l, o, e, ex⟩ := cel_cells ht
      rw [ncellsCell] at hc
      obtain ⟨_, _, hat⟩ := World.cells?_some hc
      have c0 := hat 0 (by decide)
      have c1 := hat 1 (by decide)
      have c2 := hat 2 (by decide)
      have c3 := hat 3 (by decide)
      rw [e] at c0 c1 c2 c3
      rw [Go.Deep.add_add] at c0 c1 c2 c3
      have hsz := hel0 j hj
      rw [show D j = _ from ex] at hsz
      exact ⟨⟨k.data.toList, n, l.data.toList, o⟩, sz_cel hsz, c0, c1, c2, c3⟩
    obtain ⟨f, hf⟩ : ∃ f : Nat → Cel, f = fun j => if hj : j < len then (hel j hj).choose else ⟨[], 0, [], 0⟩ := ⟨_, rfl⟩
    have hlf : ((List.range len).map f).length = len := by simp
    refine ⟨some a', _, (List.range len).map f, by rw [hlf]; exact e, (fun e => nomatch e), by omega, fun x hx => ?_, fun j hj => ?_⟩
    · obtain ⟨j, hj, rfl⟩ := List.mem_map.1 hx
      have hj := List.mem_range.1 hj
      have hs := (hel j hj).choose_spec
      rw [hf]
      simp only [hj, dif_pos]
      exact hs.1
    · have hj : j < len := by omega
      have hs := (hel j hj).choose_spec
      rw [show ((List.range len).map f)[j] = (hel j hj).choose by simp [hf, hj]]
      generalize (hel j hj).choose = o at hs
      obtain ⟨b, off, spot⟩ := a'
      have hspot : spot = none := by
        obtain ⟨y, -, h0, -⟩ := hel 0 (by omega)
        simpa [Addr.add] using World.cell?_spot h0
      subst hspot
      obtain ⟨-, k0, k1, k2, k3⟩ := hs
      rw [add_plain] at k0 k1 k2 k3
      refine ⟨b, off, rfl, ?_, k0, k1, k2, k3⟩
      rw [hx2] at hlt
      refine hlt (.cell b off) (List.mem_append_left _ (MemPlace.mem_row.2 ⟨0, ?_, by simp⟩))
      rw [ncellsCell]; omega
set_option maxRecDepth 100000 in
theorem nints_of {fuel : Nat} {sv : Value} {y : DataW H × List MemPlace} (h : DataW.trod enc Try.prog W 0 (fun _ => true) true fuel 23 [sv] = some y) (hz : Sz 23 y.1) (hlt : ∀ p, p ∈ y.2 → p.block < W.heap.size) :
    ∃ a cap l, sv = .slice a (List.length l) cap ∧ (a = none → cap = 0) ∧ l.length ≤ 1152921504606846976 ∧ Kds W a l := by
  rcases open_ints Try.underlying23 Try.underlying3 cellsInt h with ⟨hcs, -⟩ | ⟨a, len, cap, zs, hcs, -, hl, hm, hlen, hx, hcell, hw⟩
  · injection hcs with e _
    exact ⟨none, 0, [], e, fun _ => rfl, Nat.zero_le _, fun k hk => absurd hk (Nat.not_lt_zero k)⟩
  · injection hcs with e _
    simp only [if_true] at hlen
    have hx1 : y.1 = _ := congrArg Prod.fst hx
    have hx2 : y.2 = _ := congrArg Prod.snd hx
    simp only at hx1 hx2
    have hll : (zs.take len).length = len := by rw [List.length_take]; omega
    have hbz : len ≤ 1152921504606846976 := by
      rw [hx1] at hz
      have := nsz_len Try.underlying23 hz
      have e8 : Try.prog.bytesOf 3 = 8 := by kernel_rfl
      rw [e8] at this
      simp only [lits, List.length_map, hll] at this
      omega
    refine ⟨some a, cap, zs.take len, by rw [hll]; exact e, (fun e => nomatch e), by rw [hll]; exact hbz, fun k hk => ?_⟩
    rw [hll] at hk
    obtain ⟨b, off, spot⟩ := a
    have hspot : spot = none := by simpa [Addr.add] using World.cell?_spot (hcell 0 (by omega))
    subst hspot
    refine ⟨b, off, rfl, hlt (.cell b off) (by rw [hx2]; exact MemPlace.mem_row.2 ⟨0, by omega, by simp⟩), ?_⟩
    have := hcell k (by omega)
    rw [add_plain] at this
    rw [this, List.getElem_take]
    simp [List.getD, List.getElem?_eq_getElem (show k < zs.length by omega)]
set_option maxRecDepth 100000 in
theorem sz_node {d0 d1 d2 : DataW H} (h : Sz 25 (.agg [d0, d1, d2] : DataW H)) : Sz 22 d1 ∧ Sz 23 d2 :=
  ⟨fun n hn => h n (by simp [DataW.weights, DataW.weightsEach, Try.underlying25, hn]), fun n hn => h n (by simp [DataW.weights, DataW.weightsEach, Try.underlying25, hn])⟩
set_option maxRecDepth 100000 in
theorem node_cells {fuel : Nat} {cs : List Value} {x : DataW H × List MemPlace} (h : DataW.trod enc Try.prog W 0 (fun _ => true) true fuel 25 cs = some x) :
    ∃ bl c1 c2 m y0 y1 y2, cs = [.bool bl, c1, c2] ∧ x = (.agg [y0, Prod.fst y1, Prod.fst y2], y1.2 ++ y2.2) ∧ DataW.trod enc Try.prog W 0 (fun _ => true) true m 22 [c1] = some y1 ∧ DataW.trod enc Try.prog W 0 (fun _ => true) true m 23 [c2] = some y2 := by
  obtain ⟨xs, m, -, hx, hlen, hxl, hg⟩ := DataW.trod_struct Try.underlying25 h
  rw [ncellsNode] at hlen
  match cs, hlen with
  | [c0, c1, c2], _ =>
    match xs, hxl with
    | [y0, y1, y2], _ =>
      have h0 : DataW.trod enc Try.prog W 0 (fun _ => true) true m 4 [c0] = some y0 := by have := hg 0 _ rfl; change DataW.trod _ _ _ _ _ _ _ 4 (List.take (Try.prog.cellsOf 4) (List.drop 0 _)) = _ at this; rw [ncellsBool] at this; exact this
      have h1 : DataW.trod enc Try.prog W 0 (fun _ => true) true m 22 [c1] = some y1 := by have := hg 1 _ rfl; change DataW.trod _ _ _ _ _ _ _ 22 (List.take (Try.prog.cellsOf 22) (List.drop 1 _)) = _ at this; rw [ncellsCells] at this; exact this
      have h2 : DataW.trod enc Try.prog W 0 (fun _ => true) true m 23 [c2] = some y2 := by have := hg 2 _ rfl; change DataW.trod _ _ _ _ _ _ _ 23 (List.take (Try.prog.cellsOf 23) (List.drop 2 _)) = _ at this; rw [ncellsInts] at this; exact this
      obtain ⟨bl, e0, rfl⟩ := DataW.trod_bool Try.underlying4 h0
      injection e0 with e0 _
      subst e0
      exact ⟨bl, c1, c2, m, .lit (.bool bl), y1, y2, rfl, by rw [hx]; simp, h1, h2⟩
set_option maxRecDepth 100000 in
theorem open_node {b0 : Nat} {r : Reach} {v : Value} {d : DataW H} {p : List MemPlace} (hlt : ∀ x ∈ p, x.block < W.heap.size) (hv : Value.okWide Try.prog W r b0 25 v) (h : DataW.Trod enc Try.prog W 0 (fun _ => true) true 25 v d p) (hz : Sz 25 d) :
    ∃ n ca ka cc kc, v = .agg #[.bool (Nod.leaf n), .slice ca (List.length n.cells) cc, .slice ka (List.length n.kids) kc] ∧ NdSz n ∧ Cls W ca n.cells ∧ Kds W ka n.kids ∧ (ka = none → kc = 0) := by
  obtain ⟨cs, rfl, hsz⟩ := okWide_struct Try.underlying25 hv
  obtain ⟨fuel, hf⟩ := h
  obtain ⟨bl, c1, c2, m, y0, y1, y2, hcs, hx, h1, h2⟩ := node_cells hf
  have hd : d = .agg [y0, y1.1, y2.1] := congrArg Prod.fst hx
  have hp : p = y1.2 ++ y2.2 := congrArg Prod.snd hx
  rw [hd] at hz
  obtain ⟨z1, z2⟩ := sz_node hz
  obtain ⟨ca, cc, cl, e1, -, n1, n2, n3⟩ := cels_of h1 z1 (fun q hq => hlt q (by rw [hp]; simp [hq]))
  obtain ⟨ka, kc, kl, e2, k0, k1, k2⟩ := nints_of h2 z2 (fun q hq => hlt q (by rw [hp]; simp [hq]))
  refine ⟨⟨bl, cl, kl⟩, ca, ka, cc, kc, ?_, ⟨n1, k1, fun k hk => Nat.le_trans (n2 _ (List.getElem_mem hk)).1 (by decide), fun k hk => Nat.le_trans (n2 _ (List.getElem_mem hk)).2 (by decide)⟩, n3, k2, k0⟩
  have : cs = #[.bool bl, c1, c2] := by
    rw [← Array.toList_inj]
    exact hcs
  rw [this, e1, e2]
end
end Go.Proofs.Ytdpjmijdlheajaa
