/-
  What the rows of layer 10's statements share: a slice of strings as an argument, opened to what the walks ask.
-/
import Derived.Test.YtcfojplmmpeefaaJhRow
import Derived.Test.YtcfojplmmpeefaaSpFiles
import Derived.SliceStrings
namespace Go.Proofs.Ytcfojplmmpeefaa
open Go.ChangeShapes Go.WideShapes Go.ChangeAt Go.RowKit Go.Deep

theorem cellsStr : Try.prog.cellsOf 9 = 1 := by kernel_rfl
section
variable {H : Type} {enc : TypeId × Value → H} {W W' : World}
theorem weights_all {e : TypeId} {d : DataW H} : ∀ {l : List (DataW H)}, d ∈ l → ∀ n ∈ d.weights Try.prog e, n ∈ DataW.weightsAll Try.prog e l
  | x :: l, h, n, hn => by
    rw [List.mem_cons] at h
    simp only [DataW.weightsAll, List.mem_append]
    rcases h with rfl | h
    · exact .inl hn
    · exact .inr (weights_all h n hn)
theorem sz_slice {t e : TypeId} {l sp : List (DataW H)} {d : DataW H} (ht : Try.prog.underlying t = some (.slice e)) (h : Sz t (.slice l sp)) (hd : d ∈ l) : Sz e d := by
  intro n hn
  refine h n ?_
  simp only [DataW.weights, ht, List.mem_cons, List.mem_append]
  exact .inr (.inl (weights_all hd n hn))
theorem sz_len {t e : TypeId} {l sp : List (DataW H)} (ht : Try.prog.underlying t = some (.slice e)) (h : Sz t (.slice l sp)) : (l.length + sp.length) * Try.prog.bytesOf e ≤ 140737488351232 := h _ (by simp [DataW.weights, ht])
theorem open_texts {b0 : Nat} {r : Reach} {v : Value} {d : DataW H} {p : List MemPlace} (hlt : ∀ x ∈ p, x.block < W.heap.size) (hv : Value.okWide Try.prog W r b0 22 v) (h : DataW.Trod enc Try.prog W 0 (fun _ => true) true 22 v d p) (hz : Sz 22 d) :
    ∃ a cap L, v = .slice a (List.length L) cap ∧ L.length ≤ 4611686018427387904 ∧ L.length ≤ cap ∧ (∀ q ∈ L, q.length ≤ 4611686018427387904) ∧ Strs W a L := by
  obtain ⟨a, len, cap, rfl⟩ := okWide_slice Try.underlying22 hv
  obtain ⟨fuel, hf⟩ := h
  rcases open_strings Try.underlying22 Try.underlying9 cellsStr hf with ⟨hcs, hx⟩ | ⟨a', len', cap', ss, hcs, _, hl, hm, hzz, hx, hcell, hws⟩
  · simp [Value.cells] at hcs
    obtain ⟨rfl, rfl, rfl⟩ := hcs
    exact ⟨none, 0, [], rfl, Nat.zero_le _, Nat.le_refl _, fun q hq => (by cases hq), strs_nil _ _⟩
  · simp [Value.cells] at hcs
    obtain ⟨rfl, rfl, rfl⟩ := hcs
    simp only [Prod.mk.injEq] at hx
    obtain ⟨rfl, rfl⟩ := hx
    simp only [if_true] at hzz
    have e16 : Try.prog.bytesOf 9 = 16 := by kernel_rfl
    have hsl := sz_len Try.underlying22 hz
    rw [e16] at hsl
    have hlen2 : (strs (H := H) (ss.take len)).length = len := by
      simp only [strs, List.length_map, List.length_take]; omega
    rw [hlen2] at hsl
    have hLl : ((ss.take len).map (fun s => s.data.toList)).length = len := by
      rw [List.length_map, List.length_take]; omega
    refine ⟨some a', cap, (ss.take len).map (fun s => s.data.toList), by rw [hLl], by rw [hLl]; omega, by rw [hLl]; exact hl, ?_, ?_⟩
    · intro q hq
      obtain ⟨s, hs, rfl⟩ := List.mem_map.1 hq
      have := sz_str (sz_slice (d := .lit (.string s.data.toList)) Try.underlying22 hz (List.mem_map.2 ⟨s, hs, rfl⟩))
      omega
    · obtain ⟨b, off, spot⟩ := a'
      intro j hj
      rw [hLl] at hj
      have hspot : spot = none := by simpa [Addr.add] using World.cell?_spot (hcell 0 (by omega))
      subst hspot
      refine ⟨b, off, rfl, hlt (.cell b off) (MemPlace.mem_row.2 ⟨0, by omega, by simp⟩), ?_⟩
      have := hcell j (by omega)
      rw [add_plain] at this
      rw [this]
      have e : ((ss.take len).map (fun s => s.data.toList))[j]'(by rw [hLl]; exact hj) = (ss.getD j ByteArray.empty).data.toList := by
        rw [List.getElem_map, List.getElem_take]
        simp [List.getD, List.getElem?_eq_getElem (show j < ss.length by omega)]
      rw [e, ba_back]
end
end Go.Proofs.Ytcfojplmmpeefaa
