/-
  Layer 11, Apply on lists of bytes, the program's way and the document's; and 'copy' of a string into a part of a block of bytes of our own. No function of the program is walked here.
-/
import Derived.Test.YtjmciknelkodcaaJrMath
import Derived.Test.YtjmciknelkodcaaLogLeaf
import Derived.Test.YtjmciknelkodcaaSumTurn
import Derived.Deep.RegionLaw
import Derived.Laws.CopyOwn
import Derived.Lib.AppendStr
import Derived.Lib.UnsafeStr
namespace Go.Proofs.Ytjmciknelkodcaa
open Go.RowKit

def putD (l : List UInt8) (o : Nat) (d : List UInt8) : List UInt8 := l.take o ++ (d ++ l.drop (o + d.length))
def okA (N : Nat) (r : R11) : Bool := decide (1 ≤ r.n ∧ r.n ≤ N ∧ r.d.length = 512)
def atA (r : R11) : Nat := (r.n.toNat - 1) * 512
def stP (N : Nat) (b : List UInt8) (r : R11) : List UInt8 := if okA N r = true then putD b (atA r) r.d else b
def fitL (m : Nat) (s : List UInt8) : List UInt8 := (s ++ List.replicate (m - s.length) 0).take m
def clN (p : Int) : Nat := (max 0 (min p 2000)).toNat
def apL (p : Int) (L : List R11) (s : List UInt8) : List UInt8 := L.foldl (stP (clN p)) (fitL (clN p * 512) s)
def stD (s : List UInt8) (r : R11) : List UInt8 := if okA 2000 r = true then putD (s ++ List.replicate (atA r + 512 - s.length) 0) (atA r) r.d else s
def apD (p : Int) (L : List R11) (s : List UInt8) : List UInt8 := fitL (clN p * 512) (L.foldl stD s)
def gB (l : List UInt8) (i : Nat) : UInt8 := (l[i]?).getD 0

theorem okA_iff {N : Nat} {r : R11} : okA N r = true ↔ 1 ≤ r.n ∧ r.n ≤ N ∧ r.d.length = 512 := by unfold okA; exact decide_eq_true_iff
theorem clN_le (p : Int) : clN p ≤ 2000 := by unfold clN; omega
theorem putD_len {l : List UInt8} {o : Nat} {d : List UInt8} (h : o + d.length ≤ l.length) : (putD l o d).length = l.length := by
  unfold putD
  rw [List.length_append, List.length_append, List.length_take, List.length_drop]; omega
theorem putD_get {l : List UInt8} {o : Nat} {d : List UInt8} (h : o ≤ l.length) (i : Nat) : (putD l o d)[i]? = if o ≤ i ∧ i < o + d.length then d[i - o]? else l[i]? := by
  unfold putD
  have ho : (l.take o).length = o := by rw [List.length_take]; omega
  rw [List.getElem?_append, ho]
  by_cases h1 : i < o
  · rw [if_pos h1, if_neg (by omega), List.getElem?_take, if_pos h1]
  · rw [if_neg h1, List.getElem?_append]
    by_cases h2 : i - o < d.length
    · rw [if_pos h2, if_pos (by omega)]
    · rw [if_neg h2, if_neg (by omega), List.getElem?_drop]
      congr 1; omega
theorem putD_g {l : List UInt8} {o : Nat} {d : List UInt8} (h : o ≤ l.length) (i : Nat) : gB (putD l o d) i = if o ≤ i ∧ i < o + d.length then gB d (i - o) else gB l i := by
  unfold gB
  rw [putD_get h]
  split <;> rfl
theorem gB_out {l : List UInt8} {i : Nat} (h : l.length ≤ i) : gB l i = 0 := by
  unfold gB; rw [List.getElem?_eq_none h]; rfl
theorem gB_app (s : List UInt8) (m i : Nat) : gB (s ++ List.replicate m 0) i = gB s i := by
  unfold gB
  rw [List.getElem?_append]
  by_cases h : i < s.length
  · rw [if_pos h]
  · rw [if_neg h, List.getElem?_eq_none (by omega : s.length ≤ i), List.getElem?_replicate]
    split <;> rfl
theorem fit_len (m : Nat) (s : List UInt8) : (fitL m s).length = m := by
  unfold fitL
  rw [List.length_take, List.length_append, List.length_replicate]; omega
theorem fit_g (m : Nat) (s : List UInt8) (i : Nat) : gB (fitL m s) i = if i < m then gB s i else 0 := by
  by_cases h : i < m
  · rw [if_pos h, ← gB_app s (m - s.length) i]
    unfold fitL gB
    rw [List.getElem?_take, if_pos h]
  · rw [if_neg h, gB_out (by rw [fit_len]; omega)]
theorem gB_ext {a b : List UInt8} (hl : a.length = b.length) (h : ∀ i, i < a.length → gB a i = gB b i) : a = b := by
  refine List.ext_getElem hl fun i h1 h2 => ?_
  have := h i h1
  unfold gB at this
  rw [List.getElem?_eq_getElem h1, List.getElem?_eq_getElem h2] at this
  exact this
theorem atA_le {N : Nat} {r : R11} (h : okA N r = true) : atA r + 512 ≤ N * 512 := by
  have := okA_iff.1 h
  unfold atA; omega
theorem stP_len {N : Nat} {b : List UInt8} (hb : b.length = N * 512) (r : R11) : (stP N b r).length = N * 512 := by
  unfold stP
  split
  · rename_i h
    have h1 := atA_le h
    have h2 := (okA_iff.1 h).2.2
    rw [putD_len (by omega), hb]
  · exact hb
theorem fold_len {N : Nat} (L : List R11) : ∀ {b : List UInt8}, b.length = N * 512 → (L.foldl (stP N) b).length = N * 512 := by
  induction L with
  | nil => intro b hb; exact hb
  | cons r t ih => intro b hb; exact ih (stP_len hb r)
theorem apL_len (p : Int) (L : List R11) (s : List UInt8) : (apL p L s).length = clN p * 512 := fold_len L (fit_len _ _)
theorem stP_g {N : Nat} {b : List UInt8} (hb : b.length = N * 512) (r : R11) (i : Nat) : gB (stP N b r) i = if okA N r = true ∧ atA r ≤ i ∧ i < atA r + 512 then gB r.d (i - atA r) else gB b i := by
  unfold stP
  by_cases h : okA N r = true
  · have h1 := atA_le h
    have h2 := (okA_iff.1 h).2.2
    rw [if_pos h, putD_g (by omega), h2]
    by_cases h3 : atA r ≤ i ∧ i < atA r + 512
    · rw [if_pos h3, if_pos ⟨h, h3⟩]
    · rw [if_neg h3, if_neg (fun e => h3 e.2)]
  · rw [if_neg h, if_neg (fun e => h e.1)]
theorem stD_g (s : List UInt8) (r : R11) (i : Nat) : gB (stD s r) i = if okA 2000 r = true ∧ atA r ≤ i ∧ i < atA r + 512 then gB r.d (i - atA r) else gB s i := by
  unfold stD
  by_cases h : okA 2000 r = true
  · have h2 := (okA_iff.1 h).2.2
    rw [if_pos h, putD_g (by rw [List.length_append, List.length_replicate]; omega), h2, gB_app]
    by_cases h3 : atA r ≤ i ∧ i < atA r + 512
    · rw [if_pos h3, if_pos ⟨h, h3⟩]
    · rw [if_neg h3, if_neg (fun e => h3 e.2)]
  · rw [if_neg h, if_neg (fun e => h e.1)]
theorem fit_step {N : Nat} (hN : N ≤ 2000) (s : List UInt8) (r : R11) : fitL (N * 512) (stD s r) = stP N (fitL (N * 512) s) r := by
  refine gB_ext (by rw [fit_len, stP_len (fit_len _ _)]) fun i hi => ?_
  rw [fit_len] at hi
  rw [fit_g, if_pos hi, stD_g, stP_g (fit_len _ _), fit_g, if_pos hi]
  by_cases h : okA N r = true
  · have h' : okA 2000 r = true := by have := okA_iff.1 h; exact okA_iff.2 ⟨this.1, by omega, this.2.2⟩
    simp only [h, h', true_and]
  · have hR : ¬ (okA N r = true ∧ atA r ≤ i ∧ i < atA r + 512) := fun e => h e.1
    rw [if_neg hR]
    have hL : ¬ (okA 2000 r = true ∧ atA r ≤ i ∧ i < atA r + 512) := by
      rintro ⟨h2, h5, -⟩
      have h3 := okA_iff.1 h2
      have h4 : (N : Int) < r.n := by
        by_cases h5 : r.n ≤ N
        · exact absurd (okA_iff.2 ⟨h3.1, h5, h3.2.2⟩) h
        · omega
      unfold atA at h5
      omega
    rw [if_neg hL]
theorem fit_fold {N : Nat} (hN : N ≤ 2000) (L : List R11) : ∀ s : List UInt8, fitL (N * 512) (L.foldl stD s) = L.foldl (stP N) (fitL (N * 512) s) := by
  induction L with
  | nil => intro s; rfl
  | cons r t ih => intro s; rw [List.foldl_cons, List.foldl_cons, ih, fit_step hN]
/-- The two ways lead to the same bytes. -/
theorem apD_eq (p : Int) (L : List R11) (s : List UInt8) : apD p L s = apL p L s := fit_fold (clN_le p) L s
theorem apL_snoc {N : Nat} {b : List UInt8} {M : List R11} {k : Nat} (h : k < M.length) : (M.take (k + 1)).foldl (stP N) b = stP N ((M.take k).foldl (stP N) b) M[k] := by
  rw [List.take_succ_eq_append_getElem h, List.foldl_append]; rfl
theorem apD_snoc {s : List UInt8} {M : List R11} {k : Nat} (h : k < M.length) : (M.take (k + 1)).foldl stD s = stD ((M.take k).foldl stD s) M[k] := by
  rw [List.take_succ_eq_append_getElem h, List.foldl_append]; rfl

theorem fold_either {N : Nat} (i : Nat) (L : List R11) : (∃ c, ∀ b : List UInt8, b.length = N * 512 → gB (L.foldl (stP N) b) i = c) ∨ (∀ b : List UInt8, b.length = N * 512 → gB (L.foldl (stP N) b) i = gB b i) := by
  induction L with
  | nil => exact .inr fun b _ => rfl
  | cons r t ih =>
    rcases ih with ⟨c, h⟩ | h
    · exact .inl ⟨c, fun b hb => h _ (stP_len hb r)⟩
    · by_cases hc : okA N r = true ∧ atA r ≤ i ∧ i < atA r + 512
      · exact .inl ⟨gB r.d (i - atA r), fun b hb => by rw [List.foldl_cons, h _ (stP_len hb r), stP_g hb, if_pos hc]⟩
      · exact .inr fun b hb => by rw [List.foldl_cons, h _ (stP_len hb r), stP_g hb, if_neg hc]
theorem fold_twice {N : Nat} (L : List R11) {b : List UInt8} (hb : b.length = N * 512) : L.foldl (stP N) (L.foldl (stP N) b) = L.foldl (stP N) b := by
  have h1 := fold_len (N := N) L hb
  refine gB_ext (by rw [fold_len L h1, h1]) fun i _ => ?_
  rcases fold_either (N := N) i L with ⟨c, h⟩ | h
  · rw [h _ h1, h _ hb]
  · rw [h _ h1]
theorem fit_self {m : Nat} {s : List UInt8} (h : s.length = m) : fitL m s = s := by
  unfold fitL
  rw [h, Nat.sub_self, List.replicate_zero, List.append_nil, List.take_of_length_le (by omega)]
/-- What was done once is done. -/
theorem apL_twice (p : Int) (L : List R11) (s : List UInt8) : apL p L (apL p L s) = apL p L s := by
  have h := apL_len p L s
  show L.foldl (stP (clN p)) (fitL (clN p * 512) (apL p L s)) = _
  rw [fit_self h]
  exact fold_twice L (fit_len _ _)
theorem fold_keeps {N : Nat} {r : R11} {i : Nat} (hr : okA N r = true) (h1 : atA r ≤ i) (h2 : i < atA r + 512) (L : List R11) (hne : ∀ x ∈ L, x.n ≠ r.n) : ∀ {b : List UInt8}, b.length = N * 512 → gB (L.foldl (stP N) b) i = gB b i := by
  induction L with
  | nil => intro b _; rfl
  | cons x t ih =>
    intro b hb
    rw [List.foldl_cons, ih (fun y hy => hne y (List.mem_cons_of_mem _ hy)) (stP_len hb x), stP_g hb, if_neg]
    rintro ⟨h3, h4, h5⟩
    have h6 := hne x (List.mem_cons_self ..)
    have h7 := okA_iff.1 hr
    have h8 := okA_iff.1 h3
    unfold atA at h1 h2 h4 h5
    omega
/-- Each page that the file had is there. -/
theorem apL_page {p : Int} {L : List R11} {s : List UInt8} {j : Nat} (hj : j < L.length) (hr : okA (clN p) L[j] = true) (hne : ∀ k (hk : k < L.length), j < k → L[k].n ≠ L[j].n) : ((apL p L s).drop (atA L[j])).take 512 = L[j].d := by
  have h0 := okA_iff.1 hr
  have h1 := atA_le hr
  have hl := apL_len p L s
  have hb := fit_len (clN p * 512) s
  have e : L = L.take j ++ (L[j] :: L.drop (j + 1)) := by rw [← List.drop_eq_getElem_cons hj, List.take_append_drop]
  have hne' : ∀ x ∈ L.drop (j + 1), x.n ≠ L[j].n := by
    intro x hx
    obtain ⟨i, hi, rfl⟩ := List.getElem_of_mem hx
    rw [List.getElem_drop]
    exact hne _ _ (by omega)
  refine gB_ext (by rw [List.length_take, List.length_drop, hl, h0.2.2]; omega) fun i hi => ?_
  rw [List.length_take, List.length_drop, hl] at hi
  have hi' : i < 512 := by omega
  have e1 : gB (((apL p L s).drop (atA L[j])).take 512) i = gB (apL p L s) (atA L[j] + i) := by
    unfold gB
    rw [List.getElem?_take, if_pos hi', List.getElem?_drop]
  rw [e1]
  have e2 : apL p L s = (L.drop (j + 1)).foldl (stP (clN p)) (stP (clN p) ((L.take j).foldl (stP (clN p)) (fitL (clN p * 512) s)) L[j]) := by
    show L.foldl (stP (clN p)) _ = _
    conv => lhs; rw [e]
    rw [List.foldl_append, List.foldl_cons]
  rw [e2, fold_keeps hr (by omega) (by omega) _ hne' (stP_len (fold_len _ hb) _), stP_g (fold_len _ hb), if_pos ⟨hr, by omega, by omega⟩]
  congr 1; omega

/-! ### Memory -/
theorem strCells_take (s : ByteArray) (m : Nat) : ((s.extract 0 m).data.map fun b => Value.int .u8 b.toNat) = ((Lib.strCells s).take m).toArray := by
  apply Array.ext'
  simp [Lib.strCells, ByteArray.data_extract]
theorem run_copy_str {P : Program} (w : World) (dT sT ty elem : TypeId) (g o dLen dCap : Nat) (s : ByteArray) (cur : Array Value) (t : TypeId)
    (hu : P.underlying dT = some (.slice elem)) (hs : (P.info? elem).map (·.size) = some 1) (hg : w.heap[g]? = some (.cells cur t (0, 0))) (m : Nat) (hm : Nat.min s.size dLen = m) (hfit : o + m ≤ cur.size) :
    (Builtin.copy_ #[dT, sT] ty #[.slice (some ⟨g, o, none⟩) dLen dCap, .string s]).run P w =
      .ok (goInt m) (w.setRow g (cur.toList.take o ++ ((Lib.strCells s).take m ++ cur.toList.drop (o + m))).toArray) := by
  have hl : ((Lib.strCells s).take m).length = m := by
    rw [List.length_take, Lib.strCells_length]
    have : m ≤ s.size := by rw [← hm]; exact Nat.min_le_left _ _
    omega
  have hst := run_storeCells_at P g o t ((Lib.strCells s).take m) 0 cur w hg (by rw [hl]; simpa using hfit) (by intro v hv; have := List.mem_of_mem_take hv; simp only [Lib.strCells, List.mem_map] at this; obtain ⟨b, _, rfl⟩ := this; rfl)
  simp only [Nat.add_zero, hl, List.append_assoc] at hst
  have hx := strCells_take s m
  cases hq : P.info? elem with
  | none => simp [hq] at hs
  | some i =>
    have hf : (Builtin.firstCells i.size (Nat.min s.size dLen) (.string s)).run P w = .ok ((Lib.strCells s).take m).toArray w := by
      rw [hm, Builtin.firstCells, hx]; rfl
    have hst' : (storeCells ⟨g, o, none⟩ ((Lib.strCells s).take m)).run P w = .ok () (w.setRow g (cur.toList.take o ++ ((Lib.strCells s).take m ++ cur.toList.drop (o + m))).toArray) := hst
    have hgo : goInt (Nat.min s.size dLen) = goInt m := by rw [hm]
    clear hx hst
    simp [Builtin.copy_, run_underlying hu, Builtin.lenOf, sizeOf, typeInfo, hq, hf, hst', hgo]
theorem bytes_put (l : List UInt8) (o m : Nat) (s : ByteArray) (hm : m ≤ s.size) :
    ((Lib.byteCells l).take o ++ ((Lib.strCells s).take m ++ (Lib.byteCells l).drop (o + m))) = Lib.byteCells (putD l o (s.data.toList.take m)) := by
  have hl : (s.data.toList.take m).length = m := by rw [List.length_take]; have : s.data.toList.length = s.size := by simp
                                                    omega
  unfold putD
  rw [hl]
  simp only [Lib.byteCells, Lib.strCells, List.map_append, List.map_take, List.map_drop]
/-- A copy into a part of a block of bytes of our own. -/
theorem run_copy_bytes {P : Program} (w : World) (dT sT ty elem : TypeId) (g o dLen dCap : Nat) (s : ByteArray) (l : List UInt8) (t : TypeId)
    (hu : P.underlying dT = some (.slice elem)) (hs : (P.info? elem).map (·.size) = some 1) (hg : Blk w g t (Lib.byteCells l).toArray) (m : Nat) (hm : Nat.min s.size dLen = m) (hfit : o + m ≤ l.length) :
    (Builtin.copy_ #[dT, sT] ty #[.slice (some ⟨g, o, none⟩) dLen dCap, .string s]).run P w = .ok (goInt m) (w.setRow g (Lib.byteCells (putD l o (s.data.toList.take m))).toArray) := by
  have h := run_copy_str (P := P) w dT sT ty elem g o dLen dCap s (Lib.byteCells l).toArray t hu hs hg m hm (by rw [List.size_toArray, Lib.byteCells_length]; exact hfit)
  rw [h, bytes_put l o m s (by rw [← hm]; exact Nat.min_le_left _ _)]
theorem blk_row {w : World} {g : Nat} {t : TypeId} {cs : Array Value} (h : Blk w g t cs) (cs' : Array Value) : Blk (w.setRow g cs') g t cs' := setRow_heap w g cs cs' t _ h
theorem step_copy_bytes {P : Program} {ops : Array Oper} {o : Oper} {a : Act} {w : World} {K : Act → World → Prop} {Q : Exit → Act → World → Prop} {E : Prop} (hgd : o.guard = none) (d s : Operand) (dT sT : TypeId)
    (ho : o.op = .call { callee := .builtin .copy, args := #[d, s], argTypes := #[dT, sT] }) (elem : TypeId) (hu : P.underlying dT = some (.slice elem)) (hsz : (P.info? elem).map (·.size) = some 1)
    (g off dLen dCap : Nat) (x : ByteArray) (hd : a.eval d = .slice (some ⟨g, off, none⟩) dLen dCap) (hs : a.eval s = .string x) (l : List UInt8) (t : TypeId) (hg : Blk w g t (Lib.byteCells l).toArray) (m : Nat) (hm : Nat.min x.size dLen = m) (hfit : off + m ≤ l.length)
    (h : K (a.put o.dst (goInt m)) (w.setRow g (Lib.byteCells (putD l off (x.data.toList.take m))).toArray)) :
    if Region.wanted o (yielded ops a.tmps) = true then Oper.wp P o a w K Q else E := by
  have hw : Region.wanted o (yielded ops a.tmps) = true := by simp [Region.wanted, hgd]
  rw [if_pos hw]
  have hrun := run_copy_bytes (P := P) w dT sT o.type elem g off dLen dCap x l t hu hsz hg m hm hfit
  unfold Oper.wp
  simp [execOp, ho, resolve, invoke, builtin, hd, hs, hrun, Result.andThen]
  exact h
end Go.Proofs.Ytjmciknelkodcaa
