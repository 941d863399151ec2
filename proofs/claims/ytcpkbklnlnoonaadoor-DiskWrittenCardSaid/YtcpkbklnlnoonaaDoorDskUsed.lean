/-
  Layer 7: used and exceeds: the length of all visible files together; would a file become longer, and all together longer than the capacity. Condition: the paths of the visible state are distinct.
-/
import Derived.Test.YtcpkbklnlnoonaaDoorDskCont
import Derived.Maps.RangeWalk
import Derived.StillTailTactics
namespace Go.Proofs.YtcpkbklnlnoonaaDoor
open Go.RowKit
variable {L : Loc} {ρ ρ' : Nat → Option Role} {n : Nat} {S : DS} {w w' : World}

def lenOf (S : DS) (i : Nat) : Nat := (S.con false i).length
def sumLeft (f : Nat → Nat) (left : Lit → Bool) : List (List UInt8 × Nat) → Nat
  | [] => 0
  | q :: l => (if left (.string q.1) = true then f q.2 else 0) + sumLeft f left l
def usedN (S : DS) : Nat := ((S.dirs false).map fun q => lenOf S q.2).sum
theorem sumLeft_all {f : Nat → Nat} {left : Lit → Bool} : ∀ {l : List (List UInt8 × Nat)}, (∀ q, q ∈ l → left (.string q.1) = true) → sumLeft f left l = (l.map fun q => f q.2).sum
  | [], _ => rfl
  | q :: l, h => by rw [sumLeft, if_pos (h q (List.mem_cons_self ..)), sumLeft_all (fun q' hq => h q' (List.mem_cons_of_mem _ hq)), List.map_cons, List.sum_cons]
theorem sumLeft_none {f : Nat → Nat} {left : Lit → Bool} (h : ∀ z, left z = false) : ∀ l : List (List UInt8 × Nat), sumLeft f left l = 0
  | [] => rfl
  | q :: l => by rw [sumLeft, h, sumLeft_none h l]; rfl
theorem sumLeft_other {f : Nat → Nat} {left : Lit → Bool} {p : List UInt8} : ∀ {l : List (List UInt8 × Nat)}, (∀ q, q ∈ l → q.1 ≠ p) → sumLeft f (fun z => left z && !z.sameKey (.string p)) l = sumLeft f left l
  | [], _ => rfl
  | q :: l, h => by
    have h1 : (Lit.string q.1).sameKey (.string p) = false := beq_eq_false_iff_ne.2 (h q (List.mem_cons_self ..))
    rw [sumLeft, sumLeft, sumLeft_other (fun q' hq => h q' (List.mem_cons_of_mem _ hq)), h1]
    simp
theorem sumLeft_step {f : Nat → Nat} {left : Lit → Bool} {p : List UInt8} {i : Nat} (hl : left (.string p) = true) : ∀ {l : List (List UInt8 × Nat)}, (l.map (·.1)).Nodup → findL l p = some i →
    sumLeft f left l = f i + sumLeft f (fun z => left z && !z.sameKey (.string p)) l
  | [], _, h => by cases h
  | q :: l, hn, h => by
    rw [List.map_cons, List.nodup_cons] at hn
    by_cases e : q.1 = p
    · have hi : q.2 = i := by
        have : (q.1 == p) = true := by simpa using e
        simp only [findL, List.find?_cons, this, Option.map_some, Option.some.injEq] at h
        exact h
      have hs : (Lit.string q.1).sameKey (.string p) = true := by show (q.1 == p) = true; simpa using e
      have ho := sumLeft_other (f := f) (left := left) (p := p) (l := l) (fun q' hq e' => hn.1 (by rw [e, ← e']; exact List.mem_map_of_mem hq))
      rw [sumLeft, sumLeft, ho, hs, e, hl, hi]
      simp
    · have he : (q.1 == p) = false := by simpa using e
      have h' : findL l p = some i := by
        simp only [findL, List.find?_cons, he] at h
        exact h
      have hs : (Lit.string q.1).sameKey (.string p) = false := he
      rw [sumLeft, sumLeft, sumLeft_step hl hn.2 h', hs]
      simp
      omega
theorem fileD_has (F : Nat → Nat) (l : List (List UInt8 × Nat)) (p : List UInt8) : Maps.has (fileD F l) (.string p) = (findL l p).isSome := by
  simp only [fileD, Maps.has, findL, Option.isSome_map]
  induction l with
  | nil => rfl
  | cons q l ih =>
    have : (entL F q).1.sameKey (.string p) = (q.1 == p) := rfl
    simp only [List.map_cons, List.any_cons, this, List.find?_cons]
    cases hq : q.1 == p <;> simp_all
theorem findL_mem {l : List (List UInt8 × Nat)} {p : List UInt8} {i : Nat} (h : findL l p = some i) : (p, i) ∈ l := by
  unfold findL at h
  cases hf : l.find? (fun q => q.1 == p) with
  | none => rw [hf] at h; cases h
  | some q =>
    rw [hf] at h
    have h1 := List.find?_some hf
    have h2 := List.mem_of_find?_eq_some hf
    simp only [Option.map_some, Option.some.injEq] at h
    have h3 : q.1 = p := by simpa using h1
    rw [← h, ← h3]
    exact h2
theorem mem_findL {l : List (List UInt8 × Nat)} {q : List UInt8 × Nat} (h : q ∈ l) : (findL l q.1).isSome = true := by
  unfold findL
  rw [Option.isSome_map, List.find?_isSome]
  exact ⟨q, h, by simp⟩
theorem fileR_at {F : Nat → Nat} {l : List (List UInt8 × Nat)} {p : List UInt8} {i : Nat} {c : Option Addr} {y : DataW Unit × List MemPlace} (h : findL l p = some i) (hc : fileR (.pointer c) = some y) (hy : ∀ zd, (fileD F l).atKey (.string p) zd = y.1) : c = some ⟨F i, 0, none⟩ := by
  have e := fileD_at F l p
  rw [h, hy] at e
  simp only at e
  unfold fileR at hc
  split at hc
  · simp at hc; rw [← hc] at e; cases e
  · rename_i g hg
    simp at hc
    rw [← hc] at e
    injection e with e
    injection e with _ e
    have : g = F i := by omega
    subst this
    injection hg
  · cases hc
theorem keyStr_inv {key : Value} {kl : Lit} (h : keyOf Tryd.prog 9 key = some kl) : ∃ x : ByteArray, key = .string x := by
  cases key <;> simp [keyOf, show Tryd.prog.underlying 9 = some .string by kernel_rfl, mapKey] at h
  exact ⟨_, rfl⟩
theorem keyStr_lit {x : ByteArray} {kl : Lit} (h : keyOf Tryd.prog 9 (.string x) = some kl) : kl = .string x.data.toList := by
  simp [keyOf, show Tryd.prog.underlying 9 = some .string by kernel_rfl, mapKey] at h
  exact h.2.symm
theorem fileR_inv {v : Value} {y : DataW Unit × List MemPlace} (h : fileR v = some y) : ∃ c : Option Addr, v = .pointer c := by
  unfold fileR at h
  split at h
  · exact ⟨_, rfl⟩
  · exact ⟨_, rfl⟩
  · cases h
theorem sumLeft_le {f : Nat → Nat} {left : Lit → Bool} {m : Nat} : ∀ {l : List (List UInt8 × Nat)}, (∀ q, q ∈ l → f q.2 ≤ m) → sumLeft f left l ≤ l.length * m
  | [], _ => by simp [sumLeft]
  | q :: l, h => by
    have h1 := h q (List.mem_cons_self ..)
    have h2 := sumLeft_le (left := left) (fun q' hq => h q' (List.mem_cons_of_mem _ hq))
    rw [sumLeft, List.length_cons, Nat.add_mul]
    split <;> omega

set_option maxHeartbeats 2000000 in
set_option maxRecDepth 100000 in
theorem used_any (h : Inv L ρ n S w) (hk : ((S.dirs false).map (·.1)).Nodup) (hne : S.dirs false ≠ []) :
    Calls Tryd.prog 36 #[.pointer (some ⟨L.b, 0, none⟩)] w fun e w' => e = .returned (.int .i64 (usedN S)) ∧ Below w.heap.size w w' := by
  obtain ⟨g, hg, hgr, hown⟩ : ∃ g, L.m false = some g ∧ ρ g = some (.map false) ∧ w.ownsMap Tryd.prog 9 fileR g (S.dirs false).length (fileD L.F (S.dirs false)) := by
    rcases h.mp false with ⟨_, e⟩ | h
    · exact absurd e hne
    · exact h
  have c1 := blk_cell h.blk 1 rfl
  rw [hg] at c1
  have hbnd : sumLeft (lenOf S) (Maps.has (fileD L.F (S.dirs false))) (S.dirs false) = usedN S := sumLeft_all (fun q hq => by rw [fileD_has]; exact mem_findL hq)
  have hle : ∀ left, sumLeft (lenOf S) left (S.dirs false) ≤ (S.dirs false).length * 4000000 := fun left => sumLeft_le (fun q hq => h.clen false q.2 (h.dok false q hq))
  have hb3 := h.bnd.2.2.1 false
  have hb4 := h.bnd.2.2.2
  have hmul : (S.dirs false).length * 4000000 ≤ 400000000000 := by omega
  have HLE := Lib.hid hle; have HH := Lib.hid h; have HK := Lib.hid hk; have HBD := Lib.hid hbnd; have HMUL := Lib.hid hmul
  have hut : usedN S ≤ 400000000000 := by have := hle (Maps.has (fileD L.F (S.dirs false))); omega
  clear h hk hne hbnd hle hg hgr hb3 hb4 hmul
  go_enter Tryd.func36, Tryd.ntmps36
  go_wp2_with (first
    | (at_range; refine wpList_range_own _ rfl _ 37 rfl 9 45 lawStr underF fileR g _ _ rfl hown ?_; intro w0 hrg0 hg0 hs0)
    | go_in)
  go_frame
  go_loopw [3] (fun v wr => ∃ (left : Lit → Bool) (cnt acc : Nat), v = .int .i64 acc ∧ wr.ranges Tryd.prog 9 fileR g w.heap.size (S.dirs false).length (fileD L.F (S.dirs false)) left cnt ∧ acc ≤ 400000000000 ∧
      Hid (∀ kl, left kl = true → Maps.has (fileD L.F (S.dirs false)) kl = true) ∧ Hid (acc + sumLeft (lenOf S) left (S.dirs false) = usedN S) ∧ Hid (Below w.heap.size w wr))
    (fun _ wr => wr.rangeLeft g w.heap.size)
  case atStart => exact ⟨_, _, 0, rfl, hrg0, by omega, Lib.hid (fun kl h => h), Lib.hid (by rw [Nat.zero_add]; exact HBD.out), Lib.hid ⟨hg0.os, hg0.tape, hg0.output, hg0.size, fun k hk => hg0.block k hk (by simp)⟩⟩
  case round =>
    obtain ⟨left, cnt, acc, rfl, hrg, hacc, HL, HS, HB⟩ := hrel
    clear hown hrg0 hg0 hs0 c1
    go_wp2_with (first
      | (at_next; refine wpList_next_ranges _ rfl _ rfl 9 lawStr fileR Value.string Value.pointer (fun key kl hkey => keyStr_inv hkey) (fun v y hv => fileR_inv hv) g w.heap.size _ _ _ _ rfl hrg ?_ ?_)
      | go_in)
    · intro hc0 hl0
      have e := HS.out
      rw [sumLeft_none hl0, Nat.add_zero] at e
      subst e
      clear hrg
      go_wp2
      go_ret
      exact ⟨rfl, HB.out⟩
    · intro x c kl y1 y2 w1 cnt1 hkey hlx hy hat hrg1 hlt hg1 hs1 hen
      obtain rfl := keyStr_lit hkey
      have hhas := HL.out _ hlx
      rw [fileD_has] at hhas
      obtain ⟨i, hi⟩ := Option.isSome_iff_exists.1 hhas
      obtain rfl := fileR_at hi hy hat
      have him := HH.out.dok false _ (findL_mem hi)
      simp only at him
      have hB1 : Below w.heap.size w w1 := HB.out.trans ⟨hg1.os, hg1.tape, hg1.output, hg1.size, fun k hk => hg1.block k (Nat.lt_of_lt_of_le hk HB.out.size) (fun e => by injection e with e; omega)⟩
      have hI1 := HH.out.below hB1
      have v0 := blk_cell (hI1.fil i him) 0 rfl
      obtain ⟨va, vc, hv, hvc⟩ := bys_slice (hI1.con false i him)
      rw [hv] at v0
      have hst := sumLeft_step (f := lenOf S) hlx HK.out hi
      have hsum := HS.out
      rw [hst] at hsum
      have hlen : lenOf S i = (S.con false i).length := rfl
      have hle2 : acc + lenOf S i ≤ 400000000000 := by omega
      have hm0 : wr.rangeLeft g w.heap.size = cnt := hrg.left_eq
      have hm1 : w1.rangeLeft g w.heap.size = cnt1 := hrg1.left_eq
      have HL1 : Hid (∀ kl, (left kl && !kl.sameKey (.string x.data.toList)) = true → Maps.has (fileD L.F (S.dirs false)) kl = true) := Lib.hid (fun kl hkl => HL.out kl (by revert hkl; cases left kl <;> simp))
      have HS1 := Lib.hid (show acc + (S.con false i).length + sumLeft (lenOf S) (fun z => left z && !z.sameKey (.string x.data.toList)) (S.dirs false) = usedN S by rw [← hlen]; omega)
      have HB1 := Lib.hid hB1; have HRG1 := Lib.hid hrg1
      rw [hlen] at hle2
      generalize hcl : (S.con false i).length = cl at *
      have hadd : IntKind.i64.wrap ((acc : Int) + (cl : Int)) = ((acc + cl : Nat) : Int) := by rw [IntKind.wrap_i64]; omega
      clear hrg hrg1 hI1 hst hsum hv hB1 hhas hy hat hkey HL HS HB hg1 hcl
      go_wp2
      go_roundw
      case rel => exact ⟨_, cnt1, acc + cl, by first | rfl | go_num, HRG1.out, hle2, HL1, HS1, HB1⟩
      case measure => rw [hm0, hm1]; exact hlt
end Go.Proofs.YtcpkbklnlnoonaaDoor
