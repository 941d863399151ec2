/-
  Layer 12: the walk of a list's add. Condition: the list has at most a million elements.
-/
import Derived.Test.YtkpgekfejfbpjaaCchList
namespace Go.Proofs.Ytkpgekfejfbpjaa
open Go.RowKit
variable {L : CL} {ρ ρ' : Nat → Option CRole} {S : CS} {w w' : World}

/-- Only elements and lists have turned. -/
structure LStep (ρ : Nat → Option CRole) (w w' : World) : Prop where
  os : w'.os = w.os
  tape : w'.tape = w.tape
  output : w'.output = w.output
  size : w'.heap.size = w.heap.size
  blk : ∀ k, (∀ s, ρ k ≠ some (.list s)) → ρ k ≠ some .el → w'.heap[k]? = w.heap[k]?
theorem LStep.refl (ρ : Nat → Option CRole) (w : World) : LStep ρ w w := ⟨rfl, rfl, rfl, rfl, fun _ _ _ => rfl⟩
theorem LStep.trans {w'' : World} (h : LStep ρ w w') (k : LStep ρ w' w'') : LStep ρ w w'' :=
  ⟨k.os.trans h.os, k.tape.trans h.tape, k.output.trans h.output, k.size.trans h.size, fun i h1 h2 => (k.blk i h1 h2).trans (h.blk i h1 h2)⟩
theorem LStep.step (h : LStep ρ w w') : CStep ρ w ρ w' := ⟨h.os, h.tape, h.output, Nat.le_of_eq h.size.symm, fun k _ hk => h.blk k (by simp [hk]) (by simp [hk]), fun _ _ => rfl⟩
theorem LStep.drew (h : LStep ρ w w') : LStep ρ w w'.drew := ⟨h.os, h.tape, h.output, h.size, h.blk⟩
theorem LStep.set (h : LStep ρ w w') {g i : Nat} {v : Value} (hg : (∃ s, ρ g = some (.list s)) ∨ ρ g = some .el) : LStep ρ w (w'.setCell ⟨g, i, none⟩ v) :=
  ⟨h.os, h.tape, h.output, (size_set _ _ _).trans h.size, fun k h1 h2 => (keep_set w' g i v k (fun e => by subst e; rcases hg with ⟨s, hg⟩ | hg; exact h1 s hg; exact h2 hg)).trans (h.blk k h1 h2)⟩

abbrev AddQ (L : CL) (ρ : Nat → Option CRole) (S' : CS) (w : World) (ev : Ending) (w' : World) : Prop :=
  ev = .returned (.tuple #[]) ∧ CInv L ρ S' w' ∧ LStep ρ w w'

theorem add_any (h : CInv L ρ S w) (s : Bool) {e : Nat} (hf : S.fr = some e) (hlen : (S.li s).length ≤ 1000000) :
    Calls Try.prog 31 #[ptr (some (L.lb s)), .pointer (some ⟨e, 0, none⟩)] w (AddQ L ρ (addS S s e) w) := by
  obtain ⟨hr, hbe⟩ := h.fre e hf
  have hbl := h.lst s
  obtain ⟨c0, c1, c2⟩ := li_cells hbl
  obtain ⟨d0, d1, d2, d3, d4⟩ := el_cells hbe
  have f0 := blk_frozen hbl 0
  have f1 := blk_frozen hbl 1
  have f2 := blk_frozen hbl 2
  have g3 := blk_frozen hbe 3
  obtain ⟨lb, hlb⟩ : ∃ lb, lb = L.lb s := ⟨_, rfl⟩
  have hne : e ≠ lb := by rw [hlb]; exact (h.cl_ne hr).1
  have hne2 : lb ≠ e := hne.symm
  have HH := Lib.hid h; have HF := Lib.hid hf; have HLB := Lib.hid hlb; have HBE := Lib.hid hbe; have HBL := Lib.hid hbl; have HR := Lib.hid hr
  rcases List.eq_nil_or_concat (S.li s) with hl | ⟨a, z, hl⟩
  · rw [hl] at c0 c1 c2
    simp only [List.head?_nil, List.getLast?_nil, List.length_nil, ptr, Option.map_none, Option.map_some] at c0 c1 c2 d3 d4 ⊢
    rw [← hlb] at c0 c1 c2 f0 f1 f2 ⊢
    have HL := Lib.hid hl
    clear h hf hlb hbe hbl hl hr
    go_enter Try.func31, Try.ntmps31
    go_wp2
    have hbl := HBL.out
    have hbe := HBE.out
    rw [HL.out, ← HLB.out] at hbl
    have q1 : Blk ((((w.setCell ⟨lb, 0, none⟩ (.pointer (some ⟨e, 0, none⟩))).setCell ⟨e, 3, none⟩ (.pointer none)).setCell ⟨lb, 1, none⟩ (.pointer (some ⟨e, 0, none⟩))).setCell ⟨lb, 2, none⟩ (.int .i64 1)) lb 48 (liC [e]) := blk_set (blk_set (blk_off (blk_set hbl 0 _) hne2) 1 _) 2 _
    have q2 : Blk ((((w.setCell ⟨lb, 0, none⟩ (.pointer (some ⟨e, 0, none⟩))).setCell ⟨e, 3, none⟩ (.pointer none)).setCell ⟨lb, 1, none⟩ (.pointer (some ⟨e, 0, none⟩))).setCell ⟨lb, 2, none⟩ (.int .i64 1)) e 56 (elC (S.pg e) none none) := blk_off (blk_off (blk_set (blk_off hbe hne) 3 _) hne) hne
    go_returns
    have hrl : ρ lb = some (.list s) := by rw [HLB.out]; exact HH.out.hl s
    refine ⟨rfl, inv_add HH.out s HF.out (by rw [HL.out, ← HLB.out]; exact q1) (by rw [HL.out]; exact q2) (fun a z hz => by rw [HL.out] at hz; simp at hz) (fun k h1 h2 _ => ?_) (by simp [size_set]), ((((LStep.refl ρ w).set (.inl ⟨s, hrl⟩)).set (.inr HR.out)).set (.inl ⟨s, hrl⟩)).set (.inl ⟨s, hrl⟩)⟩
    rw [← HLB.out] at h1
    rw [keep_set _ _ _ _ k h1, keep_set _ _ _ _ k h1, keep_set _ _ _ _ k h2, keep_set _ _ _ _ k h1]
  · rw [List.concat_eq_append] at hl
    obtain ⟨hrz, hbz⟩ := h.ele s a z [] hl
    obtain ⟨-, -, -, -, z4⟩ := el_cells hbz
    have k4 := blk_frozen hbz 4
    have hzl : z ≠ lb := by rw [hlb]; exact (h.cl_ne hrz).1
    have hzl2 : lb ≠ z := hzl.symm
    have hze : z ≠ e := fun he => h.nf e s hf (by rw [hl, he]; simp)
    have hze2 : e ≠ z := hze.symm
    have HBZ := Lib.hid hbz; have HRZ := Lib.hid hrz
    obtain ⟨n, hn⟩ : ∃ n, n = (S.li s).length := ⟨_, rfl⟩
    rw [← hn] at c2 hlen
    rw [hl] at c0 c1
    generalize hhd : (a ++ [z]).head? = hd at c0
    have e2 : (a ++ [z]).getLast? = some z := by simp
    rw [e2] at c1
    simp only [List.head?_nil, ptr, Option.map_none, Option.map_some] at c0 c1 c2 d3 d4 z4 ⊢
    rw [← hlb] at c0 c1 c2 f0 f1 f2 ⊢
    have HL := Lib.hid hl; have HN := Lib.hid hn; have HHD := Lib.hid hhd
    clear h hf hlb hbe hbl hl hr hn hbz hrz e2 hhd
    go_enter Try.func31, Try.ntmps31
    go_wp2
    have hbl := HBL.out
    have hbe := HBE.out
    have hbz := HBZ.out
    rw [← HLB.out] at hbl
    have q1 := blk_set (blk_set (blk_off (i := 3) (v := .pointer (some ⟨z, 0, none⟩)) (blk_off (i := 4) (v := .pointer (some ⟨e, 0, none⟩)) hbl hzl2) hne2) 1 (.pointer (some ⟨e, 0, none⟩))) 2 (.int .i64 (n + 1))
    have q2 := blk_off (i := 2) (v := .int .i64 (n + 1)) (blk_off (i := 1) (v := .pointer (some ⟨e, 0, none⟩)) (blk_set (blk_off (i := 4) (v := .pointer (some ⟨e, 0, none⟩)) hbe hze2) 3 (.pointer (some ⟨z, 0, none⟩))) hne) hne
    have q3 := blk_off (i := 2) (v := .int .i64 (n + 1)) (blk_off (i := 1) (v := .pointer (some ⟨e, 0, none⟩)) (blk_off (i := 3) (v := .pointer (some ⟨z, 0, none⟩)) (blk_set hbz 4 (.pointer (some ⟨e, 0, none⟩))) hze) hzl) hzl
    have hrl : ρ lb = some (.list s) := by rw [HLB.out]; exact HH.out.hl s
    go_returns
    refine ⟨rfl, inv_add HH.out s HF.out ?_ ?_ (fun a1 z1 hz1 => ?_) (fun k h1 h2 h3 => ?_) (by simp [size_set]), ((((LStep.refl ρ w).set (.inr HRZ.out)).set (.inr HR.out)).set (.inl ⟨s, hrl⟩)).set (.inl ⟨s, hrl⟩)⟩
    · rw [← HLB.out]
      refine Eq.trans q1 (congrArg (fun c => some (Obj.cells c 48 (0, 0))) ?_)
      show #[ptr (S.li s).head?, (.pointer (some ⟨e, 0, none⟩)), .int .i64 (n + 1)] = #[ptr (S.li s ++ [e]).head?, ptr (S.li s ++ [e]).getLast?, .int .i64 (S.li s ++ [e]).length]
      rw [HN.out, HL.out]
      have e3 : (a ++ [z] ++ [e]).head? = (a ++ [z]).head? := by cases a <;> rfl
      have e4 : (a ++ [z] ++ [e]).getLast? = some e := by simp
      rw [e3, e4]
      simp [ptr]
      omega
    · rw [HL.out, List.getLast?_append]
      exact q2
    · rw [HL.out] at hz1
      obtain ⟨rfl, h5⟩ := List.append_inj' hz1 rfl
      cases h5
      exact q3
    · rw [HL.out, List.getLast?_append] at h3
      have h3' : k ≠ z := fun hh => h3 (by rw [hh]; rfl)
      rw [← HLB.out] at h1
      rw [keep_set _ _ _ _ k h1, keep_set _ _ _ _ k h1, keep_set _ _ _ _ k h2, keep_set _ _ _ _ k h3']
/-- What remove leaves, in all four cases. -/
theorem rem_fin {W : World} (h : CInv L ρ S w) (s : Bool) {e : Nat} {a b : List Nat} (hl : S.li s = a ++ e :: b) (hlt : LStep ρ w W)
    (h1 : Blk W (L.lb s) 48 (liC (a ++ b))) (h2 : Blk W e 56 (elC (S.pg e) none none))
    (h3 : ∀ a' x, a = a' ++ [x] → Blk W x 56 (elC (S.pg x) a'.getLast? b.head?))
    (h3' : ∀ y b', b = y :: b' → Blk W y 56 (elC (S.pg y) a.getLast? b'.head?))
    (h4 : ∀ k, k ≠ L.lb s → k ≠ e → some k ≠ a.getLast? → some k ≠ b.head? → W.heap[k]? = w.heap[k]?) : AddQ L ρ (remS S s a e b) w (.returned (.tuple #[])) W :=
  ⟨rfl, inv_rem h s hl h1 h2 h3 h3' h4 hlt.size, hlt⟩
end Go.Proofs.Ytkpgekfejfbpjaa
