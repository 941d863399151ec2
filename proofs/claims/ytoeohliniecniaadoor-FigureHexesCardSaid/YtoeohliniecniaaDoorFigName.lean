/-
  figure.Name: it returns whether the string is a name ('nameB'), and changes nothing that was there. Condition: the string is no longer than the model's greatest length.
-/
import Derived.Test.YtoeohliniecniaaDoorFigRange
import Derived.Test.YtoeohliniecniaaDoorFigPlain
namespace Go.Proofs.YtoeohliniecniaaDoor
open Go.RowKit Go.Shelf
attribute [local go_sem] Oper.semAt_some

theorem empty_no {s : ByteArray} (h : 0 < s.size) : s.toList.isEmpty = false ∧ ¬ s.toList = [] := by
  have : s.data.toList ≠ [] := fun e => by have := congrArg List.length e; simp at this; rw [this] at h; simp at h
  rw [ByteArray.toList_eq]
  exact ⟨by simp at this; simpa using this, this⟩
theorem empty_yes {s : ByteArray} (h : s.size = 0) : s.toList.isEmpty = true ∧ s.toList = [] := by
  have : s.data.toList = [] := List.eq_nil_of_length_eq_zero (by simpa using h)
  rw [ByteArray.toList_eq, this]
  exact ⟨rfl, rfl⟩

set_option maxRecDepth 100000 in
set_option maxHeartbeats 2000000 in
theorem name_loop (s : ByteArray) (w : World) (hs : s.size ≤ 140737488351232) (te : s.toList.isEmpty = false) (te' : ¬ s.toList = []) (t16 : decide (16 < (s.size : Int)) = false) (h0 : 0 < s.size) (hd : Hid (isDigB (s[0]).toNat = false)) :
    CallsIn Fence.wide 9 Tryd.prog 15 #[.string s] w fun e w' => e = .returned (.bool (s.data.toList.all okChar)) ∧ Below w.heap.size w w' := by
  refine callsIn_of_wp_marks Tryd.func15 rfl trivial ?_ rfl
  simp only [Tryd.ntmps15, List.size_toArray, List.length_cons, List.length_nil, Nat.reduceAdd, Nat.reduceSub, Array.replicate_succ, Array.replicate_zero, List.push_toArray, List.append_toArray, List.nil_append, List.cons_append]
  gi_wp2_with (first
    | (refine ⟨trivial, ?_⟩; gi_at_call 28; refine (callsIn_wide.2 (isDigit_any _ _)).mono ?_; rintro e w' ⟨rfl, rfl⟩; rw [hd.out])
    | (refine ⟨trivial, ?_⟩; gi_at_call 27; refine (bytesOf_in _ _ _).mono ?_; rintro e w' ⟨rfl, rfl⟩))
  have c0 := new1 w (.bool false) 4
  have hbx := heap_new (w.alloc (.cells #[.bool false] 4)) (boxOf s)
  rw [World.size_alloc] at hbx
  have hB0 : Below w.heap.size w ((w.alloc (.cells #[.bool false] 4)).alloc (.cells #[.string s] 9)) := ((Below.refl _ w).alloc (Nat.le_refl _) _).alloc (by simp) _
  refine wpIn_bytes (by omega) (w.heap.size + 1) 3 s hs rfl hbx
    (fun pre W => (pre.all okChar = true ∧ W.cell? ⟨w.heap.size, 0, none⟩ = some (.bool false) ∧ W.frozen? ⟨w.heap.size, 0, none⟩ = false) ∧ Below w.heap.size w W)
    (fun c pre W => (c = .ret ∧ pre.all okChar = false ∧ W.cell? ⟨w.heap.size, 0, none⟩ = some (.bool false)) ∧ Below w.heap.size w W)
    (OwnFrom.and (Own.from (fun s A B row hs hg hr => ⟨hs.1, cell_kept hs.2.1 hg hr, (frozen_kept hs.2.1 hg hr).trans hs.2.2⟩) _) (ownFrom_below (Nat.le_refl _) (by simp; omega)))
    (fun c => OwnFrom.and (Own.from (fun s A B row hs hg hr => ⟨hs.1, hs.2.1, cell_kept hs.2.2 hg hr⟩) _) (ownFrom_below (Nat.le_refl _) (by simp; omega)))
    ⟨⟨rfl, old1 _ c0.1, old1f _ c0.1 c0.2⟩, hB0⟩ ?assign ?body ?done ?stop
  case assign =>
    intro l x W K hK
    simp only [frameAt] at hK
    gi_wp2
    exact hK
  case body =>
    rintro l pre x W ⟨⟨hp, hcr, hfr⟩, hB⟩ hlen
    have hxb := byte_bd x
    obtain ⟨c, hc⟩ : ∃ c : Int, c = (x.toNat : Int) := ⟨_, rfl⟩
    have hok : okChar x = (letB c || isDigB c) := by rw [hc]; rfl
    simp only [frameAt, List.setIfInBounds_toArray, List.set_cons_succ, List.set_cons_zero]
    rw [← hc] at hxb ⊢
    have HOK := Lib.hid hok; have HP := Lib.hid hp
    clear hok hp hc
    cases hl : letB c
    · cases hdg : isDigB c
      · have HF := Lib.hid (show okChar x = false by rw [HOK.out, hl, hdg]; rfl)
        clear HOK
        gi_wp2_with (first
          | (refine ⟨trivial, ?_⟩; gi_at_call 30; refine (CallsIn.inRound l (callsIn_wide.2 (isLetter_any _ hxb _))).mono ?_; rintro e w' ⟨rfl, rfl⟩; rw [hl])
          | (refine ⟨trivial, ?_⟩; gi_at_call 28; refine (CallsIn.inRound l (callsIn_wide.2 (isDigit_any _ _))).mono ?_; rintro e w' ⟨rfl, rfl⟩; rw [hdg]))
        exact ⟨(KeepsOthers.setCell _ _ _).from _, ⟨rfl, by rw [List.all_append, List.all_cons, HF.out]; simp, World.cell?_setCell_same' _ _ _ (by rw [hcr]; rfl)⟩, hB.setCell (p := ⟨w.heap.size, 0, none⟩) (Nat.le_refl _) _⟩
      · have HF := Lib.hid (show okChar x = true by rw [HOK.out, hl, hdg]; rfl)
        clear HOK
        gi_wp2_with (first
          | (refine ⟨trivial, ?_⟩; gi_at_call 30; refine (CallsIn.inRound l (callsIn_wide.2 (isLetter_any _ hxb _))).mono ?_; rintro e w' ⟨rfl, rfl⟩; rw [hl])
          | (refine ⟨trivial, ?_⟩; gi_at_call 28; refine (CallsIn.inRound l (callsIn_wide.2 (isDigit_any _ _))).mono ?_; rintro e w' ⟨rfl, rfl⟩; rw [hdg]))
        exact ⟨KeepsFrom.refl _ _, keepC_refl _, ⟨by rw [List.all_append, List.all_cons, HF.out, HP.out]; rfl, hcr, hfr⟩, hB⟩
    · have HF := Lib.hid (show okChar x = true by rw [HOK.out, hl]; rfl)
      clear HOK
      have hdg : True := trivial
      gi_wp2_with (first
          | (refine ⟨trivial, ?_⟩; gi_at_call 30; refine (CallsIn.inRound l (callsIn_wide.2 (isLetter_any _ hxb _))).mono ?_; rintro e w' ⟨rfl, rfl⟩; rw [hl])
          | (refine ⟨trivial, ?_⟩; gi_at_call 28; refine (CallsIn.inRound l (callsIn_wide.2 (isDigit_any _ _))).mono ?_; rintro e w' ⟨rfl, rfl⟩))
      refine ⟨trivial, ?_⟩
      gi_wp2
      exact ⟨KeepsFrom.refl _ _, keepC_refl _, ⟨by rw [List.all_append, List.all_cons, HF.out, HP.out]; rfl, hcr, hfr⟩, hB⟩
  case done =>
    rintro D W hD ⟨⟨hall, hcr, hfr⟩, hB⟩ hK
    have HA := Lib.hid hall; clear hall
    gi_wp2
    have hK' := (KeepsOthers.setCell W ⟨w.heap.size, 0, none⟩ (.bool true)).same D _ hK rfl
    refine ⟨by simp, .inl ⟨_, _, rfl, run_takeDeferred hK', ?_⟩⟩
    have hc5 := cell_kept (World.cell?_setCell_same' W ⟨w.heap.size, 0, none⟩ (.bool true) (by rw [hcr]; rfl)) (grownBy_putObj' _ D (.deferred none)) (fun r e => by cases e; exact ⟨_, hK', rfl⟩)
    refine ⟨.bool true, ?_, by rw [HA.out], (hB.setCell (p := ⟨w.heap.size, 0, none⟩) (Nat.le_refl _) _).trans (belowK_b (w := w) (Nat.le_refl _) _ D _ _ (by simp at hD; omega) hK' rfl rfl)⟩
    simp [results, Tryd.f15, go_sem, hc5]
  case stop =>
    rintro D c pre W hD hpre ⟨⟨rfl, hall, hcr⟩, hB⟩ hK
    have HA := Lib.hid (show s.data.toList.all okChar = false by
      obtain ⟨t, ht⟩ := hpre
      rw [← ht, List.all_append, hall]; rfl)
    clear hall
    gi_wp2
    refine ⟨by simp, .inl ⟨_, _, rfl, run_takeDeferred hK, ?_⟩⟩
    have hc5 := cell_kept hcr (grownBy_putObj' _ D (.deferred none)) (fun r e => by cases e; exact ⟨_, hK, rfl⟩)
    refine ⟨.bool false, ?_, by rw [HA.out], hB.trans (belowK_b (w := w) (Nat.le_refl _) W D _ _ (by simp at hD; omega) hK rfl rfl)⟩
    simp [results, Tryd.f15, go_sem, hc5]

set_option maxHeartbeats 1000000 in
/-- The three ways out ahead of the loop. -/
theorem name_early (s : ByteArray) (w : World) (h : s.size = 0 ∨ 16 < s.size ∨ (∃ h0 : 0 < s.size, s.size ≤ 16 ∧ isDigB (s[0]).toNat = true)) :
    Calls Tryd.prog 15 #[.string s] w fun e w' => e = .returned (.bool false) ∧ Below w.heap.size w w' := by
  rcases h with h | h | ⟨h0, h1, h2⟩
  · obtain ⟨te, te'⟩ := empty_yes h
    clear h
    go_enter Tryd.func15, Tryd.ntmps15
    go_wp2
    exact bodyPost_ret (v := .bool false) (by simp [results, Tryd.results15, go_sem]) rfl ⟨rfl, (Below.refl _ _).alloc (Nat.le_refl _) _⟩
  · obtain ⟨te, te'⟩ := empty_no (s := s) (by omega)
    have t16 : decide (16 < (s.size : Int)) = true := by simp; omega
    clear h
    go_enter Tryd.func15, Tryd.ntmps15
    go_wp2
    exact bodyPost_ret (v := .bool false) (by simp [results, Tryd.results15, go_sem]) rfl ⟨rfl, (Below.refl _ _).alloc (Nat.le_refl _) _⟩
  · obtain ⟨te, te'⟩ := empty_no h0
    have t16 : decide (16 < (s.size : Int)) = false := by simp; omega
    have H2 := Lib.hid h2; clear h2
    go_enter Tryd.func15, Tryd.ntmps15
    go_wp2_with (go_at_call 28; refine (isDigit_any _ _).mono ?_; rintro e w' ⟨rfl, rfl⟩; rw [H2.out])
    exact bodyPost_ret (v := .bool false) (by simp [results, Tryd.results15, go_sem]) rfl ⟨rfl, (Below.refl _ _).alloc (Nat.le_refl _) _⟩

theorem head_zero {s : ByteArray} (h0 : 0 < s.size) : s.data.toList.headD 0 = s[0] := by
  obtain ⟨⟨l⟩⟩ := s
  cases l with
  | nil => exact absurd h0 (Nat.lt_irrefl 0)
  | cons a t => rfl

theorem name_any (s : ByteArray) (w : World) (hs : s.size ≤ 140737488351232) :
    Calls Tryd.prog 15 #[.string s] w fun e w' => e = .returned (.bool (nameB s.data.toList)) ∧ Below w.heap.size w w' := by
  have hlen : s.data.toList.length = s.size := by simp
  by_cases h0 : 0 < s.size
  · by_cases h1 : s.size ≤ 16
    · cases h2 : isDigB (s[0]).toNat
      · obtain ⟨te, te'⟩ := empty_no h0
        refine (callsIn_wide.1 (name_loop s w hs te te' (by simp; omega) h0 (Lib.hid h2))).mono fun e w' ⟨he, hb⟩ => ⟨?_, hb⟩
        rw [he, name_yes (by intro e; rw [e] at hlen; simp at hlen; omega) (by omega) (by rw [head_zero h0]; exact h2)]
      · refine (name_early s w (.inr (.inr ⟨h0, h1, h2⟩))).mono fun e w' ⟨he, hb⟩ => ⟨?_, hb⟩
        rw [he, name_no (.inr (.inr (by rw [head_zero h0]; exact h2)))]
    · refine (name_early s w (.inr (.inl (by omega)))).mono fun e w' ⟨he, hb⟩ => ⟨?_, hb⟩
      rw [he, name_no (.inr (.inl (by omega)))]
  · refine (name_early s w (.inl (by omega))).mono fun e w' ⟨he, hb⟩ => ⟨?_, hb⟩
    rw [he, name_no (.inl (List.eq_nil_of_length_eq_zero (by omega)))]
end Go.Proofs.YtoeohliniecniaaDoor
