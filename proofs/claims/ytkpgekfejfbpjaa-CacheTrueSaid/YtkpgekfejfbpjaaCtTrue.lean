/-
  Layer 12: CacheTrue, walked. Condition: the operations lie in memory.
-/
import Derived.Test.YtkpgekfejfbpjaaCtCalls
import Derived.Deep.CutBlock
import Derived.Deep.CutRange
import Derived.Lib.MinMax
namespace Go.Proofs.Ytkpgekfejfbpjaa
open Go.RowKit
variable {w w' : World}

set_option maxRecDepth 100000 in
set_option maxHeartbeats 4000000 in
theorem ctrue_any (room : Int) (hr : IsI room) (a : Option Addr) (cap : Nat) (l : List OpC) (hl : l.length ≤ 9223372036854775807) (ha : OpsC w a l) :
    Calls Try.prog 4 #[.int .i64 room, .slice a l.length cap] w fun e w' => e = .returned (.bool true) ∧ Below w.heap.size w w' := by
  have KW := Lib.hid (cworks_any w)
  have HA := Lib.hid ha
  clear ha
  have KG : Hid (∀ w1, Below w.heap.size w w1 → Calls Try.prog 6 #[.slice a l.length cap] w1 (GrtQ (GrtC l) w1)) := Lib.hid fun w1 h1 => cgreat_any a cap l w1 hl (opsC_below HA.out (Nat.le_refl _) h1)
  have HR := Lib.hid hr
  clear hr
  obtain ⟨len, hlen⟩ : ∃ len, len = l.length := ⟨_, rfl⟩
  rw [← hlen] at hl KG ⊢
  have HL := Lib.hid hlen; clear hlen
  obtain ⟨r, hr⟩ : ∃ r, r = max 1 room := ⟨_, rfl⟩
  have HRR := Lib.hid hr; clear hr
  obtain ⟨i1, z1, hi1, hz1, hs1, hb1, hzs⟩ := infoO
  go_enter Try.func4, Try.ntmps4
  go_wp2_with (first
    | (go_at_call 5; refine KW.out.mono ?_; rintro e1 w1 ⟨rfl, q1⟩; have B1 := Lib.hid q1; clear q1)
    | (go_at_call 6; refine (KG.out _ B1.out).mono ?_; rintro e2 w2 ⟨g, rfl, hg, rfl⟩; have HG := Lib.hid hg; clear hg)
    | (go_at_call 7; refine (new_any room HR.out w1).mono ?_; rintro e3 w3 ⟨rfl, q1, q2⟩; obtain ⟨L, hL⟩ : ∃ L, L = newL w1.heap.size := ⟨_, rfl⟩; have J3 := Lib.hid (jt_new (jc_new q1 q2)); rw [← hL] at J3 ⊢; clear q1 q2 hL))
  · first | go_ret | go_returns
    exact ⟨rfl, B1.out⟩
  have HGG := Lib.hid (HG.out (by assumption))
  have J4 : Hid (∃ ρ A M, JT w1 L ρ A (.slice none 0 0) M w3 ∧ TB r 0 A M) := Lib.hid ⟨_, _, _, J3.out, by rw [HRR.out]; exact tb_new room⟩
  clear KG KW HG J3
  have hlen101 : len ≤ 101 := by have := HGG.out.1; have := HL.out; omega
  go_loopw [6, 7] (fun t6 t7 wr => ∃ k : Nat, k ≤ len ∧ t7 = .int .i64 k ∧ Hid (∃ ρ A M, JT w1 L ρ A t6 M wr ∧ TB r k A M)) (fun _ t7 _ => len - (intOf t7).toNat)
  case atStart => exact ⟨0, Nat.zero_le _, rfl, J4⟩
  case round =>
    clear J4
    obtain ⟨k, hk, rfl, HJ⟩ := hrel
    obtain ⟨ρ, A, M, hJ, hT⟩ := HJ.out
    by_cases hlt : k < len
    · have hlt' : k < l.length := by have := HL.out; omega
      have hoC := opsC_below (opsC_below HA.out (Nat.le_refl _) B1.out) (Nat.le_refl _) hJ.bel
      obtain ⟨hoo, g, off, rfl, hgw, c0, c1, c2⟩ := hoC k hlt'
      have HN0 := Lib.hid (show IsI l[k].n from ⟨hoo.n1, hoo.n2⟩)
      generalize l[k] = o at *
      obtain ⟨kd, n, dt⟩ := o
      have HN : Hid (IsI n) := HN0
      simp only at c0 c1 c2
      have J00 : Hid (JTB w1 L ρ A u6 M wr.heap.size ⟨kd, n, dt⟩ (wr.alloc (.cells #[.int .i64 kd, .int .i64 n, .string dt] 30))) := Lib.hid (JTB.new hJ ⟨kd, n, dt⟩)
      have HT := Lib.hid hT
      have HLI : Hid (∀ t, (A.li t).length ≤ 499999) := Lib.hid (hT.li (by omega))
      have HML : Hid (M.length ≤ 101) := Lib.hid (by have := hT.len; omega)
      have i1' : (k : Int) < len := by omega
      have i2 : ¬ (k : Int) < 0 := by omega
      obtain ⟨va, vcap, rfl, -⟩ := row_form hJ.row
      clear hJ hT HJ hoC hoo hlt' HN0
      go_upto_block 2 with fail
      revert J00
      generalize wr.alloc (Obj.cells #[.int .i64 kd, .int .i64 n, .string dt] 30) = W
      generalize wr.heap.size = pb
      intro J0
      clear c0 c1 c2
      go_cut [6, 9] from 20 to 153 (fun v6 v9 wx => Hid (∃ ρ A M, JTB w1 L ρ A v6 M pb ⟨kd, n, dt⟩ wx ∧ TB r (k + 1) A M))
      case first =>
        obtain ⟨c0, c1, c2⟩ := J0.out.cells
        simp only at c0 c1 c2
        by_cases h1 : kd = 1
        · subst h1
          go_upto_region 15 with (first
            | (go_at_call 11; (with_reducible refine (jt_put J0.out HN.out dt false HLI.out).mono ?_); rintro e1 x1 ⟨rfl, ρ1, j1⟩; have J1 := Lib.hid j1; obtain ⟨d0, d1, d2⟩ := j1.cells; simp only at d0 d1 d2; clear j1 c0 c1 c2))
          have T1 := Lib.hid (tb_put HT.out HN.out dt false (kd := 1) rfl J1.out.c.ok)
          have JX : Hid (JTB w1 L ρ1 (entA A n dt false) (.slice va M.length vcap) M pb ⟨1, n, dt⟩ x1.drew) := Lib.hid (J1.out.drewN 1)
          have KX := Lib.hid (fun (y : World) (hy : JTB w1 L ρ1 (entA A n dt false) (.slice va M.length vcap) M pb ⟨1, n, dt⟩ y) => without_any hy.row (by have := HML.out; omega) n n)
          have hWL : (withoutL M n n).length ≤ 101 := Nat.le_trans (without_len _ _ _) HML.out
          have hH : x1.drew.cell? ⟨pb, 0, none⟩ = some (.int .i64 1) ∧ x1.drew.cell? ⟨pb, 1, none⟩ = some (.int .i64 n) ∧ x1.drew.cell? ⟨pb, 2, none⟩ = some (.string dt) := JX.out.cells
          have HFIN : Hid (∀ w8 v8, Below x1.drew.heap.size x1.drew w8 → w8.ownsRow x1.drew.heap.size 30 3 v8 ((withoutL M n n).length + 1) ((withoutL M n n).flatMap opL ++ opL ⟨1, n, dt⟩) → Hid (∃ ρ A M, JTB w1 L ρ A v8 M pb ⟨1, n, dt⟩ w8 ∧ TB r (k + 1) A M)) := Lib.hid fun w8 v8 hb hr => Lib.hid ⟨ρ1, _, _, JX.out.put hb (by
            show World.ownsRow _ _ 30 3 _ (withoutL M n n ++ [(⟨1, n, dt⟩ : OpC)]).length ((withoutL M n n ++ [(⟨1, n, dt⟩ : OpC)]).flatMap opL)
            rw [List.length_append, List.length_singleton, List.flatMap_append, List.flatMap_singleton]
            exact hr), T1.out⟩
          clear d0 d1 d2
          refine wp_region_held_drew (S := fun y => y.cell? ⟨pb, 0, none⟩ = some (.int .i64 1) ∧ y.cell? ⟨pb, 1, none⟩ = some (.int .i64 n) ∧ y.cell? ⟨pb, 2, none⟩ = some (.string dt)) (by kernel_rfl) hH (fun hHeld => ?_)
          revert JX HFIN hH hHeld
          generalize x1.drew = X
          intro JX hH HFIN hHeld
          refine wpAnyH_take (i := 0) (v := (.slice va M.length vcap)) rfl (by kernel_rfl) (by kernel_rfl) (by kernel_rfl) (fun _ _ _ h => h) (Or.inl ⟨by rfl, ?_⟩) hHeld ?_
          · intro w' hSw
            obtain ⟨a0, a1, a2⟩ := hSw
            go_simp
          go_frame
          refine wpAnyH_take (i := 1) (v := (.pointer (some ⟨pb, 1, none⟩))) rfl (by kernel_rfl) (by kernel_rfl) (by kernel_rfl) (fun _ _ _ h => h) (Or.inl ⟨by rfl, ?_⟩) hHeld ?_
          · intro w' hSw
            obtain ⟨a0, a1, a2⟩ := hSw
            go_simp
          go_frame
          refine wpAnyH_take (i := 2) (v := (.int .i64 n)) rfl (by kernel_rfl) (by kernel_rfl) (by kernel_rfl) (fun _ _ _ h => h) (Or.inl ⟨by rfl, ?_⟩) hHeld ?_
          · intro w' hSw
            obtain ⟨a0, a1, a2⟩ := hSw
            go_simp
          go_frame
          refine wpAnyH_take (i := 3) (v := (.pointer (some ⟨pb, 1, none⟩))) rfl (by kernel_rfl) (by kernel_rfl) (by kernel_rfl) (fun _ _ _ h => h) (Or.inl ⟨by rfl, ?_⟩) hHeld ?_
          · intro w' hSw
            obtain ⟨a0, a1, a2⟩ := hSw
            go_simp
          go_frame
          refine wpAnyH_take (i := 4) (v := (.int .i64 n)) rfl (by kernel_rfl) (by kernel_rfl) (by kernel_rfl) (fun _ _ _ h => h) (Or.inl ⟨by rfl, ?_⟩) hHeld ?_
          · intro w' hSw
            obtain ⟨a0, a1, a2⟩ := hSw
            go_simp
          go_frame
          refine wpAnyH_take (i := 6) (v := (.agg #[.int .i64 1, .int .i64 n, .string dt])) rfl (by kernel_rfl) (by kernel_rfl) (by kernel_rfl) (fun _ _ _ h => h) (Or.inl ⟨by rfl, ?_⟩) hHeld ?_
          · intro w' hSw
            obtain ⟨a0, a1, a2⟩ := hSw
            go_simp
          go_frame
          refine wpAnyH_ready (rs := [5, 7]) (by kernel_rfl) (by simp) ?_
          refine AllReadyH.cons rfl (fun K hK => ?_) (AllReadyH.cons rfl (fun K hK => ?_) AllReadyH.nil)
          · skip
            go_simp
            (with_reducible refine (KX.out _ JX.out).mono ?_)
            rintro e5 w5 ⟨v5, rfl, o5, b5⟩
            have J5 := Lib.hid (JX.out.below b5)
            go_simp
            refine hK.out _ _ J5.out.cells (fun hHeld => ?_)
            clear hK K
            refine wpAnyH_ready (rs := [7]) (by kernel_rfl) (by simp) ?_
            refine AllReadyH.cons rfl (fun K hK => ?_) AllReadyH.nil
            go_simp
            refine hK.out _ _ (J5.out.below ((Below.refl _ _).alloc (Nat.le_refl _) _)).cells (fun hHeld => ?_)
            clear hK K
            refine wpAnyH_ready (rs := [8]) (by kernel_rfl) (by simp) ?_
            refine AllReadyH.cons rfl (fun K hK => ?_) AllReadyH.nil
            refine step_append_part _ rfl _ _ 22 rfl X.heap.size 30 i1 z1 3 32 Try.underlying22 hi1 hz1 hs1 hb1 hzs (by decide) v5 _ _ rfl (o5.alloc (.cells #[.int .i64 1, .int .i64 n, .string dt] 30)) (.slice (some ⟨w5.heap.size, 0, none⟩) 1 1) 1 (opL ⟨1, n, dt⟩) rfl (part_new (blk_new w5 30 #[.int .i64 1, .int .i64 n, .string dt]) rfl) (fun u hu => opL_one [⟨1, n, dt⟩] u (by simpa using hu)) (by unfold maxLen; omega) (by omega) (Nat.le_trans b5.size (by simp)) ?_
            intro v8 w8 hown8 hgrow8
            obtain ⟨a8, cap8, hv8, -⟩ := row_form hown8
            subst hv8
            have b8 := below_row (b5.alloc b5.size (.cells #[.int .i64 1, .int .i64 n, .string dt] 30)) (o5.alloc (.cells #[.int .i64 1, .int .i64 n, .string dt] 30)) hgrow8
            have FF := Lib.hid (HFIN.out _ _ b8 hown8)
            refine hK.out _ _ (JX.out.below b8).cells (fun hHeld => ?_)
            clear hK K
            refine wpAnyH_ready (rs := [9]) (by kernel_rfl) (by simp) ?_
            refine AllReadyH.cons rfl (fun K hK => ?_) AllReadyH.nil
            go_simp
            refine hK.out _ _ hHeld (fun hHeld => ?_)
            clear hK K
            refine wpAnyH_done (by kernel_rfl) ?_ _
            go_wp2
            go_meet
            exact FF.out
          · skip
            go_simp
            refine hK.out _ _ (JX.out.below ((Below.refl _ _).alloc (Nat.le_refl _) _)).cells (fun hHeld => ?_)
            clear hK K
            have JA : Hid (JTB w1 L ρ1 (entA A n dt false) (.slice va M.length vcap) M pb ⟨1, n, dt⟩ (X.alloc (.cells #[.int .i64 1, .int .i64 n, .string dt] 30))) := Lib.hid (JX.out.below ((Below.refl _ _).alloc (Nat.le_refl _) _))
            have hBA : Below X.heap.size X (X.alloc (.cells #[.int .i64 1, .int .i64 n, .string dt] 30)) := (Below.refl _ _).alloc (Nat.le_refl _) _
            have hsA : (X.alloc (.cells #[.int .i64 1, .int .i64 n, .string dt] 30)).heap.size = X.heap.size + 1 := by simp
            refine wpAnyH_ready (rs := [5]) (by kernel_rfl) (by simp) ?_
            refine AllReadyH.cons rfl (fun K hK => ?_) AllReadyH.nil
            go_simp
            (with_reducible refine (KX.out _ JA.out).mono ?_)
            rintro e5 w5 ⟨v5, rfl, o5, b5⟩
            have J5 := Lib.hid (JA.out.below b5)
            go_simp
            refine hK.out _ _ J5.out.cells (fun hHeld => ?_)
            clear hK K
            have hb5 : Blk w5 X.heap.size 30 #[.int .i64 1, .int .i64 n, .string dt] := (b5.block _ (by omega)).trans (blk_new X 30 #[.int .i64 1, .int .i64 n, .string dt])
            have b5' : Below X.heap.size X w5 := hBA.trans (b5.mono (by omega))
            have o5' := row_base2 o5 (show X.heap.size ≤ _ by omega)
            refine wpAnyH_ready (rs := [8]) (by kernel_rfl) (by simp) ?_
            refine AllReadyH.cons rfl (fun K hK => ?_) AllReadyH.nil
            refine step_append_part _ rfl _ _ 22 rfl X.heap.size 30 i1 z1 3 32 Try.underlying22 hi1 hz1 hs1 hb1 hzs (by decide) v5 _ _ rfl o5' (.slice (some ⟨X.heap.size, 0, none⟩) 1 1) 1 (opL ⟨1, n, dt⟩) rfl (part_new hb5 rfl) (fun u hu => opL_one [⟨1, n, dt⟩] u (by simpa using hu)) (by unfold maxLen; omega) (by omega) b5'.size ?_
            intro v8 w8 hown8 hgrow8
            obtain ⟨a8, cap8, hv8, -⟩ := row_form hown8
            subst hv8
            have b8 := below_row b5' o5' hgrow8
            have FF := Lib.hid (HFIN.out _ _ b8 hown8)
            refine hK.out _ _ (JX.out.below b8).cells (fun hHeld => ?_)
            clear hK K
            refine wpAnyH_ready (rs := [9]) (by kernel_rfl) (by simp) ?_
            refine AllReadyH.cons rfl (fun K hK => ?_) AllReadyH.nil
            go_simp
            refine hK.out _ _ hHeld (fun hHeld => ?_)
            clear hK K
            refine wpAnyH_done (by kernel_rfl) ?_ _
            go_wp2
            go_meet
            exact FF.out
        by_cases h2 : kd = 2
        · subst h2
          go_upto_region 15 with (first
            | (go_at_call 11; (with_reducible refine (jt_put J0.out HN.out dt true HLI.out).mono ?_); rintro e1 x1 ⟨rfl, ρ1, j1⟩; have J1 := Lib.hid j1; obtain ⟨d0, d1, d2⟩ := j1.cells; simp only at d0 d1 d2; clear j1 c0 c1 c2))
          have T1 := Lib.hid (tb_put HT.out HN.out dt true (kd := 2) rfl J1.out.c.ok)
          have JX : Hid (JTB w1 L ρ1 (entA A n dt true) (.slice va M.length vcap) M pb ⟨2, n, dt⟩ x1.drew) := Lib.hid (J1.out.drewN 1)
          have KX := Lib.hid (fun (y : World) (hy : JTB w1 L ρ1 (entA A n dt true) (.slice va M.length vcap) M pb ⟨2, n, dt⟩ y) => without_any hy.row (by have := HML.out; omega) n n)
          have hWL : (withoutL M n n).length ≤ 101 := Nat.le_trans (without_len _ _ _) HML.out
          have hH : x1.drew.cell? ⟨pb, 0, none⟩ = some (.int .i64 2) ∧ x1.drew.cell? ⟨pb, 1, none⟩ = some (.int .i64 n) ∧ x1.drew.cell? ⟨pb, 2, none⟩ = some (.string dt) := JX.out.cells
          have HFIN : Hid (∀ w8 v8, Below x1.drew.heap.size x1.drew w8 → w8.ownsRow x1.drew.heap.size 30 3 v8 ((withoutL M n n).length + 1) ((withoutL M n n).flatMap opL ++ opL ⟨2, n, dt⟩) → Hid (∃ ρ A M, JTB w1 L ρ A v8 M pb ⟨2, n, dt⟩ w8 ∧ TB r (k + 1) A M)) := Lib.hid fun w8 v8 hb hr => Lib.hid ⟨ρ1, _, _, JX.out.put hb (by
            show World.ownsRow _ _ 30 3 _ (withoutL M n n ++ [(⟨2, n, dt⟩ : OpC)]).length ((withoutL M n n ++ [(⟨2, n, dt⟩ : OpC)]).flatMap opL)
            rw [List.length_append, List.length_singleton, List.flatMap_append, List.flatMap_singleton]
            exact hr), T1.out⟩
          clear d0 d1 d2
          refine wp_region_held_drew (S := fun y => y.cell? ⟨pb, 0, none⟩ = some (.int .i64 2) ∧ y.cell? ⟨pb, 1, none⟩ = some (.int .i64 n) ∧ y.cell? ⟨pb, 2, none⟩ = some (.string dt)) (by kernel_rfl) hH (fun hHeld => ?_)
          revert JX HFIN hH hHeld
          generalize x1.drew = X
          intro JX hH HFIN hHeld
          refine wpAnyH_take (i := 0) (v := (.slice va M.length vcap)) rfl (by kernel_rfl) (by kernel_rfl) (by kernel_rfl) (fun _ _ _ h => h) (Or.inl ⟨by rfl, ?_⟩) hHeld ?_
          · intro w' hSw
            obtain ⟨a0, a1, a2⟩ := hSw
            go_simp
          go_frame
          refine wpAnyH_take (i := 1) (v := (.pointer (some ⟨pb, 1, none⟩))) rfl (by kernel_rfl) (by kernel_rfl) (by kernel_rfl) (fun _ _ _ h => h) (Or.inl ⟨by rfl, ?_⟩) hHeld ?_
          · intro w' hSw
            obtain ⟨a0, a1, a2⟩ := hSw
            go_simp
          go_frame
          refine wpAnyH_take (i := 2) (v := (.int .i64 n)) rfl (by kernel_rfl) (by kernel_rfl) (by kernel_rfl) (fun _ _ _ h => h) (Or.inl ⟨by rfl, ?_⟩) hHeld ?_
          · intro w' hSw
            obtain ⟨a0, a1, a2⟩ := hSw
            go_simp
          go_frame
          refine wpAnyH_take (i := 3) (v := (.pointer (some ⟨pb, 1, none⟩))) rfl (by kernel_rfl) (by kernel_rfl) (by kernel_rfl) (fun _ _ _ h => h) (Or.inl ⟨by rfl, ?_⟩) hHeld ?_
          · intro w' hSw
            obtain ⟨a0, a1, a2⟩ := hSw
            go_simp
          go_frame
          refine wpAnyH_take (i := 4) (v := (.int .i64 n)) rfl (by kernel_rfl) (by kernel_rfl) (by kernel_rfl) (fun _ _ _ h => h) (Or.inl ⟨by rfl, ?_⟩) hHeld ?_
          · intro w' hSw
            obtain ⟨a0, a1, a2⟩ := hSw
            go_simp
          go_frame
          refine wpAnyH_take (i := 6) (v := (.agg #[.int .i64 2, .int .i64 n, .string dt])) rfl (by kernel_rfl) (by kernel_rfl) (by kernel_rfl) (fun _ _ _ h => h) (Or.inl ⟨by rfl, ?_⟩) hHeld ?_
          · intro w' hSw
            obtain ⟨a0, a1, a2⟩ := hSw
            go_simp
          go_frame
          refine wpAnyH_ready (rs := [5, 7]) (by kernel_rfl) (by simp) ?_
          refine AllReadyH.cons rfl (fun K hK => ?_) (AllReadyH.cons rfl (fun K hK => ?_) AllReadyH.nil)
          · skip
            go_simp
            (with_reducible refine (KX.out _ JX.out).mono ?_)
            rintro e5 w5 ⟨v5, rfl, o5, b5⟩
            have J5 := Lib.hid (JX.out.below b5)
            go_simp
            refine hK.out _ _ J5.out.cells (fun hHeld => ?_)
            clear hK K
            refine wpAnyH_ready (rs := [7]) (by kernel_rfl) (by simp) ?_
            refine AllReadyH.cons rfl (fun K hK => ?_) AllReadyH.nil
            go_simp
            refine hK.out _ _ (J5.out.below ((Below.refl _ _).alloc (Nat.le_refl _) _)).cells (fun hHeld => ?_)
            clear hK K
            refine wpAnyH_ready (rs := [8]) (by kernel_rfl) (by simp) ?_
            refine AllReadyH.cons rfl (fun K hK => ?_) AllReadyH.nil
            refine step_append_part _ rfl _ _ 22 rfl X.heap.size 30 i1 z1 3 32 Try.underlying22 hi1 hz1 hs1 hb1 hzs (by decide) v5 _ _ rfl (o5.alloc (.cells #[.int .i64 2, .int .i64 n, .string dt] 30)) (.slice (some ⟨w5.heap.size, 0, none⟩) 1 1) 1 (opL ⟨2, n, dt⟩) rfl (part_new (blk_new w5 30 #[.int .i64 2, .int .i64 n, .string dt]) rfl) (fun u hu => opL_one [⟨2, n, dt⟩] u (by simpa using hu)) (by unfold maxLen; omega) (by omega) (Nat.le_trans b5.size (by simp)) ?_
            intro v8 w8 hown8 hgrow8
            obtain ⟨a8, cap8, hv8, -⟩ := row_form hown8
            subst hv8
            have b8 := below_row (b5.alloc b5.size (.cells #[.int .i64 2, .int .i64 n, .string dt] 30)) (o5.alloc (.cells #[.int .i64 2, .int .i64 n, .string dt] 30)) hgrow8
            have FF := Lib.hid (HFIN.out _ _ b8 hown8)
            refine hK.out _ _ (JX.out.below b8).cells (fun hHeld => ?_)
            clear hK K
            refine wpAnyH_ready (rs := [9]) (by kernel_rfl) (by simp) ?_
            refine AllReadyH.cons rfl (fun K hK => ?_) AllReadyH.nil
            go_simp
            refine hK.out _ _ hHeld (fun hHeld => ?_)
            clear hK K
            refine wpAnyH_done (by kernel_rfl) ?_ _
            go_wp2
            go_meet
            exact FF.out
          · skip
            go_simp
            refine hK.out _ _ (JX.out.below ((Below.refl _ _).alloc (Nat.le_refl _) _)).cells (fun hHeld => ?_)
            clear hK K
            have JA : Hid (JTB w1 L ρ1 (entA A n dt true) (.slice va M.length vcap) M pb ⟨2, n, dt⟩ (X.alloc (.cells #[.int .i64 2, .int .i64 n, .string dt] 30))) := Lib.hid (JX.out.below ((Below.refl _ _).alloc (Nat.le_refl _) _))
            have hBA : Below X.heap.size X (X.alloc (.cells #[.int .i64 2, .int .i64 n, .string dt] 30)) := (Below.refl _ _).alloc (Nat.le_refl _) _
            have hsA : (X.alloc (.cells #[.int .i64 2, .int .i64 n, .string dt] 30)).heap.size = X.heap.size + 1 := by simp
            refine wpAnyH_ready (rs := [5]) (by kernel_rfl) (by simp) ?_
            refine AllReadyH.cons rfl (fun K hK => ?_) AllReadyH.nil
            go_simp
            (with_reducible refine (KX.out _ JA.out).mono ?_)
            rintro e5 w5 ⟨v5, rfl, o5, b5⟩
            have J5 := Lib.hid (JA.out.below b5)
            go_simp
            refine hK.out _ _ J5.out.cells (fun hHeld => ?_)
            clear hK K
            have hb5 : Blk w5 X.heap.size 30 #[.int .i64 2, .int .i64 n, .string dt] := (b5.block _ (by omega)).trans (blk_new X 30 #[.int .i64 2, .int .i64 n, .string dt])
            have b5' : Below X.heap.size X w5 := hBA.trans (b5.mono (by omega))
            have o5' := row_base2 o5 (show X.heap.size ≤ _ by omega)
            refine wpAnyH_ready (rs := [8]) (by kernel_rfl) (by simp) ?_
            refine AllReadyH.cons rfl (fun K hK => ?_) AllReadyH.nil
            refine step_append_part _ rfl _ _ 22 rfl X.heap.size 30 i1 z1 3 32 Try.underlying22 hi1 hz1 hs1 hb1 hzs (by decide) v5 _ _ rfl o5' (.slice (some ⟨X.heap.size, 0, none⟩) 1 1) 1 (opL ⟨2, n, dt⟩) rfl (part_new hb5 rfl) (fun u hu => opL_one [⟨2, n, dt⟩] u (by simpa using hu)) (by unfold maxLen; omega) (by omega) b5'.size ?_
            intro v8 w8 hown8 hgrow8
            obtain ⟨a8, cap8, hv8, -⟩ := row_form hown8
            subst hv8
            have b8 := below_row b5' o5' hgrow8
            have FF := Lib.hid (HFIN.out _ _ b8 hown8)
            refine hK.out _ _ (JX.out.below b8).cells (fun hHeld => ?_)
            clear hK K
            refine wpAnyH_ready (rs := [9]) (by kernel_rfl) (by simp) ?_
            refine AllReadyH.cons rfl (fun K hK => ?_) AllReadyH.nil
            go_simp
            refine hK.out _ _ hHeld (fun hHeld => ?_)
            clear hK K
            refine wpAnyH_done (by kernel_rfl) ?_ _
            go_wp2
            go_meet
            exact FF.out
        by_cases h3 : kd = 3
        · subst h3
          go_wp2_with (first
            | (go_at_call 13; (with_reducible refine (jt_clean J0.out HN.out HLI.out).mono ?_); rintro e1 x1 ⟨rfl, ρ1, j1⟩; have J1 := Lib.hid j1; clear j1 c0 c1 c2))
          have T1 := Lib.hid (tb_clean HT.out n J1.out.c.ok)
          obtain ⟨ml, hml⟩ : ∃ ml, ml = M.length := ⟨_, rfl⟩
          have HMM := Lib.hid hml
          have hml1 : ml ≤ 101 := by rw [hml]; exact HML.out
          rw [← hml]
          generalize cleanA A n = A1 at J1 T1
          clear hml
          go_loopw [9] (fun t9 wi => ∃ j : Nat, j ≤ ml ∧ t9 = .int .i64 j ∧ Hid (JTB w1 L ρ1 A1 (.slice va ml vcap) ((M.take j).map (clnO n) ++ M.drop j) pb ⟨3, n, dt⟩ wi)) (fun t9 _ => ml - (intOf t9).toNat)
          case atStart => exact ⟨0, Nat.zero_le _, rfl, by rw [HMM.out]; exact J1⟩
          case round =>
            obtain ⟨j, hj, rfl, HI⟩ := hrel
            by_cases hjl : j < ml
            · have hjl' : j < M.length := by have := HMM.out; omega
              have e1 : (M.take j).map (clnO n) ++ M.drop j = (M.take j).map (clnO n) ++ M[j] :: M.drop (j + 1) := by rw [List.drop_eq_getElem_cons hjl']
              have e2 : (M.take (j + 1)).map (clnO n) = (M.take j).map (clnO n) ++ [clnO n M[j]] := by
                rw [List.take_add_one, List.getElem?_eq_getElem hjl', List.map_append]
                rfl
              have hlj : ((M.take j).map (clnO n)).length = j := by rw [List.length_map, List.length_take]; omega
              obtain ⟨a', cap', ea, hcj⟩ := op_cells HI.out.row
              obtain ⟨gg, rfl, hgo, -, hgl, d0, d1, -, hfz⟩ := hcj j (by rw [List.length_append, hlj, List.length_drop]; omega)
              have hg2 : ((M.take j).map (clnO n) ++ M.drop j)[j]'(by rw [List.length_append, hlj, List.length_drop]; omega) = M[j] := List.getElem_of_append e1 hlj
              rw [hg2] at d0 d1
              injection ea with ea1 ea2 ea3
              subst ea1
              obtain ⟨-, p1, -⟩ := HI.out.cells
              simp only at p1
              have f0 := hfz (j * 3)
              have hji : (j : Int) < ml := by omega
              have hj0 : ¬ (j : Int) < 0 := by omega
              by_cases he : M[j].n = n
              · have t1 : (M[j].n == n) = true := by simpa using he
                have hset := fun q => (HI.out.drewN q).set (g := gg) rfl e1
                simp only [hlj] at hset
                have e3 : (M.take j).map (clnO n) ++ { M[j] with kind := 1 } :: M.drop (j + 1) = (M.take (j + 1)).map (clnO n) ++ M.drop (j + 1) := by
                  rw [e2, List.append_assoc]
                  unfold clnO
                  rw [if_pos he]
                  rfl
                simp only [e3] at hset
                have HSET := Lib.hid hset
                have f0' := fun q => show (wr.drewN q).frozen? ⟨gg, j * 3, none⟩ = false from f0
                clear hset e1 e2 e3 hg2 hcj ea2 ea3 hlj hfz he hgo
                generalize M[j].n = y at *
                generalize M[j].kind = yk at *
                go_wp2
                go_quiet (fail)
                go_wp2
                go_roundw
                case rel => exact ⟨j + 1, by omega, by go_num, Lib.hid (HSET.out _)⟩
                case measure => simp [intOf]; omega
              · have t1 : (M[j].n == n) = false := by simpa using he
                have e3 : (M.take j).map (clnO n) ++ M.drop j = (M.take (j + 1)).map (clnO n) ++ M.drop (j + 1) := by
                  rw [e1, e2, List.append_assoc]
                  unfold clnO
                  rw [if_neg he]
                  rfl
                rw [e3] at HI
                clear e1 e2 e3 hg2 hcj ea2 ea3 hlj hfz he hgo
                generalize M[j].n = y at *
                generalize M[j].kind = yk at *
                go_wp2
                go_quiet (fail)
                go_wp2
                go_roundw
                case rel => exact ⟨j + 1, by omega, by go_num, Lib.hid (HI.out.drewN _)⟩
                case measure => simp [intOf]; omega
            · have hji : ¬ (j : Int) < ml := by omega
              have HF := HI.out
              rw [List.take_of_length_le (by have := HMM.out; omega), List.drop_of_length_le (by have := HMM.out; omega), List.append_nil] at HF
              have HFF := Lib.hid HF
              clear HF
              go_wp2
              go_meet
              exact Lib.hid ⟨ρ1, A1, _, HFF.out, T1.out⟩
        by_cases h4 : kd = 4
        · subst h4
          have T1 : Hid (∀ hok : AOk (dropA A n), TB r (k + 1) (dropA A n) (withoutL M n 9223372036854775807)) := Lib.hid fun hok => tb_drop HT.out n hok
          go_wp2_with (first
            | (go_at_call 15; (with_reducible refine (jt_drop J0.out HN.out HLI.out).mono ?_); rintro e1 x1 ⟨rfl, ρ1, j1⟩; have J1 := Lib.hid j1; obtain ⟨d0, d1, d2⟩ := j1.cells; simp only at d0 d1 d2; clear j1 c0 c1 c2)
            | (go_at_call 21; (with_reducible refine (without_any J1.out.row (by have := HML.out; omega) n 9223372036854775807).mono ?_); rintro e2 x2 ⟨v5, rfl, o5, b5⟩; have J5 := Lib.hid (J1.out.put b5 o5); clear o5 b5))
          go_meet
          exact Lib.hid ⟨ρ1, _, _, J5.out, T1.out J1.out.c.ok⟩
        have k1 : (kd == 1) = false := by simpa using h1
        have k2 : (kd == 2) = false := by simpa using h2
        have k3 : (kd == 3) = false := by simpa using h3
        have k4 : (kd == 4) = false := by simpa using h4
        go_wp2
        go_meet
        exact Lib.hid ⟨ρ, A, M, J0.out, HT.out.more⟩
      case rest =>
        clear J0 HT HLI HML W HN
        obtain ⟨ρ2, A2, M2, hJ2, hT2⟩ := hcut.out
        clear hcut
        obtain ⟨va2, vcap2, hv2, -⟩ := row_form hJ2.row
        subst hv2
        have J2 := Lib.hid hJ2; have T2 := Lib.hid hT2
        have hml2 : M2.length ≤ 102 := by have := hT2.len; omega
        obtain ⟨ml, hml⟩ : ∃ ml, ml = M2.length := ⟨_, rfl⟩
        rw [← hml] at J2 hml2 ⊢
        have HMM := Lib.hid hml
        clear hJ2 hT2 hml
        go_wp2
        go_loopw [10, 11] (fun t10 t11 wi => ∃ j : Nat, j ≤ ml ∧ t11 = .int .i64 j ∧ t10 = .int .i64 (dirtyN (M2.take j) : Nat) ∧ Hid (∃ ρ A, JTB w1 L ρ A (.slice va2 ml vcap2) M2 pb ⟨kd, n, dt⟩ wi ∧ TB r (k + 1) A M2)) (fun _ t11 _ => ml - (intOf t11).toNat)
        case atStart => exact ⟨0, Nat.zero_le _, rfl, rfl, Lib.hid ⟨ρ2, A2, J2.out, T2.out⟩⟩
        case round =>
          clear J2 T2
          obtain ⟨j, hj, rfl, rfl, HI⟩ := hrel
          obtain ⟨ρ3, A3, hJ3, hT3⟩ := HI.out
          have J3 := Lib.hid hJ3; have T3 := Lib.hid hT3
          have HLI3 : Hid (∀ t, (A3.li t).length ≤ 499999) := Lib.hid (hT3.li (by omega))
          by_cases hjl : j < ml
          · have hjl' : j < M2.length := by have := HMM.out; omega
            have hmem : M2[j] ∈ M2 := List.getElem_mem hjl'
            have hlook := tr_look hT3.toTR hT3.ok hmem
            have HII := Lib.hid (hT3.ii _ hmem)
            have hcells : ∀ x ρ A, JTB w1 L ρ A (.slice va2 ml vcap2) M2 pb ⟨kd, n, dt⟩ x → ∃ gg, va2 = some ⟨gg, 0, none⟩ ∧ x.cell? ⟨gg, j * 3, none⟩ = some (.int .i64 M2[j].kind) ∧ x.cell? ⟨gg, j * 3 + 1, none⟩ = some (.int .i64 M2[j].n) ∧ x.cell? ⟨gg, j * 3 + 2, none⟩ = some (.string M2[j].data) := fun x ρ A h => by
              obtain ⟨a', cap', ea, hcj⟩ := op_cells h.row
              injection ea with ea1 ea2 ea3
              subst ea1
              obtain ⟨gg, e, -, -, -, d0, d1, d2, -⟩ := hcj j hjl'
              exact ⟨gg, e, d0, d1, d2⟩
            obtain ⟨gg, hgg, -, d1, -⟩ := hcells _ _ _ hJ3
            obtain ⟨hs1', hs2'⟩ := filt_stepO M2 j hjl' (fun o => o.kind == 2)
            have hdn1 : (M2[j].kind == 2) = true → dirtyN (M2.take (j + 1)) = dirtyN (M2.take j) + 1 := fun h => by
              unfold dirtyN; rw [hs1' h, List.length_append, List.length_singleton]
            have hdn2 : (M2[j].kind == 2) = false → dirtyN (M2.take (j + 1)) = dirtyN (M2.take j) := fun h => by
              unfold dirtyN; rw [hs2' h]
            have hdle : dirtyN (M2.take j) ≤ 102 := by
              unfold dirtyN
              have := List.length_filter_le (fun o : OpC => o.kind == 2) (M2.take j)
              rw [List.length_take] at this
              omega
            have HC := Lib.hid hcells; have HD1 := Lib.hid hdn1; have HD2 := Lib.hid hdn2
            clear hcells hdn1 hdn2 hs1' hs2' hJ3 hT3 HI hmem
            generalize dirtyN (M2.take j) = dn at *
            generalize M2[j] = o at *
            obtain ⟨y, z, x⟩ := o
            subst hgg
            simp only at d1 hlook HC HD1 HD2 HII
            have KP := Lib.hid (jt_get J3.out HII.out HLI3.out)
            have HTG : Hid (∀ hok : AOk (getA A3 z), TB r (k + 1) (getA A3 z) M2) := Lib.hid fun hok => tb_get T3.out z hok
            generalize getA A3 z = A4 at KP HTG
            have hji : (j : Int) < ml := by omega
            have hj0 : ¬ (j : Int) < 0 := by omega
            have hGet : True := trivial
            rcases hlook with ⟨hl1, hl2⟩ | ⟨dd, hl1⟩
            · rw [hl1] at KP
              simp only [resG] at KP
              have t1 : (y == 2) = false := by simpa using hl2
              have HD := Lib.hid (HD2.out t1)
              clear HD1 HD2 hl1
              go_wp2_with (first
                | (go_at_call 9; (with_reducible refine KP.out.mono ?_); rintro e1 x1 ⟨rfl, ρ4, j4⟩; have J4 := Lib.hid j4; obtain ⟨g4, eg4, f0, f1, f2⟩ := HC.out _ _ _ j4; injection eg4 with eg4; injection eg4 with eg4; subst eg4; clear j4 d1))
              go_roundw
              case rel => exact ⟨j + 1, by omega, by go_num, by rw [HD.out], Lib.hid ⟨ρ4, A4, J4.out, HTG.out J4.out.c.ok⟩⟩
              case measure => simp [intOf]; omega
            · rw [hl1] at KP
              simp only [resG] at KP
              clear hl1
              by_cases hy : y = 2
              · have t1 : (y == 2) = true := by simpa using hy
                have HD := Lib.hid (HD1.out t1)
                clear HD1 HD2
                go_wp2_with (first
                  | (go_at_call 9; (with_reducible refine KP.out.mono ?_); rintro e1 x1 ⟨rfl, ρ4, j4⟩; have J4 := Lib.hid j4; obtain ⟨g4, eg4, f0, f1, f2⟩ := HC.out _ _ _ j4; injection eg4 with eg4; injection eg4 with eg4; subst eg4; clear j4 d1))
                go_roundw
                case rel => exact ⟨j + 1, by omega, by go_num, by rw [HD.out]; go_num, Lib.hid ⟨ρ4, A4, J4.out, HTG.out J4.out.c.ok⟩⟩
                case measure => simp [intOf]; omega
              · have t1 : (y == 2) = false := by simpa using hy
                have HD := Lib.hid (HD2.out t1)
                clear HD1 HD2
                go_wp2_with (first
                  | (go_at_call 9; (with_reducible refine KP.out.mono ?_); rintro e1 x1 ⟨rfl, ρ4, j4⟩; have J4 := Lib.hid j4; obtain ⟨g4, eg4, f0, f1, f2⟩ := HC.out _ _ _ j4; injection eg4 with eg4; injection eg4 with eg4; subst eg4; clear j4 d1))
                go_roundw
                case rel => exact ⟨j + 1, by omega, by go_num, by rw [HD.out], Lib.hid ⟨ρ4, A4, J4.out, HTG.out J4.out.c.ok⟩⟩
                case measure => simp [intOf]; omega
          · have hji : ¬ (j : Int) < ml := by omega
            have hjm : j = ml := by omega
            subst hjm
            rw [show M2.take j = M2 from List.take_of_length_le (by have := HMM.out; omega)]
            have hD := tr_dirty hT3.toTR hT3.ok
            have hN := tr_len hT3.toTR hT3.ok
            have hR := hT3.ok.cl
            have hR2 := hT3.room
            have hdl : (dirtyA A3).length = dirtyN M2 := by
              unfold dirtyA
              rw [List.length_mergeSort, List.length_map, hD]
            have hNN : lenA A3 = (A3.li false).length + dirtyN M2 := by rw [hD]; rfl
            have HDL := Lib.hid hdl
            rw [← HMM.out] at hN
            rw [hR2, HRR.out] at hR
            obtain ⟨dn, hdn⟩ : ∃ d, d = dirtyN M2 := ⟨_, rfl⟩
            rw [← hdn] at HDL hNN ⊢
            obtain ⟨F, hF⟩ : ∃ F, F = (A3.li false).length := ⟨_, rfl⟩
            rw [← hF] at hNN hR
            have KL := Lib.hid (fun x (h : CacheI L ρ3 A3 x) => lenC_any h HLI3.out)
            obtain ⟨N, hNe⟩ : ∃ N, N = lenA A3 := ⟨_, rfl⟩
            rw [← hNe] at hNN hN KL
            have g0 : (N : Int) - dn = F := by omega
            have g1 : ¬ max room 1 < (N : Int) - dn := by omega
            have g2 : ¬ (j : Int) < N := by omega
            have g3 : N ≤ 102 := by omega
            have g4 : dn ≤ 102 := by omega
            clear hT3 hJ3 hD hR2 hF hNe hdn hdl hR HI hN hNN
            go_wp2_with (first
              | (go_at_call 17; (with_reducible refine (KL.out _ J3.out.c).mono ?_); rintro e1 x1 ⟨rfl, hw⟩; rw [hw]; clear hw)
              | (go_at_call 19; (with_reducible refine (dirty_any J3.out.c HLI3.out).mono ?_); rintro e5 x5 ⟨v5, rfl, o5, b5⟩; rw [HDL.out] at o5; obtain ⟨a5, cap5, hv5, -⟩ := row_form o5; subst hv5; have J5 := Lib.hid (J3.out.below b5); clear o5 b5))
            go_roundw
            case rel => exact ⟨k + 1, by omega, by go_num, Lib.hid ⟨ρ3, A3, M2, J5.out.toJT, T3.out⟩⟩
            case measure => simp [intOf]; omega
    · have i1' : ¬ (k : Int) < len := by omega
      obtain ⟨ρ, A, M, hJ, -⟩ := HJ.out
      have HBL := Lib.hid (B1.out.trans (hJ.bel.mono B1.out.size))
      clear hJ
      go_wp2
      go_ret
      exact ⟨rfl, HBL.out⟩
end Go.Proofs.Ytkpgekfejfbpjaa
