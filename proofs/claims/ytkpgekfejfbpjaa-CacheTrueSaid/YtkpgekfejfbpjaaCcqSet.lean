/-
  Layer 12, the document's cache: settle's inner loop: how many clean pages there are, and which of them has not been used for longest. Condition: at most ten thousand pages.
-/
import Derived.Test.YtkpgekfejfbpjaaCcqOps2
import Derived.Maps.RangeWalk
namespace Go.Proofs.Ytkpgekfejfbpjaa
open Go.RowKit
variable {w w' : World} {q : Nat} {v : Value} {R : QS}

def cleanQ (l : List QP) : Nat := (l.filter fun p => p.d == false).length
/-- Among the first k pages: the clean one that has not been used for longest; -1: there is none. -/
def FI (l : List QP) (k : Nat) (f : Int) : Prop := (f = -1 ∧ cleanQ (l.take k) = 0) ∨ ∃ j : Nat, j < k ∧ ∃ h : j < l.length, f = j ∧ l[j].d = false ∧ ∀ x ∈ l.take k, x.d = false → l[j].u ≤ x.u
theorem cleanQ_step {l : List QP} {k : Nat} (hk : k < l.length) : (l[k].d = true → cleanQ (l.take (k + 1)) = cleanQ (l.take k)) ∧ (l[k].d = false → cleanQ (l.take (k + 1)) = cleanQ (l.take k) + 1) := by
  obtain ⟨h1, h2⟩ := filt_step l k hk (fun p => p.d == false)
  unfold cleanQ
  constructor
  · intro h; rw [h2 (by simp [h])]
  · intro h; rw [h1 (by simp [h]), List.length_append, List.length_singleton]
theorem cleanQ_none {l : List QP} (h : cleanQ l = 0) : ∀ x ∈ l, x.d = true := by
  intro x hx
  unfold cleanQ at h
  have h1 := List.eq_nil_of_length_eq_zero h
  rw [List.filter_eq_nil_iff] at h1
  have := h1 x hx
  simpa using this
theorem mem_snoc {l : List QP} {k : Nat} (hk : k < l.length) {x : QP} : x ∈ l.take (k + 1) ↔ x ∈ l.take k ∨ x = l[k] := by
  rw [take_snocQ l k hk, List.mem_append, List.mem_singleton]
theorem fi_dirty {l : List QP} {k : Nat} {f : Int} (hk : k < l.length) (h : FI l k f) (hd : l[k].d = true) : FI l (k + 1) f := by
  rcases h with ⟨h1, h2⟩ | ⟨j, h1, h2, h3, h4, h5⟩
  · exact .inl ⟨h1, by rw [(cleanQ_step hk).1 hd]; exact h2⟩
  · refine .inr ⟨j, by omega, h2, h3, h4, fun x hx hxd => ?_⟩
    rcases (mem_snoc hk).1 hx with hx | rfl
    · exact h5 x hx hxd
    · rw [hd] at hxd; cases hxd
theorem fi_first {l : List QP} {k : Nat} (hk : k < l.length) (h : cleanQ (l.take k) = 0) (hd : l[k].d = false) : FI l (k + 1) k := by
  refine .inr ⟨k, by omega, hk, rfl, hd, fun x hx hxd => ?_⟩
  rcases (mem_snoc hk).1 hx with hx | rfl
  · rw [cleanQ_none h x hx] at hxd; cases hxd
  · exact Nat.le_refl _
theorem fi_less {l : List QP} {k j : Nat} (hk : k < l.length) (hj : j < l.length) (h5 : ∀ x ∈ l.take k, x.d = false → l[j].u ≤ x.u) (hd : l[k].d = false) (hu : l[k].u < l[j].u) : FI l (k + 1) k := by
  refine .inr ⟨k, by omega, hk, rfl, hd, fun x hx hxd => ?_⟩
  rcases (mem_snoc hk).1 hx with hx | rfl
  · have := h5 x hx hxd; omega
  · exact Nat.le_refl _
theorem fi_keep {l : List QP} {k j : Nat} (hk : k < l.length) (hjk : j < k) (hj : j < l.length) (hjd : l[j].d = false) (h5 : ∀ x ∈ l.take k, x.d = false → l[j].u ≤ x.u) (hu : ¬ l[k].u < l[j].u) : FI l (k + 1) j := by
  refine .inr ⟨j, by omega, hj, rfl, hjd, fun x hx hxd => ?_⟩
  rcases (mem_snoc hk).1 hx with hx | rfl
  · exact h5 x hx hxd
  · omega
theorem fi_end {l : List QP} {f : Int} (h : FI l l.length f) (hc : 0 < cleanQ l) : ∃ j : Nat, ∃ hj : j < l.length, f = j ∧ l[j].d = false ∧ ∀ x ∈ l, x.d = false → l[j].u ≤ x.u := by
  rcases h with ⟨h1, h2⟩ | ⟨j, h1, h2, h3, h4, h5⟩
  · rw [List.take_length] at h2; omega
  · rw [List.take_length] at h5
    exact ⟨j, h2, h3, h4, h5⟩
theorem cleanQ_le (l : List QP) : cleanQ l ≤ l.length := List.length_filter_le _ _
/-- The one that goes: a page at place j, clean, that has not been used for longest. -/
def Popped (R R' : QS) : Prop := R.room < (cleanQ R.L : Int) ∧ ∃ a p b, R.L = a ++ p :: b ∧ p.d = false ∧ (∀ x ∈ R.L, x.d = false → p.u ≤ x.u) ∧ R' = { R with L := a ++ b }
theorem popped_clean {R R' : QS} (h : Popped R R') : cleanQ R'.L + 1 = cleanQ R.L ∧ R'.L.length + 1 = R.L.length := by
  obtain ⟨-, a, p, b, h1, h2, -, rfl⟩ := h
  unfold cleanQ
  rw [h1]
  simp [h2]
  omega
theorem pg_part {base : Nat} {l : List QP} (h : PRow w base v l) : ∃ a cap, v = .slice a l.length cap ∧ l.length ≤ cap ∧ ∀ lo hi, lo ≤ hi → hi ≤ l.length → PartOf w 4 (sliced a lo hi cap 4) (hi - lo) (((l.drop lo).take (hi - lo)).flatMap pgC) := by
  obtain ⟨a, cap, e, hc, hp⟩ := part_of h
  exact ⟨a, cap, e, hc, fun lo hi h1 h2 => by have := hp lo hi h1 h2; rwa [flat_part] at this⟩
theorem below_row {W W' : World} {e : TypeId} {size : Nat} {v : Value} {n : Nat} {xs : List Value} (h : Below w.heap.size w W) (ho : W.ownsRow w.heap.size e size v n xs) (hg : W.grownBy W' v.ownBlock) : Below w.heap.size w W' :=
  h.grown hg h.size (fun k e => (ho.lt k e).1)
theorem pgSlice_h (w : World) (a : Option Addr) (n cap j : Nat) (h : j ≤ cap) : (Instr.slice 36 (.slice a n cap) none (some (.int .i64 j)) none).run Try.prog w = .ok (sliced a 0 j cap 4) w := by
  have h4 : ((sizeOf (Try.prog.elem 36)).run Try.prog w) = .ok 4 w := by kernel_rfl
  rw [run_slice_h w 36 a n cap (by kernel_rfl) .i64 j (by omega) (by omega), h4]
  rfl
theorem pgSlice_l (w : World) (a : Option Addr) (n cap j : Nat) (h : j ≤ n) : (Instr.slice 36 (.slice a n cap) (some (.int .i64 j)) none none).run Try.prog w = .ok (sliced a j n cap 4) w := by
  have h4 : ((sizeOf (Try.prog.elem 36)).run Try.prog w) = .ok 4 w := by kernel_rfl
  rw [run_slice_l w 36 a n cap (by kernel_rfl) .i64 j (by omega) (by omega), h4]
  rfl
theorem popped_at {l : List QP} {R : QS} (hL : l = R.L) {j : Nat} (hj : j < l.length) (hd : l[j].d = false) (hm : ∀ x ∈ l, x.d = false → l[j].u ≤ x.u) (hc : R.room < (cleanQ l : Int)) : Popped R { R with L := l.take j ++ l.drop (j + 1) } := by
  subst hL
  exact ⟨hc, _, _, _, split_at R.L j hj, hd, hm, rfl⟩
def lenSl (w : World) (q : Nat) : Nat := match w.cell? ⟨q, 0, none⟩ with
  | some (.slice _ n _) => n
  | _ => 0
theorem lenSl_is (h : QInv q v R w) : lenSl w q = R.L.length := by
  unfold lenSl
  rw [(q_cells h).1]
  obtain ⟨a, cap, rfl, -⟩ := row_form h.row
  rfl

set_option maxHeartbeats 2000000 in
theorem settle_any (h : QInv q v R w) (hl : R.L.length ≤ 10000) (hc : (cleanQ R.L : Int) ≤ R.room + 1) (hr : 0 ≤ R.room ∧ R.room ≤ 9223372036854775807) :
    Calls Try.prog 26 #[.pointer (some ⟨q, 0, none⟩)] w fun e w' => e = .returned (.tuple #[]) ∧ ∃ v' R', QInv q v' R' w' ∧ QStep q v w v' w' ∧ (((cleanQ R.L : Int) ≤ R.room ∧ R' = R) ∨ Popped R R') := by
  have HI := Lib.hid h
  have HC := Lib.hid hc
  obtain ⟨i1, z1, hi1, hz1, hs1, hb1, hzs⟩ := infoP
  clear h hc
  have HLL := Lib.hid hl
  obtain ⟨hr0, hr1⟩ := hr
  clear hl
  go_enter Try.func26, Try.ntmps26
  go_wp2
  go_loopw [] (fun wr => ∃ v1 R1, Hid (QInv q v1 R1 wr) ∧ Hid (QStep q v w v1 wr) ∧ Hid (R1 = R ∨ Popped R R1)) (fun wr => lenSl wr q)
  case atStart => exact ⟨v, R, HI, Lib.hid (QStep.refl _ _ _), Lib.hid (.inl rfl)⟩
  case round =>
    obtain ⟨v1, R1, HI1, HS1, HR1⟩ := hrel
    have HM0 := Lib.hid (lenSl_is HI1.out)
    have hrm : R1.room = R.room := by
      rcases HR1.out with rfl | ⟨-, a, p, b, -, -, -, rfl⟩ <;> rfl
    have hlen : R1.L.length ≤ 10000 := by
      rcases HR1.out with rfl | hp
      · exact HLL.out
      · have := (popped_clean hp).2; have := HLL.out; omega
    obtain ⟨l, hl'⟩ : ∃ l, l = R1.L := ⟨_, rfl⟩
    rw [← hl'] at hlen
    have HL := Lib.hid hl'
    rw [← hl'] at HM0
    have HRM := Lib.hid hrm
    clear hl' hrm
    go_wp2
    go_loopw [2, 3, 4] (fun t2 t3 t4 wi => ∃ (k : Nat) (f : Int), k ≤ l.length ∧ t4 = .int .i64 k ∧ t2 = .int .i64 (cleanQ (l.take k) : Nat) ∧ t3 = .int .i64 f ∧ Hid (FI l k f) ∧ Hid (QInv q v1 R1 wi) ∧ Hid (QStep q v w v1 wi)) (fun _ _ t4 _ => l.length - (intOf t4).toNat)
    case atStart => exact ⟨0, -1, Nat.zero_le _, rfl, rfl, rfl, Lib.hid (.inl ⟨rfl, rfl⟩), HI1, HS1⟩
    case round =>
      obtain ⟨k, f, hk, rfl, rfl, rfl, HF, HI2, HS2⟩ := hrel
      obtain ⟨c0, -, c2⟩ := q_cells HI2.out
      have fq := blk_frozen HI2.out.blk 0
      obtain ⟨a, cap, rfl, hc⟩ := pg_cells HI2.out.row
      rw [← HL.out] at hc c0
      have HCC := Lib.hid hc
      clear hc
      by_cases hlt : k < l.length
      · obtain ⟨g, rfl, -, hg, -, -, c3, c4, -⟩ := HCC.out k hlt
        have hkI : (k : Int) < l.length := by omega
        have s0 : ¬ (k : Int) < 0 := by omega
        obtain ⟨HT, HN⟩ := cleanQ_step hlt
        have hcl := cleanQ_le (l.take k)
        rw [List.length_take] at hcl
        by_cases he : l[k].d = true
        · have hT := Lib.hid (HT he)
          have HF2 := Lib.hid (fi_dirty hlt HF.out he)
          rw [he] at c3
          clear HT HN he
          go_wp2
          go_roundw
          case rel => exact ⟨k + 1, f, by omega, by go_num, by rw [hT.out], rfl, HF2, HI2, HS2⟩
          case measure => simp [intOf]; omega
        · have he' : l[k].d = false := by simpa using he
          have hT := Lib.hid (HN he')
          rw [he'] at c3
          have hcu : (cleanQ (l.take k) : Int) ≤ 10000 := by omega
          rcases HF.out with ⟨rfl, h0⟩ | ⟨j, hjk, hj, rfl, hjd, hjm⟩
          · have HF2 := Lib.hid (fi_first hlt h0 he')
            obtain ⟨cn, hcn⟩ : ∃ cn, cn = cleanQ (l.take k) := ⟨_, rfl⟩
            rw [← hcn] at hcu ⊢
            have HCN := Lib.hid hcn
            clear HT HN he he' h0 HF hcl hcn
            go_wp2
            go_quiet (fail)
            go_wp2
            go_roundw
            case rel => exact ⟨k + 1, k, by omega, by go_num, by rw [hT.out, ← HCN.out]; go_num, rfl, HF2, Lib.hid (HI2.out.drewN _), Lib.hid (HS2.out.trans (QStep.drewN _))⟩
            case measure => simp [intOf]; omega
          · have hjI : (j : Int) < l.length := by omega
            have s1 : ¬ (j : Int) < 0 := by omega
            obtain ⟨g', e', -, -, -, -, -, c5, -⟩ := HCC.out j hj
            injection e' with e'
            injection e' with e'
            subst e'
            obtain ⟨cn, hcn⟩ : ∃ cn, cn = cleanQ (l.take k) := ⟨_, rfl⟩
            rw [← hcn] at hcu ⊢
            have HCN := Lib.hid hcn
            by_cases hu : l[k].u < l[j].u
            · have HF2 := Lib.hid (fi_less hlt hj hjm he' hu)
              have hu2 : decide ((l[k].u : Int) < (l[j].u : Int)) = true := decide_eq_true (by omega)
              have hu3 : (l[k].u : Int) < (l[j].u : Int) := by omega
              clear HT HN he he' HF hcl hcn hjm hjd hu
              generalize l[k].u = uk at *
              generalize l[j].u = uj at *
              go_wp2
              go_quiet (fail)
              go_wp2
              go_roundw
              case rel => exact ⟨k + 1, k, by omega, by go_num, by rw [hT.out, ← HCN.out]; go_num, rfl, HF2, Lib.hid (HI2.out.drewN _), Lib.hid (HS2.out.trans (QStep.drewN _))⟩
              case measure => simp [intOf]; omega
            · have HF2 := Lib.hid (fi_keep hlt hjk hj hjd hjm hu)
              have hu2 : decide ((l[k].u : Int) < (l[j].u : Int)) = false := decide_eq_false (by omega)
              have hu3 : ¬ (l[k].u : Int) < (l[j].u : Int) := by omega
              clear HT HN he he' HF hcl hcn hjm hjd hu
              generalize l[k].u = uk at *
              generalize l[j].u = uj at *
              go_wp2
              go_quiet (fail)
              go_wp2
              go_roundw
              case rel => exact ⟨k + 1, j, by omega, by go_num, by rw [hT.out, ← HCN.out]; go_num, rfl, HF2, Lib.hid (HI2.out.drewN _), Lib.hid (HS2.out.trans (QStep.drewN _))⟩
              case measure => simp [intOf]; omega
      · have hkI : ¬ (k : Int) < l.length := by omega
        have hkl : k = l.length := by omega
        subst hkl
        rw [List.take_length]
        by_cases hle : (cleanQ l : Int) ≤ R.room
        · have HP := Lib.hid (show ((cleanQ R.L : Int) ≤ R.room ∧ R1 = R) ∨ Popped R R1 by
            rcases HR1.out with e | hp
            · exact .inl ⟨by rw [← e, ← HL.out]; rw [e]; exact hle, e⟩
            · exact .inr hp)
          rw [HRM.out] at c2
          obtain ⟨cn, hcn⟩ : ∃ cn, cn = cleanQ l := ⟨_, rfl⟩
          rw [← hcn] at hle ⊢
          clear hcn
          go_wp2
          go_returns
          exact ⟨rfl, _, _, HI2.out, HS2.out, HP.out⟩
        · have hR1 : R1 = R := by
            rcases HR1.out with e | hp
            · exact e
            · have h9 := (popped_clean hp).1
              have h8 := HC.out
              rw [HL.out] at hle
              omega
          subst hR1
          obtain ⟨j, hj, rfl, hjd, hjm⟩ := fi_end HF.out (by omega)
          have hjI : (j : Int) < l.length := by omega
          obtain ⟨g, rfl, -, hg, -⟩ := HCC.out j hj
          obtain ⟨a', cap', e', hcap, hpart⟩ := pg_part HI2.out.row
          injection e' with e1 e2 e3
          subst e1 e3
          rw [← HL.out] at hpart hcap
          have hp1 := hpart 0 j (Nat.zero_le _) (by omega)
          have hp2 := hpart (j + 1) l.length (by omega) (Nat.le_refl _)
          rw [List.drop_zero, Nat.sub_zero] at hp1
          rw [List.take_of_length_le (by rw [List.length_drop]; omega)] at hp2
          have HP1 := Lib.hid hp1; have HP2 := Lib.hid hp2
          have HB0 : Hid (Below wr.heap.size wr (wr.drew.alloc (.cells #[] 59))) := Lib.hid (Below.alloc (show Below wr.heap.size wr wr.drew from ⟨rfl, rfl, rfl, Nat.le_refl _, fun _ _ => rfl⟩) (Nat.le_refl _) _)
          have hx1 : ∀ w', (Instr.slice 36 (.slice (some ⟨g, 0, none⟩) l.length cap) none (some (.int .i64 j)) none).run Try.prog w' = .ok (sliced (some ⟨g, 0, none⟩) 0 j cap 4) w' := fun w' => pgSlice_h w' _ _ _ _ (by omega)
          have hx2 : ∀ w', (Instr.slice 36 (.slice (some ⟨g, 0, none⟩) l.length cap) (some (.int .i64 (j + 1))) none none).run Try.prog w' = .ok (sliced (some ⟨g, 0, none⟩) (j + 1) l.length cap 4) w' := fun w' => pgSlice_l w' _ _ _ (j + 1) (by omega)
          generalize sliced (some ⟨g, 0, none⟩) 0 j cap 4 = X1 at HP1 hx1
          generalize sliced (some ⟨g, 0, none⟩) (j + 1) l.length cap 4 = X2 at HP2 hx2
          have HFIN : Hid (∀ w4 v4, Below wr.heap.size wr w4 → w4.ownsRow wr.heap.size 59 4 v4 (j + (l.length - (j + 1))) ((l.take j).flatMap pgC ++ (l.drop (j + 1)).flatMap pgC) → (∃ v1 R', Hid (QInv q v1 R' (w4.setCell ⟨q, 0, none⟩ v4)) ∧ Hid (QStep q v w v1 (w4.setCell ⟨q, 0, none⟩ v4)) ∧ Hid (R' = R1 ∨ Popped R1 R')) ∧ lenSl (w4.setCell ⟨q, 0, none⟩ v4) q < l.length) := Lib.hid fun w4 v4 hb hr => by
            have hlj : (l.take j ++ l.drop (j + 1)).length = j + (l.length - (j + 1)) := by
              rw [List.length_append, List.length_take, List.length_drop]; omega
            have hr' : PRow w4 wr.heap.size v4 (l.take j ++ l.drop (j + 1)) := by
              show World.ownsRow _ _ _ _ _ (l.take j ++ l.drop (j + 1)).length _
              rw [hlj, List.flatMap_append]
              exact hr
            obtain ⟨t1, t2⟩ := q_put HI2.out hb hr'
            have hpop := popped_at HL.out hj hjd hjm (by omega)
            refine ⟨⟨_, _, Lib.hid t1, Lib.hid (HS2.out.trans t2), Lib.hid (.inr hpop)⟩, ?_⟩
            rw [lenSl_is t1]
            show (l.take j ++ l.drop (j + 1)).length < l.length
            omega
          have hj2 : j ≤ cap := by omega
          have hj3 : j < l.length := hj
          have hj4 : ¬ (cleanQ l : Int) ≤ R1.room := hle
          obtain ⟨cn, hcn⟩ : ∃ cn, cn = cleanQ l := ⟨_, rfl⟩
          have hcu := cleanQ_le l
          rw [← hcn] at hle hcu ⊢
          have hwj : IntKind.i64.wrap ((j : Int) + 1) = j + 1 := by rw [IntKind.wrap_i64]; omega
          have c0a : (wr.alloc (.cells #[] 59)).cell? ⟨q, 0, none⟩ = some (.slice (some ⟨g, 0, none⟩) l.length cap) := by
            have := (q_cells (HI2.out.below HB0.out)).1
            rw [← HL.out] at this
            exact this
          clear hcn hpart hp1 hp2 hjd hjm HCC hj4
          go_upto_region 9 with (fail)
          refine wp_region_held_drew (S := fun _ => True) (by kernel_rfl) trivial (fun hHeld => ?_)
          refine wpAnyH_take (i := 0) (v := (.pointer (some ⟨q, 0, none⟩))) rfl (by kernel_rfl) (by kernel_rfl) (by kernel_rfl) (fun _ _ _ h => h) (Or.inl ⟨by rfl, ?_⟩) hHeld ?_
          · intro w' hSw
            have a0 := hSw
            go_simp
          go_frame
          refine wpAnyH_take (i := 2) (v := (.pointer (some ⟨q, 0, none⟩))) rfl (by kernel_rfl) (by kernel_rfl) (by kernel_rfl) (fun _ _ _ h => h) (Or.inl ⟨by rfl, ?_⟩) hHeld ?_
          · intro w' hSw
            have a0 := hSw
            go_simp
          go_frame
          refine wpAnyH_take (i := 3) (v := (.pointer (some ⟨q, 0, none⟩))) rfl (by kernel_rfl) (by kernel_rfl) (by kernel_rfl) (fun _ _ _ h => h) (Or.inl ⟨by rfl, ?_⟩) hHeld ?_
          · intro w' hSw
            have a0 := hSw
            go_simp
          go_frame
          refine wpAnyH_take (i := 4) (v := (.pointer (some ⟨q, 0, none⟩))) rfl (by kernel_rfl) (by kernel_rfl) (by kernel_rfl) (fun _ _ _ h => h) (Or.inl ⟨by rfl, ?_⟩) hHeld ?_
          · intro w' hSw
            have a0 := hSw
            go_simp
          go_frame
          refine wpAnyH_take (i := 6) (v := (.int .i64 j)) rfl (by kernel_rfl) (by kernel_rfl) (by kernel_rfl) (fun _ _ _ h => h) (Or.inl ⟨by rfl, ?_⟩) hHeld ?_
          · intro w' hSw
            have a0 := hSw
            go_simp
          go_frame
          refine wpAnyH_take (i := 9) (v := (.pointer (some ⟨q, 0, none⟩))) rfl (by kernel_rfl) (by kernel_rfl) (by kernel_rfl) (fun _ _ _ h => h) (Or.inl ⟨by rfl, ?_⟩) hHeld ?_
          · intro w' hSw
            have a0 := hSw
            go_simp
          go_frame
          refine wpAnyH_take (i := 10) (v := (.pointer (some ⟨q, 0, none⟩))) rfl (by kernel_rfl) (by kernel_rfl) (by kernel_rfl) (fun _ _ _ h => h) (Or.inl ⟨by rfl, ?_⟩) hHeld ?_
          · intro w' hSw
            have a0 := hSw
            go_simp
          go_frame
          refine wpAnyH_take (i := 11) (v := (.pointer (some ⟨q, 0, none⟩))) rfl (by kernel_rfl) (by kernel_rfl) (by kernel_rfl) (fun _ _ _ h => h) (Or.inl ⟨by rfl, ?_⟩) hHeld ?_
          · intro w' hSw
            have a0 := hSw
            go_simp
          go_frame
          refine wpAnyH_take (i := 13) (v := (.int .i64 j)) rfl (by kernel_rfl) (by kernel_rfl) (by kernel_rfl) (fun _ _ _ h => h) (Or.inl ⟨by rfl, ?_⟩) hHeld ?_
          · intro w' hSw
            have a0 := hSw
            go_simp
          go_frame
          refine wpAnyH_take (i := 14) (v := (.int .i64 (j + 1))) rfl (by kernel_rfl) (by kernel_rfl) (by kernel_rfl) (fun _ _ _ h => h) (Or.inl ⟨by rfl, ?_⟩) hHeld ?_
          · intro w' hSw
            have a0 := hSw
            go_simp
          go_frame
          refine wpAnyH_ready (rs := [1, 5, 12]) (by kernel_rfl) (by simp) ?_
          refine AllReadyH.cons rfl (fun K hK => ?_) (AllReadyH.cons rfl (fun K hK => ?_) (AllReadyH.cons rfl (fun K hK => ?_) AllReadyH.nil))
          · skip
            go_simp
            refine hK.out _ _ trivial (fun hHeld => ?_)
            clear hK K
            refine wpAnyH_ready (rs := [5, 12]) (by kernel_rfl) (by simp) ?_
            refine AllReadyH.cons rfl (fun K hK => ?_) (AllReadyH.cons rfl (fun K hK => ?_) AllReadyH.nil)
            · skip
              go_simp
              refine hK.out _ _ trivial (fun hHeld => ?_)
              clear hK K
              refine wpAnyH_take (i := 7) (v := X1) rfl (by kernel_rfl) (by kernel_rfl) (by kernel_rfl) (fun _ _ _ h => h) (Or.inl ⟨by rfl, ?_⟩) hHeld ?_
              · intro w' hSw
                have a0 := hSw
                go_simp
              go_frame
              refine wpAnyH_ready (rs := [8, 12]) (by kernel_rfl) (by simp) ?_
              refine AllReadyH.cons rfl (fun K hK => ?_) (AllReadyH.cons rfl (fun K hK => ?_) AllReadyH.nil)
              · skip
                refine step_append_part _ rfl _ _ 36 rfl wr.heap.size 59 i1 z1 4 40 Try.underlying36 hi1 hz1 hs1 hb1 hzs (by decide) (.slice (some ⟨wr.heap.size, 0, none⟩) 0 0) 0 [] rfl (row_empty wr.drew 59 4) X1 j ((l.take j).flatMap pgC) rfl (HP1.out.below HB0.out) (pgC_one _) (by unfold maxLen; omega) (by omega) (by simp) ?_
                intro v3 w3 hown3 hgrow3
                rw [Nat.zero_add, List.nil_append] at hown3
                have B3 := Lib.hid (below_row HB0.out (row_empty wr.drew 59 4) hgrow3)
                have q3 := (q_cells (HI2.out.below B3.out)).1
                rw [← HL.out] at q3
                refine hK.out _ _ trivial (fun hHeld => ?_)
                clear hK K hgrow3
                refine wpAnyH_ready (rs := [12]) (by kernel_rfl) (by simp) ?_
                refine AllReadyH.cons rfl (fun K hK => ?_) AllReadyH.nil
                go_simp
                refine hK.out _ _ trivial (fun hHeld => ?_)
                clear hK K
                refine wpAnyH_take (i := 15) (v := X2) rfl (by kernel_rfl) (by kernel_rfl) (by kernel_rfl) (fun _ _ _ h => h) (Or.inl ⟨by rfl, ?_⟩) hHeld ?_
                · intro w' hSw
                  have a0 := hSw
                  go_simp
                go_frame
                refine wpAnyH_ready (rs := [16]) (by kernel_rfl) (by simp) ?_
                refine AllReadyH.cons rfl (fun K hK => ?_) AllReadyH.nil
                refine step_append_part _ rfl _ _ 36 rfl wr.heap.size 59 i1 z1 4 40 Try.underlying36 hi1 hz1 hs1 hb1 hzs (by decide) v3 _ _ rfl hown3 X2 (l.length - (j + 1)) ((l.drop (j + 1)).flatMap pgC) rfl (HP2.out.below B3.out) (pgC_one _) (by unfold maxLen; omega) (by omega) B3.out.size ?_
                intro v4 w4 hown4 hgrow4
                have B4 := Lib.hid (below_row B3.out hown3 hgrow4)
                obtain ⟨a4, cap4, hv4, -⟩ := row_form hown4
                subst hv4
                have q4 := (q_cells (HI2.out.below B4.out)).1
                have p4 := blk_frozen (HI2.out.below B4.out).blk 0
                have HO4 := Lib.hid hown4
                clear hgrow4 hown4
                refine hK.out _ _ trivial (fun hHeld => ?_)
                clear hK K
                refine wpAnyH_take (i := 17) (v := (.pointer (some ⟨q, 0, none⟩))) rfl (by kernel_rfl) (by kernel_rfl) (by kernel_rfl) (fun _ _ _ h => h) (Or.inl ⟨by rfl, ?_⟩) hHeld ?_
                · intro w' hSw
                  have a0 := hSw
                  go_simp
                go_frame
                refine wpAnyH_take (i := 18) (v := (.pointer (some ⟨q, 0, none⟩))) rfl (by kernel_rfl) (by kernel_rfl) (by kernel_rfl) (fun _ _ _ h => h) (Or.inl ⟨by rfl, ?_⟩) hHeld ?_
                · intro w' hSw
                  have a0 := hSw
                  go_simp
                go_frame
                refine wpAnyH_ready (rs := [19]) (by kernel_rfl) (by simp) ?_
                refine AllReadyH.cons rfl (fun K hK => ?_) AllReadyH.nil
                go_simp
                refine hK.out _ _ trivial (fun hHeld => ?_)
                clear hK K
                refine wpAnyH_done (by kernel_rfl) ?_ _
                go_wp2
                go_roundw
                case rel => exact (HFIN.out _ _ B4.out HO4.out).1
                case measure => rw [HM0.out]; exact (HFIN.out _ _ B4.out HO4.out).2
              · skip
                go_simp
                refine hK.out _ _ trivial (fun hHeld => ?_)
                clear hK K
                refine wpAnyH_take (i := 15) (v := X2) rfl (by kernel_rfl) (by kernel_rfl) (by kernel_rfl) (fun _ _ _ h => h) (Or.inl ⟨by rfl, ?_⟩) hHeld ?_
                · intro w' hSw
                  have a0 := hSw
                  go_simp
                go_frame
                refine wpAnyH_ready (rs := [8]) (by kernel_rfl) (by simp) ?_
                refine AllReadyH.cons rfl (fun K hK => ?_) AllReadyH.nil
                refine step_append_part _ rfl _ _ 36 rfl wr.heap.size 59 i1 z1 4 40 Try.underlying36 hi1 hz1 hs1 hb1 hzs (by decide) (.slice (some ⟨wr.heap.size, 0, none⟩) 0 0) 0 [] rfl (row_empty wr.drew 59 4) X1 j ((l.take j).flatMap pgC) rfl (HP1.out.below HB0.out) (pgC_one _) (by unfold maxLen; omega) (by omega) (by simp) ?_
                intro v3 w3 hown3 hgrow3
                rw [Nat.zero_add, List.nil_append] at hown3
                have B3 := Lib.hid (below_row HB0.out (row_empty wr.drew 59 4) hgrow3)
                have q3 := (q_cells (HI2.out.below B3.out)).1
                rw [← HL.out] at q3
                refine hK.out _ _ trivial (fun hHeld => ?_)
                clear hK K hgrow3
                refine wpAnyH_ready (rs := [16]) (by kernel_rfl) (by simp) ?_
                refine AllReadyH.cons rfl (fun K hK => ?_) AllReadyH.nil
                refine step_append_part _ rfl _ _ 36 rfl wr.heap.size 59 i1 z1 4 40 Try.underlying36 hi1 hz1 hs1 hb1 hzs (by decide) v3 _ _ rfl hown3 X2 (l.length - (j + 1)) ((l.drop (j + 1)).flatMap pgC) rfl (HP2.out.below B3.out) (pgC_one _) (by unfold maxLen; omega) (by omega) B3.out.size ?_
                intro v4 w4 hown4 hgrow4
                have B4 := Lib.hid (below_row B3.out hown3 hgrow4)
                obtain ⟨a4, cap4, hv4, -⟩ := row_form hown4
                subst hv4
                have q4 := (q_cells (HI2.out.below B4.out)).1
                have p4 := blk_frozen (HI2.out.below B4.out).blk 0
                have HO4 := Lib.hid hown4
                clear hgrow4 hown4
                refine hK.out _ _ trivial (fun hHeld => ?_)
                clear hK K
                refine wpAnyH_take (i := 17) (v := (.pointer (some ⟨q, 0, none⟩))) rfl (by kernel_rfl) (by kernel_rfl) (by kernel_rfl) (fun _ _ _ h => h) (Or.inl ⟨by rfl, ?_⟩) hHeld ?_
                · intro w' hSw
                  have a0 := hSw
                  go_simp
                go_frame
                refine wpAnyH_take (i := 18) (v := (.pointer (some ⟨q, 0, none⟩))) rfl (by kernel_rfl) (by kernel_rfl) (by kernel_rfl) (fun _ _ _ h => h) (Or.inl ⟨by rfl, ?_⟩) hHeld ?_
                · intro w' hSw
                  have a0 := hSw
                  go_simp
                go_frame
                refine wpAnyH_ready (rs := [19]) (by kernel_rfl) (by simp) ?_
                refine AllReadyH.cons rfl (fun K hK => ?_) AllReadyH.nil
                go_simp
                refine hK.out _ _ trivial (fun hHeld => ?_)
                clear hK K
                refine wpAnyH_done (by kernel_rfl) ?_ _
                go_wp2
                go_roundw
                case rel => exact (HFIN.out _ _ B4.out HO4.out).1
                case measure => rw [HM0.out]; exact (HFIN.out _ _ B4.out HO4.out).2
            · skip
              go_simp
              refine hK.out _ _ trivial (fun hHeld => ?_)
              clear hK K
              refine wpAnyH_take (i := 15) (v := X2) rfl (by kernel_rfl) (by kernel_rfl) (by kernel_rfl) (fun _ _ _ h => h) (Or.inl ⟨by rfl, ?_⟩) hHeld ?_
              · intro w' hSw
                have a0 := hSw
                go_simp
              go_frame
              refine wpAnyH_ready (rs := [5]) (by kernel_rfl) (by simp) ?_
              refine AllReadyH.cons rfl (fun K hK => ?_) AllReadyH.nil
              go_simp
              refine hK.out _ _ trivial (fun hHeld => ?_)
              clear hK K
              refine wpAnyH_take (i := 7) (v := X1) rfl (by kernel_rfl) (by kernel_rfl) (by kernel_rfl) (fun _ _ _ h => h) (Or.inl ⟨by rfl, ?_⟩) hHeld ?_
              · intro w' hSw
                have a0 := hSw
                go_simp
              go_frame
              refine wpAnyH_ready (rs := [8]) (by kernel_rfl) (by simp) ?_
              refine AllReadyH.cons rfl (fun K hK => ?_) AllReadyH.nil
              refine step_append_part _ rfl _ _ 36 rfl wr.heap.size 59 i1 z1 4 40 Try.underlying36 hi1 hz1 hs1 hb1 hzs (by decide) (.slice (some ⟨wr.heap.size, 0, none⟩) 0 0) 0 [] rfl (row_empty wr.drew 59 4) X1 j ((l.take j).flatMap pgC) rfl (HP1.out.below HB0.out) (pgC_one _) (by unfold maxLen; omega) (by omega) (by simp) ?_
              intro v3 w3 hown3 hgrow3
              rw [Nat.zero_add, List.nil_append] at hown3
              have B3 := Lib.hid (below_row HB0.out (row_empty wr.drew 59 4) hgrow3)
              have q3 := (q_cells (HI2.out.below B3.out)).1
              rw [← HL.out] at q3
              refine hK.out _ _ trivial (fun hHeld => ?_)
              clear hK K hgrow3
              refine wpAnyH_ready (rs := [16]) (by kernel_rfl) (by simp) ?_
              refine AllReadyH.cons rfl (fun K hK => ?_) AllReadyH.nil
              refine step_append_part _ rfl _ _ 36 rfl wr.heap.size 59 i1 z1 4 40 Try.underlying36 hi1 hz1 hs1 hb1 hzs (by decide) v3 _ _ rfl hown3 X2 (l.length - (j + 1)) ((l.drop (j + 1)).flatMap pgC) rfl (HP2.out.below B3.out) (pgC_one _) (by unfold maxLen; omega) (by omega) B3.out.size ?_
              intro v4 w4 hown4 hgrow4
              have B4 := Lib.hid (below_row B3.out hown3 hgrow4)
              obtain ⟨a4, cap4, hv4, -⟩ := row_form hown4
              subst hv4
              have q4 := (q_cells (HI2.out.below B4.out)).1
              have p4 := blk_frozen (HI2.out.below B4.out).blk 0
              have HO4 := Lib.hid hown4
              clear hgrow4 hown4
              refine hK.out _ _ trivial (fun hHeld => ?_)
              clear hK K
              refine wpAnyH_take (i := 17) (v := (.pointer (some ⟨q, 0, none⟩))) rfl (by kernel_rfl) (by kernel_rfl) (by kernel_rfl) (fun _ _ _ h => h) (Or.inl ⟨by rfl, ?_⟩) hHeld ?_
              · intro w' hSw
                have a0 := hSw
                go_simp
              go_frame
              refine wpAnyH_take (i := 18) (v := (.pointer (some ⟨q, 0, none⟩))) rfl (by kernel_rfl) (by kernel_rfl) (by kernel_rfl) (fun _ _ _ h => h) (Or.inl ⟨by rfl, ?_⟩) hHeld ?_
              · intro w' hSw
                have a0 := hSw
                go_simp
              go_frame
              refine wpAnyH_ready (rs := [19]) (by kernel_rfl) (by simp) ?_
              refine AllReadyH.cons rfl (fun K hK => ?_) AllReadyH.nil
              go_simp
              refine hK.out _ _ trivial (fun hHeld => ?_)
              clear hK K
              refine wpAnyH_done (by kernel_rfl) ?_ _
              go_wp2
              go_roundw
              case rel => exact (HFIN.out _ _ B4.out HO4.out).1
              case measure => rw [HM0.out]; exact (HFIN.out _ _ B4.out HO4.out).2
          · skip
            go_simp
            refine hK.out _ _ trivial (fun hHeld => ?_)
            clear hK K
            refine wpAnyH_take (i := 7) (v := X1) rfl (by kernel_rfl) (by kernel_rfl) (by kernel_rfl) (fun _ _ _ h => h) (Or.inl ⟨by rfl, ?_⟩) hHeld ?_
            · intro w' hSw
              have a0 := hSw
              go_simp
            go_frame
            refine wpAnyH_ready (rs := [1, 12]) (by kernel_rfl) (by simp) ?_
            refine AllReadyH.cons rfl (fun K hK => ?_) (AllReadyH.cons rfl (fun K hK => ?_) AllReadyH.nil)
            · skip
              go_simp
              refine hK.out _ _ trivial (fun hHeld => ?_)
              clear hK K
              refine wpAnyH_ready (rs := [8, 12]) (by kernel_rfl) (by simp) ?_
              refine AllReadyH.cons rfl (fun K hK => ?_) (AllReadyH.cons rfl (fun K hK => ?_) AllReadyH.nil)
              · skip
                refine step_append_part _ rfl _ _ 36 rfl wr.heap.size 59 i1 z1 4 40 Try.underlying36 hi1 hz1 hs1 hb1 hzs (by decide) (.slice (some ⟨wr.heap.size, 0, none⟩) 0 0) 0 [] rfl (row_empty wr.drew 59 4) X1 j ((l.take j).flatMap pgC) rfl (HP1.out.below HB0.out) (pgC_one _) (by unfold maxLen; omega) (by omega) (by simp) ?_
                intro v3 w3 hown3 hgrow3
                rw [Nat.zero_add, List.nil_append] at hown3
                have B3 := Lib.hid (below_row HB0.out (row_empty wr.drew 59 4) hgrow3)
                have q3 := (q_cells (HI2.out.below B3.out)).1
                rw [← HL.out] at q3
                refine hK.out _ _ trivial (fun hHeld => ?_)
                clear hK K hgrow3
                refine wpAnyH_ready (rs := [12]) (by kernel_rfl) (by simp) ?_
                refine AllReadyH.cons rfl (fun K hK => ?_) AllReadyH.nil
                go_simp
                refine hK.out _ _ trivial (fun hHeld => ?_)
                clear hK K
                refine wpAnyH_take (i := 15) (v := X2) rfl (by kernel_rfl) (by kernel_rfl) (by kernel_rfl) (fun _ _ _ h => h) (Or.inl ⟨by rfl, ?_⟩) hHeld ?_
                · intro w' hSw
                  have a0 := hSw
                  go_simp
                go_frame
                refine wpAnyH_ready (rs := [16]) (by kernel_rfl) (by simp) ?_
                refine AllReadyH.cons rfl (fun K hK => ?_) AllReadyH.nil
                refine step_append_part _ rfl _ _ 36 rfl wr.heap.size 59 i1 z1 4 40 Try.underlying36 hi1 hz1 hs1 hb1 hzs (by decide) v3 _ _ rfl hown3 X2 (l.length - (j + 1)) ((l.drop (j + 1)).flatMap pgC) rfl (HP2.out.below B3.out) (pgC_one _) (by unfold maxLen; omega) (by omega) B3.out.size ?_
                intro v4 w4 hown4 hgrow4
                have B4 := Lib.hid (below_row B3.out hown3 hgrow4)
                obtain ⟨a4, cap4, hv4, -⟩ := row_form hown4
                subst hv4
                have q4 := (q_cells (HI2.out.below B4.out)).1
                have p4 := blk_frozen (HI2.out.below B4.out).blk 0
                have HO4 := Lib.hid hown4
                clear hgrow4 hown4
                refine hK.out _ _ trivial (fun hHeld => ?_)
                clear hK K
                refine wpAnyH_take (i := 17) (v := (.pointer (some ⟨q, 0, none⟩))) rfl (by kernel_rfl) (by kernel_rfl) (by kernel_rfl) (fun _ _ _ h => h) (Or.inl ⟨by rfl, ?_⟩) hHeld ?_
                · intro w' hSw
                  have a0 := hSw
                  go_simp
                go_frame
                refine wpAnyH_take (i := 18) (v := (.pointer (some ⟨q, 0, none⟩))) rfl (by kernel_rfl) (by kernel_rfl) (by kernel_rfl) (fun _ _ _ h => h) (Or.inl ⟨by rfl, ?_⟩) hHeld ?_
                · intro w' hSw
                  have a0 := hSw
                  go_simp
                go_frame
                refine wpAnyH_ready (rs := [19]) (by kernel_rfl) (by simp) ?_
                refine AllReadyH.cons rfl (fun K hK => ?_) AllReadyH.nil
                go_simp
                refine hK.out _ _ trivial (fun hHeld => ?_)
                clear hK K
                refine wpAnyH_done (by kernel_rfl) ?_ _
                go_wp2
                go_roundw
                case rel => exact (HFIN.out _ _ B4.out HO4.out).1
                case measure => rw [HM0.out]; exact (HFIN.out _ _ B4.out HO4.out).2
              · skip
                go_simp
                refine hK.out _ _ trivial (fun hHeld => ?_)
                clear hK K
                refine wpAnyH_take (i := 15) (v := X2) rfl (by kernel_rfl) (by kernel_rfl) (by kernel_rfl) (fun _ _ _ h => h) (Or.inl ⟨by rfl, ?_⟩) hHeld ?_
                · intro w' hSw
                  have a0 := hSw
                  go_simp
                go_frame
                refine wpAnyH_ready (rs := [8]) (by kernel_rfl) (by simp) ?_
                refine AllReadyH.cons rfl (fun K hK => ?_) AllReadyH.nil
                refine step_append_part _ rfl _ _ 36 rfl wr.heap.size 59 i1 z1 4 40 Try.underlying36 hi1 hz1 hs1 hb1 hzs (by decide) (.slice (some ⟨wr.heap.size, 0, none⟩) 0 0) 0 [] rfl (row_empty wr.drew 59 4) X1 j ((l.take j).flatMap pgC) rfl (HP1.out.below HB0.out) (pgC_one _) (by unfold maxLen; omega) (by omega) (by simp) ?_
                intro v3 w3 hown3 hgrow3
                rw [Nat.zero_add, List.nil_append] at hown3
                have B3 := Lib.hid (below_row HB0.out (row_empty wr.drew 59 4) hgrow3)
                have q3 := (q_cells (HI2.out.below B3.out)).1
                rw [← HL.out] at q3
                refine hK.out _ _ trivial (fun hHeld => ?_)
                clear hK K hgrow3
                refine wpAnyH_ready (rs := [16]) (by kernel_rfl) (by simp) ?_
                refine AllReadyH.cons rfl (fun K hK => ?_) AllReadyH.nil
                refine step_append_part _ rfl _ _ 36 rfl wr.heap.size 59 i1 z1 4 40 Try.underlying36 hi1 hz1 hs1 hb1 hzs (by decide) v3 _ _ rfl hown3 X2 (l.length - (j + 1)) ((l.drop (j + 1)).flatMap pgC) rfl (HP2.out.below B3.out) (pgC_one _) (by unfold maxLen; omega) (by omega) B3.out.size ?_
                intro v4 w4 hown4 hgrow4
                have B4 := Lib.hid (below_row B3.out hown3 hgrow4)
                obtain ⟨a4, cap4, hv4, -⟩ := row_form hown4
                subst hv4
                have q4 := (q_cells (HI2.out.below B4.out)).1
                have p4 := blk_frozen (HI2.out.below B4.out).blk 0
                have HO4 := Lib.hid hown4
                clear hgrow4 hown4
                refine hK.out _ _ trivial (fun hHeld => ?_)
                clear hK K
                refine wpAnyH_take (i := 17) (v := (.pointer (some ⟨q, 0, none⟩))) rfl (by kernel_rfl) (by kernel_rfl) (by kernel_rfl) (fun _ _ _ h => h) (Or.inl ⟨by rfl, ?_⟩) hHeld ?_
                · intro w' hSw
                  have a0 := hSw
                  go_simp
                go_frame
                refine wpAnyH_take (i := 18) (v := (.pointer (some ⟨q, 0, none⟩))) rfl (by kernel_rfl) (by kernel_rfl) (by kernel_rfl) (fun _ _ _ h => h) (Or.inl ⟨by rfl, ?_⟩) hHeld ?_
                · intro w' hSw
                  have a0 := hSw
                  go_simp
                go_frame
                refine wpAnyH_ready (rs := [19]) (by kernel_rfl) (by simp) ?_
                refine AllReadyH.cons rfl (fun K hK => ?_) AllReadyH.nil
                go_simp
                refine hK.out _ _ trivial (fun hHeld => ?_)
                clear hK K
                refine wpAnyH_done (by kernel_rfl) ?_ _
                go_wp2
                go_roundw
                case rel => exact (HFIN.out _ _ B4.out HO4.out).1
                case measure => rw [HM0.out]; exact (HFIN.out _ _ B4.out HO4.out).2
            · skip
              go_simp
              refine hK.out _ _ trivial (fun hHeld => ?_)
              clear hK K
              refine wpAnyH_take (i := 15) (v := X2) rfl (by kernel_rfl) (by kernel_rfl) (by kernel_rfl) (fun _ _ _ h => h) (Or.inl ⟨by rfl, ?_⟩) hHeld ?_
              · intro w' hSw
                have a0 := hSw
                go_simp
              go_frame
              refine wpAnyH_ready (rs := [1]) (by kernel_rfl) (by simp) ?_
              refine AllReadyH.cons rfl (fun K hK => ?_) AllReadyH.nil
              go_simp
              refine hK.out _ _ trivial (fun hHeld => ?_)
              clear hK K
              refine wpAnyH_ready (rs := [8]) (by kernel_rfl) (by simp) ?_
              refine AllReadyH.cons rfl (fun K hK => ?_) AllReadyH.nil
              refine step_append_part _ rfl _ _ 36 rfl wr.heap.size 59 i1 z1 4 40 Try.underlying36 hi1 hz1 hs1 hb1 hzs (by decide) (.slice (some ⟨wr.heap.size, 0, none⟩) 0 0) 0 [] rfl (row_empty wr.drew 59 4) X1 j ((l.take j).flatMap pgC) rfl (HP1.out.below HB0.out) (pgC_one _) (by unfold maxLen; omega) (by omega) (by simp) ?_
              intro v3 w3 hown3 hgrow3
              rw [Nat.zero_add, List.nil_append] at hown3
              have B3 := Lib.hid (below_row HB0.out (row_empty wr.drew 59 4) hgrow3)
              have q3 := (q_cells (HI2.out.below B3.out)).1
              rw [← HL.out] at q3
              refine hK.out _ _ trivial (fun hHeld => ?_)
              clear hK K hgrow3
              refine wpAnyH_ready (rs := [16]) (by kernel_rfl) (by simp) ?_
              refine AllReadyH.cons rfl (fun K hK => ?_) AllReadyH.nil
              refine step_append_part _ rfl _ _ 36 rfl wr.heap.size 59 i1 z1 4 40 Try.underlying36 hi1 hz1 hs1 hb1 hzs (by decide) v3 _ _ rfl hown3 X2 (l.length - (j + 1)) ((l.drop (j + 1)).flatMap pgC) rfl (HP2.out.below B3.out) (pgC_one _) (by unfold maxLen; omega) (by omega) B3.out.size ?_
              intro v4 w4 hown4 hgrow4
              have B4 := Lib.hid (below_row B3.out hown3 hgrow4)
              obtain ⟨a4, cap4, hv4, -⟩ := row_form hown4
              subst hv4
              have q4 := (q_cells (HI2.out.below B4.out)).1
              have p4 := blk_frozen (HI2.out.below B4.out).blk 0
              have HO4 := Lib.hid hown4
              clear hgrow4 hown4
              refine hK.out _ _ trivial (fun hHeld => ?_)
              clear hK K
              refine wpAnyH_take (i := 17) (v := (.pointer (some ⟨q, 0, none⟩))) rfl (by kernel_rfl) (by kernel_rfl) (by kernel_rfl) (fun _ _ _ h => h) (Or.inl ⟨by rfl, ?_⟩) hHeld ?_
              · intro w' hSw
                have a0 := hSw
                go_simp
              go_frame
              refine wpAnyH_take (i := 18) (v := (.pointer (some ⟨q, 0, none⟩))) rfl (by kernel_rfl) (by kernel_rfl) (by kernel_rfl) (fun _ _ _ h => h) (Or.inl ⟨by rfl, ?_⟩) hHeld ?_
              · intro w' hSw
                have a0 := hSw
                go_simp
              go_frame
              refine wpAnyH_ready (rs := [19]) (by kernel_rfl) (by simp) ?_
              refine AllReadyH.cons rfl (fun K hK => ?_) AllReadyH.nil
              go_simp
              refine hK.out _ _ trivial (fun hHeld => ?_)
              clear hK K
              refine wpAnyH_done (by kernel_rfl) ?_ _
              go_wp2
              go_roundw
              case rel => exact (HFIN.out _ _ B4.out HO4.out).1
              case measure => rw [HM0.out]; exact (HFIN.out _ _ B4.out HO4.out).2
          · skip
            go_simp
            refine hK.out _ _ trivial (fun hHeld => ?_)
            clear hK K
            refine wpAnyH_take (i := 15) (v := X2) rfl (by kernel_rfl) (by kernel_rfl) (by kernel_rfl) (fun _ _ _ h => h) (Or.inl ⟨by rfl, ?_⟩) hHeld ?_
            · intro w' hSw
              have a0 := hSw
              go_simp
            go_frame
            refine wpAnyH_ready (rs := [1, 5]) (by kernel_rfl) (by simp) ?_
            refine AllReadyH.cons rfl (fun K hK => ?_) (AllReadyH.cons rfl (fun K hK => ?_) AllReadyH.nil)
            · skip
              go_simp
              refine hK.out _ _ trivial (fun hHeld => ?_)
              clear hK K
              refine wpAnyH_ready (rs := [5]) (by kernel_rfl) (by simp) ?_
              refine AllReadyH.cons rfl (fun K hK => ?_) AllReadyH.nil
              go_simp
              refine hK.out _ _ trivial (fun hHeld => ?_)
              clear hK K
              refine wpAnyH_take (i := 7) (v := X1) rfl (by kernel_rfl) (by kernel_rfl) (by kernel_rfl) (fun _ _ _ h => h) (Or.inl ⟨by rfl, ?_⟩) hHeld ?_
              · intro w' hSw
                have a0 := hSw
                go_simp
              go_frame
              refine wpAnyH_ready (rs := [8]) (by kernel_rfl) (by simp) ?_
              refine AllReadyH.cons rfl (fun K hK => ?_) AllReadyH.nil
              refine step_append_part _ rfl _ _ 36 rfl wr.heap.size 59 i1 z1 4 40 Try.underlying36 hi1 hz1 hs1 hb1 hzs (by decide) (.slice (some ⟨wr.heap.size, 0, none⟩) 0 0) 0 [] rfl (row_empty wr.drew 59 4) X1 j ((l.take j).flatMap pgC) rfl (HP1.out.below HB0.out) (pgC_one _) (by unfold maxLen; omega) (by omega) (by simp) ?_
              intro v3 w3 hown3 hgrow3
              rw [Nat.zero_add, List.nil_append] at hown3
              have B3 := Lib.hid (below_row HB0.out (row_empty wr.drew 59 4) hgrow3)
              have q3 := (q_cells (HI2.out.below B3.out)).1
              rw [← HL.out] at q3
              refine hK.out _ _ trivial (fun hHeld => ?_)
              clear hK K hgrow3
              refine wpAnyH_ready (rs := [16]) (by kernel_rfl) (by simp) ?_
              refine AllReadyH.cons rfl (fun K hK => ?_) AllReadyH.nil
              refine step_append_part _ rfl _ _ 36 rfl wr.heap.size 59 i1 z1 4 40 Try.underlying36 hi1 hz1 hs1 hb1 hzs (by decide) v3 _ _ rfl hown3 X2 (l.length - (j + 1)) ((l.drop (j + 1)).flatMap pgC) rfl (HP2.out.below B3.out) (pgC_one _) (by unfold maxLen; omega) (by omega) B3.out.size ?_
              intro v4 w4 hown4 hgrow4
              have B4 := Lib.hid (below_row B3.out hown3 hgrow4)
              obtain ⟨a4, cap4, hv4, -⟩ := row_form hown4
              subst hv4
              have q4 := (q_cells (HI2.out.below B4.out)).1
              have p4 := blk_frozen (HI2.out.below B4.out).blk 0
              have HO4 := Lib.hid hown4
              clear hgrow4 hown4
              refine hK.out _ _ trivial (fun hHeld => ?_)
              clear hK K
              refine wpAnyH_take (i := 17) (v := (.pointer (some ⟨q, 0, none⟩))) rfl (by kernel_rfl) (by kernel_rfl) (by kernel_rfl) (fun _ _ _ h => h) (Or.inl ⟨by rfl, ?_⟩) hHeld ?_
              · intro w' hSw
                have a0 := hSw
                go_simp
              go_frame
              refine wpAnyH_take (i := 18) (v := (.pointer (some ⟨q, 0, none⟩))) rfl (by kernel_rfl) (by kernel_rfl) (by kernel_rfl) (fun _ _ _ h => h) (Or.inl ⟨by rfl, ?_⟩) hHeld ?_
              · intro w' hSw
                have a0 := hSw
                go_simp
              go_frame
              refine wpAnyH_ready (rs := [19]) (by kernel_rfl) (by simp) ?_
              refine AllReadyH.cons rfl (fun K hK => ?_) AllReadyH.nil
              go_simp
              refine hK.out _ _ trivial (fun hHeld => ?_)
              clear hK K
              refine wpAnyH_done (by kernel_rfl) ?_ _
              go_wp2
              go_roundw
              case rel => exact (HFIN.out _ _ B4.out HO4.out).1
              case measure => rw [HM0.out]; exact (HFIN.out _ _ B4.out HO4.out).2
            · skip
              go_simp
              refine hK.out _ _ trivial (fun hHeld => ?_)
              clear hK K
              refine wpAnyH_take (i := 7) (v := X1) rfl (by kernel_rfl) (by kernel_rfl) (by kernel_rfl) (fun _ _ _ h => h) (Or.inl ⟨by rfl, ?_⟩) hHeld ?_
              · intro w' hSw
                have a0 := hSw
                go_simp
              go_frame
              refine wpAnyH_ready (rs := [1]) (by kernel_rfl) (by simp) ?_
              refine AllReadyH.cons rfl (fun K hK => ?_) AllReadyH.nil
              go_simp
              refine hK.out _ _ trivial (fun hHeld => ?_)
              clear hK K
              refine wpAnyH_ready (rs := [8]) (by kernel_rfl) (by simp) ?_
              refine AllReadyH.cons rfl (fun K hK => ?_) AllReadyH.nil
              refine step_append_part _ rfl _ _ 36 rfl wr.heap.size 59 i1 z1 4 40 Try.underlying36 hi1 hz1 hs1 hb1 hzs (by decide) (.slice (some ⟨wr.heap.size, 0, none⟩) 0 0) 0 [] rfl (row_empty wr.drew 59 4) X1 j ((l.take j).flatMap pgC) rfl (HP1.out.below HB0.out) (pgC_one _) (by unfold maxLen; omega) (by omega) (by simp) ?_
              intro v3 w3 hown3 hgrow3
              rw [Nat.zero_add, List.nil_append] at hown3
              have B3 := Lib.hid (below_row HB0.out (row_empty wr.drew 59 4) hgrow3)
              have q3 := (q_cells (HI2.out.below B3.out)).1
              rw [← HL.out] at q3
              refine hK.out _ _ trivial (fun hHeld => ?_)
              clear hK K hgrow3
              refine wpAnyH_ready (rs := [16]) (by kernel_rfl) (by simp) ?_
              refine AllReadyH.cons rfl (fun K hK => ?_) AllReadyH.nil
              refine step_append_part _ rfl _ _ 36 rfl wr.heap.size 59 i1 z1 4 40 Try.underlying36 hi1 hz1 hs1 hb1 hzs (by decide) v3 _ _ rfl hown3 X2 (l.length - (j + 1)) ((l.drop (j + 1)).flatMap pgC) rfl (HP2.out.below B3.out) (pgC_one _) (by unfold maxLen; omega) (by omega) B3.out.size ?_
              intro v4 w4 hown4 hgrow4
              have B4 := Lib.hid (below_row B3.out hown3 hgrow4)
              obtain ⟨a4, cap4, hv4, -⟩ := row_form hown4
              subst hv4
              have q4 := (q_cells (HI2.out.below B4.out)).1
              have p4 := blk_frozen (HI2.out.below B4.out).blk 0
              have HO4 := Lib.hid hown4
              clear hgrow4 hown4
              refine hK.out _ _ trivial (fun hHeld => ?_)
              clear hK K
              refine wpAnyH_take (i := 17) (v := (.pointer (some ⟨q, 0, none⟩))) rfl (by kernel_rfl) (by kernel_rfl) (by kernel_rfl) (fun _ _ _ h => h) (Or.inl ⟨by rfl, ?_⟩) hHeld ?_
              · intro w' hSw
                have a0 := hSw
                go_simp
              go_frame
              refine wpAnyH_take (i := 18) (v := (.pointer (some ⟨q, 0, none⟩))) rfl (by kernel_rfl) (by kernel_rfl) (by kernel_rfl) (fun _ _ _ h => h) (Or.inl ⟨by rfl, ?_⟩) hHeld ?_
              · intro w' hSw
                have a0 := hSw
                go_simp
              go_frame
              refine wpAnyH_ready (rs := [19]) (by kernel_rfl) (by simp) ?_
              refine AllReadyH.cons rfl (fun K hK => ?_) AllReadyH.nil
              go_simp
              refine hK.out _ _ trivial (fun hHeld => ?_)
              clear hK K
              refine wpAnyH_done (by kernel_rfl) ?_ _
              go_wp2
              go_roundw
              case rel => exact (HFIN.out _ _ B4.out HO4.out).1
              case measure => rw [HM0.out]; exact (HFIN.out _ _ B4.out HO4.out).2
end Go.Proofs.Ytkpgekfejfbpjaa
