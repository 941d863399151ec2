/-
  Layer 12, the document's cache: Put of a page that is not there yet. Condition: at most nine thousand pages, rising by their numbers, and no more clean ones than there is room.
-/
import Derived.Test.YtkpgekfejfbpjaaCcqPut
namespace Go.Proofs.Ytkpgekfejfbpjaa
open Go.RowKit
variable {w w' : World} {q : Nat} {v : Value} {R : QS}

theorem srt_drop {l : List QP} (hs : l.Pairwise fun p q => p.n < q.n) {z : Int} {k : Nat} (hno : ∀ p ∈ l, p.n ≠ z) (h : ∀ hk : k < l.length, ¬ l[k].n < z) : ∀ x ∈ l.drop k, z < x.n := by
  intro x hx
  by_cases hk : k < l.length
  · have h1 := h hk
    have h2 := hno l[k] (List.getElem_mem hk)
    rw [List.drop_eq_getElem_cons hk] at hx
    rcases List.mem_cons.1 hx with rfl | hx
    · omega
    · have h3 : (l.drop k).Pairwise fun p q => p.n < q.n := hs.sublist (List.drop_sublist _ _)
      rw [List.drop_eq_getElem_cons hk, List.pairwise_cons] at h3
      have := h3.1 x hx
      omega
  · rw [List.drop_of_length_le (by omega)] at hx; cases hx
/-- What Put asks and leaves, where the page is new. -/
def PutR (R : QS) (z : Int) (s : ByteArray) (d : Bool) (R' : QS) : Prop := ∃ a b, R.L = a ++ b ∧ (∀ x ∈ a, x.n < z) ∧ (∀ x ∈ b, z < x.n) ∧ SetR { R with L := a ++ ⟨z, s, d, R.uses + 1⟩ :: b, uses := R.uses + 1 } R'

set_option maxHeartbeats 2000000 in
theorem qput_new (h : QInv q v R w) (hs : R.L.Pairwise fun p q => p.n < q.n) (hl : R.L.length ≤ 9000) (hu : R.uses ≤ 1000000) (hcl : (cleanQ R.L : Int) ≤ R.room) (hr : 0 ≤ R.room ∧ R.room ≤ 9223372036854775807) {z : Int} (s : ByteArray) (d : Bool) (hno : ∀ x ∈ R.L, x.n ≠ z) :
    Calls Try.prog 12 #[.pointer (some ⟨q, 0, none⟩), .int .i64 z, .string s, .bool d] w fun e w' => e = .returned (.tuple #[]) ∧ ∃ v' R', QInv q v' R' w' ∧ QStep q v w v' w' ∧ PutR R z s d R' := by
  obtain ⟨c0, c1, c2⟩ := q_cells h
  obtain ⟨u1, u2⟩ := q_use h (R.uses + 1)
  have hb := Below.alloc (Below.refl (w.setCell ⟨q, 1, none⟩ (.int .i64 (R.uses + 1 : Nat))).heap.size (w.setCell ⟨q, 1, none⟩ (.int .i64 (R.uses + 1 : Nat)))) (Nat.le_refl _) (.cells #[.int .i64 z, .string s, .bool d, .int .i64 (R.uses + 1 : Nat)] 59)
  have u3 := u1.below hb
  have KF := Lib.hid (qfind_any u3 (show R.L.length ≤ 10000 by omega) z)
  rw [show ({ R with uses := R.uses + 1 } : QS).L = R.L from rfl, idxQ_none hno] at KF
  have HI0 := Lib.hid u3
  have HS0 := Lib.hid (u2.trans (QStep.below hb))
  have hpb : Blk ((w.setCell ⟨q, 1, none⟩ (.int .i64 (R.uses + 1 : Nat))).alloc (.cells #[.int .i64 z, .string s, .bool d, .int .i64 (R.uses + 1 : Nat)] 59)) w.heap.size 59 (pgC ⟨z, s, d, R.uses + 1⟩).toArray := blk_at (by rw [size_set])
  have HPB := Lib.hid hpb
  have fq := blk_frozen h.blk 1
  obtain ⟨i1, z1, hi1, hz1, hs1, hb1, hzs⟩ := infoP
  obtain ⟨U, hU⟩ : ∃ U, U = R.uses := ⟨_, rfl⟩
  rw [← hU] at hu c1 KF HI0 HS0 HPB
  have HU := Lib.hid hU
  have hc : ((U + 1 : Nat) : Int) = (U : Int) + 1 := by omega
  rw [hc] at KF HI0 HS0 HPB
  obtain ⟨l, hl'⟩ : ∃ l, l = R.L := ⟨_, rfl⟩
  rw [← hl'] at hl HI0
  have HL := Lib.hid hl'; have HN := Lib.hid hno; have HCL := Lib.hid hcl; have HR := Lib.hid hr; have HSR := Lib.hid hs
  have HC := Lib.hid hc
  generalize hpb0 : w.heap.size = pb at HPB
  have HPBE := Lib.hid hpb0
  clear h u1 u2 u3 hU hc hl' hno hcl hr hb c0 c2 hpb hs hpb0
  go_enter Try.func12, Try.ntmps12
  go_wp2_with (first
    | (go_at_call 25; refine KF.out.mono ?_; rintro e1 w1 ⟨rfl, rfl⟩))
  rw [HPBE.out]
  clear HPBE c1
  go_loopw [10] (fun t10 wr => ∃ k : Nat, k ≤ l.length ∧ t10 = .int .i64 k ∧ Hid (∀ x ∈ l.take k, x.n < z) ∧ Hid (QInv q v { L := l, uses := U + 1, room := R.room } wr) ∧ Hid (QStep q v w v wr) ∧ Hid (Blk wr pb 59 (pgC ⟨z, s, d, U + 1⟩).toArray)) (fun t10 _ => l.length - (intOf t10).toNat)
  case atStart => exact ⟨0, Nat.zero_le _, rfl, Lib.hid (by simp), HI0, HS0, HPB⟩
  case round =>
    clear HI0 HS0 HPB
    obtain ⟨k, hk, rfl, HT, HI, HS, HP⟩ := hrel
    obtain ⟨c0, -, -⟩ := q_cells HI.out
    have fq2 := blk_frozen HI.out.blk 0
    obtain ⟨a, cap, rfl, hc⟩ := pg_cells (show PRow wr 0 v l from HI.out.row)
    replace hc : ∀ k (hk : k < l.length), ∃ g, a = some ⟨g, 0, none⟩ ∧ g < wr.heap.size ∧ wr.cell? ⟨g, k * 4, none⟩ = some (.int .i64 l[k].n) := fun k hk => by
      obtain ⟨g, h1, -, h2, h3, -⟩ := hc k hk
      exact ⟨g, h1, h2, h3⟩
    replace c0 : wr.cell? ⟨q, 0, none⟩ = some (.slice a l.length cap) := c0
    have HC' := Lib.hid hc
    clear hc
    by_cases hlt : k < l.length
    · obtain ⟨g, rfl, hg, d0⟩ := HC'.out k hlt
      have hkI : (k : Int) < l.length := by omega
      have s0 : ¬ (k : Int) < 0 := by omega
      by_cases he : l[k].n < z
      · have HT2 := Lib.hid (show ∀ x ∈ l.take (k + 1), x.n < z by
          rw [take_snocQ l k hlt]
          intro x hx
          rcases List.mem_append.1 hx with hx | hx
          · exact HT.out x hx
          · rw [List.mem_singleton] at hx; rw [hx]; exact he)
        generalize l[k].n = y at *
        clear HC'
        go_wp2
        go_roundw
        case rel => exact ⟨k + 1, by omega, by go_num, HT2, HI, HS, HP⟩
        case measure => simp [intOf]; omega
      · have hins := srt_drop (k := k) (by have := HSR.out; rw [← HL.out] at this; exact this) (by have := HN.out; rw [← HL.out] at this; exact this) (by exact fun _ => he)
        obtain ⟨a', cap', e', hcap, hpart⟩ := pg_part (show PRow wr 0 (.slice (some ⟨g, 0, none⟩) l.length cap) l from HI.out.row)
        injection e' with e1 e2 e3
        subst e1 e3
        have hp1 := hpart 0 k (Nat.zero_le _) hk
        have hp2 := hpart k l.length hk (Nat.le_refl _)
        rw [List.drop_zero, Nat.sub_zero] at hp1
        rw [List.take_of_length_le (by rw [List.length_drop]; omega)] at hp2
        replace hp1 : PartOf wr 4 (sliced (some ⟨g, 0, none⟩) 0 k cap 4) k ((l.take k).flatMap pgC) := hp1
        replace hp2 : PartOf wr 4 (sliced (some ⟨g, 0, none⟩) k l.length cap 4) (l.length - k) ((l.drop k).flatMap pgC) := hp2
        have HP1 := Lib.hid hp1; have HP2 := Lib.hid hp2
        have HB0 : Hid (Below wr.heap.size wr (wr.alloc (.cells #[] 59))) := Lib.hid (Below.alloc (Below.refl _ _) (Nat.le_refl _) _)
        have c0a : (wr.alloc (.cells #[] 59)).cell? ⟨q, 0, none⟩ = some (.slice (some ⟨g, 0, none⟩) l.length cap) := (q_cells (HI.out.below HB0.out)).1
        have hx1 : ∀ w', (Instr.slice 36 (.slice (some ⟨g, 0, none⟩) l.length cap) none (some (.int .i64 k)) none).run Try.prog w' = .ok (sliced (some ⟨g, 0, none⟩) 0 k cap 4) w' := fun w' => pgSlice_h w' _ _ _ _ (by have : l.length ≤ cap := hcap; omega)
        have hx2 : ∀ w', (Instr.slice 36 (.slice (some ⟨g, 0, none⟩) l.length cap) (some (.int .i64 k)) none none).run Try.prog w' = .ok (sliced (some ⟨g, 0, none⟩) k l.length cap 4) w' := fun w' => pgSlice_l w' _ _ _ k (by omega)
        generalize sliced (some ⟨g, 0, none⟩) 0 k cap 4 = X1 at HP1 hx1
        generalize sliced (some ⟨g, 0, none⟩) k l.length cap 4 = X2 at HP2 hx2
        have HK : Hid (k ≤ l.length) := Lib.hid hk
        have HINS := Lib.hid hins
        clear hpart hp1 hp2 hins HC'
        have HFIN : Hid (∀ w5 v5, Below wr.heap.size wr w5 → w5.ownsRow wr.heap.size 59 4 v5 (k + 1 + (l.length - k)) ((l.take k).flatMap pgC ++ pgC ⟨z, s, d, U + 1⟩ ++ (l.drop k).flatMap pgC) → QStep q (.slice (some ⟨g, 0, none⟩) l.length cap) w v5 (w5.setCell ⟨q, 0, none⟩ v5) ∧ Calls Try.prog 26 #[.pointer (some ⟨q, 0, none⟩)] (w5.setCell ⟨q, 0, none⟩ v5) fun e w' => e = .returned (.tuple #[]) ∧ ∃ v' R', QInv q v' R' w' ∧ QStep q v5 (w5.setCell ⟨q, 0, none⟩ v5) v' w' ∧ PutR R z s d R') := Lib.hid fun w5 v5 hb hr => by
          have hlj : (l.take k ++ ⟨z, s, d, U + 1⟩ :: l.drop k).length = k + 1 + (l.length - k) := by
            rw [List.length_append, List.length_cons, List.length_take, List.length_drop]; omega
          have hr' : PRow w5 wr.heap.size v5 (l.take k ++ ⟨z, s, d, U + 1⟩ :: l.drop k) := by
            show World.ownsRow _ _ _ _ _ (l.take k ++ ⟨z, s, d, U + 1⟩ :: l.drop k).length _
            rw [hlj, List.flatMap_append, List.flatMap_cons, ← List.append_assoc]
            exact hr
          obtain ⟨t1, t2⟩ := q_put HI.out hb hr'
          have hcm := (cleanQ_mid (l.take k) (l.drop k) ⟨z, s, d, U + 1⟩).1
          rw [List.take_append_drop] at hcm
          refine ⟨HS.out.trans t2, (settle_any t1 (by show (l.take k ++ _ :: l.drop k).length ≤ 10000; omega) (by
            show (cleanQ (l.take k ++ _ :: l.drop k) : Int) ≤ R.room + 1
            have := HCL.out
            rw [← HL.out] at this
            omega) HR.out).mono fun e w' hq => ⟨hq.1, ?_⟩⟩
          obtain ⟨-, v', R', g1, g2, g3⟩ := hq
          refine ⟨v', R', g1, g2, l.take k, l.drop k, by rw [List.take_append_drop, HL.out], HT.out, HINS.out, ?_⟩
          rw [← HU.out]
          exact g3
        go_wp2_with (first
          | (at_builtin; refine wpList_append_part _ rfl _ _ 36 rfl wr.heap.size 59 i1 z1 4 40 Try.underlying36 hi1 hz1 hs1 hb1 hzs (by decide) (.slice (some ⟨wr.heap.size, 0, none⟩) 0 0) 0 [] rfl (row_empty wr 59 4) X1 k ((l.take k).flatMap pgC) rfl (HP1.out.below HB0.out) (pgC_one _) (by unfold maxLen; omega) (by omega) (by simp) ?_
             intro v3 w3 hown3 hgrow3
             rw [Nat.zero_add, List.nil_append] at hown3
             have B3 := Lib.hid (below_row HB0.out (row_empty wr 59 4) hgrow3)
             have HO3 := Lib.hid hown3
             have hp3 : Blk w3 pb 59 (pgC ⟨z, s, d, U + 1⟩).toArray := (B3.out.block _ (blk_lt HP.out)).trans HP.out
             have y0 : w3.cell? ⟨pb, 0, none⟩ = some (.int .i64 z) := blk_cell hp3 0 rfl
             have y1 : w3.cell? ⟨pb, 1, none⟩ = some (.string s) := blk_cell hp3 1 rfl
             have y2 : w3.cell? ⟨pb, 2, none⟩ = some (.bool d) := blk_cell hp3 2 rfl
             have y3 : w3.cell? ⟨pb, 3, none⟩ = some (.int .i64 (U + 1)) := by have := blk_cell hp3 3 rfl; rw [this]; simp [pgC]
             have B3a := Lib.hid (B3.out.alloc B3.out.size (.cells (pgC ⟨z, s, d, U + 1⟩).toArray 59))
             clear hgrow3 hown3 hp3)
          | (at_builtin; refine wpList_append_own _ rfl _ _ 36 rfl wr.heap.size 59 i1 z1 4 40 Try.underlying36 hi1 hz1 hs1 hb1 hzs (by decide) v3 _ _ rfl (HO3.out.alloc (.cells (pgC ⟨z, s, d, U + 1⟩).toArray 59)) ⟨w3.heap.size, 0, none⟩ 1 1 (pgC ⟨z, s, d, U + 1⟩) rfl rfl (World.news_of_block (blk_new w3 59 (pgC ⟨z, s, d, U + 1⟩).toArray)) (fun t ht => pgC_one [⟨z, s, d, U + 1⟩] t (by simpa using ht)) (by unfold maxLen; omega) (by omega) B3a.out.size ?_
             intro v4 w4 hown4 hgrow4 hnil4
             have B4 := Lib.hid (below_row B3a.out (HO3.out.alloc (.cells (pgC ⟨z, s, d, U + 1⟩).toArray 59)) hgrow4)
             have HO4 := Lib.hid hown4
             have q4 : w4.cell? ⟨q, 0, none⟩ = some (.slice (some ⟨g, 0, none⟩) l.length cap) := (q_cells (HI.out.below B4.out)).1
             clear hgrow4 hown4 hnil4 y0 y1 y2 y3)
          | (at_builtin; refine wpList_append_part _ rfl _ _ 36 rfl wr.heap.size 59 i1 z1 4 40 Try.underlying36 hi1 hz1 hs1 hb1 hzs (by decide) v4 _ _ rfl HO4.out X2 (l.length - k) ((l.drop k).flatMap pgC) rfl (HP2.out.below B4.out) (pgC_one _) (by unfold maxLen; omega) (by omega) B4.out.size ?_
             intro v5 w5 hown5 hgrow5
             have B5 := Lib.hid (below_row B4.out HO4.out hgrow5)
             obtain ⟨a5, cap5, hv5, -⟩ := row_form hown5
             subst hv5
             have q5 := (q_cells (HI.out.below B5.out)).1
             have p5 := blk_frozen (HI.out.below B5.out).blk 0
             have HO5 := Lib.hid hown5
             have KS := Lib.hid (HFIN.out _ _ B5.out HO5.out)
             clear hgrow5 hown5)
          | (go_at_call 26; refine KS.out.2.mono ?_; rintro e1 w1 ⟨rfl, v1, R1, q1, q2, q3⟩; have Q1 := Lib.hid q1; have Q2 := Lib.hid q2; have Q3 := Lib.hid q3; clear q1 q2 q3))
        go_returns
        exact ⟨rfl, _, _, Q1.out, KS.out.1.trans Q2.out, Q3.out⟩
    · have hkI : ¬ (k : Int) < l.length := by omega
      have hins := srt_drop (k := k) (by have := HSR.out; rw [← HL.out] at this; exact this) (by have := HN.out; rw [← HL.out] at this; exact this) (by intro h9; omega)
      obtain ⟨a', cap', e', hcap, hpart⟩ := pg_part (show PRow wr 0 (.slice a l.length cap) l from HI.out.row)
      injection e' with e1 e2 e3
      subst e1 e3
      have hp1 := hpart 0 k (Nat.zero_le _) hk
      have hp2 := hpart k l.length hk (Nat.le_refl _)
      rw [List.drop_zero, Nat.sub_zero] at hp1
      rw [List.take_of_length_le (by rw [List.length_drop]; omega)] at hp2
      replace hp1 : PartOf wr 4 (sliced a 0 k cap 4) k ((l.take k).flatMap pgC) := hp1
      replace hp2 : PartOf wr 4 (sliced a k l.length cap 4) (l.length - k) ((l.drop k).flatMap pgC) := hp2
      have HP1 := Lib.hid hp1; have HP2 := Lib.hid hp2
      have HB0 : Hid (Below wr.heap.size wr (wr.alloc (.cells #[] 59))) := Lib.hid (Below.alloc (Below.refl _ _) (Nat.le_refl _) _)
      have c0a : (wr.alloc (.cells #[] 59)).cell? ⟨q, 0, none⟩ = some (.slice a l.length cap) := (q_cells (HI.out.below HB0.out)).1
      have hx1 : ∀ w', (Instr.slice 36 (.slice a l.length cap) none (some (.int .i64 k)) none).run Try.prog w' = .ok (sliced a 0 k cap 4) w' := fun w' => pgSlice_h w' _ _ _ _ (by have : l.length ≤ cap := hcap; omega)
      have hx2 : ∀ w', (Instr.slice 36 (.slice a l.length cap) (some (.int .i64 k)) none none).run Try.prog w' = .ok (sliced a k l.length cap 4) w' := fun w' => pgSlice_l w' _ _ _ k (by omega)
      generalize sliced a 0 k cap 4 = X1 at HP1 hx1
      generalize sliced a k l.length cap 4 = X2 at HP2 hx2
      have HK : Hid (k ≤ l.length) := Lib.hid hk
      have HINS := Lib.hid hins
      clear hpart hp1 hp2 hins HC'
      have HFIN : Hid (∀ w5 v5, Below wr.heap.size wr w5 → w5.ownsRow wr.heap.size 59 4 v5 (k + 1 + (l.length - k)) ((l.take k).flatMap pgC ++ pgC ⟨z, s, d, U + 1⟩ ++ (l.drop k).flatMap pgC) → QStep q (.slice a l.length cap) w v5 (w5.setCell ⟨q, 0, none⟩ v5) ∧ Calls Try.prog 26 #[.pointer (some ⟨q, 0, none⟩)] (w5.setCell ⟨q, 0, none⟩ v5) fun e w' => e = .returned (.tuple #[]) ∧ ∃ v' R', QInv q v' R' w' ∧ QStep q v5 (w5.setCell ⟨q, 0, none⟩ v5) v' w' ∧ PutR R z s d R') := Lib.hid fun w5 v5 hb hr => by
        have hlj : (l.take k ++ ⟨z, s, d, U + 1⟩ :: l.drop k).length = k + 1 + (l.length - k) := by
          rw [List.length_append, List.length_cons, List.length_take, List.length_drop]; omega
        have hr' : PRow w5 wr.heap.size v5 (l.take k ++ ⟨z, s, d, U + 1⟩ :: l.drop k) := by
          show World.ownsRow _ _ _ _ _ (l.take k ++ ⟨z, s, d, U + 1⟩ :: l.drop k).length _
          rw [hlj, List.flatMap_append, List.flatMap_cons, ← List.append_assoc]
          exact hr
        obtain ⟨t1, t2⟩ := q_put HI.out hb hr'
        have hcm := (cleanQ_mid (l.take k) (l.drop k) ⟨z, s, d, U + 1⟩).1
        rw [List.take_append_drop] at hcm
        refine ⟨HS.out.trans t2, (settle_any t1 (by show (l.take k ++ _ :: l.drop k).length ≤ 10000; omega) (by
          show (cleanQ (l.take k ++ _ :: l.drop k) : Int) ≤ R.room + 1
          have := HCL.out
          rw [← HL.out] at this
          omega) HR.out).mono fun e w' hq => ⟨hq.1, ?_⟩⟩
        obtain ⟨-, v', R', g1, g2, g3⟩ := hq
        refine ⟨v', R', g1, g2, l.take k, l.drop k, by rw [List.take_append_drop, HL.out], HT.out, HINS.out, ?_⟩
        rw [← HU.out]
        exact g3
      go_wp2_with (first
        | (at_builtin; refine wpList_append_part _ rfl _ _ 36 rfl wr.heap.size 59 i1 z1 4 40 Try.underlying36 hi1 hz1 hs1 hb1 hzs (by decide) (.slice (some ⟨wr.heap.size, 0, none⟩) 0 0) 0 [] rfl (row_empty wr 59 4) X1 k ((l.take k).flatMap pgC) rfl (HP1.out.below HB0.out) (pgC_one _) (by unfold maxLen; omega) (by omega) (by simp) ?_
           intro v3 w3 hown3 hgrow3
           rw [Nat.zero_add, List.nil_append] at hown3
           have B3 := Lib.hid (below_row HB0.out (row_empty wr 59 4) hgrow3)
           have HO3 := Lib.hid hown3
           have hp3 : Blk w3 pb 59 (pgC ⟨z, s, d, U + 1⟩).toArray := (B3.out.block _ (blk_lt HP.out)).trans HP.out
           have y0 : w3.cell? ⟨pb, 0, none⟩ = some (.int .i64 z) := blk_cell hp3 0 rfl
           have y1 : w3.cell? ⟨pb, 1, none⟩ = some (.string s) := blk_cell hp3 1 rfl
           have y2 : w3.cell? ⟨pb, 2, none⟩ = some (.bool d) := blk_cell hp3 2 rfl
           have y3 : w3.cell? ⟨pb, 3, none⟩ = some (.int .i64 (U + 1)) := by have := blk_cell hp3 3 rfl; rw [this]; simp [pgC]
           have B3a := Lib.hid (B3.out.alloc B3.out.size (.cells (pgC ⟨z, s, d, U + 1⟩).toArray 59))
           clear hgrow3 hown3 hp3)
        | (at_builtin; refine wpList_append_own _ rfl _ _ 36 rfl wr.heap.size 59 i1 z1 4 40 Try.underlying36 hi1 hz1 hs1 hb1 hzs (by decide) v3 _ _ rfl (HO3.out.alloc (.cells (pgC ⟨z, s, d, U + 1⟩).toArray 59)) ⟨w3.heap.size, 0, none⟩ 1 1 (pgC ⟨z, s, d, U + 1⟩) rfl rfl (World.news_of_block (blk_new w3 59 (pgC ⟨z, s, d, U + 1⟩).toArray)) (fun t ht => pgC_one [⟨z, s, d, U + 1⟩] t (by simpa using ht)) (by unfold maxLen; omega) (by omega) B3a.out.size ?_
           intro v4 w4 hown4 hgrow4 hnil4
           have B4 := Lib.hid (below_row B3a.out (HO3.out.alloc (.cells (pgC ⟨z, s, d, U + 1⟩).toArray 59)) hgrow4)
           have HO4 := Lib.hid hown4
           have q4 : w4.cell? ⟨q, 0, none⟩ = some (.slice a l.length cap) := (q_cells (HI.out.below B4.out)).1
           clear hgrow4 hown4 hnil4 y0 y1 y2 y3)
        | (at_builtin; refine wpList_append_part _ rfl _ _ 36 rfl wr.heap.size 59 i1 z1 4 40 Try.underlying36 hi1 hz1 hs1 hb1 hzs (by decide) v4 _ _ rfl HO4.out X2 (l.length - k) ((l.drop k).flatMap pgC) rfl (HP2.out.below B4.out) (pgC_one _) (by unfold maxLen; omega) (by omega) B4.out.size ?_
           intro v5 w5 hown5 hgrow5
           have B5 := Lib.hid (below_row B4.out HO4.out hgrow5)
           obtain ⟨a5, cap5, hv5, -⟩ := row_form hown5
           subst hv5
           have q5 := (q_cells (HI.out.below B5.out)).1
           have p5 := blk_frozen (HI.out.below B5.out).blk 0
           have HO5 := Lib.hid hown5
           have KS := Lib.hid (HFIN.out _ _ B5.out HO5.out)
           clear hgrow5 hown5)
        | (go_at_call 26; refine KS.out.2.mono ?_; rintro e1 w1 ⟨rfl, v1, R1, q1, q2, q3⟩; have Q1 := Lib.hid q1; have Q2 := Lib.hid q2; have Q3 := Lib.hid q3; clear q1 q2 q3))
      go_returns
      exact ⟨rfl, _, _, Q1.out, KS.out.1.trans Q2.out, Q3.out⟩
end Go.Proofs.Ytkpgekfejfbpjaa
