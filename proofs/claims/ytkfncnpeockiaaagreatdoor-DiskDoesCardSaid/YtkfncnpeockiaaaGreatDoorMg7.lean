/-
  Layer 7: settle with the choice that Sync makes: the chosen pending changes become durable, in order, the others stay pending. Condition: the sizes that the invariant holds.
-/
import Derived.Test.YtkfncnpeockiaaaGreatDoorMg6
namespace Go.Proofs.YtkfncnpeockiaaaGreatDoor
open Go.RowKit
variable {L : Loc} {ρ ρ' : Nat → Option Role} {n : Nat} {S : DS} {w w' : World}

abbrev SetQ (L : Loc) (ρ : Nat → Option Role) (n : Nat) (S' : DS) (w : World) (e : Ending) (w' : World) : Prop :=
  e = .returned (.tuple #[]) ∧ ∃ L' ρ', Inv L' ρ' n S' w' ∧ Step L ρ w L' ρ' w' ∧ L'.F = L.F
theorem prow_at {v : Value} {F : Nat → Nat} {l : List Chg} (h : w.ownsRow 0 74 5 v l.length (l.flatMap (Chg.cells F))) {g m cap : Nat} (hv : v = .slice (some ⟨g, 0, none⟩) m cap) : ∃ cur, PRow w g cap F l cur := by
  rcases prow_of h with ⟨e, _⟩ | ⟨g', cap', cur, e, hp⟩
  · rw [hv] at e; cases e
  · rw [hv] at e
    injection e with e1 _ e3
    injection e1 with e1
    injection e1 with e1
    subst e1 e3
    exact ⟨cur, hp⟩
theorem prow_keep {g cap : Nat} {F : Nat → Nat} {l : List Chg} {cur : Array Value} (h : PRow w g cap F l cur) (hk : w'.heap[g]? = w.heap[g]?) : PRow w' g cap F l cur := { h with blk := hk.trans h.blk }
theorem prow_lt {g cap : Nat} {F : Nat → Nat} {l : List Chg} {cur : Array Value} (h : PRow w g cap F l cur) : g < w.heap.size := (Array.getElem?_eq_some_iff.1 h.blk).1
theorem prow_chain {g cap : Nat} {F : Nat → Nat} {l : List Chg} {cur : Array Value} (h : PRow w g cap F l cur) {o o' : Obj} (hb : Below (w.alloc o).heap.size (w.alloc o) w') : (w'.alloc o').heap[g]? = w.heap[g]? := by
  have h0 := prow_lt h
  have h1 : g < (w.alloc o).heap.size := by simp; omega
  rw [heap_alloc_old w' o' (Nat.lt_of_lt_of_le h1 hb.size), hb.block g h1, heap_alloc_old w o h0]
theorem settle_run {ty : TypeId} {g cap : Nat} {F : Nat → Nat} {l : List Chg} {cur : Array Value} (h : PRow w g cap F l cur) (k : Nat) (hk : k < l.length) (c : Chg) (a : Nat) (ha : Blk w a 74 (c.cells F).toArray) :
    (Builtin.append_ #[56, 56] ty #[.slice (some ⟨g, 0, none⟩) k cap, .slice (some ⟨a, 0, none⟩) 1 1]).run Tryz.prog w = .ok (.slice (some ⟨g, 0, none⟩) (k + 1) cap) (w.setRow g (cur.toList.take (k * 5) ++ c.cells F ++ cur.toList.drop (k * 5 + (c.cells F).length)).toArray) := by
  obtain ⟨iq, hiq, -, hz1, -⟩ := info_parts chg_info
  exact prow_room (by kernel_rfl) hiq hz1 h k hk c a ha
theorem chg_lit (F : Nat → Nat) (c : Chg) : ∃ (k : Int) (nm : ByteArray) (fp : Option Addr) (o : Int) (d : ByteArray), c.cells F = [.int .i64 k, .string nm, .pointer fp, .int .i64 o, .string d] := by
  cases c <;> exact ⟨_, _, _, _, _, rfl⟩
theorem zeroChg (w : World) : (zeroValue 74).run Tryz.prog w = .ok (.agg #[.int .i64 0, .string ⟨#[]⟩, .pointer none, .int .i64 0, .string ⟨#[]⟩]) w := by kernel_rfl

theorem settleSync_down (h : Inv L ρ n S w) (hd : S.down = true) (fv : Value) : Calls Tryz.prog 40 #[.pointer (some ⟨L.b, 0, none⟩), fv] w fun e w' => e = .returned (.tuple #[]) ∧ w' = w := by
  have c7 := blk_cell h.blk 7 rfl
  rw [hd] at c7
  clear h
  go_enter Tryz.func40, Tryz.ntmps40
  go_wp2
  go_returns
  exact ⟨rfl, rfl⟩

/-- What holds at the head of each round. -/
structure SetI (p : Chg → Bool) (L : Loc) (ρ : Nat → Option Role) (n : Nat) (S : DS) (w : World) (i : Nat) (wr : World) : Prop where
  ex : ∃ L1 ρ1, Inv L1 ρ1 (n + i) (midS p S i) wr ∧ Step L ρ w L1 ρ1 wr ∧ L1.F = L.F ∧ L1.pv = L.pv

set_option maxHeartbeats 4000000 in
set_option maxRecDepth 100000 in
theorem settleSync_any (f : Nat) (x : Addr) (h : Inv L ρ n S w) (hd : S.down = false) (hf : f < S.nf) (hx : w.cell? x = some (.pointer (some ⟨L.F f, 0, none⟩))) (hxs : x.spot = none) (hxr : ρ x.block = none) (hn : n + S.pend.length + 1 ≤ 100000) (g cap : Nat) (hpv : L.pv = .slice (some ⟨g, 0, none⟩) S.pend.length cap) :
    Calls Tryz.prog 40 #[.pointer (some ⟨L.b, 0, none⟩), .func (.func 41) #[] #[.pointer (some x)]] w (SetQ L ρ (n + S.pend.length) (settleS (ofFile f) S) w) := by
  have c7 := blk_cell h.blk 7 rfl
  have c3 := blk_cell h.blk 3 rfl
  rw [hd] at c7
  rw [hpv] at c3
  have HI0 := Lib.hid (show SetI (ofFile f) L ρ n S w 0 w from ⟨L, ρ, by rw [midS_zero]; exact h, Step.refl _ _ _, rfl, rfl⟩)
  have HX := Lib.hid hx
  have HPV := Lib.hid hpv
  have HN := Lib.hid hn
  have HF := Lib.hid hf
  have hxl : x.block < w.heap.size := World.block_lt_of_cell? w _ hx
  have HXL := Lib.hid hxl
  have hcap : S.pend.length ≤ cap := by
    rcases prow_of h.pnd with ⟨e, _⟩ | ⟨g', cap', cur, e, hp⟩
    · rw [hpv] at e; cases e
    · rw [hpv] at e; cases e; exact hp.len
  have hcap0 : (0 : Int) ≤ cap := by omega
  obtain ⟨len, hlen⟩ : ∃ len, len = S.pend.length := ⟨_, rfl⟩
  have HL := Lib.hid hlen
  have HH := Lib.hid h
  rw [← hlen] at c3 hcap
  have hlb : len ≤ 100000 := by omega
  clear h hx hpv hn hd hf hxl hlen
  go_enter Tryz.func40, Tryz.ntmps40
  go_wp2
  go_loopw [4, 21] (fun rest iv wr => ∃ (i k : Nat), i ≤ len ∧ k ≤ i ∧ rest = .slice (some ⟨g, 0, none⟩) k cap ∧ iv = .int .i64 i ∧ Hid (k = (keptL (ofFile f) (S.pend.take i)).length) ∧ Hid (SetI (ofFile f) L ρ n S w i wr)) (fun _ iv _ => len - (intOf iv).toNat)
  case atStart => exact ⟨0, 0, Nat.zero_le _, Nat.le_refl _, rfl, rfl, Lib.hid rfl, HI0⟩
  case round =>
    obtain ⟨i, k, hi, hki, rfl, rfl, hk, hI⟩ := hrel
    by_cases hlt : i < len
    · have hlt' : i < S.pend.length := by have := HL.out; omega
      obtain ⟨L1, ρ1, hI1, hS1, hF1, hpv1⟩ := hI.out
      have hb1 : L1.b = L.b := hS1.b
      have hcO : S.pend[i].Ok S.nf := HH.out.pok _ (List.getElem_mem hlt')
      have hmp := midS_pend (ofFile f) S i (Nat.le_of_lt hlt')
      have hmi : i < (midS (ofFile f) S i).pend.length := by omega
      have hma := midS_at (ofFile f) S i hlt' hmi
      obtain ⟨cur, hP⟩ := prow_at hI1.pnd (hpv1.trans HPV.out)
      rw [hF1] at hP
      obtain ⟨ck, nm, fp, o, d, hcl⟩ := chg_lit L.F S.pend[i]
      have r0 := prow_cell hP i 0 hmi (by omega) (v := .int .i64 ck) (by rw [hma, hcl]; rfl)
      have r1 := prow_cell hP i 1 hmi (by omega) (v := .string nm) (by rw [hma, hcl]; rfl)
      have r2 := prow_cell hP i 2 hmi (by omega) (v := .pointer fp) (by rw [hma, hcl]; rfl)
      have r3 := prow_cell hP i 3 hmi (by omega) (v := .int .i64 o) (by rw [hma, hcl]; rfl)
      have r4 := prow_cell hP i 4 hmi (by omega) (v := .string d) (by rw [hma, hcl]; rfl)
      rw [Nat.add_zero] at r0
      have hIA := hI1.alloc (.cells #[.int .i64 ck, .string nm, .pointer fp, .int .i64 o, .string d] 74)
      have hbA : Below wr.heap.size wr (wr.alloc (.cells #[.int .i64 ck, .string nm, .pointer fp, .int .i64 o, .string d] 74)) := (Below.refl _ _).alloc (Nat.le_refl _) _
      have hSA : Step L ρ w L1 ρ1 (wr.alloc (.cells #[.int .i64 ck, .string nm, .pointer fp, .int .i64 o, .string d] 74)) := hS1.trans (Step.below hbA)
      have hxA : (wr.alloc (.cells #[.int .i64 ck, .string nm, .pointer fp, .int .i64 o, .string d] 74)).cell? x = some (.pointer (some ⟨L1.F f, 0, none⟩)) := by
        rw [hF1, World.cell?_of_block (a := x) (hSA.blk x.block HXL.out hxr)]; exact HX.out
      have hK := sync11_any hIA f (by rw [midS_nf]; exact HF.out) S.pend[i] (by rw [midS_nf]; exact hcO) x hxA hxs
      have hbx := blk_new wr 74 #[.int .i64 ck, .string nm, .pointer fp, .int .i64 o, .string d]
      rw [hF1, hcl] at hK
      have hro := hI1.old wr.heap.size (Nat.le_refl _)
      have HK := Lib.hid hK; have HIA := Lib.hid hIA; have HSA := Lib.hid hSA; have HBX := Lib.hid hbx; have HCL := Lib.hid hcl; have HB1 := Lib.hid hb1; have HP := Lib.hid hP; have HRO := Lib.hid hro; have HCO := Lib.hid hcO; have HF1 := Lib.hid hF1; have HPV1 := Lib.hid hpv1; have HMP := Lib.hid hmp
      have hlti : (i : Int) < len := by omega
      clear hK hIA hSA hbx hcl hb1 hP hro hcO hF1 hpv1 hma hmp hI1 hS1 hbA hxA hI
      by_cases hp : ofFile f S.pend[i] = true
      · rw [hp] at HK
        have HST := Lib.hid (midS_true (ofFile f) S i hlt' hp)
        clear hp
        go_wp2_with (first
          | (go_at_call 41; (with_reducible refine HK.out.mono ?_); rintro e w2 ⟨rfl, hb2⟩
             have HI2 := Lib.hid (HIA.out.below hb2)
             have HA := Lib.hid (apply_any true S.pend[i] HI2.out (by rw [midS_nf]; exact HCO.out) (by have := HN.out; have := HL.out; omega))
             rw [HF1.out, HCL.out, HB1.out, show stI true = 1 from rfl] at HA
             have hbx2 : Blk w2 wr.heap.size 74 _ := (hb2.block _ (blk_lt HBX.out)).trans HBX.out
             have HS2 := Lib.hid (HSA.out.trans (Step.below hb2))
             have b0 := blk_cell hbx2 0 rfl; have b1 := blk_cell hbx2 1 rfl; have b2 := blk_cell hbx2 2 rfl; have b3 := blk_cell hbx2 3 rfl; have b4 := blk_cell hbx2 4 rfl
             clear hb2 hbx2)
          | (go_at_call 70; (with_reducible refine HA.out.mono ?_); rintro e w3 ⟨rfl, L3, ρ3, hI3, hS3, hF3, hpv3⟩
             have HI3 := Lib.hid (show SetI (ofFile f) L ρ n S w (i + 1) w3 from ⟨L3, ρ3, by rw [HST.out.1, ← Nat.add_assoc]; exact hI3, HS2.out.trans hS3, hF3.trans HF1.out, hpv3.trans HPV1.out⟩)
             clear hI3 hS3 hF3 hpv3))
        go_roundw
        case rel => exact ⟨i + 1, k, by omega, by omega, rfl, by go_num, Lib.hid (by rw [HST.out.2]; exact hk.out), HI3⟩
        case measure => simp [intOf]; omega
      · have hpf : ofFile f S.pend[i] = false := by simpa using hp
        rw [hpf] at HK
        have HST := Lib.hid (midS_false (ofFile f) S i hlt' hpf)
        clear hp hpf
        go_wp2_with (first
          | (go_at_call 41; (with_reducible refine HK.out.mono ?_); rintro e w2 ⟨rfl, hb2⟩
             have HI2 := Lib.hid (HIA.out.below hb2)
             have hbx2 : Blk w2 wr.heap.size 74 _ := (hb2.block _ (blk_lt HBX.out)).trans HBX.out
             have HS2 := Lib.hid (HSA.out.trans (Step.below hb2))
             have HP2 := Lib.hid (prow_keep HP.out (w' := w2.alloc (.cells #[.int .i64 ck, .string nm, .pointer fp, .int .i64 o, .string d] 74)) (prow_chain HP.out hb2))
             have HRUN := Lib.hid (settle_run (ty := 56) HP2.out k (by have := HMP.out; have := HL.out; omega) S.pend[i] w2.heap.size (by rw [HCL.out]; exact blk_new w2 _ _))
             have b0 := blk_cell hbx2 0 rfl; have b1 := blk_cell hbx2 1 rfl; have b2 := blk_cell hbx2 2 rfl; have b3 := blk_cell hbx2 3 rfl; have b4 := blk_cell hbx2 4 rfl
             clear hb2 hbx2)
          | (at_builtin; refine wpList_append_is rfl _ _ _ _ rfl rfl rfl HRUN.out ?_))
        have hbB : Below w2.heap.size w2 (w2.alloc (.cells #[.int .i64 ck, .string nm, .pointer fp, .int .i64 o, .string d] 74)) := (Below.refl _ _).alloc (Nat.le_refl _) _
        have hI3 := inv_row (w' := ((w2.alloc (.cells #[.int .i64 ck, .string nm, .pointer fp, .int .i64 o, .string d] 74)).setRow g (cur.toList.take (k * 5) ++ S.pend[i].cells L.F ++ cur.toList.drop (k * 5 + (S.pend[i].cells L.F).length)).toArray)) (HI2.out.below hbB) ((midS (ofFile f) S i).pend.take k ++ S.pend[i] :: (midS (ofFile f) S i).pend.drop (k + 1)) (by rw [HPV1.out, HPV.out]; exact setRow_grown' _ g _)
          (by
            have hq := prow_back (prow_put HP2.out k (by have := HMP.out; have := HL.out; omega) S.pend[i])
            have hlq : ((midS (ofFile f) S i).pend.take k ++ S.pend[i] :: (midS (ofFile f) S i).pend.drop (k + 1)).length = S.pend.length := by
              have := HMP.out; have := HL.out
              rw [List.length_append, List.length_cons, List.length_take, List.length_drop]; omega
            rw [HPV1.out, HPV.out, HF1.out]
            rw [hlq] at hq ⊢
            exact hq)
          (fun y hy => by
            rw [midS_nf]
            rcases List.mem_append.1 hy with hy | hy
            · have := HI2.out.pok _ (List.mem_of_mem_take hy); rwa [midS_nf] at this
            · rcases List.mem_cons.1 hy with rfl | hy
              · exact HCO.out
              · have := HI2.out.pok _ (List.mem_of_mem_drop hy); rwa [midS_nf] at this)
          (by
            have h1 := HMP.out; have h2 := HL.out; have h3 := HH.out.bnd.1
            rw [List.length_append, List.length_cons, List.length_take, List.length_drop]; omega)
        have HI3 := Lib.hid (show SetI (ofFile f) L ρ n S w (i + 1) _ from ⟨L1, ρ1, by
          rw [HST.out.1, ← hk.out, ← Nat.add_assoc]
          exact hI3.1.mono (Nat.le_succ _) (by have := HN.out; have := HL.out; omega), HS2.out.trans ((Step.below hbB).trans hI3.2), HF1.out, HPV1.out⟩)
        rw [List.append_assoc] at HI3
        clear hI3 hbB
        go_wp2
        go_roundw
        case rel => exact ⟨i + 1, k + 1, by omega, by omega, rfl, by go_num, Lib.hid (by rw [HST.out.2, ← hk.out]), HI3⟩
        case measure => simp [intOf]; omega
    · obtain rfl : i = len := by omega
      obtain ⟨L1, ρ1, hI1, hS1, hF1, hpv1⟩ := hI.out
      have hb1 : L1.b = L.b := hS1.b
      have hmp := midS_pend (ofFile f) S S.pend.length (Nat.le_refl _)
      rw [HL.out] at hI1
      have hkl : k = (keptL (ofFile f) S.pend).length := by rw [hk.out, HL.out, List.take_length]
      have hkt : (midS (ofFile f) S S.pend.length).pend.take k = keptL (ofFile f) S.pend := by
        have e : (midS (ofFile f) S S.pend.length).pend = keptL (ofFile f) (S.pend.take S.pend.length) ++ S.pend.drop (keptL (ofFile f) (S.pend.take S.pend.length)).length := rfl
        rw [e, List.take_length, hkl, List.take_left]
      obtain ⟨cur, hP⟩ := prow_at hI1.pnd (hpv1.trans HPV.out)
      have hbk := hI1.blk
      rw [hb1, hpv1, HPV.out, ← HL.out] at hbk
      have hpr : ρ1 g = some .pend := hI1.pro g (by rw [hpv1, HPV.out]; rfl)
      have hbg : L.b ≠ g := fun e => by have h1 := hI1.hb; rw [hb1, e, hpr] at h1; cases h1
      have hkm : ∀ c, c ∈ keptL (ofFile f) S.pend → c.Ok (midS (ofFile f) S S.pend.length).nf := fun c hc => by rw [midS_nf]; exact HH.out.pok c (keptL_mem hc)
      have fin : ∀ (W : World) (cur' : Array Value), wr.grownBy W (some g) → PRow W g cap L1.F ((midS (ofFile f) S S.pend.length).pend.take k) cur' →
          SetQ L ρ (n + S.pend.length) (settleS (ofFile f) S) w (.returned (.tuple #[])) (W.setCell ⟨L.b, 3, none⟩ (.slice (some ⟨g, 0, none⟩) k cap)) := by
        intro W cur' hg hq
        have hq2 := prow_back hq
        rw [hkt, ← hkl] at hq2
        obtain ⟨ρ', hA, hB⟩ := inv_pend (n' := n + S.pend.length) hI1 (v1 := .slice (some ⟨g, 0, none⟩) k cap) (keptL (ofFile f) S.pend) (by rw [hpv1, HPV.out]; exact hg) (by rw [← hkl]; exact hq2) hkm (.inl (by rw [hpv1, HPV.out]; rfl)) (Nat.le_refl _) (by have := HN.out; omega) (by have := keptL_le (ofFile f) S.pend; have := HH.out.bnd.1; omega)
        rw [hb1] at hA hB
        exact ⟨rfl, _, ρ', by rw [midS_end]; exact hA, hS1.trans hB, hF1⟩
      have HFIN := Lib.hid fin
      have d3 := blk_cell hbk 3 rfl
      have f3 := blk_frozen hbk 3
      by_cases hkn : k = i
      · subst hkn
        have hc0 : ∀ (a : Option Addr) (c : Nat) ty, (Builtin.clear_ #[56] ty #[.slice a 0 c]).run Tryz.prog wr = .ok (.tuple #[]) wr := by
          intro a c ty
          cases a <;> simp [Builtin.clear_, run_underlying (P := Tryz.prog) (show Tryz.prog.underlying 56 = some (.slice 74) by kernel_rfl)] <;> rfl
        have hq0 := fin wr cur (grown_refl _ _) (by
          have := prow_take hP k (by rw [hmp]; have := HL.out; omega)
          exact this)
        have HQ := Lib.hid hq0
        clear fin HFIN hI1 hS1 hP hbk hkm hkt hq0 hpr hkl
        go_wp2
        all_goals go_returns
        all_goals first
          | exact HQ.out
          | (have e : cap = k := by omega
             rw [e] at HQ
             exact HQ.out)
      · have hkc : k < cap := by omega
        have hkn' : k < i := by omega
        have hcl := fun ty => prow_clear (P := Tryz.prog) (t := 56) (ty := ty) (by kernel_rfl) zeroChg (by rfl) (by simp [Value.cells, Value.oneCell']) hP k (i - k) (cap - k) (by rw [hmp]; have := HL.out; omega) (by omega)
        obtain ⟨cur', hclr, hP'⟩ := hcl 0
        have hW := setRow_grown' wr g cur'
        have hbW : Blk (wr.setRow g cur') L.b 59 _ := (setRow_other wr g L.b cur' hbg).trans hbk
        have e3 := blk_cell hbW 3 rfl
        have g3 := blk_frozen hbW 3
        have HQ := Lib.hid (fin (wr.setRow g cur') cur' hW hP')
        have hkc1 : ¬ cap - k = 0 := by omega
        have hkc2 : (k : Int) < cap := by omega
        clear fin HFIN hI1 hS1 hP hbk hkm hkt hpr hkl hcl hP' hW hbW
        go_wp2
        all_goals go_returns
        all_goals exact HQ.out

set_option maxHeartbeats 1000000 in
theorem settleSync_nil (fv : Value) (p : Chg → Bool) (h : Inv L ρ n S w) (hd : S.down = false) (hp : S.pend = []) (hpv : L.pv = .slice none 0 0) :
    Calls Tryz.prog 40 #[.pointer (some ⟨L.b, 0, none⟩), fv] w (SetQ L ρ n (settleS p S) w) := by
  have hB := h.blk
  rw [hd, hpv] at hB
  have c7 := blk_cell hB 7 rfl
  have c3 := blk_cell hB 3 rfl
  have f3 := blk_frozen hB 3
  have e : settleS p S = { S with pend := [] } := by unfold settleS foldP keptL; rw [hp]; rfl
  obtain ⟨ρ', hA, hS⟩ := inv_pend (n' := n) h (v1 := .slice none 0 0) [] (grown_refl w _) (World.ownsRow_nil _ _ _ _) (fun c hc => by cases hc) (.inl (by rw [hpv])) (Nat.le_refl _) h.bnd.2.2.2 (Nat.zero_le _)
  have HFIN := Lib.hid (show SetQ L ρ n (settleS p S) w (.returned (.tuple #[])) (w.setCell ⟨L.b, 3, none⟩ (.slice none 0 0)) from ⟨rfl, _, ρ', by rw [e]; exact hA, hS, rfl⟩)
  have hc0 : ∀ (c : Nat) ty, (Builtin.clear_ #[56] ty #[.slice none 0 c]).run Tryz.prog w = .ok (.tuple #[]) w := by
    intro c ty
    simp [Builtin.clear_, run_underlying (P := Tryz.prog) (show Tryz.prog.underlying 56 = some (.slice 74) by kernel_rfl)]
  clear h hB hp hpv hA hS e hd
  go_enter Tryz.func40, Tryz.ntmps40
  go_wp2
  go_loopw [4, 21] (fun rest iv wr => rest = .slice none 0 0 ∧ iv = .int .i64 0 ∧ wr = w) (fun _ _ _ => 0)
  case atStart => exact ⟨rfl, rfl, rfl⟩
  case round =>
    obtain ⟨rfl, rfl, rfl⟩ := hrel
    go_wp2
    go_returns
    exact HFIN.out
/-- settle with the choice that Sync makes. -/
theorem settleSync (f : Nat) (x : Addr) (h : Inv L ρ n S w) (hd : S.down = false) (hf : f < S.nf) (hx : w.cell? x = some (.pointer (some ⟨L.F f, 0, none⟩))) (hxs : x.spot = none) (hxr : ρ x.block = none) (hn : n + S.pend.length + 1 ≤ 100000) :
    Calls Tryz.prog 40 #[.pointer (some ⟨L.b, 0, none⟩), .func (.func 41) #[] #[.pointer (some x)]] w (SetQ L ρ (n + S.pend.length) (settleS (ofFile f) S) w) := by
  rcases prow_of h.pnd with ⟨e, hp⟩ | ⟨g, cap, cur, e, -⟩
  · have := settleSync_nil (.func (.func 41) #[] #[.pointer (some x)]) (ofFile f) h hd hp e
    rw [hp]
    exact this
  · exact settleSync_any f x h hd hf hx hxs hxr hn g cap e
end Go.Proofs.YtkfncnpeockiaaaGreatDoor
