/-
  Layer 5, the reader's methods integer and bytes: each returns the value that it reads from the bytes that are left, or the error, takes what it read off them, and changes the reader alone. Condition: at most 2^47 - 4096 bytes.
-/
import Derived.Test.YtpkhbafgepdogaaRecRead
import Derived.Deep.RegionHeld3
namespace Go.Proofs.Ytpkhbafgepdogaa
open Go.RowKit

/-- A value as the program holds it. -/
def aggV (v : Val) : Value := .agg #[.int .i64 v.k, .int .i64 v.n, .string v.s]
set_option maxRecDepth 100000 in
set_option maxHeartbeats 1000000 in
theorem integer_r (b : Nat) (l : List UInt8) (f : Value) (w : World) (hs : l.length ≤ 9223372036854775807) (h : Rd w b l f) :
    Calls Try.prog 38 #[.pointer (some ⟨b, 0, none⟩)] w fun e w' => e = .returned (.tuple #[aggV (valS 1 l).1, .int .i64 (valS 1 l).2.2]) ∧ Rd w' b (valS 1 l).2.1 f ∧ w.grownBy w' (some b) := by
  have hbw := h.lt
  have hg := number_r b l f (w.alloc (.cells #[.int .i64 0, .int .i64 0, .string ⟨#[]⟩] 32)) hs (rd_alloc h _)
  clear h
  have hgf := get_form (l := l)
  obtain ⟨r, hr⟩ : ∃ r, r = valS 1 l := ⟨_, rfl⟩
  rw [← hr]
  rw [valS, if_neg (by omega), if_pos rfl] at hr
  obtain ⟨q, hq⟩ : ∃ q, q = restR l := ⟨_, rfl⟩
  rw [← hq] at hg
  unfold restR at hq
  obtain ⟨g, hgg⟩ : ∃ g, g = getR l := ⟨_, rfl⟩
  rw [← hgg] at hg hr hq hgf
  clear hgg
  obtain ⟨n, k, e⟩ := g
  simp only at hg hr hq hgf
  by_cases h0 : e = 0
  · rw [if_pos h0] at hr hq
    replace hgf := (hgf h0).2.1
    subst h0
    rw [← hq] at hr
    clear hq
    have hu := fun w => vunfold_any (n : Int) (by omega) (by omega) w
    obtain ⟨u, hu'⟩ : ∃ u, u = unfoldZ (n : Int) := ⟨_, rfl⟩
    rw [← hu'] at hu hr
    have hn := fun w => number_any u w
    subst hr
    clear hgf hu'
    go_enter Try.func38, Try.ntmps38
    go_wp2_with (first
      | (go_at_call 37; refine hg.mono ?_; rintro e w' ⟨rfl, hq1, hq2⟩; have hrow := blk_grown (blk_new w 32 #[.int .i64 0, .int .i64 0, .string ⟨#[]⟩]) hq2 (by omega))
      | (go_at_call 43; refine (hu _).mono ?_; rintro e w2 ⟨rfl, rfl⟩)
      | (go_at_call 42; refine (hn _).mono ?_; rintro e w3 ⟨rfl, b3⟩; replace hrow := blk_below hrow b3; have r0 := blk_cell hrow 0 rfl; have r1 := blk_cell hrow 1 rfl; have r2 := blk_cell hrow 2 rfl; have r3 := blk_frozen hrow 0; have r4 := blk_frozen hrow 1; have r5 := blk_frozen hrow 2))
    refine bodyPost_ret (results_pair rfl _ _ w.heap.size _ _ _ rfl (blk_set (blk_set (blk_set hrow 0 _) 1 _) 2 _) Try.underlying32 rfl (by kernel_rfl)) rfl ?_
    exact ⟨rfl, rd_other (rd_other (rd_other (rd_below hq1 b3) (by omega) _ _) (by omega) _ _) (by omega) _ _, grown_set (grown_set (grown_set (Lib.grownBy_below (grown_new hq2) b3) (Nat.le_refl _) _ _) (Nat.le_refl _) _ _) (Nat.le_refl _) _ _⟩
  · rw [if_neg h0] at hr hq; subst hr hq
    have t1 : (e != 0) = true := by simpa using h0
    clear hgf
    go_enter Try.func38, Try.ntmps38
    go_wp2_with (go_at_call 37; refine hg.mono ?_; rintro e w' ⟨rfl, hq1, hq2⟩; have hrow := blk_grown (blk_new w 32 #[.int .i64 0, .int .i64 0, .string ⟨#[]⟩]) hq2 (by omega); have r0 := blk_cell hrow 0 rfl; have r1 := blk_cell hrow 1 rfl; have r2 := blk_cell hrow 2 rfl; have r3 := blk_frozen hrow 0; have r4 := blk_frozen hrow 1; have r5 := blk_frozen hrow 2)
    refine bodyPost_ret (results_pair rfl _ _ w.heap.size _ _ _ rfl (blk_set (blk_set (blk_set hrow 0 _) 1 _) 2 _) Try.underlying32 rfl (by kernel_rfl)) rfl ?_
    exact ⟨rfl, rd_other (rd_other (rd_other hq1 (by omega) _ _) (by omega) _ _) (by omega) _ _, grown_set (grown_set (grown_set (grown_new hq2) (Nat.le_refl _) _ _) (Nat.le_refl _) _ _) (Nat.le_refl _) _ _⟩

/-- What bytes returns, for a kind and a size. -/
def valB (kd : Int) (q : Nat) (l : List UInt8) : Val × List UInt8 × Int := if l.length < q then (val0, l, 1) else (⟨kd, 0, bz (l.take q)⟩, l.drop q, 0)
/-- What holds in bytes' own frame: the reader, the field, the result's cell. -/
structure BytI (b : Nat) (l : List UInt8) (f : Value) (kd : Int) (q : Nat) (w W : World) : Prop where
  rd : Rd W b l f
  fld : Blk W w.heap.size 64 #[.int .i64 kd, .int .i64 q]
  res : Blk W (w.heap.size + 1) 32 #[.int .i64 0, .int .i64 0, .string ⟨#[]⟩]
  grown : w.grownBy W (some b)
  lt : w.heap.size + 1 < W.heap.size
theorem bytI_below {b : Nat} {l : List UInt8} {f : Value} {kd : Int} {q : Nat} {w W W' : World} (h : BytI b l f kd q w W) (hb : Below W.heap.size W W') : BytI b l f kd q w W' :=
  ⟨rd_below h.rd hb, blk_below h.fld hb, blk_below h.res hb, Lib.grownBy_below h.grown hb, Nat.lt_of_lt_of_le h.lt hb.size⟩
theorem bytI_drewN {b : Nat} {l : List UInt8} {f : Value} {kd : Int} {q : Nat} {w W : World} (h : BytI b l f kd q w W) (n : Nat) : BytI b l f kd q w (W.drewN n) := bytI_below h ⟨rfl, rfl, rfl, Nat.le_refl _, fun _ _ => rfl⟩
theorem bytI_drew {b : Nat} {l : List UInt8} {f : Value} {kd : Int} {q : Nat} {w W : World} (h : BytI b l f kd q w W) : BytI b l f kd q w W.drew := bytI_below h ⟨rfl, rfl, rfl, Nat.le_refl _, fun _ _ => rfl⟩
theorem bytI_start {b : Nat} {l : List UInt8} {f : Value} (kd : Int) (q : Nat) {w : World} (h : Rd w b l f) : BytI b l f kd q w ((w.alloc (.cells #[.int .i64 kd, .int .i64 q] 64)).alloc (.cells #[.int .i64 0, .int .i64 0, .string ⟨#[]⟩] 32)) := by
  refine ⟨rd_alloc (rd_alloc h _) _, blk_alloc (blk_new _ _ _) _, ?_, Lib.grownBy_allocR (Lib.grownBy_allocR (.refl _ _) _) _, by simp⟩
  have := blk_new (w.alloc (.cells #[.int .i64 kd, .int .i64 q] 64)) 32 #[.int .i64 0, .int .i64 0, .string ⟨#[]⟩]
  rw [World.size_alloc] at this
  exact this

theorem bytI_set {b : Nat} {l : List UInt8} {f : Value} {kd : Int} {q : Nat} {w W : World} (h : BytI b l f kd q w W) {g : Nat} (hg : w.heap.size + 1 < g) (hb : b < w.heap.size) (i : Nat) (v : Value) : BytI b l f kd q w (W.setCell ⟨g, i, none⟩ v) :=
  ⟨rd_other h.rd (by omega) _ _, blk_other h.fld (by omega) _ _, blk_other h.res (by omega) _ _, grown_set h.grown (by omega) _ _, by rw [Deep.nblk_setCell]; exact h.lt⟩
theorem grown_drew {a w : World} {row : Option Nat} (h : a.grownBy w row) : a.grownBy w.drew row := ⟨h.os, h.tape, h.output, h.size, h.block⟩
theorem bytI_rest {b : Nat} {l : List UInt8} {f : Value} {kd : Int} {q : Nat} {w W : World} (h : BytI b l f kd q w W) (hb : b < w.heap.size) (l' : List UInt8) : BytI b l' f kd q w (W.setCell ⟨b, 0, none⟩ (.string (bz l'))).drew :=
  ⟨(rd_set0 h.rd l').drew, blk_other h.fld (by omega) _ _, blk_other h.res (by omega) _ _, grown_drew (Lib.grownBy_setB h.grown 0 _), by show _ < (W.setCell _ _).heap.size; rw [Deep.nblk_setCell]; exact h.lt⟩
theorem blk_drew {W W' : World} {t : TypeId} {cs : Array Value} (h : Below (W.alloc (.cells cs t)).drew.heap.size (W.alloc (.cells cs t)).drew W') : Blk W' W.heap.size t cs := blk_below (w := (W.alloc (.cells cs t)).drew) (blk_new W t cs) h
theorem bytS_of {b : Nat} {l : List UInt8} {s : ByteArray} {f : Value} {kd : Int} {q : Nat} {w W : World} (hs : s = bz l) (h : BytI b l f kd q w W) : W.cell? ⟨w.heap.size, 0, none⟩ = some (.int .i64 kd) ∧ W.cell? ⟨w.heap.size, 1, none⟩ = some (.int .i64 q) ∧ W.cell? ⟨b, 0, none⟩ = some (.string s) ∧ BytI b l f kd q w W :=
  ⟨blk_cell h.fld 0 rfl, blk_cell h.fld 1 rfl, by rw [hs]; exact (rd_cells h.rd).1, h⟩
set_option maxRecDepth 100000 in
set_option maxHeartbeats 1000000 in
theorem bytes_r (b : Nat) (l : List UInt8) (f : Value) (kd : Int) (q : Nat) (w : World) (hs : l.length ≤ 140737488351232) (hq : q ≤ 1000) (h : Rd w b l f) :
    Calls Try.prog 39 #[.pointer (some ⟨b, 0, none⟩), .agg #[.int .i64 kd, .int .i64 q]] w fun e w' => e = .returned (.tuple #[aggV (valB kd q l).1, .int .i64 (valB kd q l).2.2]) ∧ Rd w' b (valB kd q l).2.1 f ∧ w.grownBy w' (some b) := by
  have hbw := h.lt
  have HI := Lib.hid (bytI_start kd q h); clear h
  have hbs := bz_size l
  obtain ⟨s, hs'⟩ : ∃ s, s = bz l := ⟨_, rfl⟩
  rw [← hs'] at hbs
  have hsz : s.size ≤ 140737488351232 := by omega
  by_cases hl : l.length < q
  · have hr : valB kd q l = (val0, l, 1) := by rw [valB, if_pos hl]
    rw [hr]
    have hl' : (s.size : Int) < q := by omega
    have HS := Lib.hid hs'
    clear hr hl hbs hs'
    go_enter Try.func39, Try.ntmps39
    go_wp2
    generalize ((w.alloc (.cells #[.int .i64 kd, .int .i64 q] 64)).alloc (.cells #[.int .i64 0, .int .i64 0, .string ⟨#[]⟩] 32)) = W0 at HI ⊢
    have c0 := (rd_cells HI.out.rd).1
    rw [← HS.out] at c0
    have d1 := blk_cell HI.out.fld 1 rfl
    have r0 := blk_cell HI.out.res 0 rfl; have r1 := blk_cell HI.out.res 1 rfl; have r2 := blk_cell HI.out.res 2 rfl; have r3 := blk_frozen HI.out.res 0; have r4 := blk_frozen HI.out.res 1; have r5 := blk_frozen HI.out.res 2
    go_quiet (fail)
    have HI2 := Lib.hid (bytI_drewN HI.out nq)
    go_wp2
    refine bodyPost_ret (results_pair rfl _ _ (w.heap.size + 1) _ _ _ rfl (blk_set (blk_set (blk_set HI2.out.res 0 _) 1 _) 2 _) Try.underlying32 rfl (by kernel_rfl)) rfl ?_
    exact ⟨rfl, rd_other (rd_other (rd_other HI2.out.rd (by omega) _ _) (by omega) _ _) (by omega) _ _, grown_set (grown_set (grown_set HI2.out.grown (by omega) _ _) (by omega) _ _) (by omega) _ _⟩
  · have hr : valB kd q l = (⟨kd, 0, bz (l.take q)⟩, l.drop q, 0) := by rw [valB, if_neg hl]
    rw [hr]
    have hl' : (q : Int) ≤ s.size := by omega
    have hl'' : q ≤ s.size := by omega
    have hl3 : ¬ (s.size : Int) < q := by omega
    have HS := Lib.hid hs'
    have HT := Lib.hid (show bz (l.take q) = s.extract 0 q by rw [hs', bz_take])
    have hcl := fun w => clone_any (s.extract 0 q) w (by rw [← HT.out, bz_size, List.length_take]; omega)
    clear hr hl hbs hs'
    go_enter Try.func39, Try.ntmps39
    go_wp2
    generalize ((w.alloc (.cells #[.int .i64 kd, .int .i64 q] 64)).alloc (.cells #[.int .i64 0, .int .i64 0, .string ⟨#[]⟩] 32)) = W0 at HI ⊢
    have c0 := (rd_cells HI.out.rd).1
    rw [← HS.out] at c0
    have d0 := blk_cell HI.out.fld 0 rfl
    have d1 := blk_cell HI.out.fld 1 rfl
    go_quiet (fail)
    have HI2 := Lib.hid (bytI_drewN HI.out nq)
    generalize W0.drewN nq = W1 at HI2 ⊢
    clear c0 d0 d1 HI
    go_wp2
    go_region_held3 (fun w' => w'.cell? ⟨w.heap.size, 0, none⟩ = some (.int .i64 kd) ∧ w'.cell? ⟨w.heap.size, 1, none⟩ = some (.int .i64 q) ∧ w'.cell? ⟨b, 0, none⟩ = some (.string s) ∧ BytI b l f kd q w w')
      (first | assumption | exact bytS_of HS.out HI2.out | exact bytS_of HS.out (bytI_drew HI2.out) | exact bytS_of HS.out (bytI_below (bytI_drew HI2.out) (below_alloc _ _)) | exact bytS_of HS.out (bytI_below (bytI_drew HI2.out) (by assumption)) | exact bytS_of HS.out (bytI_below (bytI_below (bytI_drew HI2.out) (by assumption)) (below_alloc _ _)) | exact bytS_of HS.out (bytI_below (bytI_below (bytI_drew HI2.out) (below_alloc _ _)) (by assumption)) | exact bytS_of HS.out (bytI_set (bytI_set (bytI_set (bytI_below (bytI_below (bytI_drew HI2.out) (below_alloc _ _)) (by assumption)) HI2.out.lt hbw _ _) HI2.out.lt hbw _ _) HI2.out.lt hbw _ _))
      ((go_at_call 44; refine (hcl _).mono ?_; rintro e w2 ⟨rfl, hb⟩; (try (have hz := blk_drew hb; have z0 := blk_cell hz 0 rfl; have z1 := blk_cell hz 1 rfl; have z2 := blk_cell hz 2 rfl; have z3 := blk_frozen hz 0; have z4 := blk_frozen hz 1; have z5 := blk_frozen hz 2))))
    · rename_i hHeld
      have hB2 := hHeld.2.2.2
      have hG : Blk _ _ 32 #[.int .i64 kd, .int .i64 0, .string (s.extract 0 q)] := blk_new w2 32 _
      have hgl : w.heap.size + 1 < w2.heap.size := by
        have h1 := HI2.out.lt
        have h2 : W1.heap.size ≤ w2.heap.size := hb.size
        omega
      clear hHeld hb hcl HI2
      obtain ⟨W2, hW2⟩ : ∃ W2, w2.alloc (.cells #[.int .i64 kd, .int .i64 0, .string (s.extract 0 q)] 32) = W2 := ⟨_, rfl⟩
      rw [hW2] at hB2 hG ⊢
      obtain ⟨g, hg⟩ : ∃ g, w2.heap.size = g := ⟨_, rfl⟩
      rw [hg] at hG hgl ⊢
      clear hW2 hg
      have HB2 := Lib.hid hB2; have HG := Lib.hid hG
      have c0 := (rd_cells hB2.rd).1
      have c1 := (rd_cells hB2.rd).2.2.1
      rw [← HS.out] at c0
      have d1 := blk_cell hB2.fld 1 rfl
      clear hB2 hG
      go_wp2
      go_region
      have HB3 : Hid (BytI b (l.drop q) f kd q w (W2.setCell ⟨b, 0, none⟩ (.string (s.extract q s.size))).drew) := by
        rw [HS.out, bz_drop]; exact bytI_rest HB2.out hbw _
      have HG3 : Hid (Blk (W2.setCell ⟨b, 0, none⟩ (.string (s.extract q s.size))).drew g 32 #[.int .i64 kd, .int .i64 0, .string (s.extract 0 q)]) := blk_other HG.out (g' := b) (by omega) 0 (.string (s.extract q s.size))
      generalize (W2.setCell ⟨b, 0, none⟩ (.string (s.extract q s.size))).drew = W3 at HB3 HG3 ⊢
      clear c0 c1 d1 HB2 HG
      have r0 := blk_cell HB3.out.res 0 rfl; have r1 := blk_cell HB3.out.res 1 rfl; have r2 := blk_cell HB3.out.res 2 rfl; have r3 := blk_frozen HB3.out.res 0; have r4 := blk_frozen HB3.out.res 1; have r5 := blk_frozen HB3.out.res 2
      have g0 := blk_cell HG3.out 0 rfl; have g1 := blk_cell HG3.out 1 rfl; have g2 := blk_cell HG3.out 2 rfl
      go_wp2
      refine bodyPost_ret (results_pair rfl _ _ (w.heap.size + 1) _ _ _ rfl (blk_set (blk_set (blk_set HB3.out.res 0 _) 1 _) 2 _) Try.underlying32 rfl (by kernel_rfl)) rfl ?_
      exact ⟨by rw [HT.out]; rfl, rd_other (rd_other (rd_other HB3.out.rd (by omega) _ _) (by omega) _ _) (by omega) _ _, grown_set (grown_set (grown_set HB3.out.grown (by omega) _ _) (by omega) _ _) (by omega) _ _⟩
    · rename_i hHeld
      have hB2 := hHeld.2.2.2
      have hG : Blk _ _ 32 #[.int .i64 kd, .int .i64 0, .string (s.extract 0 q)] := blk_set (blk_set (blk_set hz 0 _) 1 _) 2 _
      have hgl : w.heap.size + 1 < W1.heap.size := HI2.out.lt
      clear hHeld hb hcl HI2 hz z0 z1 z2 z3 z4 z5
      obtain ⟨W2, hW2⟩ : ∃ W2, ((w2.setCell ⟨W1.heap.size, 0, none⟩ (.int .i64 kd)).setCell ⟨W1.heap.size, 1, none⟩ (.int .i64 0)).setCell ⟨W1.heap.size, 2, none⟩ (.string (s.extract 0 q)) = W2 := ⟨_, rfl⟩
      rw [hW2] at hB2 hG ⊢
      obtain ⟨g, hg⟩ : ∃ g, W1.heap.size = g := ⟨_, rfl⟩
      rw [hg] at hG hgl ⊢
      clear hW2 hg
      have HB2 := Lib.hid hB2; have HG := Lib.hid hG
      have c0 := (rd_cells hB2.rd).1
      have c1 := (rd_cells hB2.rd).2.2.1
      rw [← HS.out] at c0
      have d1 := blk_cell hB2.fld 1 rfl
      clear hB2 hG
      go_wp2
      go_region
      have HB3 : Hid (BytI b (l.drop q) f kd q w (W2.setCell ⟨b, 0, none⟩ (.string (s.extract q s.size))).drew) := by
        rw [HS.out, bz_drop]; exact bytI_rest HB2.out hbw _
      have HG3 : Hid (Blk (W2.setCell ⟨b, 0, none⟩ (.string (s.extract q s.size))).drew g 32 #[.int .i64 kd, .int .i64 0, .string (s.extract 0 q)]) := blk_other HG.out (g' := b) (by omega) 0 (.string (s.extract q s.size))
      generalize (W2.setCell ⟨b, 0, none⟩ (.string (s.extract q s.size))).drew = W3 at HB3 HG3 ⊢
      clear c0 c1 d1 HB2 HG
      have r0 := blk_cell HB3.out.res 0 rfl; have r1 := blk_cell HB3.out.res 1 rfl; have r2 := blk_cell HB3.out.res 2 rfl; have r3 := blk_frozen HB3.out.res 0; have r4 := blk_frozen HB3.out.res 1; have r5 := blk_frozen HB3.out.res 2
      have g0 := blk_cell HG3.out 0 rfl; have g1 := blk_cell HG3.out 1 rfl; have g2 := blk_cell HG3.out 2 rfl
      go_wp2
      refine bodyPost_ret (results_pair rfl _ _ (w.heap.size + 1) _ _ _ rfl (blk_set (blk_set (blk_set HB3.out.res 0 _) 1 _) 2 _) Try.underlying32 rfl (by kernel_rfl)) rfl ?_
      exact ⟨by rw [HT.out]; rfl, rd_other (rd_other (rd_other HB3.out.rd (by omega) _ _) (by omega) _ _) (by omega) _ _, grown_set (grown_set (grown_set HB3.out.grown (by omega) _ _) (by omega) _ _) (by omega) _ _⟩
end Go.Proofs.Ytpkhbafgepdogaa
