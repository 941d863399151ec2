/-
  Layer 7: Read of a file that is there, at an offset and a length that are not negative: the bytes from the offset on, as far as the file reaches. Condition: the sizes that the invariant holds; no crash at this call.
-/
import Derived.Test.YtcpkbklnlnoonaaDoorDskOps4
namespace Go.Proofs.YtcpkbklnlnoonaaDoor
open Go.RowKit
variable {L : Loc} {ρ ρ' : Nat → Option Role} {n : Nat} {S : DS} {w w' : World}

/-- A box of ours gets a part of its own: that of a file that is none. -/
theorem inv_addbox (h : Inv L ρ n S w) (b : Nat) (hb : b < w.heap.size) (hr : ρ b = none) : Inv L (updN ρ b (some (.file S.nf))) n S w := by
  have hx : ∀ k r, ρ k = some r → updN ρ b (some (.file S.nf)) k = some r := fun k r hk => by
    unfold updN
    rw [if_neg (fun e => by subst e; rw [hr] at hk; cases hk)]; exact hk
  exact {
    hb := hx _ _ h.hb
    blk := h.blk
    mp := fun t => mapI_keep (h.mp t) (fun _ _ => rfl) hx
    flt := fltI_keep h.flt (fun _ _ => rfl) hx
    pnd := h.pnd
    pro := fun g hg => hx _ _ (h.pro g hg)
    fro := fun j hj => hx _ _ (h.fro j hj)
    fil := h.fil
    con := h.con
    cro := fun t j g hj hg => hx _ _ (h.cro t j g hj hg)
    clen := h.clen
    dok := h.dok
    pok := h.pok
    old := fun k hk => by
      unfold updN
      rw [if_neg (by omega)]; exact h.old k hk
    room := h.room
    bnd := h.bnd }
theorem inv_box (h : Inv L ρ n S w) (b : Nat) (hr : ρ b = some (.file S.nf)) (hk : ∀ g, g ≠ b → w'.heap[g]? = w.heap[g]?) (hz : w.heap.size ≤ w'.heap.size) : Inv L ρ n S w' := by
  have hkr : ∀ k r, ρ k = some r → r ≠ .file S.nf → w'.heap[k]? = w.heap[k]? := fun k r h1 h2 => hk k (fun e => by subst e; rw [hr] at h1; cases h1; exact h2 rfl)
  have hf : ∀ j, j < S.nf → Role.file j ≠ .file S.nf := fun j hj e => by injection e with e; omega
  exact {
    hb := h.hb
    blk := (hkr _ _ h.hb (by simp)).trans h.blk
    mp := fun t => mapI_keep (h.mp t) (fun g hg => hkr g _ hg (by simp)) (fun _ _ h => h)
    flt := fltI_keep h.flt (fun g hg => hkr g _ hg (by simp)) (fun _ _ h => h)
    pnd := row_keep h.pnd (fun g hg => hkr g _ (h.pro g hg) (by simp))
    pro := h.pro
    fro := h.fro
    fil := fun j hj => (hkr _ _ (h.fro j hj) (hf j hj)).trans (h.fil j hj)
    con := fun t j hj => row_keep (h.con t j hj) (fun g hg => hkr g _ (h.cro t j g hj hg) (by simp))
    cro := h.cro
    clen := h.clen
    dok := h.dok
    pok := h.pok
    old := fun k hk' => h.old k (Nat.le_trans hz hk')
    room := h.room
    bnd := h.bnd }

theorem conv_nil (a : Option Addr) (c : Nat) (w : World) : (convert 30 9 (.slice a 0 c)).run Tryd.prog w = .ok (.string ⟨#[]⟩) w := by
  have h := run_convert_bytes_string (P := Tryd.prog) w 30 9 5 a 0 c (by kernel_rfl) (by kernel_rfl) (by kernel_rfl)
  rw [h]
  cases a <;> rfl
theorem readL_at (l : List UInt8) (o m : Int) (k q : Nat) (hk : (k : Int) = min o l.length) (ho : 0 ≤ o) (hm : 0 ≤ m) (hq : (q : Int) = min m ((l.length - k : Nat) : Int)) : (l.drop o.toNat).take m.toNat = (l.drop k).take q := by
  by_cases h1 : o.toNat ≤ l.length
  · have e : o.toNat = k := by omega
    rw [e]
    by_cases h2 : m.toNat ≤ l.length - k
    · rw [show m.toNat = q by omega]
    · rw [List.take_of_length_le (by rw [List.length_drop]; omega), List.take_of_length_le (by rw [List.length_drop]; omega)]
  · rw [List.drop_of_length_le (by omega), List.drop_of_length_le (by omega), List.take_nil, List.take_nil]

set_option maxHeartbeats 2000000 in
set_option maxRecDepth 100000 in
theorem read1_any (i : Nat) (o m : Int) (b1 b2 b3 : Nat) (old : Value) (h : Inv L ρ n S w) (hi : i < S.nf) (ho : 0 ≤ o) (hm : 0 ≤ m) (ho2 : o ≤ 9223372036854775807) (hm2 : m ≤ 9223372036854775807)
    (h1 : w.cell? ⟨b1, 0, none⟩ = some (.int .i64 o)) (h2 : w.cell? ⟨b2, 0, none⟩ = some (.int .i64 m)) (h3 : w.cell? ⟨b3, 0, none⟩ = some old) (f3 : w.frozen? ⟨b3, 0, none⟩ = false) (hr : ρ b3 = some (.file S.nf)) :
    Calls Tryd.prog 22 #[.pointer (some ⟨L.F i, 0, none⟩), .pointer (some ⟨b1, 0, none⟩), .pointer (some ⟨b2, 0, none⟩), .pointer (some ⟨b3, 0, none⟩)] w (PostQ L ρ w (fun x S' n' w' => x = 0 ∧ S' = S ∧ n' = n ∧ w'.cell? ⟨b3, 0, none⟩ = some (.string (bz (readL S i o m))))) := by
  have hfin : ∀ s : ByteArray, s = bz (readL S i o m) → PostQ L ρ w (fun x S' n' w' => x = 0 ∧ S' = S ∧ n' = n ∧ w'.cell? ⟨b3, 0, none⟩ = some (.string (bz (readL S i o m)))) (.returned (.int .i64 0)) (w.setCell ⟨b3, 0, none⟩ (.string s)) := by
    rintro s rfl
    have hk : ∀ g, g ≠ b3 → (w.setCell ⟨b3, 0, none⟩ (.string (bz (readL S i o m)))).heap[g]? = w.heap[g]? := setCell_keep _ _ _ _
    have hz := size_setCell' w ⟨b3, 0, none⟩ (.string (bz (readL S i o m)))
    exact ⟨0, L, ρ, n, S, rfl, inv_box h b3 hr hk (Nat.le_of_eq hz.symm), ⟨rfl, rfl, rfl, Nat.le_of_eq hz.symm, fun k _ hk' => hk k (fun e => by subst e; rw [hr] at hk'; cases hk'), fun _ _ => rfl, rfl⟩, rfl, rfl, rfl, World.cell?_setCell_same' _ _ _ (by rw [h3]; rfl)⟩
  have HFIN := Lib.hid hfin
  have v0 := blk_cell (h.fil i hi) 0 rfl
  have u1 : decide (o < 0) = false := decide_eq_false (by omega)
  have u2 : decide (m < 0) = false := decide_eq_false (by omega)
  have hcl := h.clen false i hi
  have hcon := h.con false i hi
  rcases bys_cases hcon with ⟨hv, hl⟩ | ⟨g, cap, cur, hv, hg, c1, c2, c3, c4⟩
  · rw [hv] at v0
    have HQ := Lib.hid (hfin ⟨#[]⟩ (by unfold readL; rw [hl, List.drop_nil, List.take_nil]; rfl))
    have m1 : min o (0 : Int) = 0 := by omega
    have m2 : min m (0 : Int) = 0 := by omega
    have hcv := conv_nil none 0
    clear hfin HFIN hcon hl hv h
    go_enter Tryd.func22, Tryd.ntmps22
    go_wp2
    go_ret
    exact HQ.out
  · rw [hv] at v0
    obtain ⟨k, hk⟩ : ∃ k : Nat, (k : Int) = min o ((S.con false i).length : Int) := ⟨(min o ((S.con false i).length : Int)).toNat, by omega⟩
    have hkl : k ≤ (S.con false i).length := by omega
    obtain ⟨q, hq⟩ : ∃ q : Nat, (q : Int) = min m (((S.con false i).length - k : Nat) : Int) := ⟨(min m (((S.con false i).length - k : Nat) : Int)).toNat, by omega⟩
    have hql : k + q ≤ (S.con false i).length := by omega
    have hread := readL_at (S.con false i) o m k q hk ho hm hq
    have hcv := bys_part hcon k q hql (some ⟨g, k, none⟩) (cap - k) ⟨g, cap, hv, rfl⟩
    have HQ := Lib.hid (hfin (bz (((S.con false i).drop k).take q)) (by unfold readL; rw [hread]))
    have hce := conv_nil
    have HE := Lib.hid (show q = 0 → bz (((S.con false i).drop k).take q) = ⟨#[]⟩ by rintro rfl; rw [List.take_zero]; rfl)
    obtain ⟨s, hs⟩ : ∃ s, s = bz (((S.con false i).drop k).take q) := ⟨_, rfl⟩
    rw [← hs] at hcv HQ HE
    generalize (S.con false i).length = len at *
    have m1 : min o (len : Int) = (k : Int) := hk.symm
    have m2 : min m (((len - k : Nat)) : Int) = (q : Int) := hq.symm
    have n1 : (q : Int) ≤ ((len - k : Nat) : Int) := by omega
    have n2 : q ≤ cap - k := by omega
    have n3 : k ≤ cap := by omega
    clear hfin HFIN hcon hv h hread hs hk hq hg c4
    by_cases hkc : k < cap
    · have n4 : ¬ (cap - k = 0) := by omega
      clear hce HE
      go_enter Tryd.func22, Tryd.ntmps22
      go_wp2
      go_ret
      exact HQ.out
    · obtain rfl : q = 0 := by omega
      obtain rfl : len = k := by omega
      obtain rfl : len = cap := by omega
      rw [HE.out rfl] at HQ
      have m3 : min m (0 : Int) = 0 := by omega
      have e5 : len - len = 0 := Nat.sub_self _
      clear hcv m2 HE n1 n2
      go_enter Tryd.func22, Tryd.ntmps22
      go_wp2
      go_ret
      exact HQ.out
theorem cutE_up {S : DS} (h : S.down = false) (x : Int) : cutE S x = x := by unfold cutE; rw [if_neg (by rw [h]; simp)]
theorem read_any (p : ByteArray) (hp : p.size ≤ 1000000) (i : Nat) (o m : Int) (h : Inv L ρ n S w) (hfi : findL (S.dirs false) p.data.toList = some i) (ho : 0 ≤ o) (hm : 0 ≤ m) (ho2 : o ≤ 9223372036854775807) (hm2 : m ≤ 9223372036854775807) (hd : S.down = false) (hdn : (begS S).down = false) (hfl : S.flt (S.ops + 1) = 0) (hn : n + 1 ≤ 100000) :
    Calls Tryd.prog 8 #[.pointer (some ⟨L.b, 0, none⟩), .string p, .int .i64 o, .int .i64 m] w fun e w' => e = .returned (.tuple #[.string (bz (readL S i o m)), .int .i64 0]) ∧ ∃ L' ρ' n', Inv L' ρ' n' (begS S) w' ∧ Step L ρ w L' ρ' w' ∧ n' ≤ n + 1 := by
  have hA := ((h.alloc (.cells #[.int .i64 o] 3)).alloc (.cells #[.int .i64 m] 3)).alloc (.cells #[.string ⟨#[]⟩] 9)
  have hb1 : Below w.heap.size w (((w.alloc (.cells #[.int .i64 o] 3)).alloc (.cells #[.int .i64 m] 3)).alloc (.cells #[.string ⟨#[]⟩] 9)) := (((Below.refl _ _).alloc (Nat.le_refl _) _).alloc (by simp) _).alloc (by simp; omega) _
  have hx : (w.alloc (.cells #[.int .i64 o] 3)).cell? ⟨w.heap.size, 0, none⟩ = some (.int .i64 o) := by simp
  have hx2 := cell_alloc (cell_alloc hx (.cells #[.int .i64 m] 3)) (.cells #[.string ⟨#[]⟩] 9)
  have hy : ((w.alloc (.cells #[.int .i64 o] 3)).alloc (.cells #[.int .i64 m] 3)).cell? ⟨w.heap.size + 1, 0, none⟩ = some (.int .i64 m) := by
    rw [World.cell?_alloc_at _ _ _ _ (by simp)]; rfl
  have hy2 := cell_alloc hy (.cells #[.string ⟨#[]⟩] 9)
  have hz : Blk (((w.alloc (.cells #[.int .i64 o] 3)).alloc (.cells #[.int .i64 m] 3)).alloc (.cells #[.string ⟨#[]⟩] 9)) (w.heap.size + 1 + 1) 9 #[.string ⟨#[]⟩] := blk_at (by simp)
  have r1 := h.old w.heap.size (Nat.le_refl _)
  have r2 := h.old (w.heap.size + 1) (Nat.le_succ _)
  have r3 := h.old (w.heap.size + 1 + 1) (by omega)
  have hlb : L.b < w.heap.size := h.lt (by rw [h.hb]; simp)
  have hI3 := inv_addbox hA (w.heap.size + 1 + 1) (blk_lt hz) r3
  have s1 : updN ρ (w.heap.size + 1 + 1) (some (.file S.nf)) w.heap.size = none := by unfold updN; rw [if_neg (by omega)]; exact r1
  have s2 : updN ρ (w.heap.size + 1 + 1) (some (.file S.nf)) (w.heap.size + 1) = none := by unfold updN; rw [if_neg (by omega)]; exact r2
  have s3 : updN ρ (w.heap.size + 1 + 1) (some (.file S.nf)) (w.heap.size + 1 + 1) = some (.file S.nf) := by simp [updN]
  have hC := callOn_Read1 (.pointer (some ⟨w.heap.size, 0, none⟩)) (.pointer (some ⟨w.heap.size + 1, 0, none⟩)) (.pointer (some ⟨w.heap.size + 1 + 1, 0, none⟩)) p hp hI3 hd hfl hn
    (Q := fun x S' n' w' => x = 0 ∧ S' = begS S ∧ n' ≤ n + 1 ∧ w'.cell? ⟨w.heap.size + 1 + 1, 0, none⟩ = some (.string (bz (readL S i o m))))
    (fun hq => by rw [hfi] at hq; cases hq)
    (fun i' hq w1 hI1 hS1 hO1 => by
      rw [hfi] at hq
      cases hq
      have hz1 : Blk w1 (w.heap.size + 1 + 1) 9 #[.string ⟨#[]⟩] := (hO1 _ (blk_lt hz) (by omega)).trans hz
      refine (read1_any i o m w.heap.size (w.heap.size + 1) (w.heap.size + 1 + 1) (.string ⟨#[]⟩) hI1 (findL_nf h (s := false) hfi) ho hm ho2 hm2 (step_cell hS1 s1 hx2) (step_cell hS1 s2 hy2) (blk_cell hz1 0 rfl) (blk_frozen hz1 0) s3).mono fun e w2 hq2 => ?_
      obtain ⟨x, L', ρ', n', S', he, hI, hS, rfl, rfl, rfl, hc⟩ := hq2
      exact ⟨0, L', ρ', _, _, he, hI, hS, rfl, rfl, Nat.le_refl _, hc⟩)
  have HC := Lib.hid hC; have HB1 := Lib.hid hb1; have HD := Lib.hid hdn
  have HRO := Lib.hid (show ∀ k, k < w.heap.size → updN ρ (w.heap.size + 1 + 1) (some (.file S.nf)) k = ρ k from fun k hk => by unfold updN; rw [if_neg (by omega)])
  clear hC hA hb1 hx hx2 hy hy2 hz h hd hfl hdn r1 r2 r3 s1 s2 s3 hI3
  go_enter Tryd.func8, Tryd.ntmps8
  go_wp2_with (go_at_call 19; (with_reducible refine HC.out.mono ?_); rintro e w1 ⟨x, L', ρ', n', S', rfl, hI, hS, rfl, rfl, hn', hc⟩; rw [cutE_up HD.out]; have HI := Lib.hid hI; have HS := Lib.hid hS; clear hI hS)
  go_ret2
  refine ⟨rfl, L', ρ', n', HI.out, ⟨HS.out.os.trans HB1.out.os, HS.out.tape.trans HB1.out.tape, HS.out.output.trans HB1.out.output, Nat.le_trans HB1.out.size HS.out.size, fun k hk hr => ?_, fun k hk => ?_, HS.out.b⟩, hn'⟩
  · exact (HS.out.blk k (Nat.lt_of_lt_of_le hk HB1.out.size) (by rw [HRO.out k hk]; exact hr)).trans (HB1.out.block k hk)
  · exact (HS.out.ro k (Nat.lt_of_lt_of_le hk HB1.out.size)).trans (HRO.out k hk)
theorem own_trunc {b : Nat} {v : World} (h : Own w b n S v) (p : ByteArray) (hp : p.size ≤ 1000000) (z : Int) (hk : ((S.dirs false).map (·.1)).Nodup) (hd : S.down = false) (hfl : S.flt (S.ops + 1) = 0) (hn : n + 3 ≤ 100000) :
    Calls Tryd.prog 9 #[.pointer (some ⟨b, 0, none⟩), .string p, .int .i64 z] v (OwnQ w b (truncZ S p.data.toList z) (n + 3)) := by
  obtain ⟨L, ρ, hI, rfl, hr⟩ := h.ex
  exact (trunc_any p hp z hI hk hd hfl hn).mono fun _ _ hq => own_out rfl hr h.below hq
theorem own_read {b : Nat} {v : World} (h : Own w b n S v) (p : ByteArray) (hp : p.size ≤ 1000000) (i : Nat) (o m : Int) (hfi : findL (S.dirs false) p.data.toList = some i) (ho : 0 ≤ o) (hm : 0 ≤ m) (ho2 : o ≤ 9223372036854775807) (hm2 : m ≤ 9223372036854775807) (hd : S.down = false) (hdn : (begS S).down = false) (hfl : S.flt (S.ops + 1) = 0) (hn : n + 1 ≤ 100000) :
    Calls Tryd.prog 8 #[.pointer (some ⟨b, 0, none⟩), .string p, .int .i64 o, .int .i64 m] v fun e w' => e = .returned (.tuple #[.string (bz (readL S i o m)), .int .i64 0]) ∧ ∃ m', Own w b m' (begS S) w' ∧ m' ≤ n + 1 := by
  obtain ⟨L, ρ, hI, rfl, hr⟩ := h.ex
  exact (read_any p hp i o m hI hfi ho hm ho2 hm2 hd hdn hfl hn).mono fun _ _ ⟨he, L', ρ', n', hI', hS, hn'⟩ => ⟨he, n', own_step rfl hr h.below hI' hS, hn'⟩
end Go.Proofs.YtcpkbklnlnoonaaDoor
