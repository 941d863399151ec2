/-
  Layer 10, the document's Decode: it returns the same files and error and changes nothing that was there. Condition: at most 1048576 bytes.
  Layer 13, the errors of a recovery: number (errors.As by Go's own text) at nil and at three failures that wrap an error of the api. Condition: the variable errors.errorType holds what the program's text lays there.
-/
import Derived.OwnWalk
import Derived.Test.YthfebcfdhmihcaaGreatDoorMh14
import Derived.Test.YthfebcfdhmihcaaGreatDoorMh9
namespace Go.Proofs.YthfebcfdhmihcaaGreatDoor
open Go.RowKit Go.Extern.Stop Go.Stop Go.Extern

theorem as_nil (t : Addr) (w : World) : Calls Tryz.prog 75 #[.nilIface, .iface 125 (.pointer (some t))] w fun e w' => e = .returned (.bool false) ∧ w' = w := by
  go_enter Tryz.func75, Tryz.ntmps75
  go_wp2
  go_ret
  exact ⟨rfl, rfl⟩

set_option maxRecDepth 100000 in
set_option maxHeartbeats 4000000 in
theorem as_fail3 (g1 g2 g3 : Nat) (s1 s2 s3 : ByteArray) (x : Int) (t : Addr) (old : Value) (w : World) (hg : Glob w) (hb1 : Blk w g1 147 #[.string s1, .iface 145 (.pointer (some ⟨g2, 0, none⟩))]) (hb2 : Blk w g2 147 #[.string s2, .iface 145 (.pointer (some ⟨g3, 0, none⟩))]) (hb3 : Blk w g3 147 #[.string s3, .iface 29 (.int .i64 x)]) (ht0 : w.cell? t = some old) (hf0 : w.frozen? t = false) :
    Calls Tryz.prog 75 #[.iface 145 (.pointer (some ⟨g1, 0, none⟩)), .iface 125 (.pointer (some t))] w fun ev w' => ev = .returned (.bool true) ∧ w' = ((asW w t).alloc (.cells #[.int .i64 x] 29)).setCell t (.int .i64 x) := by
  unfold asW
  have h6 := @run_callFunc_extern Tryz.prog 109 _ (fun args => ReflectliteValue.unpack (args.getD 0 (.tuple #[]))) Tryz.func109 (by kernel_rfl) (by kernel_rfl) (by kernel_rfl) (by kernel_rfl)
  have h7 := @run_callFunc_extern Tryz.prog 110 _ (ReflectliteValue.methodAny (ReflectliteValue.valueError "reflectlite.Value.Type" 0) (fun t _ _ _ => ReflectliteType.toType t)) Tryz.func110 (by kernel_rfl) (by kernel_rfl) (by kernel_rfl) (by kernel_rfl)
  have h8 := @run_callFunc_extern Tryz.prog 111 _ (ReflectliteValue.method (ReflectliteValue.valueError "reflectlite.Value.IsNil" 0) ReflectliteValue.isNil) Tryz.func111 (by kernel_rfl) (by kernel_rfl) (by kernel_rfl) (by kernel_rfl)
  have h27 := @run_callFunc_extern Tryz.prog 233 _ (ReflectliteType.abiMethod fun t => do pure (.int .u8 (← Rtype.kind t))) Tryz.func233 (by kernel_rfl) (by kernel_rfl) (by kernel_rfl) (by kernel_rfl)
  have h37 := @run_callFunc_extern Tryz.prog 243 _ (ReflectliteType.method ReflectliteType.elem) Tryz.func243 (by kernel_rfl) (by kernel_rfl) (by kernel_rfl) (by kernel_rfl)
  have h38 := @run_callFunc_extern Tryz.prog 244 _ (ReflectliteType.relation "Implements" ReflectliteType.implements_) Tryz.func244 (by kernel_rfl) (by kernel_rfl) (by kernel_rfl) (by kernel_rfl)
  have h10 := @run_callFunc_extern Tryz.prog 73 _ ReflectliteType.typeOf Tryz.func73 (by kernel_rfl) (by kernel_rfl) (by kernel_rfl) (by kernel_rfl)
  have h35 := @run_callFunc_extern Tryz.prog 241 _ (ReflectliteType.relation "AssignableTo" ReflectliteType.assignableTo) Tryz.func241 (by kernel_rfl) (by kernel_rfl) (by kernel_rfl) (by kernel_rfl)
  have h11 := @run_callFunc_extern Tryz.prog 141 _ (ReflectliteValue.method (ReflectliteValue.valueError "reflectlite.Value.Elem" 0) ReflectliteValue.elem) Tryz.func141 (by kernel_rfl) (by kernel_rfl) (by kernel_rfl) (by kernel_rfl)
  have h12 := @run_callFunc_extern Tryz.prog 142 _ ReflectliteValue.set Tryz.func142 (by kernel_rfl) (by kernel_rfl) (by kernel_rfl) (by kernel_rfl)
  have tO := typeOf25
  have mA := methodAssignableTo
  have a25 := assignable25
  have tF := typeOfF
  have a72 := assignableF
  have nA := noAsF
  have hU := hasUnwrapF
  have v25 := valueOf25
  have f6 := valueOf76
  have f7 := type76
  have mK := methodKind
  have mE := methodElem
  have mI := methodImplements
  have k27 := kind76
  have k25 := kind25
  have e27 := elem76
  have i25 := implements25
  have n8 := isNil76 ⟨w.heap.size, 0, none⟩ t ((w.alloc (.cells #[.pointer (some t)] 125)).alloc (.cells #[.pointer (some ⟨6, 125, none⟩), .pointer (some ⟨w.heap.size, 0, none⟩), .int .u64 150] 179)) (by simp)
  have hg2 := glob_alloc (glob_alloc hg (.cells #[.pointer (some t)] 125)) (.cells #[.pointer (some ⟨6, 125, none⟩), .pointer (some ⟨w.heap.size, 0, none⟩), .int .u64 150] 179)
  unfold Glob at hg2
  have htl : t.block < w.heap.size := by
    rcases Nat.lt_or_ge t.block w.heap.size with h | h
    · exact h
    · simp [World.cell?, Array.getElem?_eq_none h] at ht0
  have el := elemV76 ⟨w.heap.size, 0, none⟩ t (((w.alloc (.cells #[.pointer (some t)] 125)).alloc (.cells #[.pointer (some ⟨6, 125, none⟩), .pointer (some ⟨w.heap.size, 0, none⟩), .int .u64 150] 179)).alloc (.cells #[.pointer (some ⟨6, 125, none⟩), .pointer (some ⟨w.heap.size, 0, none⟩), .int .u64 150] 179)) (by rw [World.cell?_alloc_lt _ _ ⟨w.heap.size, 0, none⟩ (by simp; omega)]; simp)
  have st := set25 t ⟨w.heap.size + 1 + 1 + 1, 0, none⟩ x old ((((w.alloc (.cells #[.pointer (some t)] 125)).alloc (.cells #[.pointer (some ⟨6, 125, none⟩), .pointer (some ⟨w.heap.size, 0, none⟩), .int .u64 150] 179)).alloc (.cells #[.pointer (some ⟨6, 125, none⟩), .pointer (some ⟨w.heap.size, 0, none⟩), .int .u64 150] 179)).alloc (.cells #[.int .i64 x] 29))
    (by rw [World.cell?_alloc_at _ _ _ _ (by simp)]; rfl)
    (by rw [World.cell?_alloc_lt _ _ t (by simp; omega), World.cell?_alloc_lt _ _ t (by simp; omega), World.cell?_alloc_lt _ _ t (by simp; omega), World.cell?_alloc_lt _ _ t htl]; exact ht0)
    (by rw [World.frozen?_alloc_old _ _ t (by simp; omega), World.frozen?_alloc_old _ _ t (by simp; omega), World.frozen?_alloc_old _ _ t (by simp; omega), World.frozen?_alloc_old _ _ t (Nat.ne_of_lt htl)]; exact hf0)
  have HU1 := Lib.hid (fail_unwrap (blk_alloc (blk_alloc (blk_alloc hb1 (.cells #[.pointer (some t)] 125)) (.cells #[.pointer (some ⟨6, 125, none⟩), .pointer (some ⟨w.heap.size, 0, none⟩), .int .u64 150] 179)) (.cells #[.pointer (some ⟨6, 125, none⟩), .pointer (some ⟨w.heap.size, 0, none⟩), .int .u64 150] 179)))
  have HU2 := Lib.hid (fail_unwrap (blk_alloc (blk_alloc (blk_alloc hb2 (.cells #[.pointer (some t)] 125)) (.cells #[.pointer (some ⟨6, 125, none⟩), .pointer (some ⟨w.heap.size, 0, none⟩), .int .u64 150] 179)) (.cells #[.pointer (some ⟨6, 125, none⟩), .pointer (some ⟨w.heap.size, 0, none⟩), .int .u64 150] 179)))
  have HU3 := Lib.hid (fail_unwrap (blk_alloc (blk_alloc (blk_alloc hb3 (.cells #[.pointer (some t)] 125)) (.cells #[.pointer (some ⟨6, 125, none⟩), .pointer (some ⟨w.heap.size, 0, none⟩), .int .u64 150] 179)) (.cells #[.pointer (some ⟨6, 125, none⟩), .pointer (some ⟨w.heap.size, 0, none⟩), .int .u64 150] 179)))
  clear hg hb1 hb2 hb3
  go_enter Tryz.func75, Tryz.ntmps75
  go_wp2
  refine wp_loop_rounds 4 ?_
  rw [rounds_succ]
  go_wp2_with (go_at_call 239; (with_reducible refine HU1.out.mono ?_); rintro e w' ⟨rfl, rfl⟩)
  rw [rounds_succ]
  go_wp2_with (go_at_call 239; (with_reducible refine HU2.out.mono ?_); rintro e w' ⟨rfl, rfl⟩)
  rw [rounds_succ]
  go_wp2_with (go_at_call 239; (with_reducible refine HU3.out.mono ?_); rintro e w' ⟨rfl, rfl⟩)
  rw [rounds_succ]
  go_wp2
  go_ret
  exact ⟨rfl, rfl⟩

theorem hnumber_nil (w : World) : Calls Tryz.prog 29 #[.nilIface] w fun e w' => e = .returned (.int .i64 0) ∧ Below w.heap.size w w' := by
  have ka := fun t W => as_nil t W
  go_enter Tryz.func29, Tryz.ntmps29
  go_wp2_with (go_at_call 75; (with_reducible refine (ka _ _).mono ?_); rintro e w1 ⟨rfl, rfl⟩)
  go_ret
  exact ⟨rfl, (Below.refl _ _).alloc (Nat.le_refl _) _⟩

theorem hnumber_3 (g1 g2 g3 : Nat) (s1 s2 s3 : ByteArray) (x : Int) (w : World) (hg : Glob w) (hb1 : Blk w g1 147 #[.string s1, .iface 145 (.pointer (some ⟨g2, 0, none⟩))]) (hb2 : Blk w g2 147 #[.string s2, .iface 145 (.pointer (some ⟨g3, 0, none⟩))]) (hb3 : Blk w g3 147 #[.string s3, .iface 29 (.int .i64 x)]) :
    Calls Tryz.prog 29 #[.iface 145 (.pointer (some ⟨g1, 0, none⟩))] w fun e w' => e = .returned (.int .i64 x) ∧ Below w.heap.size w w' := by
  have hgA := glob_alloc hg (.cells #[.int .i64 0] 29)
  have htA : (w.alloc (.cells #[.int .i64 0] 29)).cell? ⟨w.heap.size, 0, none⟩ = some (.int .i64 0) := by simp
  have hfA : (w.alloc (.cells #[.int .i64 0] 29)).frozen? ⟨w.heap.size, 0, none⟩ = false := by simp
  have HC := Lib.hid (as_fail3 g1 g2 g3 s1 s2 s3 x ⟨w.heap.size, 0, none⟩ (.int .i64 0) _ hgA (blk_alloc hb1 _) (blk_alloc hb2 _) (blk_alloc hb3 _) htA hfA)
  have hBA : Blk (w.alloc (.cells #[.int .i64 0] 29)) w.heap.size 29 #[.int .i64 0] := blk_new _ _ _
  have hB4 : ∀ a b c d : Obj, Blk (((((w.alloc (.cells #[.int .i64 0] 29)).alloc a).alloc b).alloc c).alloc d) w.heap.size 29 #[.int .i64 0] := fun a b c d => by
    unfold Blk at *
    rw [heap_alloc_old _ _ (by simp; omega), heap_alloc_old _ _ (by simp; omega), heap_alloc_old _ _ (by simp; omega), heap_alloc_old _ _ (by simp)]
    exact hBA
  have hcl := blk_cell (blk_set (hB4 (.cells #[.pointer (some ⟨w.heap.size, 0, none⟩)] 125) (.cells #[.pointer (some ⟨6, 125, none⟩), .pointer (some ⟨w.heap.size + 1, 0, none⟩), .int .u64 150] 179) (.cells #[.pointer (some ⟨6, 125, none⟩), .pointer (some ⟨w.heap.size + 1, 0, none⟩), .int .u64 150] 179) (.cells #[.int .i64 x] 29)) 0 (.int .i64 x)) 0 rfl
  obtain ⟨W, hW⟩ : ∃ W, W = ((asW (w.alloc (.cells #[.int .i64 0] 29)) ⟨w.heap.size, 0, none⟩).alloc (.cells #[.int .i64 x] 29)).setCell ⟨w.heap.size, 0, none⟩ (.int .i64 x) := ⟨_, rfl⟩
  rw [← hW] at HC
  have hcW : W.cell? ⟨w.heap.size, 0, none⟩ = some (.int .i64 x) := by
    rw [hW]; unfold asW
    have e : (w.alloc (.cells #[.int .i64 0] 29)).heap.size = w.heap.size + 1 := by simp
    rw [e]; exact hcl
  have hbW : Below w.heap.size w W := by
    rw [hW]; unfold asW
    exact (((((Below.refl _ _).alloc (Nat.le_refl _) _).alloc (by simp) _ |>.alloc (by simp; omega) _).alloc (by simp; omega) _).alloc (by simp; omega) _).setCell (p := ⟨w.heap.size, 0, none⟩) (Nat.le_refl _) _
  have HB := Lib.hid hbW
  clear hW hcl hB4 hBA hgA htA hfA hg hbW hb1 hb2 hb3
  go_enter Tryz.func29, Tryz.ntmps29
  go_wp2_with (go_at_call 75; with_reducible refine HC.out.mono ?_; rintro e w' ⟨rfl, rfl⟩)
  go_ret
  exact ⟨rfl, HB.out⟩
end Go.Proofs.YthfebcfdhmihcaaGreatDoor

namespace Go.Proofs.YthfebcfdhmihcaaGreatDoor
open Go.RowKit

def strC (p : List UInt8) : Value := .string (ba p)
theorem sown_below {w w' : World} {base : Nat} {e : TypeId} {size : Nat} {v : Value} {n : Nat} {xs : List Value} (h : w.ownsRow base e size v n xs) (hb : Below w.heap.size w w') : w'.ownsRow base e size v n xs :=
  h.kept (row := none) ⟨hb.os, hb.tape, hb.output, hb.size, fun k hk _ => hb.block k hk⟩ (Classical.em _)
theorem sbelow_own {w W W' : World} {e : TypeId} {size : Nat} {v : Value} {n : Nat} {xs : List Value} (h : Below w.heap.size w W) (ho : W.ownsRow w.heap.size e size v n xs) (hg : W.grownBy W' v.ownBlock) : Below w.heap.size w W' :=
  h.grown hg h.size (fun k e => (ho.lt k e).1)
theorem saddr_add (g j : Nat) : (⟨g, 0, none⟩ : Addr).add j = ⟨g, j, none⟩ := by cases j <;> simp [Addr.add]
theorem strs_of_own {W : World} {base : Nat} {v : Value} {n : Nat} {L : List (List UInt8)} (h : W.ownsRow base 9 1 v n (L.map strC)) : ∃ a cap, v = .slice a n cap ∧ L.length = n ∧ Strs W a L := by
  have hl := h.1
  rw [List.length_map] at hl
  rcases h.2 with ⟨rfl, rfl⟩ | ⟨g, cap, cur, rfl, hb, hg, -⟩
  · exact ⟨none, 0, rfl, by omega, fun j hj => by omega⟩
  · refine ⟨some ⟨g, 0, none⟩, cap, rfl, by omega, fun j hj => ?_⟩
    have := h.cells (g := g) rfl j (strC L[j]) (by rw [List.getElem?_map, List.getElem?_eq_getElem hj]; rfl)
    rw [saddr_add] at this
    exact ⟨g, 0, rfl, (Array.getElem?_eq_some_iff.1 hg).1, by rw [Nat.zero_add]; exact this⟩
theorem snews1 (W : World) (x : Value) (t : TypeId) : ∀ j u, [x][j]? = some u → (W.alloc (.cells #[x] t)).cell? ((⟨W.heap.size, 0, none⟩ : Addr).add j) = some u := by
  intro j u hj
  match j, hj with
  | 0, hj => simp at hj; subst hj; simp [Addr.add]
theorem sone1 (p : List UInt8) : ∀ u ∈ [strC p], u.oneCell' = true := by intro u hu; simp at hu; subst hu; rfl
theorem tkD_bd (s : List UInt8) (a : Int) : -1 ≤ (tkD s a).2 ∧ (tkD s a).2 ≤ s.length := by
  unfold tkD
  split
  · exact ⟨Int.le_refl _, by show (-1 : Int) ≤ _; omega⟩
  · split
    · exact ⟨Int.le_refl _, by show (-1 : Int) ≤ _; omega⟩
    · have := nmL_bd (s.drop a.toNat)
      constructor
      · show (-1 : Int) ≤ a + 4 + _; omega
      · show a + 4 + nmL (s.drop a.toNat) ≤ _; omega
theorem tks_at (s : List UInt8) (k : Nat) (h : 12 ≤ s.length) : -1 ≤ (tks s k).2 ∧ (tks s k).2 ≤ s.length := by
  cases k with
  | zero => exact ⟨by show (-1 : Int) ≤ 12; decide, by show (12 : Int) ≤ _; omega⟩
  | succ k => exact tkD_bd _ _
theorem tks_len (s : List UInt8) (k : Nat) : (tks s k).1.length = k := by
  induction k with
  | zero => rfl
  | succ k ih => rw [tks, List.length_append, ih]; rfl
set_option maxHeartbeats 4000000 in
set_option maxRecDepth 100000 in
theorem r10decode_any (s : ByteArray) (hs : s.size ≤ 1048576) (w : World) :
    Calls Tryz.prog 94 #[.string s] w fun e w' => ∃ a cap, e = .returned (.tuple #[.slice a (decS s.data.toList).1.length cap, .int .i64 (decS s.data.toList).2]) ∧ Strs w' a (decS s.data.toList).1 ∧ Below w.heap.size w w' := by
  have hl : s.data.toList.length = s.size := by simp
  obtain ⟨r, hr⟩ : ∃ r, r = decS s.data.toList := ⟨_, rfl⟩
  rw [← hr]
  rw [← decD_eq] at hr
  unfold decD at hr
  rw [hl] at hr
  by_cases h12 : s.size < 12
  · have t1 : decide ((s.size : Int) < 12) = true := decide_eq_true (by omega)
    rw [if_pos h12] at hr; subst hr
    go_enter Tryz.func94, Tryz.ntmps94
    go_wp2
    go_ret2
    exact ⟨none, 0, rfl, strs_nil _ _, Below.refl _ _⟩
  have t1 : decide ((s.size : Int) < 12) = false := decide_eq_false (by omega)
  have i8 : (8 : Int) ≤ s.size := by omega
  rw [if_neg h12] at hr
  have kn := fun w => rnumber_any (s.extract 8 s.size) (by simp only [ByteArray.size_extract]; omega) w
  rw [sext_drop2] at kn
  have hbd := nmL_bd (s.data.toList.drop 8)
  have hN : (numR (s.data.toList.drop 8)).1 = nmL (s.data.toList.drop 8) := rfl
  rw [hN] at kn
  generalize (numR (s.data.toList.drop 8)).2 = e1 at kn
  unfold flD at hr
  generalize nmL (s.data.toList.drop 8) = n at kn hr hbd
  clear hN
  obtain ⟨n, rfl⟩ : ∃ m : Nat, n = m := ⟨n.toNat, by omega⟩
  rw [Int.toNat_natCast] at hr
  have kt := fun at_ h1 h2 w => r10take_any s hs at_ h1 h2 w
  have HAT := Lib.hid (fun k => tks_at s.data.toList k (by omega))
  have HLN := Lib.hid (fun k => tks_len s.data.toList k)
  have HSZ := Lib.hid hl
  have HSN := Lib.hid (show ∀ k, tks s.data.toList (k + 1) = ((tks s.data.toList k).1 ++ [(tkD s.data.toList (tks s.data.toList k).2).1], (tkD s.data.toList (tks s.data.toList k).2).2) from fun k => rfl)
  have h00 : tks s.data.toList 0 = ([], 12) := rfl
  have hq := fun L => ba_neb (encS L).1 s
  simp only [enc_pair] at hr
  generalize hT : tks s.data.toList = T at hr HAT HLN HSN h00
  generalize hD : tkD s.data.toList = D at kt HSN
  clear hl hT hD
  obtain ⟨i1, hi1, hz1, hs1, hb1⟩ := infoS
  have HR := Lib.hid hr
  clear hr
  go_enter Tryz.func94, Tryz.ntmps94
  go_wp2_with (go_at_call 128; refine (kn _).mono ?_; rintro e w1 ⟨rfl, hb⟩)
  have HB := Lib.hid hb
  clear hb kn
  go_loopw [6, 7, 8] (fun v x i wr => ∃ k : Nat, k ≤ min n 13 ∧ i = .int .i64 k ∧ x = .int .i64 (T k).2 ∧ Hid (wr.ownsRow w.heap.size 9 1 v k ((T k).1.map strC)) ∧ Hid (Below w.heap.size w wr)) (fun _ _ i _ => 13 - (intOf i).toNat)
  case atStart => exact ⟨0, by omega, rfl, by rw [h00], Lib.hid (by rw [h00]; exact ⟨rfl, Or.inl ⟨rfl, rfl⟩⟩), HB⟩
  case round =>
    obtain ⟨k, hk, rfl, rfl, hown, hB⟩ := hrel
    clear HB
    by_cases hlt : k < n ∧ k < 13
    · obtain ⟨hlt1, hlt2⟩ := hlt
      have t2 : decide ((k : Int) < n) = true := decide_eq_true (by omega)
      have t3 : decide ((k : Int) < 13) = true := decide_eq_true (by omega)
      have ha := HAT.out k
      have hz := HSZ.out
      have kk := fun w => kt (T k).2 ha.1 (by omega) w
      have HS := Lib.hid (HSN.out k)
      have hl13 := HLN.out k
      generalize D (T k).2 = y at kk HS
      obtain ⟨p, u⟩ := y
      simp only at kk HS
      clear ha hz kt
      go_wp2_with (first
        | (go_at_call 119; refine (kk _).mono ?_; rintro e w2 ⟨rfl, b2⟩)
        | (at_builtin; refine wpList_append_own _ rfl _ _ 43 rfl w.heap.size 9 i1 (.string ⟨#[]⟩) 1 16 Tryz.underlying43 hi1 hz1 hs1 hb1 rfl (by decide) _ _ _ rfl ((sown_below hown.out b2).alloc _) ⟨w2.heap.size, 0, none⟩ 1 1 [strC p] rfl rfl (snews1 w2 (strC p) _) (sone1 p) (by unfold maxLen; omega) (by omega) (by have h1 := hB.out.size; have h2 := b2.size; simp only [World.size_alloc]; omega) ?_; intro v3 w3 hown3 hgrow3 hnil3))
      have HO3 := Lib.hid (show w3.ownsRow w.heap.size 9 1 v3 (k + 1) ((T (k + 1)).1.map strC) by rw [HS.out, List.map_append]; exact hown3)
      have HB3 := Lib.hid (sbelow_own ((hB.out.trans (b2.mono hB.out.size)).alloc (by have h1 := hB.out.size; have h2 := b2.size; omega) (.cells #[strC p] 9)) ((sown_below hown.out b2).alloc _) hgrow3)
      clear hown3 hgrow3 hnil3
      go_roundw
      case rel => exact ⟨k + 1, by omega, by go_num, by rw [HS.out], HO3, HB3⟩
      case measure => simp [intOf]; omega
    · have hkm : k = min n 13 := by omega
      obtain ⟨a, cap, rfl, hlen, hst⟩ := strs_of_own hown.out
      rw [← hkm] at HR
      have ke := fun w ha => r10encode_any a cap (T k).1 w (by omega) ha
      rw [hlen] at ke
      have hqq := hq (T k).1
      generalize (T k).1 = L at ke hqq HR hst hlen
      generalize encS L = x at ke hqq HR
      obtain ⟨p, q⟩ := x
      simp only at ke hqq HR
      have t2 : (decide ((k : Int) < n) && decide ((k : Int) < 13)) = false := by
        rw [Bool.and_eq_false_iff, decide_eq_false_iff_not, decide_eq_false_iff_not]; omega
      by_cases hkn : (k : Int) < n
      all_goals (first | (have t4 : decide ((k : Int) < n) = true := decide_eq_true hkn; have t5 : decide ((k : Int) < 13) = false := decide_eq_false (by omega)) | (have t4 : decide ((k : Int) < n) = false := decide_eq_false hkn))
      all_goals clear t2 kt HAT HLN HSN hq hkm hlt hk hbd
      · by_cases h0 : q = 0
        · by_cases h1 : p = s.data.toList
          · rw [decide_eq_true h1] at hqq
            have HE := Lib.hid (show r = (L, 0) by rw [HR.out, if_pos ⟨h0, h1⟩])
            subst h0
            clear h1
            go_wp2_with (go_at_call 129; refine (ke _ hst).mono ?_; rintro e w2 ⟨rfl, b2⟩)
            go_ret2
            exact ⟨a, cap, by rw [HE.out, ← hlen]; rfl, by rw [HE.out]; exact strs_below hst b2, hB.out.trans (b2.mono hB.out.size)⟩
          · rw [decide_eq_false h1] at hqq
            have HE := Lib.hid (show r = ([], 4) by rw [HR.out, if_neg (fun h => h1 h.2)])
            subst h0
            clear h1
            go_wp2_with (go_at_call 129; refine (ke _ hst).mono ?_; rintro e w2 ⟨rfl, b2⟩)
            go_ret2
            exact ⟨none, 0, by rw [HE.out]; rfl, by rw [HE.out]; exact strs_nil _ _, hB.out.trans (b2.mono hB.out.size)⟩
        · have t6 : (q != 0) = true := by simpa using h0
          have HE := Lib.hid (show r = ([], 4) by rw [HR.out, if_neg (fun h => h0 h.1)])
          go_wp2_with (go_at_call 129; refine (ke _ hst).mono ?_; rintro e w2 ⟨rfl, b2⟩)
          go_ret2
          exact ⟨none, 0, by rw [HE.out]; rfl, by rw [HE.out]; exact strs_nil _ _, hB.out.trans (b2.mono hB.out.size)⟩
      · by_cases h0 : q = 0
        · by_cases h1 : p = s.data.toList
          · rw [decide_eq_true h1] at hqq
            have HE := Lib.hid (show r = (L, 0) by rw [HR.out, if_pos ⟨h0, h1⟩])
            subst h0
            clear h1
            go_wp2_with (go_at_call 129; refine (ke _ hst).mono ?_; rintro e w2 ⟨rfl, b2⟩)
            go_ret2
            exact ⟨a, cap, by rw [HE.out, ← hlen]; rfl, by rw [HE.out]; exact strs_below hst b2, hB.out.trans (b2.mono hB.out.size)⟩
          · rw [decide_eq_false h1] at hqq
            have HE := Lib.hid (show r = ([], 4) by rw [HR.out, if_neg (fun h => h1 h.2)])
            subst h0
            clear h1
            go_wp2_with (go_at_call 129; refine (ke _ hst).mono ?_; rintro e w2 ⟨rfl, b2⟩)
            go_ret2
            exact ⟨none, 0, by rw [HE.out]; rfl, by rw [HE.out]; exact strs_nil _ _, hB.out.trans (b2.mono hB.out.size)⟩
        · have t6 : (q != 0) = true := by simpa using h0
          have HE := Lib.hid (show r = ([], 4) by rw [HR.out, if_neg (fun h => h0 h.1)])
          go_wp2_with (go_at_call 129; refine (ke _ hst).mono ?_; rintro e w2 ⟨rfl, b2⟩)
          go_ret2
          exact ⟨none, 0, by rw [HE.out]; rfl, by rw [HE.out]; exact strs_nil _ _, hB.out.trans (b2.mono hB.out.size)⟩
end Go.Proofs.YthfebcfdhmihcaaGreatDoor
