/-
  The library's own contract of slices.Sorted(maps.Keys(m)), laid at this seat's numbers: a new slice that holds the map's keys, sorted, and nothing that was there has turned; conditions: those that each theorem states (sizes).
  Layer 7: Names: a new slice that holds the paths that are seen, in order; nothing that was there has turned. Condition: the paths lie in order in the state.
  Layer 7: the helper same: where both disks are alike it returns true and changes nothing that either has. Condition: the sizes that the invariant holds.
  The statement DiskDoes as a walk: it returns true for every room and every steps, and changes nothing that was there.
-/
import Derived.Shelf.SlIter.Nil
import Derived.Shelf.SortM.Plain
import Derived.Shelf.SortM.SortNone
import Derived.Ground.GgzProg
import Derived.Ground.SlgmProg
import Derived.Test.YtkfncnpeockiaaaGreatDoorProg
import Derived.Test.YtkfncnpeockiaaaGreatDoorMg28
namespace Go.Proofs
open Go.RowKit Go.Maps Go.Sort Go.Shelf
open Go.Shelf
def Tryz.keys51_ren : Go.Shelf.Ren := ⟨fun | 7 => 51 | 10 => 76 | n => n, fun | 23 => 54 | 26 => 9 | 3 => 71 | 28 => 89 | 0 => 0 | 27 => 88 | 33 => 91 | 4 => 4 | n => n, fun | n => n⟩
theorem Tryz.keys51 : Go.Proofs.SlLaysZ.n7 Tryz.prog Tryz.keys51_ren := {
  mixed := by kernel_rfl
  f7 := ⟨Tryz.f51.name, by decide, Tryz.func51.trans (congrArg some (by kernel_rfl))⟩
  f10 := ⟨Tryz.f76.name, by decide, Tryz.func76.trans (congrArg some (by kernel_rfl))⟩
  t0 := Tryz.underlying0
  a0 := Tryz.isAgg0
  z0 := Tryz.sizeOf0
  v0 := Tryz.zeroValue0
  t4 := Tryz.underlying4
  a4 := Tryz.isAgg4
  z4 := Tryz.sizeOf4
  v4 := Tryz.zeroValue4
  t23 := Tryz.underlying54
  a23 := Tryz.isAgg54
  z23 := Tryz.sizeOf54
  v23 := Tryz.zeroValue54
  t26 := Tryz.underlying9
  a26 := Tryz.isAgg9
  z26 := Tryz.sizeOf9
  v26 := Tryz.zeroValue9
  t27 := Tryz.underlying88
  a27 := Tryz.isAgg88
  z27 := Tryz.sizeOf88
  v27 := Tryz.zeroValue88
  t28 := Tryz.underlying89
  a28 := Tryz.isAgg89
  z28 := Tryz.sizeOf89
  v28 := Tryz.zeroValue89
  t33 := Tryz.underlying91
  a33 := Tryz.isAgg91
  z33 := Tryz.sizeOf91
  v33 := Tryz.zeroValue91 }
def Tryz.sorted50_ren : Go.Shelf.Ren := ⟨fun | 6 => 50 | 8 => 74 | 9 => 75 | 11 => 86 | 13 => 88 | 12 => 87 | 23 => 103 | 24 => 104 | 14 => 94 | 15 => 95 | 16 => 96 | 17 => 97 | 18 => 98 | 19 => 99 | 20 => 100 | 21 => 101 | 22 => 102 | 25 => 109 | 26 => 110 | 27 => 111 | 28 => 112 | 29 => 113 | 30 => 114 | 31 => 116 | n => n, fun | 26 => 9 | 28 => 89 | 24 => 43 | 0 => 0 | 3 => 3 | 37 => 124 | 48 => 147 | 50 => 84 | 4 => 4 | 40 => 140 | 39 => 139 | 45 => 48 | 5 => 5 | 9 => 9 | 51 => 162 | 55 => 166 | 57 => 168 | 58 => 169 | 33 => 91 | n => n, fun | n => n⟩
theorem Tryz.sorted50 : Go.Proofs.SlLaysZ.n6 Tryz.prog Tryz.sorted50_ren := {
  mixed := by kernel_rfl
  f6 := ⟨Tryz.f50.name, by decide, Tryz.func50.trans (congrArg some (by kernel_rfl))⟩
  f8 := ⟨Tryz.f74.name, by decide, Tryz.func74.trans (congrArg some (by kernel_rfl))⟩
  f11 := ⟨Tryz.f86.name, by decide, Tryz.func86.trans (congrArg some (by kernel_rfl))⟩
  t0 := Tryz.underlying0
  a0 := Tryz.isAgg0
  z0 := Tryz.sizeOf0
  v0 := Tryz.zeroValue0
  t24 := Tryz.underlying43
  a24 := Tryz.isAgg43
  z24 := Tryz.sizeOf43
  v24 := Tryz.zeroValue43
  t26 := Tryz.underlying9
  a26 := Tryz.isAgg9
  z26 := Tryz.sizeOf9
  v26 := Tryz.zeroValue9
  t28 := Tryz.underlying89
  a28 := Tryz.isAgg89
  z28 := Tryz.sizeOf89
  v28 := Tryz.zeroValue89
  i26 := by kernel_rfl }
def Tryz.sort75_ren : Go.Shelf.Ren := ⟨fun | 6 => 75 | 8 => 88 | 9 => 87 | 19 => 103 | 20 => 104 | 21 => 94 | 22 => 95 | 23 => 96 | 24 => 97 | 25 => 98 | 26 => 99 | 27 => 100 | 28 => 101 | 29 => 102 | 36 => 109 | 31 => 110 | 32 => 111 | 37 => 112 | 38 => 113 | 39 => 114 | 41 => 116 | n => n, fun | 27 => 43 | 29 => 9 | 3 => 3 | 32 => 124 | 26 => 43 | 0 => 0 | 44 => 147 | 46 => 84 | 4 => 4 | 36 => 140 | 35 => 139 | 41 => 48 | 5 => 5 | 9 => 9 | 53 => 162 | 57 => 166 | 63 => 168 | 64 => 169 | n => n, fun | n => n⟩
theorem Tryz.sort75 : Go.Proofs.SlLaysM.n6 Tryz.prog Tryz.sort75_ren := {
  mixed := by kernel_rfl
  f6 := ⟨Tryz.f75.name, by decide, Tryz.func75.trans (congrArg some (by kernel_rfl))⟩
  f8 := Tryz.func88.trans (congrArg some (by kernel_rfl))
  f9 := ⟨Tryz.f87.name, by decide, Tryz.func87.trans (congrArg some (by kernel_rfl))⟩
  f19 := Tryz.func103.trans (congrArg some (by kernel_rfl))
  f20 := Tryz.func104.trans (congrArg some (by kernel_rfl))
  f21 := ⟨Tryz.f94.name, by decide, Tryz.func94.trans (congrArg some (by kernel_rfl))⟩
  f22 := ⟨Tryz.f95.name, by decide, Tryz.func95.trans (congrArg some (by kernel_rfl))⟩
  f23 := ⟨Tryz.f96.name, by decide, Tryz.func96.trans (congrArg some (by kernel_rfl))⟩
  f24 := ⟨Tryz.f97.name, by decide, Tryz.func97.trans (congrArg some (by kernel_rfl))⟩
  f25 := ⟨Tryz.f98.name, by decide, Tryz.func98.trans (congrArg some (by kernel_rfl))⟩
  f26 := ⟨Tryz.f99.name, by decide, Tryz.func99.trans (congrArg some (by kernel_rfl))⟩
  f27 := ⟨Tryz.f100.name, by decide, Tryz.func100.trans (congrArg some (by kernel_rfl))⟩
  f28 := ⟨Tryz.f101.name, by decide, Tryz.func101.trans (congrArg some (by kernel_rfl))⟩
  f29 := ⟨Tryz.f102.name, by decide, Tryz.func102.trans (congrArg some (by kernel_rfl))⟩
  f31 := Tryz.func110.trans (congrArg some (by kernel_rfl))
  f32 := Tryz.func111.trans (congrArg some (by kernel_rfl))
  f36 := ⟨Tryz.f109.name, by decide, Tryz.func109.trans (congrArg some (by kernel_rfl))⟩
  f37 := ⟨Tryz.f112.name, by decide, Tryz.func112.trans (congrArg some (by kernel_rfl))⟩
  f38 := ⟨Tryz.f113.name, by decide, Tryz.func113.trans (congrArg some (by kernel_rfl))⟩
  f39 := ⟨Tryz.f114.name, by decide, Tryz.func114.trans (congrArg some (by kernel_rfl))⟩
  f41 := ⟨Tryz.f116.name, by decide, Tryz.func116.trans (congrArg some (by kernel_rfl))⟩
  t0 := Tryz.underlying0
  a0 := Tryz.isAgg0
  z0 := Tryz.sizeOf0
  v0 := Tryz.zeroValue0
  t3 := Tryz.underlying3
  a3 := Tryz.isAgg3
  z3 := Tryz.sizeOf3
  v3 := Tryz.zeroValue3
  t4 := Tryz.underlying4
  a4 := Tryz.isAgg4
  z4 := Tryz.sizeOf4
  v4 := Tryz.zeroValue4
  t5 := Tryz.underlying5
  a5 := Tryz.isAgg5
  z5 := Tryz.sizeOf5
  v5 := Tryz.zeroValue5
  t9 := Tryz.underlying9
  a9 := Tryz.isAgg9
  z9 := Tryz.sizeOf9
  v9 := Tryz.zeroValue9
  t26 := Tryz.underlying43
  a26 := Tryz.isAgg43
  z26 := Tryz.sizeOf43
  v26 := Tryz.zeroValue43
  t27 := Tryz.underlying43
  a27 := Tryz.isAgg43
  z27 := Tryz.sizeOf43
  v27 := Tryz.zeroValue43
  t29 := Tryz.underlying9
  a29 := Tryz.isAgg9
  z29 := Tryz.sizeOf9
  v29 := Tryz.zeroValue9
  t32 := Tryz.underlying124
  a32 := Tryz.isAgg124
  z32 := Tryz.sizeOf124
  v32 := Tryz.zeroValue124
  t35 := Tryz.underlying139
  a35 := Tryz.isAgg139
  z35 := Tryz.sizeOf139
  v35 := Tryz.zeroValue139
  t36 := Tryz.underlying140
  a36 := Tryz.isAgg140
  z36 := Tryz.sizeOf140
  v36 := Tryz.zeroValue140
  t41 := Tryz.underlying48
  a41 := Tryz.isAgg48
  z41 := Tryz.sizeOf48
  v41 := Tryz.zeroValue48
  t44 := Tryz.underlying147
  a44 := Tryz.isAgg147
  z44 := Tryz.sizeOf147
  v44 := Tryz.zeroValue147
  t46 := Tryz.underlying84
  a46 := Tryz.isAgg84
  z46 := Tryz.sizeOf84
  v46 := Tryz.zeroValue84
  t53 := Tryz.underlying162
  a53 := Tryz.isAgg162
  z53 := Tryz.sizeOf162
  v53 := Tryz.zeroValue162
  t57 := Tryz.underlying166
  a57 := Tryz.isAgg166
  z57 := Tryz.sizeOf166
  v57 := Tryz.zeroValue166
  t63 := Tryz.underlying168
  a63 := Tryz.isAgg168
  z63 := Tryz.sizeOf168
  v63 := Tryz.zeroValue168
  t64 := Tryz.underlying169
  a64 := Tryz.isAgg169
  z64 := Tryz.sizeOf169
  v64 := Tryz.zeroValue169 }
theorem Tryz.sorts50 (m : Nat) : AnyZ.SortsIn Tryz.prog Tryz.sorted50_ren Fence.wide m :=
  ⟨fun blk off cap ss W hH hblk hsz => callsIn_wide.2 (AnyM.slices_Sort_string Tryz.sort75 blk off cap ss W hH hblk hsz),
   fun p cap W => callsIn_wide.2 (AnyM.slices_Sort_string_none Tryz.sort75 p cap W)⟩

theorem Tryz.maps_Keys_51 (mb : Option Nat) (W : World) : CallsIn Fence.wide 5 Tryz.prog 51 #[.map mb] W fun e w' => e = .returned (.func (.func 76) #[] #[.pointer (some ⟨W.heap.size, 0, none⟩)]) ∧ w' = W.alloc (.cells #[.map mb] 54) :=
  AnyZ.keys_in Tryz.keys51 Fence.wide 5 trivial rfl mb W

set_option maxHeartbeats 1000000 in
theorem Tryz.slices_Sorted_keys_50_51 {H : Type} (b nn : Nat) (D0 : DataW H) (R : Value → Option (DataW H × List MemPlace)) (w : World) (hown : w.ownsMap Tryz.prog 9 R b nn D0) (hmax : Maps.size D0 ≤ maxLen) (hbytes : Maps.size D0 * 16 ≤ 140737488355328) :
    CallsIn Fence.wide 5 Tryz.prog 50 #[.func (.func 76) #[] #[.pointer (some ⟨w.heap.size, 0, none⟩)]] (w.alloc (.cells #[.map (some b)] 54)) fun e w' => ∃ (v : Value) (ss : List (List UInt8)), e = .returned v ∧ ss.Perm (strKeys D0) ∧
      w'.ownsRow (w.alloc (.cells #[.map (some b)] 54)).heap.size 9 1 v ss.length ((ss.mergeSort (fun x y => decide (x ≤ y))).map encStr) ∧ (v = .slice none 0 0 ↔ ss = []) ∧ Below (w.alloc (.cells #[.map (some b)] 54)).heap.size (w.alloc (.cells #[.map (some b)] 54)) w' := by
  have hbl := hown.lt
  have hseq : SeqGives Fence.wide 2 Tryz.prog 76 #[.pointer (some ⟨w.heap.size, 0, none⟩)] encStr (fun ss => ss.Perm (strKeys D0)) (Maps.size D0) (w.alloc (.cells #[.map (some b)] 54)) :=
    AnyZ.keys_gives (ρ := Tryz.keys51_ren) { Tryz.keys51 with } Fence.wide _ trivial rfl (by omega) w.heap.size b nn D0 _ (by simp) (by simp) (by
      obtain ⟨es, clock, hb, Ft, hs, hD⟩ := hown
      exact ⟨es, clock, (Below.heap_alloc _ _ b hbl).trans hb, Ft, hs, hD⟩)
  exact AnyZ.sorted_in Tryz.sorted50 Fence.wide 5 trivial trivial trivial trivial rfl (by omega) (Tryz.sorts50 _) (enters_of Tryz.func75 (by kernel_rfl) rfl) 76 #[.pointer (some ⟨w.heap.size, 0, none⟩)] trivial (enters_of Tryz.func76 (by kernel_rfl) rfl) _ _ hmax hbytes _ hseq

set_option maxHeartbeats 1000000 in
theorem Tryz.slices_Sorted_keys_nil_50_51 (w : World) :
    CallsIn Fence.wide 5 Tryz.prog 50 #[.func (.func 76) #[] #[.pointer (some ⟨w.heap.size, 0, none⟩)]] (w.alloc (.cells #[.map none] 54)) fun e w' => ∃ (v : Value) (ss : List (List UInt8)), e = .returned v ∧ ss = [] ∧
      w'.ownsRow (w.alloc (.cells #[.map none] 54)).heap.size 9 1 v ss.length ((ss.mergeSort (fun x y => decide (x ≤ y))).map encStr) ∧ (v = .slice none 0 0 ↔ ss = []) ∧ Below (w.alloc (.cells #[.map none] 54)).heap.size (w.alloc (.cells #[.map none] 54)) w' := by
  have hseq : SeqGives Fence.wide 2 Tryz.prog 76 #[.pointer (some ⟨w.heap.size, 0, none⟩)] encStr (fun ss : List (List UInt8) => ss = []) 0 (w.alloc (.cells #[.map none] 54)) :=
    AnyZ.keys_gives_nil (ρ := Tryz.keys51_ren) { Tryz.keys51 with } Fence.wide _ trivial rfl w.heap.size _ (by simp) (by simp)
  exact AnyZ.sorted_in Tryz.sorted50 Fence.wide 5 trivial trivial trivial trivial rfl (by omega) (Tryz.sorts50 _) (enters_of Tryz.func75 (by kernel_rfl) rfl) 76 #[.pointer (some ⟨w.heap.size, 0, none⟩)] trivial (enters_of Tryz.func76 (by kernel_rfl) rfl) _ 0 (Nat.zero_le _) (by omega) _ hseq



end Go.Proofs

namespace Go.Proofs.YtkfncnpeockiaaaGreatDoor
open Go.RowKit Go.Maps Go.Sort Go.Shelf
variable {L : Loc} {ρ : Nat → Option Role} {n : Nat} {S : DS} {w w' : World}

def namesL (S : DS) : List (List UInt8) := (S.dirs false).map (·.1)
/-- A slice of the paths. -/
def NameRow (w : World) (v : Value) (l : List (List UInt8)) : Prop := ∃ a cap, v = .slice a l.length cap ∧ ∀ j (h : j < l.length), ∃ g, a = some ⟨g, 0, none⟩ ∧ g < w.heap.size ∧ w.cell? ⟨g, j, none⟩ = some (.string (bz l[j]))
theorem sorted_is {l ss : List (List UInt8)} (hs : l.Pairwise (· ≤ ·)) (hp : ss.Perm l) : ss.mergeSort (fun x y => decide (x ≤ y)) = l := by
  have h1 := List.pairwise_mergeSort (le := fun x y : List UInt8 => decide (x ≤ y)) (fun a b c h1 h2 => decide_eq_true (List.le_trans (of_decide_eq_true h1) (of_decide_eq_true h2))) (fun a b => by
    rcases List.le_total a b with h | h
    · simp [h]
    · simp [h]) ss
  refine List.Perm.eq_of_pairwise (le := (· ≤ ·)) (fun a b _ _ h1 h2 => List.le_antisymm h1 h2) (h1.imp (fun h => of_decide_eq_true h)) hs ((List.mergeSort_perm _ _).trans hp)
theorem row_names {v : Value} {l : List (List UInt8)} {base m : Nat} (h : w.ownsRow base 9 1 v m (l.map encStr)) : NameRow w v l := by
  have hl := h.1
  rw [List.length_map] at hl
  have hm : m = l.length := by omega
  rcases h.2 with ⟨rfl, rfl⟩ | ⟨g, cap, cur, rfl, hb, hg, -⟩
  · exact ⟨none, 0, by rw [← hm], fun j hj => by omega⟩
  · refine ⟨some ⟨g, 0, none⟩, cap, by rw [hm], fun j hj => ⟨g, rfl, (Array.getElem?_eq_some_iff.1 hg).1, ?_⟩⟩
    have := h.cells (g := g) rfl j (encStr l[j]) (by rw [List.getElem?_map, List.getElem?_eq_getElem hj]; rfl)
    rw [Addr.add_lit, Nat.zero_add] at this
    exact this
theorem sorts_names (h : SortS S) : (namesL S).Pairwise (· ≤ ·) := List.pairwise_map.2 (h false)

set_option maxRecDepth 100000 in
set_option maxHeartbeats 1000000 in
theorem names_any (h : Inv L ρ n S w) (hs : SortS S) :
    Calls Tryz.prog 18 #[.pointer (some ⟨L.b, 0, none⟩)] w fun e w' => ∃ v, e = .returned v ∧ NameRow w' v (namesL S) ∧ Below w.heap.size w w' := by
  have c1 := blk_cell h.blk 1 rfl
  have HS := Lib.hid (sorts_names hs)
  have hb := h.bnd.2.2.1 false
  have hb2 := h.bnd.2.2.2
  have hfK : Fence.wide.fn 51 := trivial
  have hfS : Fence.wide.fn 50 := trivial
  rcases h.mp false with ⟨hm, hl⟩ | ⟨g, hm, hgr, hown⟩
  · rw [hm] at c1
    have HL := Lib.hid (show namesL S = [] by rw [namesL, hl]; rfl)
    clear h hm hl hs hb hb2
    refine (callsIn_wide (n := 6)).1 ?_
    refine callsIn_of_wp Tryz.func18 rfl trivial ?_ rfl
    simp only [Tryz.ntmps18, List.size_toArray, List.length_cons, List.length_nil, Nat.reduceAdd, Nat.reduceSub, Array.replicate_succ, Array.replicate_zero, List.push_toArray, List.append_toArray, List.nil_append, List.cons_append]
    gi_wp2_with (first
      | (gi_at_call 51; refine (Tryz.maps_Keys_51 _ _).mono ?_; rintro e w' ⟨rfl, rfl⟩)
      | (gi_at_call 50; refine (Tryz.slices_Sorted_keys_nil_50_51 w).mono ?_; rintro e w' ⟨v, ss, rfl, hS, hrow, hnil, hb⟩))
    go_ret
    refine ⟨v, rfl, ?_, ((Below.refl _ w).alloc (Nat.le_refl _) _).trans (hb.mono (by simp))⟩
    rw [HL.out]
    rw [hS, List.mergeSort_nil] at hrow
    exact row_names (l := []) hrow
  · rw [hm] at c1
    have hk : strKeys (fileD L.F (S.dirs false)) = namesL S := by
      unfold fileD namesL
      change List.map _ (List.map _ _) = _
      rw [List.map_map]
      rfl
    have hz : Maps.size (fileD L.F (S.dirs false)) = (S.dirs false).length := by simp [fileD, Maps.size]
    have HK := Lib.hid hk
    have hmax : Maps.size (fileD L.F (S.dirs false)) ≤ maxLen := by rw [hz]; unfold maxLen; omega
    have hbytes : Maps.size (fileD L.F (S.dirs false)) * 16 ≤ 140737488355328 := by rw [hz]; omega
    clear h hm hgr hs hb hb2 hk hz
    refine (callsIn_wide (n := 6)).1 ?_
    refine callsIn_of_wp Tryz.func18 rfl trivial ?_ rfl
    simp only [Tryz.ntmps18, List.size_toArray, List.length_cons, List.length_nil, Nat.reduceAdd, Nat.reduceSub, Array.replicate_succ, Array.replicate_zero, List.push_toArray, List.append_toArray, List.nil_append, List.cons_append]
    gi_wp2_with (first
      | (gi_at_call 51; refine (Tryz.maps_Keys_51 _ _).mono ?_; rintro e w' ⟨rfl, rfl⟩)
      | (gi_at_call 50; refine (Tryz.slices_Sorted_keys_50_51 g _ _ _ w hown hmax hbytes).mono ?_; rintro e w' ⟨v, ss, rfl, hS, hrow, hnil, hb⟩))
    go_ret
    refine ⟨v, rfl, ?_, ((Below.refl _ w).alloc (Nat.le_refl _) _).trans (hb.mono (by simp))⟩
    rw [HK.out] at hS
    rw [sorted_is HS.out hS] at hrow
    exact row_names hrow
end Go.Proofs.YtkfncnpeockiaaaGreatDoor

namespace Go.Proofs.YtkfncnpeockiaaaGreatDoor
open Go.RowKit Go.Maps Go.Sort Go.Shelf
variable {X : Nat → Obj → Prop} {w0 v v' : World} {b q n k : Nat} {S : DS} {R : RS}

/-- The cells of a slice of paths. -/
def NR (w : World) (a : Option Addr) (l : List (List UInt8)) : Prop := ∀ j (h : j < l.length), ∃ g, a = some ⟨g, 0, none⟩ ∧ g < w.heap.size ∧ w.cell? ⟨g, j, none⟩ = some (.string (bz l[j]))
theorem nr_below {w w' : World} {a : Option Addr} {l : List (List UInt8)} (h : NR w a l) (hb : Below w.heap.size w w') : NR w' a l := by
  intro j hj
  obtain ⟨g, e, hlt, hc⟩ := h j hj
  exact ⟨g, e, Nat.lt_of_lt_of_le hlt hb.size, by rw [hb.cell hlt]; exact hc⟩
theorem jm_names (h : JM X w0 b q n S R v) (hs : SortS S) :
    Calls Tryz.prog 18 #[.pointer (some ⟨b, 0, none⟩)] v fun e v' => ∃ a cap, e = .returned (.slice a (namesL S).length cap) ∧ NR v' a (namesL S) ∧ Below v.heap.size v v' := by
  obtain ⟨L, ρ, Q, rfl, e2, hI, hQ, hr, ha, hX⟩ := h.ex
  refine (names_any hI hs).mono fun e v' he => ?_
  obtain ⟨x, rfl, ⟨a, cap, rfl, hc⟩, hb⟩ := he
  exact ⟨a, cap, rfl, hc, hb⟩
theorem flat_names (l : List (List UInt8 × Nat)) : l.flatMap nameC = (l.map (·.1)).map encStr := by
  induction l with
  | nil => rfl
  | cons p t ih => rw [List.flatMap_cons, ih]; rfl
theorem jq_names (h : JM X w0 b q n S R v) (hA : JA k S R) (hk : k ≤ 2000) :
    Calls Tryz.prog 36 #[.pointer (some ⟨q, 0, none⟩)] v fun e v' => ∃ a cap, e = .returned (.slice a (namesL S).length cap) ∧ NR v' a (namesL S) ∧ Below v.heap.size v v' := by
  obtain ⟨L, ρ, Q, e1, rfl, hI, hQ, hr, ha, hX⟩ := h.ex
  refine (qnames_any hQ (by have := hA.bk.sen; omega)).mono fun e v' he => ?_
  obtain ⟨x, rfl, hrow, hb⟩ := he
  rw [flat_names, hA.sim.1.seen] at hrow
  obtain ⟨a, cap, rfl, hc⟩ := row_names hrow
  exact ⟨a, cap, rfl, hc, hb⟩
theorem sim_qcont (h : Sim S R) (p : List UInt8) : qcont R p = (contZ S p, hasZ S p) := by
  unfold qcont contZ hasZ
  rw [h.seen]
  cases hf : findL (S.dirs false) p with
  | none => rfl
  | some i =>
    have := (sim_con h (by rw [h.seen]; exact hf)).1
    show (R.seenB.getD i [], true) = (S.con false i, true)
    rw [this]
theorem jq_content (h : JM X w0 b q n S R v) (hA : JA k S R) (hk : k ≤ 2000) (p : ByteArray) :
    Calls Tryz.prog 37 #[.pointer (some ⟨q, 0, none⟩), .string p] v fun e v' => e = .returned (.tuple #[.string (bz (contZ S p.data.toList)), .bool (hasZ S p.data.toList)]) ∧ Same v v' := by
  obtain ⟨L, ρ, Q, e1, rfl, hI, hQ, hr, ha, hX⟩ := h.ex
  have := qcontent_any hQ (by have := hA.bk.sen; omega) (by have := hA.bk.sB; omega) hA.bk.seenK p
  rw [sim_qcont hA.sim.1] at this
  exact this
theorem jm_size (h : JM X w0 b q n S R v) (p : ByteArray) (hp : p.size ≤ 1000000) :
    Calls Tryz.prog 21 #[.pointer (some ⟨b, 0, none⟩), .string p] v fun e v' => e = .returned (.tuple #[.int .i64 (contZ S p.data.toList).length, .bool (hasZ S p.data.toList)]) ∧ v' = v := by
  obtain ⟨L, ρ, Q, rfl, e2, hI, hQ, hr, ha, hX⟩ := h.ex
  exact size_any hI p hp
theorem path_len {p : List UInt8} (h : pathB p = true) : p.length ≤ 40 ∧ p ≠ [63] := by
  unfold pathB at h
  rw [Bool.and_eq_true, Bool.and_eq_true] at h
  refine ⟨of_decide_eq_true h.1.2, fun e => ?_⟩
  subst e
  exact absurd h.2 (by decide)
theorem names_mem {j : Nat} (hj : j < (namesL S).length) (hP : PathS S) : hasZ S (namesL S)[j] = true ∧ (namesL S)[j].length ≤ 40 := by
  have hm : (namesL S)[j] ∈ namesL S := List.getElem_mem hj
  obtain ⟨p, hp, e⟩ := List.mem_map.1 hm
  rw [← e]
  exact ⟨mem_findL hp, (path_len (hP.d false p hp)).1⟩
theorem no_quest (hP : PathS S) : hasZ S [63] = false := by
  unfold hasZ
  cases hf : findL (S.dirs false) [63] with
  | none => rfl
  | some i => exact absurd rfl (path_len (hP.d false _ (findL_mem hf))).2
theorem same_below (h : Same v v') : Below v.heap.size v v' := ⟨h.os, h.tape, h.output, by rw [h.heap]; exact Nat.le_refl _, fun k _ => by rw [h.heap]⟩

set_option maxHeartbeats 4000000 in
set_option maxRecDepth 100000 in
theorem dsame_any (h : JM X w0 b q n S R v) (hA : JA k S R) (hk : k ≤ 2000) (hs : SortS S) (hP : PathS S) :
    Calls Tryz.prog 11 #[.pointer (some ⟨b, 0, none⟩), .pointer (some ⟨q, 0, none⟩)] v fun e v' => e = .returned (.bool true) ∧ JM X w0 b q n S R v' := by
  have HN := Lib.hid (fun (v1 : World) (h : JM X w0 b q n S R v1) => jm_names h hs)
  have HQ := Lib.hid (fun (v1 : World) (h : JM X w0 b q n S R v1) => jq_names h hA hk)
  have HC := Lib.hid (fun (v1 : World) (h : JM X w0 b q n S R v1) (p : ByteArray) => jq_content h hA hk p)
  have hcnt : R.count = S.ops := hA.sim.1.cnt
  have hoff : R.off = S.down := hA.sim.2
  have HJ := Lib.hid h
  have HM := Lib.hid (show ∀ l, l = namesL S → ∀ j (hj : j < l.length), hasZ S l[j] = true ∧ l[j].length ≤ 40 from fun l e j hj => by subst e; exact names_mem hj hP)
  have HW := Lib.hid (no_quest hP)
  have hnl : (namesL S).length ≤ 2000 := by
    have h1 := hA.bk.sen
    rw [hA.sim.1.seen] at h1
    rw [namesL, List.length_map]; omega
  obtain ⟨l, hl⟩ : ∃ l, l = namesL S := ⟨_, rfl⟩
  rw [← hl] at HN HQ hnl
  have HML := Lib.hid (HM.out l hl)
  obtain ⟨m, hm⟩ : ∃ m, m = l.length := ⟨_, rfl⟩
  have HLN := Lib.hid hm
  rw [← hm] at HN HQ hnl
  clear hl hm h hA hs hP HM
  go_enter Tryz.func11, Tryz.ntmps11
  go_upto_region 2 with (first
    | (go_at_call 18; refine (HN.out _ HJ.out).mono ?_; rintro e w1 ⟨a, cap, rfl, ha, hb1⟩; have HJ1 := Lib.hid (jm_below HJ.out hb1))
    | (go_at_call 36; refine (HQ.out _ HJ1.out).mono ?_; rintro e w2 ⟨a2, cap2, rfl, ha2, hb2⟩; have HJ2 := Lib.hid (jm_below HJ1.out hb2)))
  obtain ⟨-, -, z6, z9⟩ := jq_seven HJ2.out
  have cA : ∀ i, Calls Tryz.prog 26 #[.pointer (some ⟨b, 0, none⟩)] (w2.drewN i) fun e w' => e = .returned (.int .i64 R.count) ∧ w' = w2.drewN i := fun i => by rw [hcnt]; exact jm_ops (jm_below HJ2.out (below_drewN (Below.refl _ _) i))
  have cB : ∀ i, Calls Tryz.prog 19 #[.pointer (some ⟨b, 0, none⟩)] (w2.drewN i) fun e w' => e = .returned (.bool R.off) ∧ w' = w2.drewN i := fun i => by rw [hoff]; exact jm_down (jm_below HJ2.out (below_drewN (Below.refl _ _) i))
  have CA := Lib.hid cA; have CB := Lib.hid cB; clear cA cB hcnt hoff
  go_quiet (first
    | ((go_at_call 26; with_reducible exact Calls.quiet_of_same (CA.out _)))
    | ((go_at_call 19; with_reducible exact Calls.quiet_of_same (CB.out _))))
  clear CA CB z6 z9
  generalize hWq : w2.drewN _ = W2
  have hbq : Below w2.heap.size w2 W2 := by rw [← hWq]; exact below_drewN (Below.refl _ _) _
  have HJW := Lib.hid (jm_below HJ2.out hbq)
  have HA1 := Lib.hid (nr_below (nr_below ha hb2) hbq)
  have HA2 := Lib.hid (nr_below ha2 hbq)
  clear hWq hbq ha ha2 hb1 hb2
  go_wp2
  go_loopw [7] (fun i wr => ∃ j : Nat, j ≤ m ∧ i = .int .i64 j ∧ Hid (JM X w0 b q n S R wr) ∧ Hid (NR wr a l) ∧ Hid (NR wr a2 l)) (fun i _ => m - (intOf i).toNat)
  case atStart => exact ⟨0, by omega, rfl, HJW, HA1, HA2⟩
  case round =>
    clear HJW HA1 HA2
    obtain ⟨j, hj, rfl, hJr, hN1, hN2⟩ := hrel
    by_cases hlt : j < m
    · have hlt' : j < l.length := by rw [← HLN.out]; exact hlt
      obtain ⟨g, rfl, hgw, c0⟩ := hN1.out j hlt'
      obtain ⟨g2, rfl, hgw2, d0⟩ := hN2.out j hlt'
      obtain ⟨hh, hl40⟩ := HML.out j hlt'
      obtain ⟨p, hp⟩ : ∃ p, p = l[j]'hlt' := ⟨_, rfl⟩
      rw [← hp] at c0 d0 hh hl40
      clear hp hlt'
      have hps : (bz p).size ≤ 1000000 := by rw [bz_size]; omega
      have KC := Lib.hid (fun (v1 : World) (h : JM X w0 b q n S R v1) => jm_content h (bz p) hps)
      have KS := Lib.hid (fun (v1 : World) (h : JM X w0 b q n S R v1) => jm_size h (bz p) hps)
      have KQ := Lib.hid (fun (v1 : World) (h : JM X w0 b q n S R v1) => HC.out v1 h (bz p))
      rw [bz_list, hh] at KC KS KQ
      have hcs := bz_size (contZ S p)
      generalize bz (contZ S p) = cb at KC KQ hcs
      generalize (contZ S p).length = cl at KS hcs
      generalize bz p = pb at c0 d0 KC KS KQ
      clear hh hl40 hps
      go_upto_region 10 with (first
        | (go_at_call 16; refine (KC.out _ hJr.out).mono ?_; rintro e w3 ⟨rfl, rfl⟩)
        | (go_at_call 37; refine (KQ.out _ hJr.out).mono ?_; rintro e w4 ⟨rfl, hsm⟩; have hb4 := same_below hsm; have c4 := (hb4.cell (p := ⟨g, j, none⟩) hgw).trans c0; have d4 := (hb4.cell (p := ⟨g2, j, none⟩) hgw2).trans d0; have HJ4 := Lib.hid (jm_below hJr.out hb4); have HN14 := Lib.hid (nr_below hN1.out hb4); have HN24 := Lib.hid (nr_below hN2.out hb4); clear hsm hb4)
        | (go_at_call 21; refine (KS.out _ HJ4.out).mono ?_; rintro e w5 ⟨rfl, rfl⟩))
      go_quiet (fail)
      clear c4 d4 KC KS KQ c0 d0
      generalize hWq : World.drewN _ _ = W5
      have hbq : Below w5.heap.size w5 W5 := by rw [← hWq]; exact below_drewN (Below.refl _ _) _
      have HJ5 := Lib.hid (jm_below HJ4.out hbq)
      have HN15 := Lib.hid (nr_below HN14.out hbq)
      have HN25 := Lib.hid (nr_below HN24.out hbq)
      clear hWq hbq
      go_wp2
      go_roundw
      case rel => exact ⟨j + 1, by omega, by go_num, HJ5, HN15, HN25⟩
      case measure => simp [intOf]; omega
    · have KC := Lib.hid (fun (v1 : World) (h : JM X w0 b q n S R v1) => jm_content h ⟨#[63]⟩ (by decide))
      rw [show (⟨#[63]⟩ : ByteArray).data.toList = [63] from rfl, HW.out] at KC
      obtain rfl : j = m := by omega
      go_wp2_with (go_at_call 16; refine (KC.out _ hJr.out).mono ?_; rintro e w3 ⟨rfl, rfl⟩)
      go_ret
      exact ⟨rfl, hJr.out⟩
end Go.Proofs.YtkfncnpeockiaaaGreatDoor

namespace Go.Proofs.YtkfncnpeockiaaaGreatDoor
open Go.RowKit
variable {X : Nat → Obj → Prop} {w0 v v' : World} {b q n k : Nat} {S : DS} {R : RS}

/-- Both disks behind i steps. -/
structure JB (w0 : World) (b q i : Nat) (S : DS) (R : RS) (v : World) : Prop where
  mem : ∃ n, n ≤ 504 * i ∧ JM (fun _ _ => False) w0 b q n S R v
  ja : JA (4 * i) S R
  srt : SortS S
  pth : PathS S
theorem ja_new (r : Int) : JA 0 (newS r) (newRS r) where
  sim := ⟨{ seen := rfl, sure := rfl, nB := rfl, nC := rfl, vis := fun p hp => (by cases hp), dur := fun i hi => absurd hi (Nat.not_lt_zero i), wts := rfl, room := rfl, cnt := rfl, tel := fun k => rfl, cra := fun k hk => by show ((k : Int) = 0) ↔ ((k : Int) = 0); exact Iff.rfl, dok := fun s p hp => (by cases hp), pok := fun c hc => (by cases hc) }, rfl⟩
  keys := fun s => List.nodup_nil
  bk := { cnt := Nat.le_refl _, tel := Nat.zero_le _, sw := Nat.le_refl _, sen := Nat.le_refl _, sB := Nat.le_refl _, lenB := rfl, seenK := fun p hp => (by cases hp), sureK := fun p hp => (by cases hp), wK := fun c hc => (by cases hc), bK := fun s hs => (by cases hs), cK := fun s hs => (by cases hs) }
/-- The two new disks. -/
theorem jb_new {w1 w2 : World} (r : Int) (hI : Inv (newL v.heap.size) (newR v.heap.size) 0 (newS r) w1) (h1 : Below v.heap.size v w1) (hQ : QInv (newQL w1.heap.size) (newRS r) w2) (h2 : Below w1.heap.size w1 w2) (hG : Glob v) (hp : 0 < v.heap.size) : JB v v.heap.size w1.heap.size 0 (newS r) (newRS r) w2 where
  mem := ⟨0, Nat.le_refl _, ⟨⟨newL v.heap.size, newR v.heap.size, newQL w1.heap.size, rfl, rfl, hI.below h2, hQ, fun g hg => by unfold newR; rw [if_neg (by omega)], fun g hg => by
      have e : g = w1.heap.size := by
        rcases hg with h | ⟨i, -, hg⟩
        · exact h
        · cases hg
      subst e
      have hl : v.heap.size < w1.heap.size := hI.lt (by simp [newR])
      exact ⟨by unfold newR; rw [if_neg (by omega)], by omega⟩, fun g o hx => hx.elim⟩, h1.trans (h2.mono h1.size), glob_block hG ((h1.trans (h2.mono h1.size)).block 0 hp), hp⟩⟩
  ja := ja_new r
  srt := fun s => List.Pairwise.nil
  pth := ⟨fun s p hp => (by cases hp), fun c hc => (by cases hc)⟩
/-- A step of both. -/
theorem jb_do {i : Nat} (h : JB w0 b q i S R v) (hi : i ≤ 122) (o : OpL) (hO : OpOk o) (hG : OpG o) (hI : Ints w0 o.cha o.ch) :
    Calls Tryz.prog 10 #[.pointer (some ⟨b, 0, none⟩), .pointer (some ⟨q, 0, none⟩), .agg (opC o.kind o.name o.n o.m o.data o.cha o.ch.length o.chc)] v fun e v' => e = .returned (.bool true) ∧ JB w0 b q (i + 1) (stepS o S) (stepR o R) v' := by
  obtain ⟨n, hn, hJ⟩ := h.mem
  refine (ddo_any hJ h.ja (by omega) o hO hG hI (by omega)).mono fun e v' he => ?_
  obtain ⟨he, m, hm, hJ'⟩ := he
  exact ⟨he, ⟨⟨m, by omega, hJ'⟩, ja_step h.ja o hG, sorts_step h.srt o, paths_step h.pth o⟩⟩
theorem jb_same {i : Nat} (h : JB w0 b q i S R v) (hi : i ≤ 123) :
    Calls Tryz.prog 11 #[.pointer (some ⟨b, 0, none⟩), .pointer (some ⟨q, 0, none⟩)] v fun e v' => e = .returned (.bool true) ∧ JB w0 b q i S R v' := by
  obtain ⟨n, hn, hJ⟩ := h.mem
  refine (dsame_any hJ h.ja (by omega) h.srt h.pth).mono fun e v' he => ?_
  exact ⟨he.1, ⟨⟨n, hn, he.2⟩, h.ja, h.srt, h.pth⟩⟩
theorem jb_back {i : Nat} (h : JB w0 b q i S R v) : Below w0.heap.size w0 v := by
  obtain ⟨n, hn, hJ⟩ := h.mem
  exact hJ.below

set_option maxHeartbeats 4000000 in
set_option maxRecDepth 100000 in
theorem does_any (r : Int) (a : Option Addr) (cap : Nat) (l : List OpL) (w : World) (hl : l.length ≤ 9223372036854775807) (ha : Ops w a l) (hG : Glob w) :
    Calls Tryz.prog 3 #[.int .i64 r, .slice a l.length cap] w fun e w' => e = .returned (.bool true) ∧ Below w.heap.size w w' := by
  have HA := Lib.hid ha
  have HG := Lib.hid hG
  obtain ⟨len, hlen⟩ : ∃ len, len = l.length := ⟨_, rfl⟩
  have HL := Lib.hid hlen
  have KG := Lib.hid (fun (v : World) (h : Ops v a l) => dgreat_any a cap l v hl h)
  rw [← hlen] at KG hl ⊢
  clear ha hG hlen
  go_enter Tryz.func3, Tryz.ntmps3
  go_upto_region 5 with (first
    | (go_at_call 6; refine (works7_any _).mono ?_; rintro e w1 ⟨rfl, b1⟩)
    | (go_at_call 7; refine (KG.out _ (ops_below HA.out b1)).mono ?_; rintro e w2 ⟨g, rfl, hg, b2⟩; cases g))
  all_goals try (go_ret; exact ⟨rfl, b1.trans (b2.mono b1.size)⟩)
  have hgr : GrtOk l := hg trivial
  have hG2 : Glob w2 := glob_block (glob_block HG.out (b1.block 0 (World.block_lt_of_cell? w _ HG.out))) (b2.block 0 (Nat.lt_of_lt_of_le (World.block_lt_of_cell? w _ HG.out) b1.size))
  have hp2 : 0 < w2.heap.size := World.block_lt_of_cell? w2 _ hG2
  have HG2 := Lib.hid hG2
  have HGR := Lib.hid hgr
  have HB := Lib.hid (b1.trans (b2.mono b1.size))
  have HA2 := Lib.hid (ops_below HA.out HB.out)
  clear hg hgr hG2 b1 b2 KG HG HA
  go_wp2_with (first
    | (go_at_call 8; refine (new_any r _).mono ?_; rintro e w3 ⟨rfl, hI, hb3⟩)
    | (go_at_call 9; refine (qnew_any r _).mono ?_; rintro e w4 ⟨rfl, hQ, hb4⟩))
  have HJ := Lib.hid (jb_new r hI hb3 hQ hb4 HG2.out hp2)
  obtain ⟨b, hb⟩ : ∃ b, b = w2.heap.size := ⟨_, rfl⟩
  obtain ⟨q, hq⟩ : ∃ q, q = w3.heap.size := ⟨_, rfl⟩
  have HW2 := Lib.hid (show ∀ j (h : j < l.length), Ints w2 l[j].cha l[j].ch from fun j h => (HA2.out j h).2.1)
  have HA3 := Lib.hid (fun (wr : World) (h : Below w2.heap.size w2 wr) => ops_below HA2.out h)
  rw [← hb, ← hq] at HJ
  rw [← hb, ← hq]
  have HBB := Lib.hid (show ∀ wr, Below w2.heap.size w2 wr → Below w.heap.size w wr from fun wr h => HB.out.trans (h.mono HB.out.size))
  clear hI hQ hb3 hb4 hb hq hp2
  go_loopw [7] (fun iv wr => ∃ (i : Nat) (S : DS) (R : RS), i ≤ len ∧ iv = .int .i64 i ∧ Hid (JB w2 b q i S R wr)) (fun iv _ => len - (intOf iv).toNat)
  case atStart => exact ⟨0, _, _, by omega, rfl, HJ⟩
  case round =>
    clear HJ
    obtain ⟨i, S, R, hi, rfl, hJ⟩ := hrel
    by_cases hlt : i < len
    · have hlt' : i < l.length := by rw [← HL.out]; exact hlt
      have h61 := HGR.out.1
      have hi122 : i ≤ 60 := by omega
      obtain ⟨hO, -, g, off, rfl, hgw, c0, c1, c2, c3, c4, c5⟩ := HA3.out wr (jb_back hJ.out) i hlt'
      have hOG := HGR.out.2 _ (List.getElem_mem hlt')
      have hIN := HW2.out i hlt'
      obtain ⟨o, ho⟩ : ∃ o, o = l[i]'hlt' := ⟨_, rfl⟩
      rw [← ho] at c0 c1 c2 c3 c4 c5 hO hOG hIN
      have KD := Lib.hid (jb_do hJ.out (by omega) o hO hOG hIN)
      clear ho hlt' hO hOG hIN h61
      obtain ⟨kd, nm, N, M, dt, ch, ca, cc⟩ := o
      simp only at c0 c1 c2 c3 c4 c5 KD
      generalize stepS _ S = S2 at KD
      generalize stepR _ R = R2 at KD
      have i1 : (i : Int) < len := by omega
      go_wp2_with (first
        | (go_at_call 10; refine KD.out.mono ?_; rintro e w5 ⟨rfl, hJ5⟩)
        | (go_at_call 11; refine (jb_same hJ5 (by omega)).mono ?_; rintro e w6 ⟨rfl, hJ6⟩; have HJ6 := Lib.hid hJ6; clear hJ5 hJ6))
      go_roundw
      case rel => exact ⟨i + 1, S2, R2, by omega, by go_num, HJ6⟩
      case measure => simp [intOf]; omega
    · go_wp2
      go_ret
      exact ⟨rfl, HBB.out _ (jb_back hJ.out)⟩
end Go.Proofs.YtkfncnpeockiaaaGreatDoor
