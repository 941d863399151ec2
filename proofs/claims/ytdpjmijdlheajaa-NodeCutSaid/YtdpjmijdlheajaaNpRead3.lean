/-
  Layer 16, the program's reader (annexe/node): pages and cells: the lists that it reads, and what it leaves; each changes the reader alone. Condition: at most 100000 bytes; at most 65536 are asked for.
-/
import Derived.Test.YtdpjmijdlheajaaNpRead2
import Derived.Test.YtdpjmijdlheajaaNdRows
import Derived.OwnWalk
namespace Go.Proofs.Ytdpjmijdlheajaa
open Go.RowKit

def slenV : Value → Nat
  | .slice _ n _ => n
  | _ => 0
theorem own_gby {w w' : World} {base b : Nat} {e : TypeId} {size n : Nat} {v : Value} {xs : List Value} (h : w.ownsRow base e size v n xs) (hg : w.grownBy w' (some b)) (hb : b < base) : w'.ownsRow base e size v n xs :=
  h.kept hg (by
    cases hv : v.ownBlock with
    | none => exact .inl rfl
    | some g =>
      refine .inr fun e => ?_
      have := (h.lt g hv).1
      have := Option.some.inj e
      omega)
theorem nown_below {w w' : World} {base : Nat} {e : TypeId} {size : Nat} {v : Value} {n : Nat} {xs : List Value} (h : w.ownsRow base e size v n xs) (hb : Below w.heap.size w w') : w'.ownsRow base e size v n xs :=
  h.kept (row := none) ⟨hb.os, hb.tape, hb.output, hb.size, fun k hk _ => hb.block k hk⟩ (Classical.em _)
/-- What an append onto an own row beyond base leaves alone. -/
theorem gby_own {w W W' : World} {b : Nat} {e : TypeId} {size n : Nat} {v : Value} {xs : List Value} (h : w.grownBy W (some b)) (ho : W.ownsRow w.heap.size e size v n xs) (hg : W.grownBy W' v.ownBlock) : w.grownBy W' (some b) :=
  ⟨hg.os.trans h.os, hg.tape.trans h.tape, hg.output.trans h.output, Nat.le_trans h.size hg.size, fun k hk hr => (hg.block k (Nat.lt_of_lt_of_le hk h.size) (fun e => by have := (ho.lt k e.symm).1; omega)).trans (h.block k hk hr)⟩
theorem r16_own {w W W' : World} {b : Nat} {l : List UInt8} {e : TypeId} {size n : Nat} {v : Value} {xs : List Value} (h : R16 W b l) (hb : b < w.heap.size) (ho : W.ownsRow w.heap.size e size v n xs) (hg : W.grownBy W' v.ownBlock) : R16 W' b l :=
  (hg.block b (blk_lt h) (fun e => by have := (ho.lt b e.symm).1; omega)).trans h
theorem ninfoInt : (Try.prog.info? 3).map (fun i => (i.zero, i.size, i.bytes)) = some (some (.int .i64 0), 1, 8) := by kernel_rfl
theorem ninfoCell : (Try.prog.info? 51).map (fun i => (i.zero, i.size, i.bytes)) = some (some (.agg #[.string ⟨#[]⟩, .int .i64 0, .string ⟨#[]⟩, .int .i64 0]), 4, 48) := by kernel_rfl
theorem info_three {t : TypeId} {z : Value} {s y : Nat} (h : (Try.prog.info? t).map (fun i => (i.zero, i.size, i.bytes)) = some (some z, s, y)) : ∃ i, Try.prog.info? t = some i ∧ i.zero = some z ∧ i.size = s ∧ i.bytes = y := by
  obtain ⟨i, hi, hz⟩ := Option.map_eq_some_iff.1 h
  simp only [Prod.mk.injEq] at hz
  exact ⟨i, hi, hz⟩
theorem nnews1 (W : World) (x : Value) (t : TypeId) : ∀ j u, [x][j]? = some u → (W.alloc (.cells #[x] t)).cell? ((⟨W.heap.size, 0, none⟩ : Addr).add j) = some u := by
  intro j u hj
  match j, hj with
  | 0, hj => simp at hj; subst hj; simp [Addr.add]
theorem nnews4 (W : World) (c : Cel) (t : TypeId) : ∀ j u, (celC c)[j]? = some u → (W.alloc (.cells #[.string (nb c.key), .int .i64 c.len, .string (nb c.loc), .int .i64 c.ov] t)).cell? ((⟨W.heap.size, 0, none⟩ : Addr).add j) = some u := by
  intro j u hj
  have h := blk_new W t #[.string (nb c.key), .int .i64 c.len, .string (nb c.loc), .int .i64 c.ov]
  rw [nadd_plain]
  match j, hj with
  | 0, hj => simp [celC] at hj; subst hj; exact blk_cell h 0 rfl
  | 1, hj => simp [celC] at hj; subst hj; exact blk_cell h 1 rfl
  | 2, hj => simp [celC] at hj; subst hj; exact blk_cell h 2 rfl
  | 3, hj => simp [celC] at hj; subst hj; exact blk_cell h 3 rfl
theorem none1 (x : Int) : ∀ u ∈ [Value.int .i64 x], u.oneCell' = true := by intro u hu; simp at hu; subst hu; rfl
theorem none4 (c : Cel) : ∀ u ∈ celC c, u.oneCell' = true := by
  intro u hu
  simp [celC] at hu
  rcases hu with rfl | rfl | rfl | rfl <;> rfl
theorem nb_empty (l : List UInt8) : ((nb l).toList.isEmpty = true ↔ l = []) ∧ ((nb l).toList = [] ↔ l = []) := by
  rw [nb_toList]
  simp
/-- A list that is read, and what is left. -/
def LstQ (w : World) (b : Nat) (t : TypeId) (sz n : Nat) (xs : List Value) (r : List UInt8) (e : Ending) (w' : World) : Prop :=
  ∃ a cap, e = .returned (.slice a n cap) ∧ w'.ownsRow w.heap.size t sz (.slice a n cap) n xs ∧ R16 w' b r ∧ w.grownBy w' (some b)
set_option maxRecDepth 100000 in
set_option maxHeartbeats 4000000 in
theorem pages_r (b : Nat) (l : List UInt8) (n : Nat) (w : World) (hl : l.length ≤ 100000) (hn : n ≤ 65536) (h : R16 w b l) :
    Calls Try.prog 50 #[.pointer (some ⟨b, 0, none⟩), .int .i64 (n : Int)] w (LstQ w b 3 1 (pagesD n l).1.length (kidsC (pagesD n l).1) (pagesD n l).2) := by
  obtain ⟨P, hP⟩ : ∃ P, P = pagesD n l := ⟨_, rfl⟩
  rw [← hP]
  have hlt := blk_lt h
  have HRD := Lib.hid h
  have HP := Lib.hid (show P = ([] ++ (pagesD (n - 0) l).1, (pagesD (n - 0) l).2) from hP)
  obtain ⟨i1, hi1, hz1, hs1, hb1⟩ := info_three ninfoInt
  clear h hP
  go_enter Try.func50, Try.ntmps50
  go_wp2
  go_loopw [5] (fun v wr => ∃ (L : List Int) (r : List UInt8) (a : Option Addr) (cap : Nat), v = .slice a L.length cap ∧ L.length ≤ n ∧ r.length ≤ 100000 ∧ Hid (P = (L ++ (pagesD (n - L.length) r).1, (pagesD (n - L.length) r).2)) ∧ Hid (wr.ownsRow w.heap.size 3 1 (.slice a L.length cap) L.length (kidsC L)) ∧ Hid (R16 wr b r) ∧ Hid (w.grownBy wr (some b))) (fun v _ => n - slenV v)
  case atStart => exact ⟨[], l, none, 0, rfl, Nat.zero_le _, hl, HP, Lib.hid (World.ownsRow_nil _ _ _ _), HRD, Lib.hid (.refl _ _)⟩
  case round =>
    clear HP HRD
    obtain ⟨L, r, a, cap, rfl, hL, hr, HP, HO, HR, HG⟩ := hrel
    obtain ⟨c0, -, -⟩ := r16_cell HR.out
    obtain ⟨k, hk⟩ : ∃ k, k = L.length := ⟨_, rfl⟩
    rw [← hk] at hL HP HO ⊢
    have HK := Lib.hid hk
    clear hk
    by_cases hkn : k < n
    · have t1 : (k : Int) < n := by omega
      by_cases hre : r = []
      · subst hre
        have te : (nb []).toList.isEmpty = true := (nb_empty []).1.2 rfl
        have te' : (nb []).toList = [] := (nb_empty []).2.2 rfl
        have hp := HP.out
        rw [show n - k = (n - k - 1) + 1 by omega, pagesD, if_pos rfl] at hp
        have HP2 := Lib.hid hp
        clear hp HP
        go_wp2
        go_ret
        refine ⟨a, cap, ?_, ?_, ?_, HG.out⟩
        · rw [HP2.out]; simp only [List.append_nil]; rw [← HK.out]; rfl
        · rw [HP2.out]; simp only [List.append_nil]; rw [← HK.out]; exact HO.out
        · rw [HP2.out]; exact HR.out
      · have te' : ¬ (nb r).toList = [] := fun h => hre ((nb_empty r).2.1 h)
        have te : (nb r).toList.isEmpty = false := by
          cases hh : (nb r).toList.isEmpty with
          | false => rfl
          | true => exact absurd ((nb_empty r).1.1 hh) hre
        have hp := HP.out
        rw [show n - k = (n - (k + 1)) + 1 by omega, pagesD, if_neg hre] at hp
        simp only at hp
        have kp := page_r b r wr hr HR.out
        obtain ⟨x, hx⟩ : ∃ x, x = pgN r := ⟨_, rfl⟩
        rw [← hx] at kp hp
        have HP2 := Lib.hid (show P = ((L ++ [x]) ++ (pagesD (n - (k + 1)) (r.drop 4)).1, (pagesD (n - (k + 1)) (r.drop 4)).2) from by rw [hp, List.append_assoc]; rfl)
        have hr4 : (r.drop 4).length ≤ 100000 := by rw [List.length_drop]; omega
        clear hp HP hx hre
        go_upto_region 3 with (fail)
        go_wp2_with (first
          | (go_at_call 67; (with_reducible refine kp.mono ?_); rintro e w2 ⟨rfl, hr2, hg2⟩; have HR2 := Lib.hid hr2; have HG2 := Lib.hid (Lib.grownBy_trans HG.out hg2); have HO2 := Lib.hid (own_gby HO.out hg2 hlt); clear hr2 hg2)
          | (at_builtin; refine wpList_append_own _ rfl _ _ 23 rfl w.heap.size 3 i1 (.int .i64 0) 1 8 Try.underlying23 hi1 hz1 hs1 hb1 rfl (by decide) _ _ _ rfl (nown_below HO2.out (blw1 _ _)) ⟨w2.heap.size, 0, none⟩ 1 1 [.int .i64 x] rfl rfl (nnews1 w2 (.int .i64 x) _) (none1 x) (by unfold maxLen; omega) (by omega) (by have := HG2.out.size; simp only [World.size_alloc]; omega) ?_; intro v3 w3 hown3 hgrow3 hnil3))
        have HA := Lib.hid (Lib.grownBy_allocR HG2.out (.cells #[.int .i64 x] 3))
        have HO2' := Lib.hid (nown_below HO2.out (blw1 w2 (.cells #[.int .i64 x] 3)))
        have HG3 := Lib.hid (gby_own HA.out HO2'.out hgrow3)
        have HR3 := Lib.hid (r16_own (r16_below HR2.out (blw1 _ _)) hlt HO2'.out hgrow3)
        have hlx : (L ++ [x]).length = k + 1 := by rw [List.length_append, ← HK.out]; rfl
        have HO3 : Hid (w3.ownsRow w.heap.size 3 1 v3 (L ++ [x]).length (kidsC (L ++ [x]))) := by
          rw [hlx, show kidsC (L ++ [x]) = kidsC L ++ [.int .i64 x] from by simp [kidsC]]
          exact hown3
        obtain ⟨a3, cap3, hv3, -, -⟩ := kds_row HO3.out
        subst hv3
        clear hown3 hgrow3 hnil3 HA HO2' HO2 HG2 HR2 HO HR HG kp c0
        go_roundw
        case rel => exact ⟨L ++ [x], r.drop 4, a3, cap3, rfl, by rw [hlx]; omega, hr4, by rw [hlx]; exact HP2, HO3, HR3, HG3⟩
        case measure => simp only [slenV]; omega
    · have t1 : ¬ (k : Int) < n := by omega
      have hp := HP.out
      rw [show n - k = 0 by omega, pagesD] at hp
      simp only [List.append_nil] at hp
      have HP2 := Lib.hid hp
      clear hp HP
      go_wp2
      go_ret
      refine ⟨a, cap, ?_, ?_, ?_, HG.out⟩
      · rw [HP2.out]; simp only []; rw [← HK.out]; rfl
      · rw [HP2.out]; simp only []; rw [← HK.out]; exact HO.out
      · rw [HP2.out]; exact HR.out
def LsqQ (w : World) (b : Nat) (L : List Cel) (e : Ending) (w' : World) : Prop :=
  ∃ a cap, e = .returned (.slice a L.length cap) ∧ w'.ownsRow w.heap.size 51 4 (.slice a L.length cap) L.length (celsC L) ∧ (∃ r, R16 w' b r) ∧ w.grownBy w' (some b)
set_option maxRecDepth 100000 in
set_option maxHeartbeats 4000000 in
theorem cells_r (leaf : Bool) (b : Nat) (l : List UInt8) (n : Nat) (w : World) (hl : l.length ≤ 100000) (hn : n ≤ 65536) (h : R16 w b l) :
    Calls Try.prog 51 #[.pointer (some ⟨b, 0, none⟩), .bool leaf, .int .i64 (n : Int)] w (LsqQ w b (celsD leaf n l)) := by
  obtain ⟨P, hP⟩ : ∃ P, P = celsD leaf n l := ⟨_, rfl⟩
  rw [← hP]
  have hlt := blk_lt h
  have HRD := Lib.hid h
  have HP := Lib.hid (show P = [] ++ celsD leaf (n - 0) l from hP)
  obtain ⟨i1, hi1, hz1, hs1, hb1⟩ := info_three ninfoCell
  clear h hP
  go_enter Try.func51, Try.ntmps51
  go_wp2
  go_loopw [7] (fun v wr => ∃ (L : List Cel) (r : List UInt8) (a : Option Addr) (cap : Nat), v = .slice a L.length cap ∧ L.length ≤ n ∧ r.length ≤ 100000 ∧ Hid (P = L ++ celsD leaf (n - L.length) r) ∧ Hid (wr.ownsRow w.heap.size 51 4 (.slice a L.length cap) L.length (celsC L)) ∧ Hid (R16 wr b r) ∧ Hid (w.grownBy wr (some b))) (fun v _ => n - slenV v)
  case atStart => exact ⟨[], l, none, 0, rfl, Nat.zero_le _, hl, HP, Lib.hid (World.ownsRow_nil _ _ _ _), HRD, Lib.hid (.refl _ _)⟩
  case round =>
    clear HP HRD
    obtain ⟨L, r, a, cap, rfl, hL, hr, HP, HO, HR, HG⟩ := hrel
    obtain ⟨c0, -, -⟩ := r16_cell HR.out
    obtain ⟨k, hk⟩ : ∃ k, k = L.length := ⟨_, rfl⟩
    rw [← hk] at hL HP HO ⊢
    have HK := Lib.hid hk
    clear hk
    by_cases hkn : k < n
    · have t1 : (k : Int) < n := by omega
      by_cases hre : r = []
      · subst hre
        have te : (nb []).toList.isEmpty = true := (nb_empty []).1.2 rfl
        have te' : (nb []).toList = [] := (nb_empty []).2.2 rfl
        have hp := HP.out
        rw [show n - k = (n - k - 1) + 1 by omega, celsD, if_pos rfl, List.append_nil] at hp
        have HP2 := Lib.hid hp
        clear hp HP
        go_wp2
        go_ret
        refine ⟨a, cap, ?_, ?_, ⟨_, HR.out⟩, HG.out⟩
        · rw [HP2.out]; rw [← HK.out]; rfl
        · rw [HP2.out]; rw [← HK.out]; exact HO.out
      · have te' : ¬ (nb r).toList = [] := fun h => hre ((nb_empty r).2.1 h)
        have te : (nb r).toList.isEmpty = false := by
          cases hh : (nb r).toList.isEmpty with
          | false => rfl
          | true => exact absurd ((nb_empty r).1.1 hh) hre
        have hp := HP.out
        rw [show n - k = (n - (k + 1)) + 1 by omega, celsD, if_neg hre] at hp
        have hrl := celD_less leaf r hre
        have kp := cell_r leaf b r wr hr HR.out
        obtain ⟨x, hx⟩ : ∃ x, x = (celD leaf r).1 := ⟨_, rfl⟩
        obtain ⟨r4, hx4⟩ : ∃ x, x = (celD leaf r).2 := ⟨_, rfl⟩
        rw [← hx, ← hx4] at kp
        rw [← hx, ← hx4] at hp
        rw [← hx4] at hrl
        unfold celV at kp
        have HP2 := Lib.hid (show P = (L ++ [x]) ++ celsD leaf (n - (k + 1)) r4 from by rw [hp, List.append_assoc]; rfl)
        have hr4 : r4.length ≤ 100000 := by omega
        clear hp HP hx hx4 hre hrl
        go_upto_region 3 with (fail)
        go_wp2_with (first
          | (go_at_call 68; (with_reducible refine kp.mono ?_); rintro e w2 ⟨rfl, hr2, hg2⟩; have HR2 := Lib.hid hr2; have HG2 := Lib.hid (Lib.grownBy_trans HG.out hg2); have HO2 := Lib.hid (own_gby HO.out hg2 hlt); clear hr2 hg2)
          | (at_builtin; refine wpList_append_own _ rfl _ _ 30 rfl w.heap.size 51 i1 (.agg #[.string ⟨#[]⟩, .int .i64 0, .string ⟨#[]⟩, .int .i64 0]) 4 48 Try.underlying30 hi1 hz1 hs1 hb1 rfl (by decide) _ _ _ rfl (nown_below HO2.out (blw1 _ _)) ⟨w2.heap.size, 0, none⟩ 1 1 (celC x) rfl rfl (nnews4 w2 x _) (none4 x) (by unfold maxLen; omega) (by omega) (by have := HG2.out.size; simp only [World.size_alloc]; omega) ?_; intro v3 w3 hown3 hgrow3 hnil3))
        have HA := Lib.hid (Lib.grownBy_allocR HG2.out (.cells #[.string (nb x.key), .int .i64 x.len, .string (nb x.loc), .int .i64 x.ov] 51))
        have HO2' := Lib.hid (nown_below HO2.out (blw1 w2 (.cells #[.string (nb x.key), .int .i64 x.len, .string (nb x.loc), .int .i64 x.ov] 51)))
        have HG3 := Lib.hid (gby_own HA.out HO2'.out hgrow3)
        have HR3 := Lib.hid (r16_own (r16_below HR2.out (blw1 _ _)) hlt HO2'.out hgrow3)
        have hlx : (L ++ [x]).length = k + 1 := by rw [List.length_append, ← HK.out]; rfl
        have HO3 : Hid (w3.ownsRow w.heap.size 51 4 v3 (L ++ [x]).length (celsC (L ++ [x]))) := by
          rw [hlx, show celsC (L ++ [x]) = celsC L ++ celC x from by rw [cels_app]; simp [celsC]]
          exact hown3
        obtain ⟨a3, cap3, hv3, -, -⟩ := cls_row HO3.out
        subst hv3
        clear hown3 hgrow3 hnil3 HA HO2' HO2 HG2 HR2 HO HR HG kp c0
        go_roundw
        case rel => exact ⟨L ++ [x], r4, a3, cap3, rfl, by rw [hlx]; omega, hr4, by rw [hlx]; exact HP2, HO3, HR3, HG3⟩
        case measure => simp only [slenV]; omega
    · have t1 : ¬ (k : Int) < n := by omega
      have hp := HP.out
      rw [show n - k = 0 by omega, celsD, List.append_nil] at hp
      have HP2 := Lib.hid hp
      clear hp HP
      go_wp2
      go_ret
      refine ⟨a, cap, ?_, ?_, ⟨_, HR.out⟩, HG.out⟩
      · rw [HP2.out]; rw [← HK.out]; rfl
      · rw [HP2.out]; rw [← HK.out]; exact HO.out
end Go.Proofs.Ytdpjmijdlheajaa
