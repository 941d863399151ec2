/-
  The statement JreadParts as a walk: it returns true for every input and changes nothing that was there. Condition: numbers are ints.
-/
import Derived.Test.YtjmciknelkodcaaJrWorks
import Derived.Test.YtjmciknelkodcaaJrApp2
import Derived.Test.YtjmciknelkodcaaRegSkip
import Derived.Deep.RegionHeld3
namespace Go.Proofs.Ytjmciknelkodcaa
open Go.RowKit

theorem ptdrew_below {w W : World} {n : Nat} (h : Below w.heap.size w W) : Below w.heap.size w (W.drewN n) := ⟨h.os, h.tape, h.output, h.size, h.block⟩
theorem ptdrew1 {w W : World} (h : Below w.heap.size w W) : Below w.heap.size w W.drew := ⟨h.os, h.tape, h.output, h.size, h.block⟩
theorem ptdrew_recs {W : World} {n : Nat} {a : Option Addr} {L : List R11} (h : Recs W a L) : Recs (W.drewN n) a L := h
theorem ptblk4_of {v : World} {g : Nat} {t : TypeId} {x y z u : Value} (h : Blk v g t #[x, y, z, u]) : v.cell? ⟨g, 0, none⟩ = some x ∧ v.cell? ⟨g, 1, none⟩ = some y ∧ v.cell? ⟨g, 2, none⟩ = some z ∧ v.cell? ⟨g, 3, none⟩ = some u := ⟨blk_cell h 0 rfl, blk_cell h 1 rfl, blk_cell h 2 rfl, blk_cell h 3 rfl⟩

/-- What holds between the calls: two journals of our own, the pages. -/
def PtI (w : World) (g : Nat) (a a' : Option Addr) (l : List R11) (cs cs' : Array Value) (v : World) : Prop :=
  Below w.heap.size w v ∧ Recs v a l ∧ Recs v a' l ∧ Blk v g 25 cs ∧ Blk v (g + 1) 29 cs'
theorem pti_next {w : World} {g : Nat} {a a' : Option Addr} {l : List R11} {cs cs' : Array Value} {v v' : World} (h : PtI w g a a' l cs cs' v) (hb : Below v.heap.size v v') : PtI w g a a' l cs cs' v' :=
  ⟨h.1.trans (hb.mono h.1.size), recs_next h.2.1 hb, recs_next h.2.2.1 hb, blk_below h.2.2.2.1 hb, blk_below h.2.2.2.2 hb⟩
theorem pti_drewN {w : World} {g : Nat} {a a' : Option Addr} {l : List R11} {cs cs' : Array Value} {v : World} {n : Nat} (h : PtI w g a a' l cs cs' v) : PtI w g a a' l cs cs' (v.drewN n) :=
  ⟨ptdrew_below h.1, h.2.1, h.2.2.1, h.2.2.2.1, h.2.2.2.2⟩
theorem pti_drew {w : World} {g : Nat} {a a' : Option Addr} {l : List R11} {cs cs' : Array Value} {v : World} (h : PtI w g a a' l cs cs' v) : PtI w g a a' l cs cs' v.drew := 
  ⟨⟨h.1.os, h.1.tape, h.1.output, h.1.size, h.1.block⟩, h.2.1, h.2.2.1, h.2.2.2.1, h.2.2.2.2⟩
theorem pts_of {w : World} {g : Nat} {a a' : Option Addr} {l : List R11} {x0 x1 x2 x3 y0 y1 y2 y3 : Value} {v : World} (h : PtI w g a a' l #[x0, x1, x2, x3] #[y0, y1, y2, y3] v) :
    v.cell? ⟨g, 0, none⟩ = some x0 ∧ v.cell? ⟨g, 1, none⟩ = some x1 ∧ v.cell? ⟨g, 2, none⟩ = some x2 ∧ v.cell? ⟨g, 3, none⟩ = some x3 ∧
    v.cell? ⟨g + 1, 0, none⟩ = some y0 ∧ v.cell? ⟨g + 1, 1, none⟩ = some y1 ∧ v.cell? ⟨g + 1, 2, none⟩ = some y2 ∧ v.cell? ⟨g + 1, 3, none⟩ = some y3 ∧ PtI w g a a' l #[x0, x1, x2, x3] #[y0, y1, y2, y3] v := by
  obtain ⟨h0, h1, h2, h3⟩ := ptblk4_of h.2.2.2.1
  obtain ⟨k0, k1, k2, k3⟩ := ptblk4_of h.2.2.2.2
  exact ⟨h0, h1, h2, h3, k0, k1, k2, k3, h⟩
theorem pts_a {A B C D E F G H : Prop} {w : World} {g : Nat} {a a' : Option Addr} {l : List R11} {cs cs' : Array Value} {v : World} (h : A ∧ B ∧ C ∧ D ∧ E ∧ F ∧ G ∧ H ∧ PtI w g a a' l cs cs' v) : Recs v a l := h.2.2.2.2.2.2.2.2.2.1
theorem pts_b {A B C D E F G H : Prop} {w : World} {g : Nat} {a a' : Option Addr} {l : List R11} {cs cs' : Array Value} {v : World} (h : A ∧ B ∧ C ∧ D ∧ E ∧ F ∧ G ∧ H ∧ PtI w g a a' l cs cs' v) : Recs v a' l := h.2.2.2.2.2.2.2.2.2.2.1
theorem pts_out {A B C D E F G H I : Prop} (h : A ∧ B ∧ C ∧ D ∧ E ∧ F ∧ G ∧ H ∧ I) : I := h.2.2.2.2.2.2.2.2

set_option maxRecDepth 100000 in
set_option maxHeartbeats 4000000 in
theorem parts_any (a : Option Addr) (cap : Nat) (l : List R11) (p k : Int) (s : ByteArray) (w : World) (hl : l.length ≤ 140737488351232) (hi : IntsR l) (ha : Recs w a l) (p1 : -9223372036854775808 ≤ p) (p2 : p ≤ 9223372036854775807) (k1 : -9223372036854775808 ≤ k) (k2 : k ≤ 9223372036854775807) (hs : s.size ≤ 9223372036854775807) :
    Calls Try.prog 4 #[.slice a l.length cap, .int .i64 p, .int .i64 k, .string s] w fun e w' => e = .returned (.bool true) ∧ Below w.heap.size w w' := by
  have kg := fun (V : World) (h : Recs V a l) => great11_any a cap l V (by omega) h (fun r hr => (hi r hr).2)
  have HA := Lib.hid ha
  obtain ⟨gr, hgr⟩ : ∃ gr, gr = greatQ l 0 := ⟨_, rfl⟩
  rw [← hgr] at kg
  by_cases hskip : gr = true ∨ 5000 < s.size
  · have hcs : gr = true ∨ (gr = false ∧ (5000 : Int) < s.size) := by
      cases gr
      · rcases hskip with h | h
        · cases h
        · exact .inr ⟨rfl, by omega⟩
      · exact .inl rfl
    clear hgr hskip
    obtain ⟨len, hlen⟩ : ∃ len, len = l.length := ⟨_, rfl⟩
    rw [← hlen] at kg ⊢
    clear hlen hl
    rcases hcs with rfl | ⟨rfl, h5⟩
    all_goals (
      go_enter Try.func4, Try.ntmps4
      go_wp2_with ((go_at_call 11; refine (kg _ HA.out).mono ?_; rintro e w2 ⟨rfl, rfl⟩))
      go_ret
      exact ⟨rfl, Below.refl _ _⟩)
  have hg0 : gr = false := by
    cases gr
    · rfl
    · exact absurd (.inl rfl) hskip
  have hgf := greatQ_false l 0 (by rw [← hgr, hg0])
  have hll : l.length ≤ 31 := by
    rcases hgf.1 with h | h
    · rw [h]; simp
    · omega
  rw [hg0] at kg
  have h5 : ¬ (5000 : Int) < s.size := by omega
  have h5b : s.size ≤ 5000 := by omega
  clear hg0 hgr hgf hskip
  have hsl : s.data.toList.length = s.size := by simp
  have ko := fun (V : World) (h : Recs V a l) => own11_any a cap l V (by omega) h
  have kp := fun (a' : Option Addr) (cap' : Nat) (V : World) (h : Recs V a' l) => jpart_any a' cap' l p k p1 p2 k1 k2 V (by omega) h hi
  have kq := fun (V : World) (h : Recs V a l) => qpart_any a cap l p k p1 p2 k1 k2 V (by omega) h hi
  have kx := fun (a' : Option Addr) (cap' : Nat) (V : World) (h : Recs V a' l) => jpage_any 0 p a' cap' l ⟨#[]⟩ k V (by omega) h
  have ky := fun (V : World) (h : Recs V a l) => r11page_any 0 p a cap l ⟨#[]⟩ k V (by omega) h
  have kA := fun (a' : Option Addr) (cap' : Nat) (V : World) (h : Recs V a' l) => japply_any 0 p a' cap' l ⟨#[]⟩ s p1 p2 V (by omega) (by omega) h
  have kB := fun (V : World) (h : Recs V a l) => qapply_any 0 p a cap l ⟨#[]⟩ s.data.toList p1 p2 V (by omega) (by omega) h
  rw [apD_eq, ba_back] at kB
  obtain ⟨T, hT⟩ : ∃ T, T = ba (apL p l s.data.toList) := ⟨_, rfl⟩
  rw [← hT] at kA kB
  obtain ⟨E1, hE1⟩ : ∃ E1, E1 = ba (ptR l p k).1 := ⟨_, rfl⟩
  obtain ⟨f1, hf1⟩ : ∃ f1, f1 = (ptR l p k).2 := ⟨_, rfl⟩
  rw [← hE1, ← hf1] at kp kq
  obtain ⟨D1, hD1⟩ : ∃ D1, D1 = ba (pageR l k).1 := ⟨_, rfl⟩
  obtain ⟨o1, ho1⟩ : ∃ o1, o1 = (pageR l k).2 := ⟨_, rfl⟩
  rw [← hD1, ← ho1] at kx ky
  have e1 : (E1.toList != E1.toList) = false := by simp
  have e2 : (f1 != f1) = false := by simp
  have e3 : (D1.toList != D1.toList) = false := by simp
  have e4 : (o1 != o1) = false := by simp
  have e5 : (T.toList == T.toList) = true := by simp
  clear hT hE1 hf1 hD1 ho1 hsl
  obtain ⟨len, hlen⟩ : ∃ len, len = l.length := ⟨_, rfl⟩
  have HL := Lib.hid hlen
  rw [← hlen] at kg ko kp kq kx ky kA kB hll ⊢
  clear hl hlen
  go_enter Try.func4, Try.ntmps4
  go_upto_region 4 with (first
    | (go_at_call 11; refine (kg _ HA.out).mono ?_; rintro e w2 ⟨rfl, rfl⟩)
    | (go_at_call 13; refine (ko _ HA.out).mono ?_; rintro e w3 ⟨b3, a', cap', rfl, hrec⟩)
    | (go_at_call 12; refine (kp _ _ _ hrec).mono ?_; rintro e w4 ⟨rfl, b4⟩))
  have HB4 := Lib.hid (b3.trans (b4.mono b3.size))
  have HA4 := Lib.hid (recs_next HA.out HB4.out)
  clear b3 b4 hrec kg kp HA ha
  go_upto_region 5 with (go_at_call 14; refine (kq _ HA4.out).mono ?_; rintro e w5 ⟨rfl, b5⟩)
  have HB5 := Lib.hid (HB4.out.trans (b5.mono HB4.out.size))
  have HA5 := Lib.hid (recs_next HA4.out b5)
  clear b5 HB4 HA4 kq
  go_upto_region 6 with (go_at_call 13; refine (ko _ HA5.out).mono ?_; rintro e w6 ⟨b6, a6, cap6, rfl, hrec⟩)
  have hb6 := HB5.out.trans (b6.mono HB5.out.size)
  have HP := Lib.hid (show PtI w w6.heap.size a a6 l #[.int .i64 0, .int .i64 p, .slice a6 len cap6, .string ⟨#[]⟩] #[.int .i64 0, .int .i64 p, .slice a len cap, .string ⟨#[]⟩]
      ((w6.alloc (.cells #[.int .i64 0, .int .i64 p, .slice a6 len cap6, .string ⟨#[]⟩] 25)).alloc (.cells #[.int .i64 0, .int .i64 p, .slice a len cap, .string ⟨#[]⟩] 29)) from
    ⟨hb6.trans ((blw2 w6 _ _).mono hb6.size), recs_next (recs_next HA5.out b6) (blw2 w6 _ _), recs_next hrec (blw2 w6 _ _), blk_alloc (blk_new w6 _ _) _, blk_at (by simp)⟩)
  clear hb6 b6 hrec HB5 HA5 ko
  revert HP
  generalize (w6.alloc (.cells #[.int .i64 0, .int .i64 p, .slice a6 len cap6, .string ⟨#[]⟩] 25)).alloc (.cells #[.int .i64 0, .int .i64 p, .slice a len cap, .string ⟨#[]⟩] 29) = W7
  generalize w6.heap.size = g
  intro HP
  obtain ⟨j0, j1, j2, j3⟩ := ptblk4_of HP.out.2.2.2.1
  go_upto_region 7 with (go_at_call 15; refine (kx _ _ _ HP.out.2.2.1).mono ?_; rintro e w8 ⟨rfl, b8⟩)
  have HP8 := Lib.hid (pti_next HP.out b8)
  clear j0 j1 j2 j3 HP b8 kx
  obtain ⟨j0, j1, j2, j3⟩ := ptblk4_of HP8.out.2.2.2.2
  go_upto_region 8 with (go_at_call 16; refine (ky _ HP8.out.2.1).mono ?_; rintro e w9 ⟨rfl, b9⟩)
  have HP9 := Lib.hid (pti_next HP8.out b9)
  clear j0 j1 j2 j3 HP8 b9 ky
  have t0 : f1.toNat = f1.toNat := rfl
  go_wp2
  go_loopw [19] (fun i wr => ∃ q dn : Nat, q ≤ len ∧ i = .int .i64 q ∧ wr = w9.drewN dn) (fun i _ => len - (intOf i).toNat)
  case atStart => exact ⟨0, 0, by omega, rfl, rfl⟩
  case round =>
    obtain ⟨q, dn, hq, rfl, rfl⟩ := hrel
    by_cases hlt : q < len
    case pos =>
      have hlt' : q < l.length := by have := HL.out; omega
      obtain ⟨b, off, rfl, hbw, c0, -⟩ := HP9.out.2.1 q hlt'
      obtain ⟨n, hn⟩ : ∃ n, n = l[q].n := ⟨_, rfl⟩
      rw [← hn] at c0
      have t1 : (q : Int) < len := by omega
      clear hn hlt'
      have hcs : ¬ 40 < n ∨ (40 < n ∧ n ≤ 2000) ∨ (40 < n ∧ ¬ n ≤ 2000) := by omega
      rcases hcs with h1 | ⟨h1, h2⟩ | ⟨h1, h2⟩
      · go_wp2
        go_roundw
        case rel => exact ⟨q + 1, _, by omega, by go_num, rfl⟩
        case measure => simp [intOf]; omega
      · go_wp2
        go_ret
        exact ⟨rfl, ptdrew_below HP9.out.1⟩
      · go_wp2
        go_roundw
        case rel => exact ⟨q + 1, _, by omega, by go_num, rfl⟩
        case measure => simp [intOf]; omega
    have t1 : ¬ (q : Int) < len := by omega
    go_upto_region 15 with (fail)
    have HPd := Lib.hid (pti_drewN (n := dn) HP9.out)
    clear HP9 e1 e2 e3 e4
    revert HPd
    generalize w9.drewN dn = W9
    intro HPd
    obtain ⟨j0, j1, j2, j3⟩ := ptblk4_of HPd.out.2.2.2.1
    obtain ⟨q0, q1, q2, q3⟩ := ptblk4_of HPd.out.2.2.2.2
    by_cases h40 : 40 < p
    · have t2 : decide (40 < p) = true := decide_eq_true h40
      refine wp_region_held_drew (S := fun v => Below w.heap.size w v) (by kernel_rfl) (ptdrew1 HPd.out.1) (fun hHeld => ?_)
      refine wpAnyH_take (i := 0) (v := .int .i64 p) rfl (by kernel_rfl) (by kernel_rfl) (by kernel_rfl) (fun _ _ _ h => h) (Or.inl ⟨by rfl, ?_⟩) hHeld ?_
      · intro w' hSw
        go_simp
      simp only [Act.put, List.setIfInBounds_toArray, List.set_cons_zero, List.set_cons_succ]
      refine wpAnyH_take (i := 1) (v := .bool true) rfl (by kernel_rfl) (by kernel_rfl) (by kernel_rfl) (fun _ _ _ h => h) (Or.inl ⟨by rfl, ?_⟩) hHeld ?_
      · intro w' hSw
        go_simp
        try simp [h40]
      simp only [Act.put, List.setIfInBounds_toArray, List.set_cons_zero, List.set_cons_succ]
      refine wpAnyH_take (i := 2) (v := .bool true) rfl (by kernel_rfl) (by kernel_rfl) (by kernel_rfl) (fun _ _ _ h => h) (Or.inl ⟨by rfl, ?_⟩) hHeld ?_
      · intro w' hSw
        go_simp
      simp only [Act.put, List.setIfInBounds_toArray, List.set_cons_zero, List.set_cons_succ]
      refine wpAnyH_skip [3, 4, 5, 6, 7, 8, 9] 5 (by kernel_rfl) (by kernel_rfl) (fun _ _ _ _ h => h) (fun _ _ _ h => h) (by kernel_rfl) (by kernel_rfl) hHeld ?_
      refine wpAnyH_take (i := 10) (v := .bool true) rfl (by kernel_rfl) (by kernel_rfl) (by kernel_rfl) (fun _ _ _ h => h) (Or.inl ⟨by rfl, ?_⟩) hHeld ?_
      · intro w' hSw
        go_simp
      simp only [Act.put, List.setIfInBounds_toArray, List.set_cons_zero, List.set_cons_succ]
      refine wpAnyH_take (i := 11) (v := .bool true) rfl (by kernel_rfl) (by kernel_rfl) (by kernel_rfl) (fun _ _ _ h => h) (Or.inl ⟨by rfl, ?_⟩) hHeld ?_
      · intro w' hSw
        go_simp
      simp only [Act.put, List.setIfInBounds_toArray, List.set_cons_zero, List.set_cons_succ]
      refine wpAnyH_ready (rs := [12]) (by kernel_rfl) (by simp) ?_
      refine AllReadyH.cons rfl (fun K hK => ?_) AllReadyH.nil
      go_simp
      go_at_call 10
      (with_reducible refine (works11_any _).mono ?_)
      rintro e w10 ⟨rfl, b10⟩
      go_simp
      refine hK.out _ _ (hHeld.trans (b10.mono hHeld.size)) (fun hHeld => ?_)
      clear hK K
      refine wpAnyH_ready (rs := [13]) (by kernel_rfl) (by simp) ?_
      refine AllReadyH.cons rfl (fun K hK => ?_) AllReadyH.nil
      go_simp
      refine hK.out _ _ hHeld (fun hHeld => ?_)
      clear hK K
      refine wpAnyH_ready (rs := [14]) (by kernel_rfl) (by simp) ?_
      refine AllReadyH.cons rfl (fun K hK => ?_) AllReadyH.nil
      go_simp
      refine hK.out _ _ hHeld (fun hHeld => ?_)
      clear hK K
      refine wpAnyH_done (by kernel_rfl) ?_ _
      go_wp2_with fail
      go_ret
      exact ⟨rfl, hHeld⟩
    · have t2 : decide (40 < p) = false := decide_eq_false h40
      clear h40
      go_region_held3 (fun v => v.cell? ⟨g, 0, none⟩ = some (.int .i64 0) ∧ v.cell? ⟨g, 1, none⟩ = some (.int .i64 p) ∧ v.cell? ⟨g, 2, none⟩ = some (.slice a6 len cap6) ∧ v.cell? ⟨g, 3, none⟩ = some (.string ⟨#[]⟩) ∧
          v.cell? ⟨g + 1, 0, none⟩ = some (.int .i64 0) ∧ v.cell? ⟨g + 1, 1, none⟩ = some (.int .i64 p) ∧ v.cell? ⟨g + 1, 2, none⟩ = some (.slice a len cap) ∧ v.cell? ⟨g + 1, 3, none⟩ = some (.string ⟨#[]⟩) ∧
          PtI w g a a6 l #[.int .i64 0, .int .i64 p, .slice a6 len cap6, .string ⟨#[]⟩] #[.int .i64 0, .int .i64 p, .slice a len cap, .string ⟨#[]⟩] v)
        (first | assumption | exact pts_of (pti_drew HPd.out) | exact pts_of (pti_next (pts_out (by assumption)) (by assumption)))
        (first | (go_at_call 17; (refine (kA _ _ _ (pts_b (by assumption))).mono ?_); rintro e w10 ⟨rfl, b10⟩) | (go_at_call 18; (refine (kB _ (pts_a (by assumption))).mono ?_); rintro e w11 ⟨rfl, b11⟩) | (go_at_call 10; (with_reducible refine (works11_any _).mono ?_); rintro e w12 ⟨rfl, b12⟩))
      all_goals (
        rename_i hS
        have HB := (pts_out hS).1
        clear hS
        go_wp2_with fail
        go_ret
        exact ⟨rfl, HB⟩)
end Go.Proofs.Ytjmciknelkodcaa
