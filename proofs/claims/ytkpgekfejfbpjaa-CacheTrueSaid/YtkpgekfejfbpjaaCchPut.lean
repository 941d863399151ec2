/-
  Layer 12: Put of the program: what the cache is behind it. Condition: numbers are ints; the lists have at most 999998 elements.
-/
import Derived.Test.YtkpgekfejfbpjaaCchGet
namespace Go.Proofs.Ytkpgekfejfbpjaa
open Go.RowKit
variable {L : CL} {ρ ρ' : Nat → Option CRole} {S : CS} {A : AP} {w w' : World}

theorem eqlM_some (g : Nat) (w : World) : (binOp .eql 44 (.map (some g)) (.map none)).run Try.prog w = .ok (.bool false) w := by kernel_rfl
def updR (ρ : Nat → Option CRole) (e : Nat) : Nat → Option CRole := fun k => if k = e then some .el else ρ k
/-- A new element. -/
theorem inv_newel (h : CInv L ρ S w) : CInv L (updR ρ w.heap.size) { S with pg := updP S.pg w.heap.size ⟨0, ⟨#[]⟩, false⟩, fr := some w.heap.size } (w.alloc (.cells (elC ⟨0, ⟨#[]⟩, false⟩ none none) 56)) := by
  have hn := h.old w.heap.size (Nat.le_refl _)
  have hρ : ∀ k r, ρ k = some r → updR ρ w.heap.size k = some r := fun k r hk => by
    unfold updR
    rw [if_neg (fun e => by rw [e, hn] at hk; cases hk)]
    exact hk
  have ho : ∀ k, k < w.heap.size → (w.alloc (.cells (elC ⟨0, ⟨#[]⟩, false⟩ none none) 56)).heap[k]? = w.heap[k]? := fun k hk => heap_alloc_old _ _ hk
  have hne : ∀ {t g}, g ∈ S.li t → g ≠ w.heap.size := fun hg he => by have := h.elr hg; rw [he, hn] at this; cases this
  refine ⟨hρ _ _ h.hc, hρ _ _ h.hm, fun s => hρ _ _ (h.hl s), (ho _ (h.lt (by rw [h.hc]; simp))).trans h.blk, own_keep h.map (ho _ (h.lt (by rw [h.hm]; simp))), fun s => (ho _ (h.lt (by rw [h.hl]; simp))).trans (h.lst s), fun s a g b hab => ?_, fun g hg => ?_, h.nd, h.ap, fun g s hg => ?_, fun k hk => ?_⟩
  · obtain ⟨h1, h2⟩ := h.ele s a g b hab
    refine ⟨hρ _ _ h1, ?_⟩
    show Blk _ g 56 (elC (updP S.pg w.heap.size ⟨0, ⟨#[]⟩, false⟩ g) _ _)
    rw [updP_other _ _ (hne (t := s) (by rw [show S.li s = a ++ g :: b from hab]; simp))]
    exact (ho _ (blk_lt h2)).trans h2
  · have hge : w.heap.size = g := by injection hg
    subst hge
    refine ⟨by unfold updR; rw [if_pos rfl], ?_⟩
    show Blk _ w.heap.size 56 (elC (updP S.pg w.heap.size ⟨0, ⟨#[]⟩, false⟩ w.heap.size) _ _)
    rw [updP_same]
    exact blk_new _ _ _
  · have hge : w.heap.size = g := by injection hg
    subst hge
    exact fun hm => hne hm rfl
  · simp at hk
    unfold updR
    rw [if_neg (by omega)]
    exact h.old k (by omega)
theorem step_newel (h : CInv L ρ S w) (o : Obj) : CStep ρ w (updR ρ w.heap.size) (w.alloc o) :=
  ⟨rfl, rfl, rfl, by simp, fun k hk _ => heap_alloc_old _ _ hk, fun k hk => by unfold updR; rw [if_neg (by omega)]⟩
theorem wo_new (h : CInv L ρ S w) (t : Bool) : wo (S.li t) w.heap.size = S.li t := wo_none fun hm => by
  have := h.elr hm
  rw [h.old _ (Nat.le_refl _)] at this
  cases this
theorem new_good (h : CInv L ρ S w) (g : CGood S) {k : Int} (hi : IsI k) (hk : findK S.keys k = none) (x : ByteArray) (d : Bool) :
    CGood (entS S (putK S.keys k w.heap.size) w.heap.size ⟨k, x, d⟩) ∧ abs (entS S (putK S.keys k w.heap.size) w.heap.size ⟨k, x, d⟩) = rawA (abs S) k x d := by
  refine good_ent g hi (fun k' => putK_find _ _ _ _) (putK_nd g.kn _ _) ?_ (fun t' h' => ?_) (fun t' e' h' hn => ?_)
  · rw [wo_new h, wo_new h, putK_len hk, g.kl]
  · have := h.elr h'
    rw [h.old _ (Nat.le_refl _)] at this
    cases this
  · have := (g.kk k e').2 ⟨⟨t', h'⟩, hn⟩
    rw [hk] at this
    cases this

theorem updP_twice (f : Nat → Pg) (e : Nat) (p q : Pg) : updP (updP f e p) e q = updP f e q := by
  funext g
  unfold updP
  split <;> rfl
/-- The page is stored in an element that is in no list. -/
abbrev set3 (w : World) (e : Nat) (k : Int) (x : ByteArray) (d : Bool) : World := ((w.setCell ⟨e, 0, none⟩ (.int .i64 k)).setCell ⟨e, 1, none⟩ (.string x)).setCell ⟨e, 2, none⟩ (.bool d)
theorem inv_set3 (h : CInv L ρ S w) {e : Nat} (hf : S.fr = some e) (k : Int) (x : ByteArray) (d : Bool) : CInv L ρ (pgS S e ⟨k, x, d⟩) (set3 w e k x d) ∧ CStep ρ w ρ (set3 w e k x d) := by
  obtain ⟨hr, hb⟩ := h.fre e hf
  have hρ : ρ e ≠ none := by rw [hr]; simp
  refine ⟨inv_pg h hf ⟨k, x, d⟩ (blk_set (blk_set (blk_set hb 0 (.int .i64 k)) 1 (.string x)) 2 (.bool d)) (fun g hg => ?_) (by simp [size_set]), ((CStep.set hρ).trans (CStep.set hρ)).trans (CStep.set hρ)⟩
  rw [keep_set _ _ _ _ g hg, keep_set _ _ _ _ g hg, keep_set _ _ _ _ g hg]
theorem fre_cells (h : CInv L ρ S w) {e : Nat} (hf : S.fr = some e) : w.frozen? ⟨e, 0, none⟩ = false ∧ w.frozen? ⟨e, 1, none⟩ = false ∧ w.frozen? ⟨e, 2, none⟩ = false ∧ (∃ n s d, w.cell? ⟨e, 0, none⟩ = some (.int .i64 n) ∧ w.cell? ⟨e, 1, none⟩ = some (.string s) ∧ w.cell? ⟨e, 2, none⟩ = some (.bool d)) := by
  obtain ⟨hr, hb⟩ := h.fre e hf
  obtain ⟨y0, y1, y2, -, -⟩ := el_cells hb
  exact ⟨blk_frozen hb 0, blk_frozen hb 1, blk_frozen hb 2, _, _, _, y0, y1, y2⟩

set_option maxHeartbeats 2000000 in
theorem put_old (hI : CInv L ρ S w) (hG : CGood S) (hA : AOk (abs S)) (hh : S.room ≤ 9223372036854775807) {k : Int} (hk : IsI k) (x : ByteArray) (d : Bool) (hlS : ∀ t, (S.li t).length ≤ 499999) {e : Nat} {t : Bool} (h1 : findK S.keys k = some e) (h2 : e ∈ S.li t) (h3 : (S.pg e).n = k) (h4 : (S.pg e).d = t) :
    Calls Try.prog 11 #[.pointer (some ⟨L.c, 0, none⟩), .int .i64 k, .string x, .bool d] w (CallQ L ρ (entA (abs S) k x d) w (.tuple #[])) := by
  have KF := Lib.hid (find_any hI hk)
  have c1 := (ca_cells hI.blk).2.1
  have em := eqlM_some
  rw [h1] at KF
  obtain ⟨a, b, hab⟩ := List.append_of_mem h2
  obtain ⟨g1, g2⟩ := again_good hI hG h2 h3 x d
  have KL := Lib.hid (leave_any hI hab h4 (by have := hlS t; omega))
  have HF : Hid ((remS S t a e b).fr = some e) := Lib.hid rfl
  have KE : ∀ w1, CInv L ρ (pgS (remS S t a e b) e ⟨k, x, d⟩) w1 → Calls Try.prog 24 #[.pointer (some ⟨L.c, 0, none⟩), .pointer (some ⟨e, 0, none⟩)] w1 fun ev w' => ev = .returned (.tuple #[]) ∧ CacheI L ρ (entA (abs S) k x d) w' ∧ CStep ρ w1 ρ w' := fun w1 hw1 =>
    enter_ent (S := S) (S1 := pgS (remS S t a e b) e ⟨k, x, d⟩) (K := S.keys) (rem_li hI hab) rfl rfl rfl rfl hI.nd hI.ap (fun t => by have := hlS t; omega) g1 g2 hA hh hw1
  have HE := Lib.hid KE
  generalize remS S t a e b = S1 at HE HF KL
  generalize entA (abs S) k x d = A' at HE ⊢
  clear hI hG hA hh h1 h2 h3 h4 hab hlS g1 g2 KE hk
  unfold ptr at KF
  simp only [Option.map_some] at KF
  go_enter Try.func11, Try.ntmps11
  go_wp2_with (first
    | (go_at_call 22; refine KF.out.mono ?_; rintro e1 w1 ⟨rfl, hw⟩; rw [hw]; clear hw)
    | (go_at_call 23; refine KL.out.mono ?_; rintro e1 w1 ⟨rfl, q1, q2⟩; have Q1 := Lib.hid (inv_set3 q1 HF.out k x d).1; have Q2 := Lib.hid (q2.step.trans (inv_set3 q1 HF.out k x d).2); obtain ⟨r1, r2, r3, n0, s0, d0, r4, r5, r6⟩ := fre_cells q1 HF.out; clear q1 q2)
    | (go_at_call 24; refine (HE.out _ Q1.out).mono ?_; rintro e1 w2 ⟨rfl, q1, q2⟩; have Q3 := Lib.hid q1; have Q4 := Lib.hid q2; clear q1 q2))
  first | go_ret | go_returns
  exact ⟨rfl, ρ, Q3.out, Q2.out.trans Q4.out⟩

set_option maxHeartbeats 2000000 in
theorem put_new (hI : CInv L ρ S w) (hG : CGood S) (hA : AOk (abs S)) (hh : S.room ≤ 9223372036854775807) {k : Int} (hk : IsI k) (x : ByteArray) (d : Bool) (hlS : ∀ t, (S.li t).length ≤ 499999) (h1 : findK S.keys k = none) :
    Calls Try.prog 11 #[.pointer (some ⟨L.c, 0, none⟩), .int .i64 k, .string x, .bool d] w (CallQ L ρ (entA (abs S) k x d) w (.tuple #[])) := by
  have KF := Lib.hid (find_any hI hk)
  have c1 := (ca_cells hI.blk).2.1
  have em := eqlM_some
  rw [h1] at KF
  obtain ⟨g1, g2⟩ := new_good hI hG hk h1 x d
  have hN := inv_newel hI
  have hSN := step_newel hI (.cells (elC ⟨0, ⟨#[]⟩, false⟩ none none) 56)
  obtain ⟨w2, hrun, hown, hq⟩ := map_store hN.map (by have := hG.kl; have := hlS true; have := hlS false; show S.keys.length ≤ _; omega) hk w.heap.size
  have hM := hN.mapped hq hown
  have hSM := hSN.trans (CStep.mapped hN hq)
  obtain ⟨m1, m2⟩ := inv_set3 hM rfl k x d
  have Q2 := Lib.hid (hSM.trans m2)
  obtain ⟨r1, r2, r3, n0, s0, d0, r4, r5, r6⟩ := fre_cells hM (e := w.heap.size) rfl
  have cc := (ca_cells hN.blk).2.1
  have ef : ∀ (u : Nat → Pg), ({ room := S.room, keys := putK S.keys k w.heap.size, li := S.li, pg := u, fr := some w.heap.size } : CS).li = fun t => wo (S.li t) w.heap.size := fun u => by funext t; exact (wo_new hI t).symm
  have HE := Lib.hid (enter_ent (S := S) (S1 := pgS { room := S.room, keys := putK S.keys k w.heap.size, li := S.li, pg := updP S.pg w.heap.size ⟨0, ⟨#[]⟩, false⟩, fr := some w.heap.size } w.heap.size ⟨k, x, d⟩) (K := putK S.keys k w.heap.size) (ef _) rfl rfl (updP_twice _ _ _ _) rfl hI.nd hI.ap (fun t => by have := hlS t; omega) g1 g2 hA hh m1)
  simp only [elC, ptr, Option.map_none] at hrun cc
  generalize entA (abs S) k x d = A' at HE ⊢
  clear hI hG hA hh h1 hlS g1 g2 hk hN hSN hq hM hSM m1 m2 ef hown
  unfold ptr at KF
  simp only [Option.map_none] at KF
  go_enter Try.func11, Try.ntmps11
  go_wp2_with (first
    | (go_at_call 22; refine KF.out.mono ?_; rintro e1 w1 ⟨rfl, hw⟩; rw [hw]; clear hw)
    | (go_at_call 24; refine HE.out.mono ?_; rintro e1 w3 ⟨rfl, q1, q2⟩; have Q3 := Lib.hid q1; have Q4 := Lib.hid q2; clear q1 q2))
  first | go_ret | go_returns
  exact ⟨rfl, _, Q3.out, Q2.out.trans Q4.out⟩
theorem put_any (h : CacheI L ρ A w) {k : Int} (hk : IsI k) (x : ByteArray) (d : Bool) (hlen : ∀ t, (A.li t).length ≤ 499999) :
    Calls Try.prog 11 #[.pointer (some ⟨L.c, 0, none⟩), .int .i64 k, .string x, .bool d] w (CallQ L ρ (entA A k x d) w (.tuple #[])) := by
  obtain ⟨⟨S, hI, hG, rfl⟩, hA, hh⟩ := h
  have hlS : ∀ t, (S.li t).length ≤ 499999 := fun t => by rw [← abs_len]; exact hlen t
  rcases good_look hG hA k with ⟨h1, h2⟩ | ⟨e, t, h1, h2, h3, h4, h5⟩
  · exact put_new hI hG hA hh hk x d hlS h1
  · exact put_old hI hG hA hh hk x d hlS h1 h2 h3 h4
end Go.Proofs.Ytkpgekfejfbpjaa
