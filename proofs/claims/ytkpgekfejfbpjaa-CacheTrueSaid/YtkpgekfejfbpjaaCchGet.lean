/-
  Layer 12: Get and Clean of the program: what they return, and what the cache is behind them. Condition: numbers are ints; the lists have at most 999998 elements.
-/
import Derived.Test.YtkpgekfejfbpjaaCchApi
namespace Go.Proofs.Ytkpgekfejfbpjaa
open Go.RowKit
variable {L : CL} {ρ ρ' : Nat → Option CRole} {S : CS} {A : AP} {w w' : World}

theorem ent_nd (hn : ∀ s, (S.li s).Nodup) (ha : ∀ e, e ∈ S.li false → e ∉ S.li true) (K : List (Int × Nat)) (e : Nat) (p : Pg) :
    (∀ s, ((entS S K e p).li s).Nodup) ∧ ∀ x, x ∈ (entS S K e p).li false → x ∉ (entS S K e p).li true := by
  have hw : ∀ s, (wo (S.li s) e).Nodup := fun s => (hn s).sublist List.filter_sublist
  constructor
  · intro s
    show (if s = p.d then wo (S.li s) e ++ [e] else wo (S.li s) e).Nodup
    by_cases h : s = p.d
    · rw [if_pos h, List.nodup_append]
      exact ⟨hw s, by simp, fun a h1 b h2 h3 => (wo_mem.1 h1).2 (h3.trans (List.mem_singleton.1 h2))⟩
    · rw [if_neg h]; exact hw s
  · intro x h1 h2
    replace h1 : x ∈ (if false = p.d then wo (S.li false) e ++ [e] else wo (S.li false) e) := h1
    replace h2 : x ∈ (if true = p.d then wo (S.li true) e ++ [e] else wo (S.li true) e) := h2
    have h3 : ∀ y s, y ∈ wo (S.li s) e → y ≠ e := fun y s h => (wo_mem.1 h).2
    cases hd : p.d
    · rw [hd] at h1 h2
      simp only [if_true, Bool.true_eq_false, if_false, List.mem_append, List.mem_singleton] at h1 h2
      rcases h1 with h1 | h1
      · exact ha x (wo_mem.1 h1).1 (wo_mem.1 h2).1
      · exact h3 _ _ h2 h1
    · rw [hd] at h1 h2
      simp only [if_true, Bool.false_eq_true, if_false, List.mem_append, List.mem_singleton] at h1 h2
      rcases h2 with h2 | h2
      · exact ha x (wo_mem.1 h1).1 (wo_mem.1 h2).1
      · exact h3 _ _ h1 h2
theorem add_ent {S1 : CS} {K : List (Int × Nat)} {e : Nat} {p : Pg} (h1 : S1.li = fun t => wo (S.li t) e) (h2 : S1.room = S.room) (h3 : S1.keys = K) (h4 : S1.pg = updP S.pg e p) : addS S1 p.d e = entS S K e p := by
  unfold addS entS
  rw [h1, h2, h3, h4]
  congr 1
  funext t
  unfold updB
  by_cases ht : t = p.d
  · rw [if_pos ht, if_pos ht, ht]
  · rw [if_neg ht, if_neg ht]
theorem raw_len (A : AP) (k : Int) (x : ByteArray) (d t : Bool) : ((rawA A k x d).li t).length ≤ (A.li t).length + 1 := by
  have := rmL_len (A.li t) k
  unfold rawA
  simp only
  split <;> simp <;> omega
theorem abs_len (S : CS) (t : Bool) : ((abs S).li t).length = (S.li t).length := List.length_map _
theorem ent_fin {K : List (Int × Nat)} {e : Nat} {k : Int} {x : ByteArray} {d : Bool} (hn : ∀ s, (S.li s).Nodup) (ha : ∀ e, e ∈ S.li false → e ∉ S.li true) (hg : CGood (entS S K e ⟨k, x, d⟩)) (hab : abs (entS S K e ⟨k, x, d⟩) = rawA (abs S) k x d) (hA : AOk (abs S)) (hh : S.room ≤ 9223372036854775807)
    (hI : CInv L ρ (trimS (entS S K e ⟨k, x, d⟩)) w') : CacheI L ρ (entA (abs S) k x d) w' := by
  obtain ⟨n1, n2⟩ := ent_nd hn ha K e ⟨k, x, d⟩
  have hr : (entS S K e ⟨k, x, d⟩).room = S.room := rfl
  have hl : (((entS S K e ⟨k, x, d⟩).li false).length : Int) ≤ S.room + 1 := by
    rw [← abs_len, hab]
    have h1 := raw_len (abs S) k x d false
    have h2 := hA.cl
    have h3 : (abs S).room = S.room := rfl
    omega
  obtain ⟨t1, t2, t3⟩ := good_trim hg n1 n2 hA.room hl
  have e1 : abs (trimS (entS S K e ⟨k, x, d⟩)) = entA (abs S) k x d := by rw [t2, hab]; rfl
  refine ⟨⟨_, hI, t1, e1⟩, ⟨?_, ?_, hA.room⟩, hh⟩
  · rw [← e1]; exact good_abs t1 hI.nd
  · have h5 : ((entA (abs S) k x d).li false).length = ((trimS (entS S K e ⟨k, x, d⟩)).li false).length := by rw [← e1, abs_len]
    show (((entA (abs S) k x d).li false).length : Int) ≤ S.room
    rw [h5]
    exact t3
theorem ent_room {K : List (Int × Nat)} {e : Nat} {k : Int} {x : ByteArray} {d : Bool} (hab : abs (entS S K e ⟨k, x, d⟩) = rawA (abs S) k x d) (hA : AOk (abs S)) : (((entS S K e ⟨k, x, d⟩).li false).length : Int) ≤ S.room + 1 := by
  rw [← abs_len, hab]
  have h1 := raw_len (abs S) k x d false
  have h2 := hA.cl
  have h3 : (abs S).room = S.room := rfl
  omega
theorem updP_self (f : Nat → Pg) (e : Nat) : updP f e (f e) = f := by
  funext g
  unfold updP
  split
  · rename_i h; rw [h]
  · rfl

set_option maxHeartbeats 1000000 in
theorem get_any (h : CacheI L ρ A w) {k : Int} (hk : IsI k) (hlen : ∀ t, (A.li t).length ≤ 999998) :
    Calls Try.prog 9 #[.pointer (some ⟨L.c, 0, none⟩), .int .i64 k] w (CallQ L ρ (getA A k) w (resG (lookA A k))) := by
  have hcl := h.ok.cl
  obtain ⟨⟨S, hI, hG, rfl⟩, hA, hh⟩ := h
  have KF := Lib.hid (find_any hI hk)
  rcases good_look hG hA k with ⟨h1, h2⟩ | ⟨e, t, h1, h2, h3, h4, h5⟩
  · rw [h1] at KF
    have e1 : getA (abs S) k = abs S := by unfold getA; rw [h2]
    rw [e1, h2]
    have HC := Lib.hid (show CacheI L ρ (abs S) w from ⟨⟨S, hI, hG, rfl⟩, hA, hh⟩)
    clear hI hG hA hh h1 h2 e1 hk hlen hcl
    unfold ptr at KF
    simp only [Option.map_none] at KF
    go_enter Try.func9, Try.ntmps9
    go_wp2_with (first
      | (go_at_call 22; refine KF.out.mono ?_; rintro e1 w1 ⟨rfl, hw⟩; rw [hw]; clear hw))
    first | go_ret | go_returns
    exact ⟨rfl, ρ, HC.out, CStep.refl _ _⟩
  · rw [h1] at KF
    have e1 : getA (abs S) k = entA (abs S) k (S.pg e).s t := by unfold getA; rw [h5]
    rw [e1, h5]
    obtain ⟨a, b, hab⟩ := List.append_of_mem h2
    have hlS : ∀ t, (S.li t).length ≤ 999998 := fun t => by rw [← abs_len]; exact hlen t
    obtain ⟨g1, g2⟩ := again_good hI hG h2 h3 (S.pg e).s t
    have KL := Lib.hid (leave_any hI hab h4 (by have := hlS t; omega))
    have hse : addS (remS S t a e b) t e = entS S S.keys e ⟨k, (S.pg e).s, t⟩ := by
      have h6 := add_ent (S := S) (S1 := remS S t a e b) (K := S.keys) (e := e) (p := ⟨k, (S.pg e).s, t⟩) (rem_li hI hab) rfl rfl (by
        have h7 : S.pg e = ⟨k, (S.pg e).s, t⟩ := by rw [← h3, ← h4]
        rw [← h7, updP_self]; rfl)
      exact h6
    have hroom := ent_room g2 hA
    -- nothing goes: there are as many clean ones as before
    have hcount : (((entS S S.keys e ⟨k, (S.pg e).s, t⟩).li false).length : Int) ≤ S.room := by
      have h6 : (wo (S.li t) e).length + 1 = (S.li t).length := by rw [wo_mid (hI.nd t) hab, hab]; simp; omega
      have h7 := abs_len S false
      have h8 := wo_len (S.li false) e
      have h9 : (abs S).room = S.room := rfl
      show ((if false = t then wo (S.li false) e ++ [e] else wo (S.li false) e).length : Int) ≤ S.room
      cases t
      · simp; omega
      · simp; omega
    have htr : trimS (entS S S.keys e ⟨k, (S.pg e).s, t⟩) = entS S S.keys e ⟨k, (S.pg e).s, t⟩ := by unfold trimS; exact if_neg (by show ¬ S.room < _; omega)
    have KE : ∀ w1, CInv L ρ (remS S t a e b) w1 → Calls Try.prog 24 #[.pointer (some ⟨L.c, 0, none⟩), .pointer (some ⟨e, 0, none⟩)] w1 fun ev w' => ev = .returned (.tuple #[]) ∧ CInv L ρ (entS S S.keys e ⟨k, (S.pg e).s, t⟩) w' ∧ CStep ρ w1 ρ w' := fun w1 hw1 => by
      have h6 := enter_any hw1 (d := t) (e := e) rfl h4 (fun t' => by rw [rem_li hI hab]; show (wo (S.li t') e).length ≤ _; have := wo_len (S.li t') e; have := hlS t'; omega) (by rw [hse]; exact g1.toKinds) (by rw [hse]; exact hroom) ⟨hA.room, hh⟩
      rw [hse, htr] at h6
      exact h6
    have hfin : ∀ w', CInv L ρ (entS S S.keys e ⟨k, (S.pg e).s, t⟩) w' → CacheI L ρ (entA (abs S) k (S.pg e).s t) w' ∧ w'.cell? ⟨e, 1, none⟩ = some (.string (S.pg e).s) := fun w' hw' => by
      refine ⟨ent_fin hI.nd hI.ap g1 g2 hA hh (by rw [htr]; exact hw'), ?_⟩
      have h6 : (entS S S.keys e ⟨k, (S.pg e).s, t⟩).li t = wo (S.li t) e ++ e :: [] := if_pos rfl
      have h7 := (el_cells (hw'.ele t _ _ _ h6).2).2.1
      rw [h7]
      show some (Value.string (updP S.pg e ⟨k, (S.pg e).s, t⟩ e).s) = _
      rw [updP_same]
    have HE := Lib.hid KE; have HF := Lib.hid hfin
    generalize entS S S.keys e ⟨k, (S.pg e).s, t⟩ = T at HE HF
    generalize remS S t a e b = S1 at KL HE
    generalize hx : (S.pg e).s = x at HF ⊢
    generalize entA (abs S) k x t = A' at HF ⊢
    clear hI hG hA hh h1 h2 h3 h4 h5 hab hlS g1 g2 hse hroom hcount htr KE hfin hk hlen hcl e1 hx
    unfold ptr at KF
    simp only [Option.map_some] at KF
    go_enter Try.func9, Try.ntmps9
    go_wp2_with (first
      | (go_at_call 22; refine KF.out.mono ?_; rintro e1 w1 ⟨rfl, hw⟩; rw [hw]; clear hw)
      | (go_at_call 23; refine KL.out.mono ?_; rintro e1 w1 ⟨rfl, q1, q2⟩; have Q1 := Lib.hid q1; have Q2 := Lib.hid q2.step; clear q1 q2)
      | (go_at_call 24; refine (HE.out _ Q1.out).mono ?_; rintro e1 w2 ⟨rfl, q1, q2⟩; have Q3 := Lib.hid (HF.out _ q1).1; have Q4 := Lib.hid q2; have q5 := (HF.out _ q1).2; clear q1 q2))
    first | go_ret | go_returns
    exact ⟨rfl, ρ, Q3.out, Q2.out.trans Q4.out⟩
def pgS (S : CS) (e : Nat) (p : Pg) : CS := { S with pg := updP S.pg e p }
theorem inv_pg (h : CInv L ρ S w) {e : Nat} (hf : S.fr = some e) (p : Pg) (hb : Blk w' e 56 (elC p none none)) (hk : ∀ k, k ≠ e → w'.heap[k]? = w.heap[k]?) (hz : w'.heap.size = w.heap.size) : CInv L ρ (pgS S e p) w' := by
  have hr := (h.fre e hf).1
  have hne := h.cl_ne (s := true) hr
  refine ⟨h.hc, h.hm, h.hl, (hk _ hne.2.1.symm).trans h.blk, own_keep h.map (hk _ hne.2.2.symm), fun s => (hk _ (h.cl_ne (s := s) hr).1.symm).trans (h.lst s), fun s a g b hab => ?_, fun g hg => ?_, h.nd, h.ap, h.nf, fun k hk' => h.old k (by rw [← hz]; exact hk')⟩
  · replace hab : S.li s = a ++ g :: b := hab
    have hge : g ≠ e := fun he => h.nf e s hf (by rw [hab, he]; simp)
    refine ⟨(h.ele s a g b hab).1, ?_⟩
    show Blk w' g 56 (elC (updP S.pg e p g) _ _)
    rw [updP_other _ _ hge]
    exact (hk g hge).trans (h.ele s a g b hab).2
  · have hge : g = e := by
      have h1 : S.fr = some g := hg
      rw [hf] at h1
      injection h1 with h1
      exact h1.symm
    subst hge
    refine ⟨hr, ?_⟩
    show Blk w' g 56 (elC (updP S.pg g p g) _ _)
    rw [updP_same]
    exact hb
/-- What enter asks and gives, for an element with a new page. -/
theorem enter_ent {S1 : CS} {K : List (Int × Nat)} {e : Nat} {k : Int} {x : ByteArray} {d : Bool} (hS1 : S1.li = fun t => wo (S.li t) e) (hrm : S1.room = S.room) (hK : S1.keys = K) (hp : S1.pg = updP S.pg e ⟨k, x, d⟩) (hf : S1.fr = some e)
    (hn : ∀ s, (S.li s).Nodup) (ha : ∀ e, e ∈ S.li false → e ∉ S.li true) (hlS : ∀ t, (S.li t).length ≤ 999998) (hg : CGood (entS S K e ⟨k, x, d⟩)) (hab : abs (entS S K e ⟨k, x, d⟩) = rawA (abs S) k x d) (hA : AOk (abs S)) (hh : S.room ≤ 9223372036854775807)
    (hI : CInv L ρ S1 w) : Calls Try.prog 24 #[.pointer (some ⟨L.c, 0, none⟩), .pointer (some ⟨e, 0, none⟩)] w fun ev w' => ev = .returned (.tuple #[]) ∧ CacheI L ρ (entA (abs S) k x d) w' ∧ CStep ρ w ρ w' := by
  have hse : addS S1 d e = entS S K e ⟨k, x, d⟩ := add_ent (p := ⟨k, x, d⟩) hS1 hrm hK hp
  have h6 := enter_any hI (d := d) (e := e) hf (by rw [hp, updP_same]) (fun t' => by rw [hS1]; show (wo (S.li t') e).length ≤ _; have := wo_len (S.li t') e; have := hlS t'; omega) (by rw [hse]; exact hg.toKinds) (by rw [hse, hrm]; exact ent_room hab hA) (by rw [hrm]; exact ⟨hA.room, hh⟩)
  rw [hse] at h6
  exact h6.mono fun ev w' hq => ⟨hq.1, ent_fin hn ha hg hab hA hh hq.2.1, hq.2.2⟩

set_option maxHeartbeats 1000000 in
theorem clean_any (h : CacheI L ρ A w) {k : Int} (hk : IsI k) (hlen : ∀ t, (A.li t).length ≤ 999998) :
    Calls Try.prog 13 #[.pointer (some ⟨L.c, 0, none⟩), .int .i64 k] w (CallQ L ρ (cleanA A k) w (.tuple #[])) := by
  obtain ⟨⟨S, hI, hG, rfl⟩, hA, hh⟩ := h
  have KF := Lib.hid (find_any hI hk)
  rcases good_look hG hA k with ⟨h1, h2⟩ | ⟨e, t, h1, h2, h3, h4, h5⟩
  · rw [h1] at KF
    have e1 : cleanA (abs S) k = abs S := by unfold cleanA; rw [h2]
    rw [e1]
    have HC := Lib.hid (show CacheI L ρ (abs S) w from ⟨⟨S, hI, hG, rfl⟩, hA, hh⟩)
    clear hI hG hA hh h1 h2 e1 hk hlen
    unfold ptr at KF
    simp only [Option.map_none] at KF
    go_enter Try.func13, Try.ntmps13
    go_wp2_with (first
      | (go_at_call 22; refine KF.out.mono ?_; rintro e1 w1 ⟨rfl, hw⟩; rw [hw]; clear hw))
    first | go_ret | go_returns
    exact ⟨rfl, ρ, HC.out, CStep.refl _ _⟩
  · rw [h1] at KF
    have e1 : cleanA (abs S) k = entA (abs S) k (S.pg e).s false := by unfold cleanA; rw [h5]
    rw [e1]
    obtain ⟨a, b, hab⟩ := List.append_of_mem h2
    have hlS : ∀ t, (S.li t).length ≤ 999998 := fun t => by rw [← abs_len]; exact hlen t
    obtain ⟨g1, g2⟩ := again_good hI hG h2 h3 (S.pg e).s false
    have KL := Lib.hid (leave_any hI hab h4 (by have := hlS t; omega))
    have hst : ∀ w1, CInv L ρ (remS S t a e b) w1 → CInv L ρ (pgS (remS S t a e b) e ⟨k, (S.pg e).s, false⟩) (w1.setCell ⟨e, 2, none⟩ (.bool false)) ∧ CStep ρ w1 ρ (w1.setCell ⟨e, 2, none⟩ (.bool false)) ∧ w1.frozen? ⟨e, 2, none⟩ = false ∧ w1.cell? ⟨e, 2, none⟩ = some (.bool t) := fun w1 hw1 => by
      obtain ⟨hr, hb⟩ := hw1.fre e rfl
      have hb2 := blk_set hb 2 (.bool false)
      refine ⟨inv_pg hw1 rfl ⟨k, (S.pg e).s, false⟩ ?_ (keep_set _ _ _ _) (size_set _ _ _), CStep.set (by rw [hr]; simp), blk_frozen hb 2, ?_⟩
      · have h7 : S.pg e = ⟨k, (S.pg e).s, t⟩ := by rw [← h3, ← h4]
        have h8 : (remS S t a e b).pg e = S.pg e := rfl
        rw [h8, h7] at hb2
        exact hb2
      · have := (el_cells hb).2.2.1
        rw [this, ← h4]; rfl
    have KE : ∀ w1, CInv L ρ (pgS (remS S t a e b) e ⟨k, (S.pg e).s, false⟩) w1 → Calls Try.prog 24 #[.pointer (some ⟨L.c, 0, none⟩), .pointer (some ⟨e, 0, none⟩)] w1 fun ev w' => ev = .returned (.tuple #[]) ∧ CacheI L ρ (entA (abs S) k (S.pg e).s false) w' ∧ CStep ρ w1 ρ w' := fun w1 hw1 =>
      enter_ent (S := S) (S1 := pgS (remS S t a e b) e ⟨k, (S.pg e).s, false⟩) (K := S.keys) (rem_li hI hab) rfl rfl rfl rfl hI.nd hI.ap hlS g1 g2 hA hh hw1
    have HE := Lib.hid KE; have HS := Lib.hid hst
    generalize pgS (remS S t a e b) e ⟨k, (S.pg e).s, false⟩ = T at HE HS
    generalize remS S t a e b = S1 at KL HS
    generalize entA (abs S) k (S.pg e).s false = A' at HE ⊢
    clear hI hG hA hh h1 h2 h3 h4 h5 hab hlS g1 g2 KE hst hk hlen e1
    unfold ptr at KF
    simp only [Option.map_some] at KF
    go_enter Try.func13, Try.ntmps13
    go_wp2_with (first
      | (go_at_call 22; refine KF.out.mono ?_; rintro e1 w1 ⟨rfl, hw⟩; rw [hw]; clear hw)
      | (go_at_call 23; refine KL.out.mono ?_; rintro e1 w1 ⟨rfl, q1, q2⟩; obtain ⟨r1, r2, r3, r4⟩ := HS.out _ q1; have Q1 := Lib.hid r1; have Q2 := Lib.hid (q2.step.trans r2); clear q1 q2 r1 r2)
      | (go_at_call 24; refine (HE.out _ Q1.out).mono ?_; rintro e1 w2 ⟨rfl, q1, q2⟩; have Q3 := Lib.hid q1; have Q4 := Lib.hid q2; clear q1 q2))
    first | go_ret | go_returns
    exact ⟨rfl, ρ, Q3.out, Q2.out.trans Q4.out⟩
end Go.Proofs.Ytkpgekfejfbpjaa
