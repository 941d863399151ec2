/-
  Layer 16, the document's Read: its mathematics and the memory of its loops. Condition: as each theorem says.
-/
import Derived.Test.YtdpjmijdlheajaaNpRead5
import Derived.Test.YtdpjmijdlheajaaNdJoin
namespace Go.Proofs.Ytdpjmijdlheajaa
open Go.RowKit

theorem num_ok {l : List UInt8} (h : (numR l).2 = 0) : 4 ≤ l.length := by
  unfold numR at h
  split at h
  · cases h
  · omega
theorem txt_some {r t : List UInt8} {most k : Nat} (h : txtP r most = some (k, t)) : k ≤ r.length ∧ t.length ≤ most := by
  unfold txtP at h
  split at h
  · rename_i hc
    obtain ⟨h1, h2, h3⟩ := hc
    simp only [Option.some.injEq, Prod.mk.injEq] at h
    obtain ⟨rfl, rfl⟩ := h
    exact ⟨h3, by rw [List.length_take]; omega⟩
  · cases h
theorem val_some {r key : List UInt8} {m : Nat} {c : Cel} (h : valP r key = some (m, c)) : m ≤ r.length := by
  unfold valP at h
  split at h
  · rename_i hc
    obtain ⟨h1, h2, h3⟩ := hc
    split at h
    · rename_i h60
      split at h
      · rename_i hn
        have h4 := num_ok hn
        simp only [Option.some.injEq, Prod.mk.injEq] at h
        obtain ⟨rfl, rfl⟩ := h
        rw [List.length_drop] at h4
        omega
      · cases h
    · rename_i h60
      simp only [Option.some.injEq, Prod.mk.injEq] at h
      obtain ⟨rfl, rfl⟩ := h
      omega
  · cases h
theorem par_many {s : List UInt8} (h : ¬ manyP s ≤ 512) : parN s = none := by unfold parN; rw [if_neg (fun h2 => h h2.2)]
theorem par_leaf {s : List UInt8} (h0 : s.length = 512) (h : manyP s ≤ 512) (hl : leafP s = true) : parN s = (celsP true (manyP s) (s.drop 3)).map fun l => ⟨true, l, []⟩ := by unfold parN; rw [if_pos ⟨h0, h⟩, if_pos hl]
theorem par_inner {s : List UInt8} (h0 : s.length = 512) (h : manyP s ≤ 512) (hl : leafP s = false) : parN s = match kidsP (manyP s + 1) (s.drop 3) with
      | none => none
      | some ks => (celsP false (manyP s) (s.drop (3 + 4 * (manyP s + 1)))).map fun l => ⟨false, l, ks⟩ := by unfold parN; rw [if_pos ⟨h0, h⟩, if_neg (by rw [hl]; decide)]; cases kidsP (manyP s + 1) (s.drop 3) <;> rfl
theorem kids_step {m : Nat} {r : List UInt8} (h : (numR r).2 = 0) (K : List Int) : (kidsP (m + 1) r).map (K ++ ·) = (kidsP m (r.drop 4)).map ((K ++ [(numR r).1]) ++ ·) := by
  rw [kidsP, if_pos h]
  cases kidsP m (r.drop 4) with
  | none => rfl
  | some l => simp
theorem kids_fail {m : Nat} {r : List UInt8} (h : ¬ (numR r).2 = 0) : kidsP (m + 1) r = none := by rw [kidsP, if_neg h]
theorem cels_step {leaf : Bool} {m k : Nat} {r : List UInt8} {c : Cel} (h : celP leaf r = some (k, c)) (K : List Int) (L : List Cel) :
    (celsP leaf (m + 1) r).map (fun l => (⟨leaf, L ++ l, K⟩ : Nod)) = (celsP leaf m (r.drop k)).map (fun l => ⟨leaf, (L ++ [c]) ++ l, K⟩) := by
  rw [celsP, h]
  simp only
  cases celsP leaf m (r.drop k) with
  | none => rfl
  | some l => simp
theorem cels_fail {leaf : Bool} {m : Nat} {r : List UInt8} (h : celP leaf r = none) : celsP leaf (m + 1) r = none := by rw [celsP, h]
theorem cel_text {leaf : Bool} {r : List UInt8} (h : txtP r 100 = none) : celP leaf r = none := by unfold celP; rw [h]
theorem cel_inner {r t : List UInt8} {k : Nat} (h : txtP r 100 = some (k, t)) : celP false r = some (k, ⟨t, 0, [], 0⟩) := by unfold celP; rw [h]; rfl
theorem cel_leaf {r t : List UInt8} {k m : Nat} {c : Cel} (h : txtP r 100 = some (k, t)) (h2 : valP (r.drop k) t = some (m, c)) : celP true r = some (k + m, c) := by unfold celP; rw [h]; simp only [if_true]; rw [h2]
theorem cel_leaf_no {r t : List UInt8} {k : Nat} (h : txtP r 100 = some (k, t)) (h2 : valP (r.drop k) t = none) : celP true r = none := by unfold celP; rw [h]; simp only [if_true]; rw [h2]
theorem celP_sz {leaf : Bool} {r : List UInt8} {k : Nat} {c : Cel} (h : celP leaf r = some (k, c)) : c.key.length ≤ 100 ∧ c.loc.length ≤ 60 := by
  unfold celP at h
  split at h
  · cases h
  · rename_i k2 t ht
    have h1 := (txt_some ht).2
    split at h
    · split at h
      · cases h
      · rename_i m c2 hv
        simp only [Option.some.injEq, Prod.mk.injEq] at h
        obtain ⟨-, rfl⟩ := h
        unfold valP at hv
        split at hv
        · split at hv
          · split at hv
            · simp only [Option.some.injEq, Prod.mk.injEq] at hv
              obtain ⟨-, rfl⟩ := hv
              exact ⟨h1, by rw [List.length_take]; omega⟩
            · cases hv
          · simp only [Option.some.injEq, Prod.mk.injEq] at hv
            obtain ⟨-, rfl⟩ := hv
            exact ⟨h1, by rw [List.length_take]; omega⟩
        · cases hv
    · simp only [Option.some.injEq, Prod.mk.injEq] at h
      obtain ⟨-, rfl⟩ := h
      exact ⟨h1, Nat.zero_le _⟩
theorem cels_psz {leaf : Bool} : ∀ {m : Nat} {r : List UInt8} {l : List Cel}, celsP leaf m r = some l → l.length = m ∧ ∀ c ∈ l, c.key.length ≤ 100 ∧ c.loc.length ≤ 60
  | 0, _, l, h => by
    rw [celsP] at h
    obtain rfl := Option.some.inj h
    exact ⟨rfl, fun c hc => by cases hc⟩
  | m + 1, r, l, h => by
    rw [celsP] at h
    split at h
    · cases h
    · rename_i k c hc
      obtain ⟨t, ht, rfl⟩ := Option.map_eq_some_iff.1 h
      obtain ⟨h1, h2⟩ := cels_psz ht
      refine ⟨by simp [h1], fun x hx => ?_⟩
      rcases List.mem_cons.1 hx with rfl | hx
      · exact celP_sz hc
      · exact h2 x hx
theorem kids_psz : ∀ {m : Nat} {r : List UInt8} {l : List Int}, kidsP m r = some l → l.length = m
  | 0, _, l, h => by
    rw [kidsP] at h
    obtain rfl := Option.some.inj h
    rfl
  | m + 1, r, l, h => by
    rw [kidsP] at h
    split at h
    · obtain ⟨t, ht, rfl⟩ := Option.map_eq_some_iff.1 h
      simp [kids_psz ht]
    · cases h
theorem par_sz {s : List UInt8} {n : Nod} (h : parN s = some n) : NdSz n := by
  have key : ∀ {leaf : Bool} {m : Nat} {r : List UInt8} {l : List Cel}, m ≤ 512 → celsP leaf m r = some l → ∀ K : List Int, K.length ≤ 513 → NdSz ⟨leaf, l, K⟩ := fun hm hc K hK => by
    obtain ⟨h1, h2⟩ := cels_psz hc
    exact ⟨by simp only; omega, by simp only; omega, fun k hk => Nat.le_trans (h2 _ (List.getElem_mem hk)).1 (by decide), fun k hk => Nat.le_trans (h2 _ (List.getElem_mem hk)).2 (by decide)⟩
  unfold parN at h
  split at h
  · rename_i hc
    split at h
    · obtain ⟨l, hl, rfl⟩ := Option.map_eq_some_iff.1 h
      exact key hc.2 hl [] (by simp)
    · split at h
      · cases h
      · rename_i ks hk
        obtain ⟨l, hl, rfl⟩ := Option.map_eq_some_iff.1 h
        exact key hc.2 hl ks (by rw [kids_psz hk]; have := hc.2; omega)
  · cases h
theorem rd_par (s : List UInt8) : rdN s = match parN s with | none => none | some n => if wriN n = (s, 0) then some n else none := rfl
section
variable {w0 W W' : World} {gx gr base : Nat} {tn tc : TypeId} {leaf : Bool} {cv kv : Value} {L : List Cel} {K : List Int}
/-- A turn of a block beside it. -/
theorem NJ.gby (h : NJ w0 gx gr base tn tc leaf cv kv L K W) {g : Nat} (hg : W.grownBy W' (some g)) (hb : base ≤ g) (nc : some g ≠ cv.ownBlock) (nk : some g ≠ kv.ownBlock) : NJ w0 gx gr base tn tc leaf cv kv L K W' := by
  have lx := h.lx; have lr := h.lr; have wx := h.wx
  exact ⟨blk_gby h.hx hg (by omega), blk_gby h.hr hg (by omega), h.cr.kept hg (by
    cases e : cv.ownBlock with
    | none => exact .inl rfl
    | some q => exact .inr (fun e2 => nc (by rw [e]; exact e2.symm))), h.kr.kept hg (by
    cases e : kv.ownBlock with
    | none => exact .inl rfl
    | some q => exact .inr (fun e2 => nk (by rw [e]; exact e2.symm))), h.ne, lx, lr, h.nr, wx, h.wr, h.bw.trans (gby_below hg (by omega) h.bw.size), Nat.le_trans h.bs hg.size⟩
end
/-- A node in the making, with a cell beside it. -/
structure NC (w0 : World) (gx gr base : Nat) (tn tc : TypeId) (leaf : Bool) (cv kv : Value) (L : List Cel) (K : List Int) (g : Nat) (cs : Array Value) (W : World) : Prop where
  nj : NJ w0 gx gr base tn tc leaf cv kv L K W
  bc : Blk W g tc cs
  nc : some g ≠ cv.ownBlock
  nk : some g ≠ kv.ownBlock
  lg : base ≤ g
section
variable {w0 W W' : World} {gx gr base g : Nat} {tn tc : TypeId} {leaf : Bool} {cv kv : Value} {L : List Cel} {K : List Int} {cs : Array Value}
theorem NC.below (h : NC w0 gx gr base tn tc leaf cv kv L K g cs W) (hb : Below W.heap.size W W') : NC w0 gx gr base tn tc leaf cv kv L K g cs W' :=
  ⟨h.nj.below hb, blk_below h.bc hb, h.nc, h.nk, h.lg⟩
theorem NC.set (h : NC w0 gx gr base tn tc leaf cv kv L K g cs W) (i : Nat) (v : Value) : NC w0 gx gr base tn tc leaf cv kv L K g (cs.setIfInBounds i v) (W.setCell ⟨g, i, none⟩ v) :=
  ⟨h.nj.gby (Lib.grownBy_setCell W g i v) h.lg h.nc h.nk, blk_set h.bc i v, h.nc, h.nk, h.lg⟩
theorem nc_start (h : NJ w0 gx gr base tn tc leaf cv kv L K W) (cs : Array Value) : NC w0 gx gr base tn tc leaf cv kv L K W.heap.size cs (W.alloc (.cells cs tc)) :=
  ⟨h.alloc _, blk_new _ _ _, (fun e => by have := (h.cr.lt _ e.symm).2; omega), (fun e => by have := (h.kr.lt _ e.symm).2; omega), h.bs⟩
end
end Go.Proofs.Ytdpjmijdlheajaa
