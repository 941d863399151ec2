/-
  Layer 12: Drop of the program: all pages from a number on are gone. Condition: numbers are ints; the lists have at most 999998 elements.
-/
import Derived.Test.YtkpgekfejfbpjaaCchGet
import Derived.Maps.RangeWalk
namespace Go.Proofs.Ytkpgekfejfbpjaa
open Go.RowKit
variable {L : CL} {ρ ρ' : Nat → Option CRole} {S : CS} {A : AP} {w w' : World}

theorem keyI_inv {key : Value} {kl : Lit} (h : keyOf Try.prog 3 key = some kl) : ∃ x : Int, key = .int .i64 x := by
  obtain ⟨x, e, -, -⟩ := Maps.keyOf_int_inv (q := .i64) (by kernel_rfl) h
  exact ⟨x, e⟩
theorem keyI_lit {x : Int} {kl : Lit} (h : keyOf Try.prog 3 (.int .i64 x) = some kl) : kl = .int .i64 x := by
  obtain ⟨x', e, e2, -⟩ := Maps.keyOf_int_inv (q := .i64) (by kernel_rfl) h
  injection e with _ e
  rw [e2, e]
theorem elR_shape {v : Value} {y : DataW Unit × List MemPlace} (h : elR v = some y) : ∃ c : Option Addr, v = .pointer c := by
  unfold elR at h
  split at h
  · exact ⟨_, rfl⟩
  · exact ⟨_, rfl⟩
  · cases h
theorem elR_at {l : List (Int × Nat)} {k : Int} {e : Nat} {c : Option Addr} {y : DataW Unit × List MemPlace} (h : findK l k = some e) (hc : elR (.pointer c) = some y) (hy : ∀ zd, (keyD l).atKey (.int .i64 k) zd = y.1) : c = some ⟨e, 0, none⟩ := by
  have e1 := keyD_at l k
  rw [h, hy] at e1
  simp only at e1
  unfold elR at hc
  split at hc
  · simp at hc; rw [← hc] at e1; cases e1
  · rename_i g hg
    simp at hc
    rw [← hc] at e1
    injection e1 with e1
    injection e1 with _ e1
    have : g = e := by omega
    subst this
    injection hg
  · cases hc
theorem keyD_found {l : List (Int × Nat)} {k : Int} {y : DataW Unit} (hy : ∀ zd, (keyD l).atKey (.int .i64 k) zd = y) : ∃ e, findK l k = some e := by
  cases h : findK l k with
  | some e => exact ⟨e, rfl⟩
  | none =>
    have e1 : ∀ zd, (keyD l).atKey (.int .i64 k) zd = zd := fun zd => by
      have h1 := keyD_has l k
      rw [h] at h1
      exact Maps.atKey_of_not_has h1 zd
    have h2 := (hy .nil).symm.trans (e1 .nil)
    have h3 := (hy (.lit (.bool true))).symm.trans (e1 (.lit (.bool true)))
    rw [h2] at h3
    cases h3
theorem ranges_keep {b r n : Nat} {D : DataW Unit} {left : Lit → Bool} {cnt : Nat} (h : w.ranges Try.prog 3 elR b r n D left cnt) (h1 : w'.heap[b]? = w.heap[b]?) (h2 : w'.heap[r]? = w.heap[r]?) : w'.ranges Try.prog 3 elR b r n D left cnt := by
  obtain ⟨es, clock, since, seen, c0, hb, F, hs, hD, hr, rest⟩ := h
  exact ⟨es, clock, since, seen, c0, h1.trans hb, F, hs, hD, h2.trans hr, rest⟩
theorem ranges_lt {b r n : Nat} {D : DataW Unit} {left : Lit → Bool} {cnt : Nat} (h : w.ranges Try.prog 3 elR b r n D left cnt) : r < w.heap.size := by
  obtain ⟨es, clock, since, seen, c0, hb, F, hs, hD, hr, rest⟩ := h
  exact (Array.getElem?_eq_some_iff.1 hr).1
/-- What is still there, at some point of the loop. -/
def keepF (f : Int) (left : Lit → Bool) (q : PP) : Bool := decide (q.1 < f) || left (.int .i64 q.1)
/-- What holds at the head of each round. -/
structure DropI (L : CL) (ρ : Nat → Option CRole) (S : CS) (f : Int) (w : World) (left : Lit → Bool) (S2 : CS) (wr : World) : Prop where
  inv : CInv L ρ S2 wr
  good : CGood S2
  room : S2.room = S.room
  li : ∀ t, (abs S2).li t = ((abs S).li t).filter (keepF f left)
  step : CStep ρ w ρ wr
theorem drop_len {f : Int} {left : Lit → Bool} {S2 : CS} {wr : World} (h : DropI L ρ S f w left S2 wr) (t : Bool) : (S2.li t).length ≤ (S.li t).length := by
  rw [← abs_len, ← abs_len, h.li]
  exact List.length_filter_le _ _
theorem drop_end {f : Int} {left : Lit → Bool} {S2 : CS} {wr : World} (h : DropI L ρ S f w left S2 wr) (hl : ∀ k, left k = false) (hA : AOk (abs S)) (hh : S.room ≤ 9223372036854775807) : CacheI L ρ (dropA (abs S) f) wr := by
  have e : abs S2 = dropA (abs S) f := by
    show AP.mk S2.room (abs S2).li = AP.mk S.room _
    rw [h.room]
    congr 1
    funext t
    rw [h.li]
    refine List.filter_congr fun q _ => ?_
    unfold keepF
    rw [hl]
    simp
  refine ⟨⟨S2, h.inv, h.good, e⟩, ⟨?_, ?_, hA.room⟩, hh⟩
  · rw [← e]; exact good_abs h.good h.inv.nd
  · have h1 := List.length_filter_le (fun q : PP => decide (q.1 < f)) ((abs S).li false)
    have h2 := hA.cl
    show ((((abs S).li false).filter fun q => decide (q.1 < f)).length : Int) ≤ (abs S).room
    omega
/-- A page that stays. -/
theorem drop_stay {f : Int} {left : Lit → Bool} {S2 : CS} {wr w1 : World} {k : Int} (h : DropI L ρ S f w left S2 wr) (hk : k < f) (hi : CInv L ρ S2 w1) (hs : CStep ρ w ρ w1) : DropI L ρ S f w (fun z => left z && !z.sameKey (.int .i64 k)) S2 w1 := by
  refine ⟨hi, h.good, h.room, fun t => ?_, hs⟩
  rw [h.li]
  refine List.filter_congr fun q _ => ?_
  unfold keepF
  show _ = (_ || (left _ && !(Lit.int .i64 q.1).sameKey (.int .i64 k)))
  rw [same_int]
  by_cases hq : q.1 = k
  · have : decide (q.1 < f) = true := by simpa [hq] using hk
    simp [this]
  · have : (q.1 == k) = false := by simpa using hq
    simp [this]
/-- A page that goes. -/
theorem drop_gone {f : Int} {left : Lit → Bool} {S2 : CS} {wr w2 : World} {k : Int} {s : Bool} {e : Nat} {a b : List Nat} (h : DropI L ρ S f w left S2 wr) (hk : ¬ k < f) (hl : S2.li s = a ++ e :: b) (hn : (S2.pg e).n = k) (hi : CInv L ρ (dropS S2 s a e b) w2) (hs : CStep ρ w ρ w2) : DropI L ρ S f w (fun z => left z && !z.sameKey (.int .i64 k)) { dropS S2 s a e b with fr := none } w2 := by
  obtain ⟨g1, g2⟩ := good_drop h.good hl (h.inv.nd s) (h.inv.ap2 (by rw [hl]; simp))
  refine ⟨⟨hi.hc, hi.hm, hi.hl, hi.blk, hi.map, hi.lst, hi.ele, fun e he => (by cases he), hi.nd, hi.ap, fun e s he => (by cases he), hi.old⟩, ⟨⟨g1.dd, g1.ii⟩, g1.kk, g1.kn, g1.kl⟩, h.room, fun t => ?_, hs⟩
  have e1 := g2 t
  rw [hn] at e1
  show (abs (dropS S2 s a e b)).li t = _
  rw [e1, h.li]
  unfold rmL
  rw [List.filter_filter]
  refine List.filter_congr fun q _ => ?_
  unfold keepF
  show _ = (_ || (left _ && !(Lit.int .i64 q.1).sameKey (.int .i64 k)))
  rw [same_int]
  by_cases hq : q.1 = k
  · have : decide (q.1 < f) = false := by simpa [hq] using hk
    have h9 : f ≤ k := by omega
    simp [this, hq, h9]
  · have : (q.1 == k) = false := by simpa using hq
    simp [this]
theorem drop_start (hI : CInv L ρ S w) (hG : CGood S) {w0 : World} (h0 : CInv L ρ S w0) (hs : CStep ρ w ρ w0) (f : Int) : DropI L ρ S f w (Maps.has (keyD S.keys)) S w0 := by
  refine ⟨h0, hG, rfl, fun t => ?_, hs⟩
  symm
  rw [List.filter_eq_self]
  intro q hq
  obtain ⟨g, hg, rfl⟩ := List.mem_map.1 hq
  unfold keepF
  rw [keyD_has]
  have := (hG.kk _ g).2 ⟨⟨t, hg⟩, rfl⟩
  show (_ || (findK S.keys (S.pg g).n).isSome) = true
  rw [this]
  simp

set_option maxHeartbeats 2000000 in
set_option maxRecDepth 100000 in
theorem drop_any (h : CacheI L ρ A w) {f : Int} (hf : IsI f) (hlen : ∀ t, (A.li t).length ≤ 499999) :
    Calls Try.prog 15 #[.pointer (some ⟨L.c, 0, none⟩), .int .i64 f] w (CallQ L ρ (dropA A f) w (.tuple #[])) := by
  obtain ⟨⟨S, hI, hG, rfl⟩, hA, hh⟩ := h
  have hlS : ∀ t, (S.li t).length ≤ 499999 := fun t => by rw [← abs_len]; exact hlen t
  have c1 := (ca_cells hI.blk).2.1
  have hown := hI.map
  have HA := Lib.hid hA; have HH := Lib.hid hh; have HI := Lib.hid hI; have HG := Lib.hid hG; have HLS := Lib.hid hlS
  have hmr : L.m < w.heap.size := hI.lt (by rw [hI.hm]; simp)
  have HMR := Lib.hid hmr
  clear hA hh hG hI hlS hlen hmr
  go_enter Try.func15, Try.ntmps15
  go_wp2_with (first
    | (at_range; refine wpList_range_own _ rfl _ 44 rfl 3 46 lawInt underM elR L.m _ _ rfl hown ?_; intro w0 hrg0 hg0 hs0)
    | go_in)
  go_frame
  have hb0 : Below w.heap.size w w0 := ⟨hg0.os, hg0.tape, hg0.output, hg0.size, fun k hk => hg0.block k hk (by simp)⟩
  have HD0 := Lib.hid (drop_start HI.out HG.out (HI.out.below hb0) (CStep.below hb0) f)
  go_loopw [] (fun wr => ∃ (left : Lit → Bool) (cnt : Nat) (S2 : CS), wr.ranges Try.prog 3 elR L.m w.heap.size S.keys.length (keyD S2.keys) left cnt ∧ Hid (DropI L ρ S f w left S2 wr))
    (fun wr => wr.rangeLeft L.m w.heap.size)
  case atStart => exact ⟨_, _, S, hrg0, HD0⟩
  case round =>
    obtain ⟨left, cnt, S2, hrg, HD⟩ := hrel
    clear hown hrg0 hg0 hs0 c1 hb0 HD0
    go_wp2_with (first
      | (at_next; refine wpList_next_ranges _ rfl _ rfl 3 lawInt elR (Value.int .i64) Value.pointer (fun key kl hkey => keyI_inv hkey) (fun v y hv => elR_shape hv) L.m w.heap.size _ _ _ _ rfl hrg ?_ ?_)
      | go_in)
    · intro hc0 hl0
      have HE := Lib.hid (drop_end HD.out hl0 HA.out HH.out)
      have HT := Lib.hid HD.out.step
      clear hrg
      go_wp2
      go_returns
      exact ⟨rfl, ρ, HE.out, HT.out⟩
    · intro x c kl y1 y2 w1 cnt1 hkey hlx hy hat hrg1 hlt hg1 hs1 hen
      obtain rfl := keyI_lit hkey
      obtain ⟨e, he⟩ := keyD_found hat
      obtain rfl := elR_at he hy hat
      obtain ⟨⟨s, hm⟩, hn⟩ := (HD.out.good.kk x e).1 he
      have hnr : ρ w.heap.size = none := HI.out.old _ (Nat.le_refl _)
      have hB1 : ∀ k, ρ k ≠ none → w1.heap[k]? = wr.heap[k]? := fun k hk => hg1.block k (HD.out.inv.lt hk) (fun e => by injection e with e; exact hk (by rw [e]; exact hnr))
      have hI1 := HD.out.inv.heap hB1 hg1.size
      have hT1 : CStep ρ w ρ w1 := ⟨hg1.os.trans HD.out.step.os, hg1.tape.trans HD.out.step.tape, hg1.output.trans HD.out.step.output, Nat.le_trans HD.out.step.size hg1.size, fun k hk hkn =>
        (hg1.block k (Nat.lt_of_lt_of_le hk HD.out.step.size) (fun e => by injection e with e; omega)).trans (HD.out.step.blk k hk hkn), fun _ _ => rfl⟩
      have hm0 : wr.rangeLeft L.m w.heap.size = cnt := hrg.left_eq
      have HM0 := Lib.hid hm0; have HRG1 := Lib.hid hrg1; have HLT := Lib.hid hlt; have HN := Lib.hid hn; have HT1 := Lib.hid hT1; have HI1 := Lib.hid hI1
      by_cases hxf : x < f
      · have HD1 := Lib.hid (drop_stay HD.out hxf hI1 hT1)
        have HMM := Lib.hid (HRG1.out.left_eq)
        have hnx : ¬ f ≤ x := by omega
        clear hrg hrg1 hI1 hm0 hn hlt hT1 hB1 hy hat hkey hlx hg1 hs1 hm he
        go_wp2
        go_roundw
        case rel => exact ⟨_, cnt1, S2, HRG1.out, HD1⟩
        case measure => rw [HM0.out, HMM.out]; exact HLT.out
      · obtain ⟨a, b, hab⟩ := List.append_of_mem hm
        have hlx2 : (S2.li s).length ≤ 1000000 := by
          have h1 := drop_len HD.out s
          have h2 := HLS.out s
          omega
        have hK := remove_any hI1 hab (HD.out.good.dd s e hm) hlx2 (HD.out.good.ii s e hm)
        rw [hn] at hK
        have HK := Lib.hid hK
        have HIS := Lib.hid (show IsI x by have := HD.out.good.ii s e hm; rw [hn] at this; exact this)
        have HAB := Lib.hid hab
        have hfx : f ≤ x := by omega
        have HXF := Lib.hid hxf
        clear hrg hrg1 hI1 hm0 hn hlt hT1 hB1 hy hat hkey hlx hg1 hs1 hm he hK hlx2 hab hxf
        go_wp2_with (first
          | (go_at_call 27; refine HK.out.mono ?_; rintro e1 w2 ⟨rfl, q1, q2, w3, ty, q3, q4, q5⟩; have Q1 := Lib.hid q1; have Q2 := Lib.hid q2; have Q3 := Lib.hid q3; have Q4 := Lib.hid q4; have Q5 := Lib.hid q5; clear q1 q2 q3 q4 q5))
        have hrk : w3.ranges Try.prog 3 elR L.m w.heap.size S.keys.length (keyD S2.keys) (fun z => left z && !z.sameKey (.int .i64 x)) cnt1 := by
          refine ranges_keep HRG1.out Q3.out (Q4.out.blk _ (fun s => ?_) ?_)
          · rw [HI.out.old _ (Nat.le_refl _)]; simp
          · rw [HI.out.old _ (Nat.le_refl _)]; simp
        obtain ⟨w4, cnt2, r1, r2, r3, -⟩ := hrk.drop lawInt underM (keyInt HIS.out) ty
        have hw4 : w4 = w2 := by
          rw [Q5.out] at r1
          injection r1 with _ r1
          exact r1.symm
        subst hw4
        rw [keyD_del, Maps.strike_twice] at r2
        have HD1 := Lib.hid (drop_gone (k := x) HD.out (by have := HXF.out; omega) HAB.out HN.out Q1.out (HT1.out.trans Q2.out))
        have HR2 := Lib.hid r2
        have HMM := Lib.hid (HR2.out.left_eq)
        have HR3 := Lib.hid r3
        clear r1 r2 r3 hrk
        go_roundw
        case rel => exact ⟨_, cnt2, { dropS S2 s a e b with fr := none }, (by show w4.ranges Try.prog 3 elR L.m w.heap.size S.keys.length (keyD (delK S2.keys (S2.pg e).n)) _ cnt2; rw [HN.out]; exact HR2.out), HD1⟩
        case measure => rw [HM0.out, HMM.out]; have := HLT.out; have := HR3.out; omega
end Go.Proofs.Ytkpgekfejfbpjaa
