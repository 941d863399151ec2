/-
  Layer 11, pages in memory, and the small functions: great, own, Page, the document's Page and noughts: each returns its plain function and changes nothing that was there. Condition: numbers are ints, a slice has at most 2^62 elements.
-/
import Derived.Test.YtjmciknelkodcaaJrMath
import Derived.Test.YtjmciknelkodcaaJhLeaf
import Derived.OwnWalk
import Derived.Deep.RegionHeldLaw
import Derived.Deep.AppendLies
import Derived.Deep.OwnRows
namespace Go.Proofs.Ytjmciknelkodcaa
open Go.RowKit

/-- A slice of pages lies in memory: each element's two cells. -/
def Recs (w : World) (a : Option Addr) (L : List R11) : Prop :=
  ∀ j (hj : j < L.length), ∃ b off, a = some ⟨b, off, none⟩ ∧ b < w.heap.size ∧ w.cell? ⟨b, off + j * 2, none⟩ = some (.int .i64 L[j].n) ∧ w.cell? ⟨b, off + j * 2 + 1, none⟩ = some (.string (ba L[j].d))
theorem recs_next {w w' : World} {a : Option Addr} {L : List R11} (h : Recs w a L) (hb : Below w.heap.size w w') : Recs w' a L := by
  intro j hj
  obtain ⟨b, off, ha, hlt, h1, h2⟩ := h j hj
  exact ⟨b, off, ha, Nat.lt_of_lt_of_le hlt hb.size, (hb.cell hlt).trans h1, (hb.cell hlt).trans h2⟩
theorem recs_nil (w : World) (a : Option Addr) : Recs w a [] := fun j hj => absurd hj (by simp)
theorem recs_alloc {w : World} {a : Option Addr} {L : List R11} (h : Recs w a L) (o : Obj) : Recs (w.alloc o) a L := recs_next h (blw1 _ _)
theorem recs_drew {w : World} {a : Option Addr} {L : List R11} (h : Recs w a L) : Recs w.drew a L := h

def recC (r : R11) : List Value := [.int .i64 r.n, .string (ba r.d)]
def recsC (L : List R11) : List Value := L.flatMap recC
theorem recsC_snoc (L : List R11) (r : R11) : recsC (L ++ [r]) = recsC L ++ recC r := by simp [recsC]
theorem recsC_len (L : List R11) : (recsC L).length = L.length * 2 := by
  induction L with
  | nil => rfl
  | cons v t ih => rw [recsC, List.flatMap_cons, List.length_append, ← recsC, ih]; simp [recC]; omega
theorem recsC_at {L : List R11} {j : Nat} (hj : j < L.length) : (recsC L)[j * 2]? = some (.int .i64 L[j].n) ∧ (recsC L)[j * 2 + 1]? = some (.string (ba L[j].d)) := by
  induction L generalizing j with
  | nil => simp at hj
  | cons v t ih =>
    have e : recsC (v :: t) = .int .i64 v.n :: .string (ba v.d) :: recsC t := rfl
    rw [e]
    cases j with
    | zero => simp
    | succ j =>
      have := ih (j := j) (by simpa using hj)
      rw [show (j + 1) * 2 = j * 2 + 2 by omega]
      simpa using this
theorem raddr_add (g j : Nat) : (⟨g, 0, none⟩ : Addr).add j = ⟨g, j, none⟩ := by cases j <;> simp [Addr.add]
theorem recs_of_own {W : World} {base : Nat} {e : TypeId} {v : Value} {n : Nat} {L : List R11} (h : W.ownsRow base e 2 v n (recsC L)) : ∃ a cap, v = .slice a n cap ∧ L.length = n ∧ Recs W a L ∧ ∀ b off, a = some ⟨b, off, none⟩ → base ≤ b ∧ b < W.heap.size := by
  have hl := h.1
  rw [recsC_len] at hl
  have hln : L.length = n := by omega
  rcases h.2 with ⟨rfl, rfl⟩ | ⟨g, cap, cur, rfl, hb, hg, -⟩
  · exact ⟨none, 0, rfl, hln, (fun j hj => by omega), (fun b off e => by cases e)⟩
  · refine ⟨some ⟨g, 0, none⟩, cap, rfl, hln, (fun j hj => ?_), (fun b off e => by cases e; exact ⟨hb, (Array.getElem?_eq_some_iff.1 hg).1⟩)⟩
    obtain ⟨c0, c1⟩ := recsC_at hj
    have d0 := h.cells (g := g) rfl _ _ c0
    have d1 := h.cells (g := g) rfl _ _ c1
    rw [raddr_add] at d0 d1
    exact ⟨g, 0, rfl, (Array.getElem?_eq_some_iff.1 hg).1, by rw [Nat.zero_add]; exact d0, by rw [Nat.zero_add]; exact d1⟩
theorem rown_below {w w' : World} {base : Nat} {e : TypeId} {size : Nat} {v : Value} {n : Nat} {xs : List Value} (h : w.ownsRow base e size v n xs) (hb : Below w.heap.size w w') : w'.ownsRow base e size v n xs :=
  h.kept (row := none) ⟨hb.os, hb.tape, hb.output, hb.size, fun k hk _ => hb.block k hk⟩ (Classical.em _)
theorem rbelow_own {w W W' : World} {e : TypeId} {size : Nat} {v : Value} {n : Nat} {xs : List Value} (h : Below w.heap.size w W) (ho : W.ownsRow w.heap.size e size v n xs) (hg : W.grownBy W' v.ownBlock) : Below w.heap.size w W' :=
  h.grown hg h.size (fun k e => (ho.lt k e).1)
theorem rone (r : R11) : ∀ u ∈ recC r, u.oneCell' = true := by
  intro u hu
  simp [recC] at hu
  rcases hu with rfl | rfl <;> rfl
theorem rnews (W : World) (r : R11) (t : TypeId) : ∀ j u, (recC r)[j]? = some u → (W.alloc (.cells #[.int .i64 r.n, .string (ba r.d)] t)).cell? ((⟨W.heap.size, 0, none⟩ : Addr).add j) = some u := by
  intro j u hj
  have h := blk_new W t #[.int .i64 r.n, .string (ba r.d)]
  rw [raddr_add]
  match j, hj with
  | 0, hj => simp [recC] at hj; subst hj; exact blk_cell h 0 rfl
  | 1, hj => simp [recC] at hj; subst hj; exact blk_cell h 1 rfl
theorem infoJR : (Try.prog.info? 52).map (fun i => (i.zero, i.size, i.bytes)) = some (some (.agg #[.int .i64 0, .string ⟨#[]⟩]), 2, 24) := by kernel_rfl
theorem infoQR : (Try.prog.info? 43).map (fun i => (i.zero, i.size, i.bytes)) = some (some (.agg #[.int .i64 0, .string ⟨#[]⟩]), 2, 24) := by kernel_rfl

/-- What great answers, from the i-th page on. -/
def greatQ : List R11 → Nat → Bool
  | [], _ => false
  | r :: t, i => if 30 < i ∨ 2000 < r.d.length then true else greatQ t (i + 1)
theorem greatQ_false : ∀ (L : List R11) (i : Nat), greatQ L i = false → (L = [] ∨ i + L.length ≤ 31) ∧ ∀ r ∈ L, r.d.length ≤ 2000 := by
  intro L
  induction L with
  | nil => intro i _; exact ⟨.inl rfl, (fun r hr => by cases hr)⟩
  | cons v t ih =>
    intro i h
    rw [greatQ] at h
    split at h
    · cases h
    · obtain ⟨h1, h2⟩ := ih _ h
      refine ⟨.inr ?_, ?_⟩
      · rcases h1 with rfl | h1
        · simp; omega
        · simp; omega
      · intro r hr
        rcases List.mem_cons.1 hr with rfl | hr
        · omega
        · exact h2 r hr

set_option maxRecDepth 100000 in
set_option maxHeartbeats 1000000 in
theorem great11_any (a : Option Addr) (cap : Nat) (l : List R11) (w : World) (hl : l.length ≤ 4611686018427387904) (ha : Recs w a l) (hd : ∀ r ∈ l, r.d.length ≤ 4611686018427387904) :
    Calls Try.prog 11 #[.slice a l.length cap] w fun e w' => e = .returned (.bool (greatQ l 0)) ∧ w = w' := by
  obtain ⟨len, hlen⟩ : ∃ len, len = l.length := ⟨_, rfl⟩
  rw [← hlen] at hl ⊢
  obtain ⟨r, hr⟩ : ∃ r, r = greatQ l 0 := ⟨_, rfl⟩
  rw [← hr]
  have HA := Lib.hid ha; clear ha
  have HR := Lib.hid hr; clear hr
  have HL := Lib.hid hlen; clear hlen
  have HD := Lib.hid hd; clear hd
  go_enter Try.func11, Try.ntmps11
  go_wp2
  go_loop [3] (fun i => ∃ k : Nat, k ≤ len ∧ k ≤ 31 ∧ i = .int .i64 k ∧ Hid (r = greatQ (l.drop k) k)) (fun i => len - (intOf i).toNat)
  case atStart => exact ⟨0, by omega, by omega, rfl, HR⟩
  case round =>
    obtain ⟨k, hk, hk1, rfl, hz⟩ := hrel
    clear HR
    by_cases hlt : k < len
    · have hlt' : k < l.length := by have := HL.out; omega
      obtain ⟨b, off, rfl, hbw, c0, c1⟩ := HA.out k hlt'
      have hs := HD.out l[k] (List.getElem_mem hlt')
      clear c0
      have hz' := hz.out
      rw [List.drop_eq_getElem_cons hlt', greatQ] at hz'
      obtain ⟨s, hse⟩ : ∃ s, s = ba l[k].d := ⟨_, rfl⟩
      have hss : s.size = l[k].d.length := by rw [hse, ba_size]
      rw [← hss] at hz' hs
      rw [← hse] at c1
      clear hz hse hlt' hss
      by_cases h20 : 30 < k
      · rw [if_pos (Or.inl h20)] at hz'; subst hz'
        go_wp2
        go_ret
        exact ⟨rfl, rfl⟩
      · by_cases h10 : 2000 < s.size
        · rw [if_pos (Or.inr h10)] at hz'; subst hz'
          go_wp2
          go_ret
          exact ⟨rfl, rfl⟩
        · rw [if_neg (by omega)] at hz'
          have HZ := Lib.hid hz'; clear hz'
          go_wp2
          go_round
          case rel => exact ⟨k + 1, by omega, by omega, by go_num, HZ⟩
          case measure => simp [intOf]; omega
    · have hz' := hz.out
      rw [List.drop_eq_nil_of_le (by have := HL.out; omega), greatQ] at hz'
      subst hz'
      clear hz
      go_wp2
      go_ret
      exact ⟨rfl, rfl⟩

set_option maxRecDepth 100000 in
set_option maxHeartbeats 4000000 in
/-- The document's pages as the program's: in a slice of the call's own. -/
theorem own11_any (a : Option Addr) (cap : Nat) (l : List R11) (w : World) (hl : l.length ≤ 4096) (ha : Recs w a l) :
    Calls Try.prog 13 #[.slice a l.length cap] w fun e w' => Below w.heap.size w w' ∧ ∃ a' cap', e = .returned (.slice a' l.length cap') ∧ Recs w' a' l := by
  obtain ⟨len, hlen⟩ : ∃ len, len = l.length := ⟨_, rfl⟩
  rw [← hlen] at hl ⊢
  have HA := Lib.hid ha; clear ha
  have HL := Lib.hid hlen; clear hlen
  obtain ⟨i1, hi1, hz1, hs1, hb1⟩ := info_parts infoJR
  go_enter Try.func13, Try.ntmps13
  go_wp2
  go_loopw [3, 4] (fun x i wr => ∃ k : Nat, k ≤ len ∧ i = .int .i64 k ∧ Hid (wr.ownsRow w.heap.size 52 2 x k (recsC (l.take k))) ∧ Hid (Below w.heap.size w wr)) (fun _ i _ => len - (intOf i).toNat)
  case atStart => exact ⟨0, by omega, rfl, Lib.hid (by rw [List.take_zero]; exact World.ownsRow_nil _ _ _ _), Lib.hid (Below.refl _ _)⟩
  case round =>
    obtain ⟨k, hk, rfl, hown, hB⟩ := hrel
    by_cases hlt : k < len
    · have hlt' : k < l.length := by have := HL.out; omega
      obtain ⟨b, off, rfl, hbw, c0, c1⟩ := HA.out k hlt'
      replace c0 := (hB.out.cell hbw).trans c0
      replace c1 := (hB.out.cell hbw).trans c1
      have hS : recsC (l.take (k + 1)) = recsC (l.take k) ++ recC l[k] := by rw [List.take_succ_eq_append_getElem hlt', recsC_snoc]
      have HS := Lib.hid hS
      obtain ⟨r, hr⟩ : ∃ r, r = l[k] := ⟨_, rfl⟩
      rw [← hr] at c0 c1 HS
      clear hr hlt' hS
      have HO := Lib.hid hown.out
      obtain ⟨n, hn⟩ : ∃ n, n = r.n := ⟨_, rfl⟩
      obtain ⟨d, hd⟩ : ∃ d, d = ba r.d := ⟨_, rfl⟩
      have HRC := Lib.hid (show recC r = [.int .i64 n, .string d] by rw [hn, hd]; rfl)
      rw [← hn] at c0
      rw [← hd] at c1
      clear hn hd
      have hlt1 : (k : Int) < len := by omega
      have hb0 := hB.out.size
      have hne : u3.ownBlock ≠ some b := by
        intro e
        have := (HO.out.lt b e).1
        omega
      go_wp2_with fail
      go_region_held_law (fun w' => w'.cell? ⟨b, off + k * 2, none⟩ = some (.int .i64 n) ∧ w'.cell? ⟨b, off + k * 2 + 1, none⟩ = some (.string d))
        (first
          | go_keep
          | (go_split_ands
             refine ⟨?_, ?_⟩
             · (rw [hgrow.cell_far _ (by simp; omega) (Ne.symm hne)]; assumption)
             · (rw [hgrow.cell_far _ (by simp; omega) (Ne.symm hne)]; assumption)))
        ((refine step_append_lies _ (by rfl) _ _ _ (by rfl) w.heap.size 52 i1 _ 2 24 Try.underlying23 hi1 hz1 hs1 hb1 rfl (by omega) u3 k _ (by rfl) ((HO.out.alloc _).drew)
            ⟨wr.heap.size, 0, none⟩ 1 1 [.int .i64 n, .string d] (by rfl) (by rfl) (World.news_of_block (cs := #[.int .i64 n, .string d]) (t := 52) (fr := (0, 0)) (heap_alloc_new wr _)) (by simp [Value.oneCell'])
            (by omega) (by unfold maxLen; omega) (by omega) (by simp; omega) (wr.heap.size + 1) (by simp) ?_; intro gg cap2 w1 hown1 hgrow hat hlt2))
      have HO1 : Hid (w1.ownsRow w.heap.size 52 2 (.slice (some ⟨gg, 0, none⟩) (k + 1) cap2) (k + 1) (recsC (l.take (k + 1)))) := by rw [HS.out, HRC.out]; exact hown1
      have HB1 := Lib.hid (rbelow_own (hB.out.drew.alloc hb0 _) ((HO.out.alloc _).drew) hgrow)
      clear hown1 hat
      go_wp2
      go_roundw
      case rel => exact ⟨k + 1, by omega, by go_num, HO1, HB1⟩
      case measure => simp [intOf]; omega
    · obtain rfl : k = len := by omega
      have HX := Lib.hid (show wr.ownsRow w.heap.size 52 2 u3 k (recsC l) by have := hown.out; rwa [List.take_of_length_le (by have := HL.out; omega)] at this)
      clear hown
      obtain ⟨a', cap', rfl, hln, hrec, -⟩ := recs_of_own HX.out
      have HRE := Lib.hid hrec
      clear hrec
      go_wp2
      go_ret
      exact ⟨hB.out, a', cap', rfl, HRE.out⟩

set_option maxRecDepth 100000 in
set_option maxHeartbeats 1000000 in
/-- The first page with a number, in a journal. -/
theorem jpage_any (k p : Int) (a : Option Addr) (cap : Nat) (l : List R11) (s : ByteArray) (n : Int) (w : World) (hl : l.length ≤ 4611686018427387904) (ha : Recs w a l) :
    Calls Try.prog 15 #[.agg #[.int .i64 k, .int .i64 p, .slice a l.length cap, .string s], .int .i64 n] w fun e w' => e = .returned (.tuple #[.string (ba (pageR l n).1), .bool (pageR l n).2]) ∧ Below w.heap.size w w' := by
  obtain ⟨len, hlen⟩ : ∃ len, len = l.length := ⟨_, rfl⟩
  rw [← hlen] at hl ⊢
  obtain ⟨r, hr⟩ : ∃ r, r = pageR l n := ⟨_, rfl⟩
  rw [← hr]
  have HA := Lib.hid ha; clear ha
  have HR := Lib.hid hr; clear hr
  have HL := Lib.hid hlen; clear hlen
  have HK := Lib.hid (blk_new w 25 #[.int .i64 k, .int .i64 p, .slice a len cap, .string s])
  have HB0 := Lib.hid (blw1 w (.cells #[.int .i64 k, .int .i64 p, .slice a len cap, .string s] 25))
  have z2 := blk_cell HK.out 2 rfl
  go_enter Try.func15, Try.ntmps15
  go_wp2
  clear z2
  go_loopw [11] (fun i wr => ∃ q : Nat, q ≤ len ∧ i = .int .i64 q ∧ Hid (r = pageR (l.drop q) n) ∧ Hid (Below w.heap.size w wr)) (fun i _ => len - (intOf i).toNat)
  case atStart => exact ⟨0, by omega, rfl, HR, HB0⟩
  case round =>
    obtain ⟨q, hq, rfl, hz, hB⟩ := hrel
    clear HR HB0 HK
    by_cases hlt : q < len
    · have hlt' : q < l.length := by have := HL.out; omega
      obtain ⟨b, off, rfl, hbw, c0, c1⟩ := HA.out q hlt'
      replace c0 := (hB.out.cell hbw).trans c0
      replace c1 := (hB.out.cell hbw).trans c1
      have hz' := hz.out
      rw [List.drop_eq_getElem_cons hlt', pageR] at hz'
      have HBN := Lib.hid (fun (x : Obj) => hB.out.alloc hB.out.size x)
      obtain ⟨m, hm⟩ : ∃ m, m = l[q].n := ⟨_, rfl⟩
      obtain ⟨d, hd⟩ : ∃ d, d = l[q].d := ⟨_, rfl⟩
      rw [← hm, ← hd] at hz'
      rw [← hm] at c0
      rw [← hd] at c1
      clear hz hlt' hm hd
      by_cases hmn : m = n
      · rw [if_pos hmn] at hz'
        subst hz'
        subst hmn
        go_wp2
        go_ret2
        exact ⟨rfl, HBN.out _⟩
      · rw [if_neg hmn] at hz'
        have HZ := Lib.hid hz'; clear hz'
        have t1 : (m == n) = false := by simpa using hmn
        go_wp2
        go_roundw
        case rel => exact ⟨q + 1, by omega, by go_num, HZ, Lib.hid (HBN.out _)⟩
        case measure => simp [intOf]; omega
    · have hz' := hz.out
      rw [List.drop_eq_nil_of_le (by have := HL.out; omega), pageR] at hz'
      subst hz'
      clear hz
      go_wp2
      go_ret2
      exact ⟨rfl, hB.out⟩

set_option maxRecDepth 100000 in
set_option maxHeartbeats 1000000 in
theorem r11page_any (k p : Int) (a : Option Addr) (cap : Nat) (l : List R11) (s : ByteArray) (n : Int) (w : World) (hl : l.length ≤ 4611686018427387904) (ha : Recs w a l) :
    Calls Try.prog 16 #[.agg #[.int .i64 k, .int .i64 p, .slice a l.length cap, .string s], .int .i64 n] w fun e w' => e = .returned (.tuple #[.string (ba (pageR l n).1), .bool (pageR l n).2]) ∧ Below w.heap.size w w' := by
  obtain ⟨len, hlen⟩ : ∃ len, len = l.length := ⟨_, rfl⟩
  rw [← hlen] at hl ⊢
  obtain ⟨r, hr⟩ : ∃ r, r = pageR l n := ⟨_, rfl⟩
  rw [← hr]
  have HA := Lib.hid ha; clear ha
  have HR := Lib.hid hr; clear hr
  have HL := Lib.hid hlen; clear hlen
  have HK := Lib.hid (blk_new w 29 #[.int .i64 k, .int .i64 p, .slice a len cap, .string s])
  have HB0 := Lib.hid (blw1 w (.cells #[.int .i64 k, .int .i64 p, .slice a len cap, .string s] 29))
  have z2 := blk_cell HK.out 2 rfl
  obtain ⟨W0, hW0⟩ : ∃ W0, W0 = w.alloc (.cells #[.int .i64 k, .int .i64 p, .slice a len cap, .string s] 29) := ⟨_, rfl⟩
  go_enter Try.func16, Try.ntmps16
  go_wp2
  rw [← hW0] at z2 HK HB0 ⊢
  clear hW0
  go_loop [6] (fun i => ∃ q : Nat, q ≤ len ∧ i = .int .i64 q ∧ Hid (r = pageR (l.drop q) n)) (fun i => len - (intOf i).toNat)
  case atStart => exact ⟨0, by omega, rfl, HR⟩
  case round =>
    obtain ⟨q, hq, rfl, hz⟩ := hrel
    clear HR HK
    by_cases hlt : q < len
    · have hlt' : q < l.length := by have := HL.out; omega
      obtain ⟨b, off, rfl, hbw, c0, c1⟩ := HA.out q hlt'
      replace c0 := (HB0.out.cell hbw).trans c0
      replace c1 := (HB0.out.cell hbw).trans c1
      have hz' := hz.out
      rw [List.drop_eq_getElem_cons hlt', pageR] at hz'
      obtain ⟨m, hm⟩ : ∃ m, m = l[q].n := ⟨_, rfl⟩
      obtain ⟨d, hd⟩ : ∃ d, d = l[q].d := ⟨_, rfl⟩
      rw [← hm, ← hd] at hz'
      rw [← hm] at c0
      rw [← hd] at c1
      clear hz hlt' hm hd
      by_cases hmn : m = n
      · rw [if_pos hmn] at hz'
        subst hz'
        subst hmn
        go_wp2
        go_ret2
        exact ⟨rfl, HB0.out⟩
      · rw [if_neg hmn] at hz'
        have HZ := Lib.hid hz'; clear hz'
        have t1 : (m == n) = false := by simpa using hmn
        go_wp2
        go_round
        case rel => exact ⟨q + 1, by omega, by go_num, HZ⟩
        case measure => simp [intOf]; omega
    · have hz' := hz.out
      rw [List.drop_eq_nil_of_le (by have := HL.out; omega), pageR] at hz'
      subst hz'
      clear hz
      go_wp2
      go_ret2
      exact ⟨rfl, HB0.out⟩
end Go.Proofs.Ytjmciknelkodcaa
