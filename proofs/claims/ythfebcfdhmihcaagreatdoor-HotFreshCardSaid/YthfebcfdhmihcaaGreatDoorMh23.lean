/-
  Layer 13: HotRecovers, walked over what the row lists. Condition: the listed variables hold what the program's text lays.
  Layer 13: append of any slice's elements onto an own row; a file put into a rising list at its place (mathematics). Condition: lengths far below what a machine bears.
  Layer 13: the helper sorted: the files by their paths, where no path is there twice: a new list; nothing that was there has turned. Condition: at most 1000 files.
  Layer 13: the helper sorted: the files by their paths, where no path is there twice: a new list; nothing that was there has turned. Condition: at most 1000 files.
  Layer 13: the helper works: true. Condition: none.
  Layer 13: a restoration either way (done, or refused where the file can have no such path); a journal that does not name a path has the same state beside it. Condition: the sizes fit.
  Layer 13: a new slice of files beside a calm disk: the disk's calls leave it; the files that are laid, and a restoration, as the statements use them. Condition: the sizes fit.
  Layer 13: the statement HotRecovers, walked: true for all files and every path. Condition: the memory's own bounds.
-/
import Derived.Deep.CutBlock
import Derived.Test.YthfebcfdhmihcaaGreatDoorMh22
import Derived.Test.YthfebcfdhmihcaaGreatDoorMh20
namespace Go.Proofs.YthfebcfdhmihcaaGreatDoor
open Go.RowKit

/-- The elements behind a slice. -/
def SrcL (w : World) (size : Nat) (vx : Value) (m : Nat) (news : List Value) : Prop := (vx = .slice none 0 0 ∧ m = 0 ∧ news = []) ∨ ∃ ad c, vx = .slice (some ad) m c ∧ news.length = m * size ∧ ∀ j u, news[j]? = some u → w.cell? (ad.add j) = some u
theorem run_append_any {P : Program} (w : World) (base : Nat) (t ty e : TypeId) (i : TypeInfo) (z : Value) (size bytes : Nat) (ht : P.underlying t = some (.slice e)) (hi : P.info? e = some i) (hz : i.zero = some z)
    (hsize : i.size = size) (hby : i.bytes = bytes) (hzs : z.cells.size = size) (hsz : 0 < size)
    (v : Value) (n : Nat) (xs : List Value) (hown : w.ownsRow base e size v n xs) (x : Value) (m : Nat) (news : List Value) (hx : SrcL w size x m news) (h1 : ∀ u ∈ news, u.oneCell' = true)
    (h63 : n + m ≤ maxLen) (hbytes : (n + m) * bytes ≤ 140737488355328) (hbase : base ≤ w.heap.size) :
    ∃ v' w', (Builtin.append_ #[t, t] ty #[v, x]).run P w = .ok v' w' ∧ w'.ownsRow base e size v' (n + m) (xs ++ news) ∧ w.grownBy w' v.ownBlock ∧ (v'.ownBlock = v.ownBlock ∨ v'.ownBlock = some w.heap.size) := by
  rcases hx with ⟨rfl, rfl, rfl⟩ | ⟨ad, c, rfl, hl, hc⟩
  · exact run_append_row w base t ty e i z size bytes ht hi hz hsize hby hzs hsz v n xs hown (b2 := 0) (.slice none 0 0) 0 [] (World.ownsRow_nil _ _ _ _) h1 h63 hbytes hbase
  · obtain ⟨v', w', hr, h2, h3, -, h5⟩ := run_append_own_at (P := P) w base t ty e i z size bytes ht hi hz hsize hby hzs hsz v n xs hown ad m c news hl hc h1 h63 hbytes hbase
    exact ⟨v', w', hr, h2, h3, h5⟩
theorem wpList_append_any {P : Program} (w : World) {ops : Array Oper} {rest : List Oper} {o : Oper} {a : Act} {Q : Exit → Act → World → Prop} (hgd : o.guard = none) (s x : Operand) (t : TypeId)
    (ho : o.op = .call { callee := .builtin .append, args := #[s, x], argTypes := #[t, t] })
    (base : Nat) (e : TypeId) (i : TypeInfo) (z : Value) (size bytes : Nat) (ht : P.underlying t = some (.slice e)) (hi : P.info? e = some i) (hz : i.zero = some z)
    (hsize : i.size = size) (hby : i.bytes = bytes) (hzs : z.cells.size = size) (hsz : 0 < size)
    (v : Value) (n : Nat) (xs : List Value) (hs : a.eval s = v) (hown : w.ownsRow base e size v n xs)
    (vx : Value) (m : Nat) (news : List Value) (hx : a.eval x = vx) (hxo : SrcL w size vx m news) (h1 : ∀ u ∈ news, u.oneCell' = true)
    (h63 : n + m ≤ maxLen) (hbytes : (n + m) * bytes ≤ 140737488355328) (hbase : base ≤ w.heap.size)
    (h : ∀ v' w', w'.ownsRow base e size v' (n + m) (xs ++ news) → w.grownBy w' v.ownBlock → (v'.ownBlock = v.ownBlock ∨ v'.ownBlock = some w.heap.size) → wpList P ops Q rest (a.put o.dst v') w') : wpList P ops Q (o :: rest) a w :=
  wpList_plain hgd fun K hK => by
    obtain ⟨v', w', hr, h2, h3, h4⟩ := run_append_any (P := P) w base t o.type e i z size bytes ht hi hz hsize hby hzs hsz v n xs hown vx m news hxo h1 h63 hbytes hbase
    unfold Oper.wp execOp
    simp only [ho, resolve, invoke, builtin, Sem.run_bind, Sem.run_pure, Result.andThen_ok, List.map_toArray, List.map_cons, List.map_nil, hs, hx, hr]
    exact hK _ _ (h v' w' h2 h3 h4)
theorem own_base {w : World} {b b' : Nat} {e : TypeId} {size n : Nat} {v : Value} {xs : List Value} (h : w.ownsRow b e size v n xs) (hb : b' ≤ b) : w.ownsRow b' e size v n xs := by
  refine ⟨h.1, ?_⟩
  rcases h.2 with h | ⟨g, cap, cur, h1, h2, h3⟩
  · exact .inl h
  · exact .inr ⟨g, cap, cur, h1, Nat.le_trans hb h2, h3⟩
theorem fls_ones (l : List F13) : ∀ u ∈ flsC l, u.oneCell' = true := fun u hu => by
  obtain ⟨f, -, hf⟩ := List.mem_flatMap.1 hu
  exact fone f u hf
/-- A file put into a rising list at its place. -/
theorem ins_split {x : F13} : ∀ {l : List F13} {q : Nat}, q ≤ l.length → (∀ f, f ∈ l → f.1 ≠ x.1) → (∀ j (hj : j < l.length), j < q → bytesBefore l[j].1 x.1 = true) → (q = l.length ∨ ∃ hq : q < l.length, bytesBefore l[q].1 x.1 = false) → SrtF l → l.take q ++ x :: l.drop q = insF x l
  | [], q, hq, _, _, _, _ => by
    have : q = 0 := by simpa using hq
    subst this; rfl
  | y :: r, 0, _, hn, _, he, _ => by
    have hf : bytesBefore y.1 x.1 = false := by
      rcases he with he | ⟨_, he⟩
      · simp at he
      · exact he
    show x :: y :: r = insF x (y :: r)
    unfold insF
    rw [if_neg (fun h => by rw [(before_lt y.1 x.1).2 h] at hf; cases hf), if_neg (hn y (List.mem_cons_self ..))]
  | y :: r, q + 1, hq, hn, hb, he, hs => by
    have hy : y.1 < x.1 := (before_lt _ _).1 (hb 0 (by simp) (by omega))
    unfold insF
    rw [if_pos hy]
    show y :: (r.take q ++ x :: r.drop q) = y :: insF x r
    congr 1
    refine ins_split (by simpa using hq) (fun f hf => hn f (List.mem_cons_of_mem _ hf)) (fun j hj h => hb (j + 1) (by simpa using hj) (by omega)) ?_ (List.pairwise_cons.1 hs).2
    rcases he with he | ⟨h1, he⟩
    · exact .inl (by simpa using he)
    · exact .inr ⟨by simpa using h1, he⟩
end Go.Proofs.YthfebcfdhmihcaaGreatDoor

namespace Go.Proofs.YthfebcfdhmihcaaGreatDoor
open Go.RowKit

/-- What the round has laid, by the form of its slice. -/
def OutR (wr : World) (base : Nat) (o : Value) (out : List F13) : Prop := wr.ownsRow base 46 2 o out.length (flsC out)
theorem flsC_app (l m : List F13) : flsC (l ++ m) = flsC l ++ flsC m := by simp [flsC]
theorem flsC_take (l : List F13) : ∀ q, (flsC l).take (q * 2) = flsC (l.take q) := by
  induction l with
  | nil => intro q; simp [flsC]
  | cons f t ih =>
    intro q
    cases q with
    | zero => rfl
    | succ q =>
      have e : flsC (f :: t) = .string (ba f.1) :: .string (ba f.2) :: flsC t := rfl
      have e2 : flsC ((f :: t).take (q + 1)) = .string (ba f.1) :: .string (ba f.2) :: flsC (t.take q) := rfl
      rw [e, e2, ← ih q, show (q + 1) * 2 = q * 2 + 1 + 1 by omega]
      rfl
theorem flsC_drop (l : List F13) : ∀ q, (flsC l).drop (q * 2) = flsC (l.drop q) := by
  induction l with
  | nil => intro q; simp [flsC]
  | cons f t ih =>
    intro q
    cases q with
    | zero => rfl
    | succ q =>
      have e : flsC (f :: t) = .string (ba f.1) :: .string (ba f.2) :: flsC t := rfl
      rw [e, show (q + 1) * 2 = q * 2 + 1 + 1 by omega]
      exact ih q
theorem src_take {w W : World} {base g oc : Nat} {out : List F13} {q cp : Nat} (h : OutR w base (.slice (some ⟨g, 0, none⟩) out.length oc) out) (hb : W.heap[g]? = w.heap[g]?) (hq : q ≤ out.length) : SrcL W 2 (.slice (some ⟨g, 0, none⟩) q cp) q (flsC (out.take q)) := by
  refine .inr ⟨_, _, rfl, by rw [flsC_len, List.length_take, Nat.min_eq_left hq], fun j u hu => ?_⟩
  rw [← flsC_take, List.getElem?_take] at hu
  split at hu
  · have := h.cells (g := g) rfl j u hu
    rw [← this]
    exact World.cell?_of_block (by rw [Addr.add_lit]; exact hb)
  · cases hu
theorem src_drop {w W : World} {base g oc : Nat} {out : List F13} {q cp : Nat} (h : OutR w base (.slice (some ⟨g, 0, none⟩) out.length oc) out) (hb : W.heap[g]? = w.heap[g]?) (hq : q ≤ out.length) : SrcL W 2 (.slice (some ⟨g, q * 2, none⟩) (out.length - q) cp) (out.length - q) (flsC (out.drop q)) := by
  refine .inr ⟨_, _, rfl, by rw [flsC_len, List.length_drop], fun j u hu => ?_⟩
  rw [← flsC_drop, List.getElem?_drop] at hu
  have := h.cells (g := g) rfl _ u hu
  rw [Addr.add_lit] at this ⊢
  rw [← this]
  show W.cell? ⟨g, q * 2 + j, none⟩ = w.cell? ⟨g, 0 + (q * 2 + j), none⟩
  rw [Nat.zero_add]
  exact World.cell?_of_block hb
end Go.Proofs.YthfebcfdhmihcaaGreatDoor

namespace Go.Proofs.YthfebcfdhmihcaaGreatDoor
open Go.RowKit

set_option maxRecDepth 100000 in
set_option maxHeartbeats 4000000 in
theorem sorted_any (a : Option Addr) (cap : Nat) (l : List F13) (w : World) (hl : l.length ≤ 1000) (hd : Dist l) (ha : Fls w a l) :
    Calls Tryz.prog 8 #[.slice a l.length cap] w (FlsQ (layF l) w) := by
  obtain ⟨len, hlen⟩ : ∃ len, len = l.length := ⟨_, rfl⟩
  have HT := Lib.hid (show l.take l.length = l from List.take_length)
  rw [← hlen] at hl HT ⊢
  obtain ⟨i1, hi1, hz1, hs1, hb1⟩ := info_parts infoF13
  have HA := Lib.hid ha; have HL := Lib.hid hlen; have HD := Lib.hid hd
  clear ha hlen hd
  go_enter Tryz.func8, Tryz.ntmps8
  go_wp2
  go_loopw [3, 4] (fun o i wr => ∃ (k : Nat) (out : List F13), k ≤ len ∧ i = .int .i64 k ∧ Hid (out = layF (l.take k)) ∧ Hid (OutR wr w.heap.size o out) ∧ Hid (Below w.heap.size w wr)) (fun _ i _ => len - (intOf i).toNat)
  case atStart => exact ⟨0, [], by omega, rfl, Lib.hid rfl, Lib.hid (World.ownsRow_nil _ _ _ _), Lib.hid (Below.refl _ _)⟩
  case round =>
    obtain ⟨k, out, hk, rfl, hO, hR, hB⟩ := hrel
    by_cases hlt : k < len
    · have hlt' : k < l.length := by have := HL.out; omega
      obtain ⟨b, off, rfl, hbw, c0, c1⟩ := HA.out k hlt'
      rw [← hB.out.cell hbw] at c0 c1
      have t1 : (k : Int) < len := by omega
      have hsn := lay_snoc hlt'
      rw [← hO.out] at hsn
      have hno := HD.out k hlt'
      rw [← hO.out] at hno
      have hsrt := lay_srt (l.take k)
      rw [← hO.out] at hsrt
      have hol := lay_len (l.take k)
      rw [← hO.out, List.length_take] at hol
      obtain ⟨x, hx⟩ : ∃ x, x = l[k] := ⟨_, rfl⟩
      rw [← hx] at c0 c1 hsn hno
      have HSN := Lib.hid hsn
      have HSP := Lib.hid (fun q h1 h2 h3 => ins_split (x := x) (l := out) (q := q) h1 (look_none hno) h2 h3 hsrt)
      clear hx hsn hno hsrt
      rcases hR.out.2 with ⟨rfl, h0⟩ | ⟨g, oc, cur, rfl, hbg, hg, hnc, -⟩
      · obtain rfl : out = [] := List.eq_nil_of_length_eq_zero h0
        clear hR
        go_upto_block 2 with fail
        go_cut [5] from 13 to 31 (fun kv wx => kv = .int .i64 0 ∧ Hid (Below wr.heap.size wr wx))
        case first =>
          go_wp2_with fail
          go_loopw [5] (fun kv wx => kv = .int .i64 0 ∧ Hid (Below wr.heap.size wr wx)) (fun _ _ => 0)
          case atStart => exact ⟨rfl, Lib.hid (Below.refl _ _)⟩
          case round =>
            obtain ⟨rfl, hB2⟩ := hrel
            go_upto_region 6 with (fail)
            go_quiet (fail)
            all_goals go_wp2
            all_goals go_meet
            all_goals exact ⟨rfl, Lib.hid (hB2.out.trans ⟨rfl, rfl, rfl, Nat.le_refl _, fun _ _ => rfl⟩)⟩
        case rest =>
          obtain ⟨rfl, hB2⟩ := hcut
          have e0 := (hB2.out.cell (p := ⟨b, off + k * 2, none⟩) (Nat.lt_of_lt_of_le hbw hB.out.size)).trans c0
          have e1 := (hB2.out.cell (p := ⟨b, off + k * 2 + 1, none⟩) (Nat.lt_of_lt_of_le hbw hB.out.size)).trans c1
          clear c0 c1
          have HM0 := Lib.hid (row_none wc 46 2)
          have hbw2 : b < wc.heap.size := Nat.lt_of_lt_of_le (Nat.lt_of_lt_of_le hbw hB.out.size) hB2.out.size
          go_upto_region 9 with (at_builtin; go_must (refine wpList_append_any _ rfl _ _ 22 rfl wc.heap.size 46 i1 _ 2 32 Tryz.underlying22 hi1 hz1 hs1 hb1 rfl (by decide) _ _ _ rfl HM0.out _ 0 (flsC []) rfl (.inl ⟨rfl, rfl, rfl⟩) (fls_ones _) (by unfold maxLen; omega) (by omega) (by first | (simp; done) | (simp; omega) | omega) ?_; intro v1 w1 hown1 hgrow1 hbk1; have hM1 : Hid (w1.ownsRow wc.heap.size 46 2 v1 0 (flsC [])) := Lib.hid hown1; have G1 : Hid (∀ j, j < wc.heap.size → w1.heap[j]? = wc.heap[j]?) := Lib.hid (fun j hj => (hgrow1.block j (by first | (simp; omega) | (simp; done)) (fun e => by have e9 : j = wc.heap.size := Option.some.inj e; omega)).trans (heap_alloc_old _ _ hj)); have S1 : wc.heap.size + 1 ≤ w1.heap.size := (by simpa using hgrow1.size); have f0 := (World.cell?_of_block (a := ⟨b, off + k * 2, none⟩) (G1.out b hbw2)).trans e0; have f1 := (World.cell?_of_block (a := ⟨b, off + k * 2 + 1, none⟩) (G1.out b hbw2)).trans e1; have O1 := Lib.hid hgrow1; clear hown1 hgrow1 hbk1))
          have hM1a := Lib.hid (rown_below hM1.out (blw1 w1 (.cells #[.string (ba x.1), .string (ba x.2)] 46)))
          go_upto_region 10 with (at_builtin; go_must (refine wpList_append_any _ rfl _ _ 22 rfl wc.heap.size 46 i1 _ 2 32 Tryz.underlying22 hi1 hz1 hs1 hb1 rfl (by decide) _ _ _ rfl hM1a.out _ 1 (f13C x) rfl (.inr ⟨_, _, rfl, rfl, fnews _ x _⟩) (fone x) (by unfold maxLen; omega) (by omega) (by first | (simp; done) | (simp; omega) | omega) ?_; intro v2 w2 hown2 hgrow2 hbk2; have S2 : w1.heap.size + 1 ≤ w2.heap.size := (by simpa using hgrow2.size); have O2 := Lib.hid hgrow2; have hM2 := Lib.hid hown2; clear hown2 hgrow2 hbk2))
          go_wp2_with (at_builtin; go_must (refine wpList_append_any _ rfl _ _ 22 rfl wc.heap.size 46 i1 _ 2 32 Tryz.underlying22 hi1 hz1 hs1 hb1 rfl (by decide) _ _ _ rfl hM2.out _ 0 (flsC []) rfl (.inl ⟨rfl, rfl, rfl⟩) (fls_ones _) (by unfold maxLen; omega) (by omega) (by first | (simp; done) | (simp; omega) | omega) ?_; intro v3 w3 hown3 hgrow3 hbk3; have O3 := Lib.hid hgrow3; have hM3 := Lib.hid hown3; clear hown3 hgrow3 hbk3))
          have HBF := Lib.hid (show Below w.heap.size w w3 from
            (((hB.out.trans (hB2.out.mono hB.out.size)).alloc (Nat.le_trans hB.out.size hB2.out.size) _).grown O1.out (by simp; have := hB.out.size; have := hB2.out.size; omega) (fun j e => by have e9 : wc.heap.size = j := Option.some.inj e; have := hB.out.size; have := hB2.out.size; omega)
              |>.alloc (by have := hB.out.size; have := hB2.out.size; omega) _ |>.grown O2.out (by simp; have := hB.out.size; have := hB2.out.size; omega) (fun j e => by have := (hM1.out.lt j e).1; have := hB.out.size; have := hB2.out.size; omega)
              |>.grown O3.out (by have := hB.out.size; have := hB2.out.size; omega) (fun j e => by have := (hM2.out.lt j e).1; have := hB.out.size; have := hB2.out.size; omega)))
          have HRF := Lib.hid (show OutR w3 w.heap.size v3 (insF x []) from own_base hM3.out (Nat.le_trans hB.out.size hB2.out.size))
          go_roundw
          case rel => exact ⟨k + 1, insF x [], by omega, by go_num, Lib.hid HSN.out.symm, HRF, HBF⟩
          case measure => simp [intOf]; omega
      · have hgl : g < wr.heap.size := (Array.getElem?_eq_some_iff.1 hg).1
        obtain ⟨a9, cap9, he9, -, hfl⟩ := fls_of_own hR.out
        cases he9
        have HFL := Lib.hid hfl
        obtain ⟨N, hN⟩ : ∃ N, N = out.length := ⟨_, rfl⟩
        have HN := Lib.hid hN
        have HR := hR
        rw [← hN] at hol hnc ⊢
        clear hfl hN hg
        go_upto_block 2 with fail
        go_cut [5] from 13 to 31 (fun kv wx => ∃ q : Nat, kv = .int .i64 q ∧ q ≤ N ∧ Hid (out.take q ++ x :: out.drop q = insF x out) ∧ Hid (Below wr.heap.size wr wx))
        case first =>
          go_wp2_with fail
          go_loopw [5] (fun kv wx => ∃ q : Nat, kv = .int .i64 q ∧ q ≤ N ∧ Hid (∀ j (hj : j < out.length), j < q → bytesBefore out[j].1 x.1 = true) ∧ Hid (Below wr.heap.size wr wx)) (fun kv _ => N - (intOf kv).toNat)
          case atStart => exact ⟨0, rfl, by omega, Lib.hid (fun j _ h => absurd h (Nat.not_lt_zero j)), Lib.hid (Below.refl _ _)⟩
          case round =>
            obtain ⟨q, rfl, hq, hpre, hB2⟩ := hrel
            by_cases hqn : q < N
            · have hqo : q < out.length := by have := HN.out; omega
              obtain ⟨g9, o9, he9, hg9, d0, -⟩ := HFL.out q hqo
              cases he9
              rw [← hB2.out.cell hg9, Nat.zero_add] at d0
              have e0 := (hB2.out.cell (p := ⟨b, off + k * 2, none⟩) (Nat.lt_of_lt_of_le hbw hB.out.size)).trans c0
              have t2 : (q : Int) < N := by omega
              have hlss : Op.bytesLess (ba out[q].1).toList (ba x.1).toList = bytesBefore out[q].1 x.1 := by rw [ByteArray.toList_eq, ByteArray.toList_eq, ba_list, ba_list, hless_before]
              cases hbv : bytesBefore out[q].1 x.1 with
              | true =>
                have HPRE := Lib.hid (show ∀ j (hj : j < out.length), j < q + 1 → bytesBefore out[j].1 x.1 = true from fun j hj h => by
                  by_cases e : j < q
                  · exact hpre.out j hj e
                  · obtain rfl : j = q := by omega
                    exact hbv)
                rw [hbv] at hlss
                clear hbv hpre
                generalize out[q] = y at *
                go_upto_region 6 with (fail)
                go_quiet (fail)
                all_goals go_wp2
                all_goals go_roundw
                all_goals first
                  | exact ⟨q + 1, by go_num, by omega, HPRE, Lib.hid (hB2.out.trans ⟨rfl, rfl, rfl, Nat.le_refl _, fun _ _ => rfl⟩)⟩
                  | (simp [intOf]; omega)
              | false =>
                have HSS := Lib.hid (HSP.out q (by have := HN.out; omega) hpre.out (.inr ⟨hqo, hbv⟩))
                rw [hbv] at hlss
                clear hbv hpre
                generalize out[q] = y at *
                go_upto_region 6 with (fail)
                go_quiet (fail)
                all_goals go_wp2
                all_goals go_meet
                all_goals exact ⟨q, rfl, hq, HSS, Lib.hid (hB2.out.trans ⟨rfl, rfl, rfl, Nat.le_refl _, fun _ _ => rfl⟩)⟩
            · obtain rfl : q = N := by omega
              have t2 : ¬ (q : Int) < q := by omega
              have HSS := Lib.hid (HSP.out q (by have := HN.out; omega) (fun j hj h => hpre.out j hj h) (.inl HN.out))
              clear hpre
              go_upto_region 6 with (fail)
              go_quiet (fail)
              all_goals go_wp2
              all_goals go_meet
              all_goals exact ⟨q, rfl, hq, HSS, Lib.hid (hB2.out.trans ⟨rfl, rfl, rfl, Nat.le_refl _, fun _ _ => rfl⟩)⟩
        case rest =>
          obtain ⟨q, rfl, hq, hS, hB2⟩ := hcut
          have hR2 := HR.out
          have HS1 := Lib.hid (show ∀ (W : World) (cp : Nat), W.heap[g]? = wr.heap[g]? → SrcL W 2 (.slice (some ⟨g, 0, none⟩) q cp) q (flsC (out.take q)) from fun W cp h => src_take hR2 h (by rw [← HN.out]; exact hq))
          have HS2 := Lib.hid (show ∀ (W : World), W.heap[g]? = wr.heap[g]? → SrcL W 2 (.slice (if oc = q then some ⟨g, 0, none⟩ else some ⟨g, q * 2, none⟩) (N - q) (oc - q)) (N - q) (flsC (out.drop q)) from fun W h => by
            by_cases e : oc = q
            · rw [if_pos e]
              have hNq : N - q = 0 := by omega
              have hdr : out.drop q = [] := List.drop_eq_nil_of_le (by have := HN.out; omega)
              rw [hNq, hdr]
              exact .inr ⟨_, _, rfl, rfl, fun j u hu => by simp [flsC] at hu⟩
            · rw [if_neg e, HN.out]
              exact src_drop hR2 h (by rw [← HN.out]; exact hq))
          have hgw : g < wc.heap.size := Nat.lt_of_lt_of_le hgl hB2.out.size
          have e0 := (hB2.out.cell (p := ⟨b, off + k * 2, none⟩) (Nat.lt_of_lt_of_le hbw hB.out.size)).trans c0
          have e1 := (hB2.out.cell (p := ⟨b, off + k * 2 + 1, none⟩) (Nat.lt_of_lt_of_le hbw hB.out.size)).trans c1
          clear hR2 c0 c1
          have q1 : (q : Int) ≤ N := by omega
          have q2 : (N : Int) ≤ oc := by omega
          have q3 : (q : Int) ≤ oc := by omega
          have HM0 := Lib.hid (row_none wc 46 2)
          have hk9 : k ≤ 1000 := by omega
          have HGW := Lib.hid (hB2.out.block g hgl)
          have hbw2 : b < wc.heap.size := Nat.lt_of_lt_of_le (Nat.lt_of_lt_of_le hbw hB.out.size) hB2.out.size
          go_upto_region 9 with (at_builtin; go_must (refine wpList_append_any _ rfl _ _ 22 rfl wc.heap.size 46 i1 _ 2 32 Tryz.underlying22 hi1 hz1 hs1 hb1 rfl (by decide) _ _ _ rfl HM0.out _ q (flsC (out.take q)) rfl (HS1.out _ _ ((heap_alloc_old _ _ hgw).trans HGW.out)) (fls_ones _) (by unfold maxLen; omega) (by omega) (by first | (simp; done) | (simp; omega)) ?_; intro v1 w1 hown1 hgrow1 hbk1; have hM1 : Hid (w1.ownsRow wc.heap.size 46 2 v1 q (flsC (out.take q))) := Lib.hid (by simpa using hown1); have G1 : Hid (∀ j, j < wc.heap.size → w1.heap[j]? = wc.heap[j]?) := Lib.hid (fun j hj => (hgrow1.block j (by first | (simp; omega) | (simp; done)) (fun e => by have e9 : j = wc.heap.size := Option.some.inj e; omega)).trans (heap_alloc_old _ _ hj)); have S1 : wc.heap.size + 1 ≤ w1.heap.size := (by simpa using hgrow1.size); have f0 := (World.cell?_of_block (a := ⟨b, off + k * 2, none⟩) (G1.out b hbw2)).trans e0; have f1 := (World.cell?_of_block (a := ⟨b, off + k * 2 + 1, none⟩) (G1.out b hbw2)).trans e1; have O1 := Lib.hid hgrow1; clear hown1 hgrow1 hbk1))
          have hM1a := Lib.hid (rown_below hM1.out (blw1 w1 (.cells #[.string (ba x.1), .string (ba x.2)] 46)))
          go_upto_region 10 with (at_builtin; go_must (refine wpList_append_any _ rfl _ _ 22 rfl wc.heap.size 46 i1 _ 2 32 Tryz.underlying22 hi1 hz1 hs1 hb1 rfl (by decide) _ _ _ rfl hM1a.out _ 1 (f13C x) rfl (.inr ⟨_, _, rfl, rfl, fnews _ x _⟩) (fone x) (by unfold maxLen; omega) (by omega) (by first | (simp; done) | (simp; omega)) ?_; intro v2 w2 hown2 hgrow2 hbk2; have G2 : Hid (∀ j, j < wc.heap.size → w2.heap[j]? = wc.heap[j]?) := Lib.hid (fun j hj => ((hgrow2.block j (by first | (simp; omega) | (simp; done)) (fun e => by have := (hM1.out.lt _ e.symm).1; omega)).trans (heap_alloc_old _ _ (by omega))).trans (G1.out j hj)); have S2 : w1.heap.size + 1 ≤ w2.heap.size := (by simpa using hgrow2.size); have O2 := Lib.hid hgrow2; have hM2 := Lib.hid hown2; clear hown2 hgrow2 hbk2))
          go_wp2_with (at_builtin; go_must (refine wpList_append_any _ rfl _ _ 22 rfl wc.heap.size 46 i1 _ 2 32 Tryz.underlying22 hi1 hz1 hs1 hb1 rfl (by decide) _ _ _ rfl hM2.out _ (N - q) (flsC (out.drop q)) rfl (HS2.out _ ((G2.out g hgw).trans HGW.out)) (fls_ones _) (by unfold maxLen; omega) (by omega) (by omega) ?_; intro v3 w3 hown3 hgrow3 hbk3; have O3 := Lib.hid hgrow3; have hM3 := Lib.hid hown3; clear hown3 hgrow3 hbk3))
          have HBF := Lib.hid (show Below w.heap.size w w3 from
            (((hB.out.trans (hB2.out.mono hB.out.size)).alloc (Nat.le_trans hB.out.size hB2.out.size) _).grown O1.out (by simp; have := hB.out.size; have := hB2.out.size; omega) (fun j e => by have e9 : wc.heap.size = j := Option.some.inj e; have := hB.out.size; have := hB2.out.size; omega)
              |>.alloc (by have := hB.out.size; have := hB2.out.size; omega) _ |>.grown O2.out (by simp; have := hB.out.size; have := hB2.out.size; omega) (fun j e => by have := (hM1.out.lt j e).1; have := hB.out.size; have := hB2.out.size; omega)
              |>.grown O3.out (by have := hB.out.size; have := hB2.out.size; omega) (fun j e => by have := (hM2.out.lt j e).1; have := hB.out.size; have := hB2.out.size; omega)))
          have HRF := Lib.hid (show OutR w3 w.heap.size v3 (insF x out) from by
            have h3 := own_base hM3.out (Nat.le_trans hB.out.size hB2.out.size)
            have e3 : flsC (out.take q) ++ f13C x ++ flsC (out.drop q) = flsC (insF x out) := by rw [← hS.out, flsC_app, List.append_assoc]; rfl
            have e4 : q + 1 + (N - q) = (insF x out).length := by
              rw [← hS.out, List.length_append, List.length_cons, List.length_take, List.length_drop, ← HN.out, Nat.min_eq_left hq]; omega
            rw [e3, e4] at h3
            exact h3)
          go_roundw
          case rel => exact ⟨k + 1, insF x out, by omega, by go_num, Lib.hid HSN.out.symm, HRF, HBF⟩
          case measure => simp [intOf]; omega
    · obtain rfl : k = len := by omega
      have t1 : ¬ (k : Int) < k := by omega
      have hr2 := hR.out
      obtain ⟨a9, cap9, rfl, -, hfl⟩ := fls_of_own hr2
      have hoe := hO.out
      rw [HT.out] at hoe
      have HF := Lib.hid (show _ ∧ _ from ⟨hfl, news_own hr2⟩)
      clear hr2 hfl
      go_wp2
      go_ret
      rw [← hoe]
      exact ⟨a9, cap9, rfl, HF.out, hB.out⟩
end Go.Proofs.YthfebcfdhmihcaaGreatDoor

namespace Go.Proofs.YthfebcfdhmihcaaGreatDoor
open Go.RowKit
variable {P : Nat → Prop} {ea : Addr} {b n m : Nat} {l : List F13} {Q : PQ} {w : World}

def wkF : List F13 := [([97], [120]), ([97, 45, 106], [116, 111, 114, 110])]
theorem wk_lay : layF wkF = wkF := by kernel_rfl
theorem wk_ok : LayOk wkF := by
  intro j hj
  match j, hj with
  | 0, _ => exact show pathB [97] = true ∧ lookF (layF []) [97] = none from ⟨by kernel_rfl, by kernel_rfl⟩
  | 1, _ => exact show pathB [97, 45, 106] = true ∧ lookF (layF [([97], [120])]) [97, 45, 106] = none from ⟨by kernel_rfl, by kernel_rfl⟩
theorem wk_sta : staF wkF [97] = 2 := by kernel_rfl
theorem wk_rec : recF wkF [97] = [([97], [120])] := by kernel_rfl
theorem wk_sup : supD [97, 45, 115, 49, 50] = ([97], true) := by
  have h : freS [97] 12 = [97, 45, 115, 49, 50] := by
    unfold freS
    rw [Lib.itoa_nonneg, Lib.decDigits_two (by decide) (by decide)]
    rfl
  rw [← h, sup_fre (by decide) (by decide)]
  rfl
theorem wk_recok : RecOk wkF [97] := by
  refine ⟨by decide, fun f hf => ?_, fun f hf => ?_, by decide, by decide⟩
  · simp only [wkF, List.mem_cons, List.not_mem_nil, or_false] at hf
    rcases hf with rfl | rfl <;> decide
  · simp only [wkF, List.mem_cons, List.not_mem_nil, or_false] at hf
    rcases hf with rfl | rfl <;> decide
theorem wk_sml : SmlF wkF := wk_recok.sml
theorem fls2 (w : World) (t : TypeId) (f g : F13) : Fls (w.alloc (.cells #[.string (ba f.1), .string (ba f.2), .string (ba g.1), .string (ba g.2)] t)) (some ⟨w.heap.size, 0, none⟩) [f, g] := by
  have h := blk_new w t #[.string (ba f.1), .string (ba f.2), .string (ba g.1), .string (ba g.2)]
  intro j hj
  match j, hj with
  | 0, _ => exact ⟨_, 0, rfl, blk_lt h, blk_cell h 0 rfl, blk_cell h 1 rfl⟩
  | 1, _ => exact ⟨_, 0, rfl, blk_lt h, blk_cell h 2 rfl, blk_cell h 3 rfl⟩
theorem fls1 (w : World) (t : TypeId) (f : F13) : Fls (w.alloc (.cells #[.string (ba f.1), .string (ba f.2)] t)) (some ⟨w.heap.size, 0, none⟩) [f] := by
  have h := blk_new w t #[.string (ba f.1), .string (ba f.2)]
  intro j hj
  match j, hj with
  | 0, _ => exact ⟨_, 0, rfl, blk_lt h, blk_cell h 0 rfl, blk_cell h 1 rfl⟩
set_option maxRecDepth 100000 in
set_option maxHeartbeats 2000000 in
theorem works13_any (w : World) (hg : Gl ea w) (hn : 6 ≤ w.heap.size) :
    Calls Tryz.prog 5 #[] w fun e w' => e = .returned (.bool true) ∧ Below w.heap.size w w' := by
  obtain ⟨N, hN⟩ : ∃ N, N = w.heap.size := ⟨_, rfl⟩
  have hL := laid_any (ea := ea) (some ⟨w.heap.size, 0, none⟩) 2 wkF (w.alloc (.cells #[.string (ba [97]), .string (ba [120]), .string (ba [97, 45, 106]), .string (ba [116, 111, 114, 110])] 46)) (by decide) (by decide) (fls2 w 46 ([97], [120]) ([97, 45, 106], [116, 111, 114, 110])) (gl_keep hg fun k hk => heap_alloc_old _ _ (by omega)) (by simp; omega)
  have hs0 : (w.alloc (.cells #[.string (ba [97]), .string (ba [120]), .string (ba [97, 45, 106]), .string (ba [116, 111, 114, 110])] 46)).heap.size = w.heap.size + 1 := by simp
  rw [hs0, wk_lay] at hL
  have HL := Lib.hid (show Calls Tryz.prog 7 #[.slice (some ⟨w.heap.size, 0, none⟩) 2 2] (w.alloc (.cells #[.string ⟨#[97]⟩, .string ⟨#[120]⟩, .string ⟨#[97, 45, 106]⟩, .string ⟨#[116, 111, 114, 110]⟩] 46)) (fun e w1 => e = .returned (.tuple #[.pointer (some ⟨w.heap.size + 1, 0, none⟩), .bool true]) ∧ Dk (fun k => k < w.heap.size + 1) ea (w.heap.size + 1) 1000 0 wkF QN w1 ∧ Below w.heap.size w w1) from hL.mono fun e w1 hq => by
    rcases hq with ⟨-, h, -⟩ | ⟨h1, h2, -, h3⟩
    · exact absurd wk_ok h
    · exact ⟨h1, h2, ((Below.refl _ _).alloc (Nat.le_refl _) _).trans (h3.mono (Nat.le_succ _))⟩)
  clear hL hs0 hg hn
  have kj := fun W => hjournal_any [97] (by decide) W
  rw [← hN] at HL ⊢
  have HN := Lib.hid hN
  clear hN
  go_enter Tryz.func5, Tryz.ntmps5
  have HN2 := HN.out
  rw [HN2] at HL
  go_upto_region 4 with (go_at_call 7; go_must ((with_reducible refine HL.out.mono ?_); rintro e w1 ⟨rfl, hD, hB⟩; have HD := Lib.hid hD; have HB := Lib.hid hB; clear hD hB))
  clear HN2 HL
  have HS1 := hstate_any HD.out [97] (by decide) wk_sml (by omega)
  rw [wk_sta] at HS1
  have HST := Lib.hid (show Calls Tryz.prog 9 #[.pointer (some ⟨w.heap.size + 1, 0, none⟩), .string ⟨#[97]⟩] w1 (fun e w' => e = .returned (.tuple #[.int .i64 2, .int .i64 0]) ∧ Dk (fun k => k < w.heap.size + 1) ea (w.heap.size + 1) 1001 0 wkF QN w' ∧ Fr (fun k => k < w.heap.size + 1) w1 w') from HS1)
  clear HS1
  go_upto_region 5 with (go_at_call 9; go_must ((with_reducible refine HST.out.mono ?_); rintro e w2 ⟨rfl, hD2, hF2⟩; have HD2 := Lib.hid hD2; have HF2 := Lib.hid hF2; clear hD2 hF2))
  have HS2 := recover_ok (dk_nd HD2.out) wk_recok (fun d _ _ => .inl (by kernel_rfl)) (by omega)
  rw [wk_rec] at HS2
  have HRC := Lib.hid (show Calls Tryz.prog 15 #[.pointer (some ⟨w.heap.size + 1, 0, none⟩), .string ⟨#[97]⟩] w2 (fun e w' => e = .returned (.int .i64 0) ∧ Dk (fun k => k < w.heap.size + 1) ea (w.heap.size + 1) 14201 0 [([97], [120])] QN w' ∧ Fr (fun k => k < w.heap.size + 1) w2 w') from HS2)
  clear HS2
  go_upto_region 6 with (go_at_call 15; go_must ((with_reducible refine HRC.out.mono ?_); rintro e w3 ⟨rfl, hD3, hF3⟩; have HD3 := Lib.hid hD3; have HF3 := Lib.hid (HF2.out.trans hF3); clear hD3 hF3))
  have HS3 := hsuper_any [97, 45, 115, 49, 50] (by decide) w3 HD3.out.gl.tab
  rw [wk_sup] at HS3
  have HSU := Lib.hid (show Calls Tryz.prog 11 #[.string ⟨#[97, 45, 115, 49, 50]⟩] w3 (fun e w' => e = .returned (.tuple #[.string ⟨#[97]⟩, .bool true]) ∧ Below w3.heap.size w3 w') from HS3)
  clear HS3
  go_upto_region 7 with (go_at_call 11; go_must ((with_reducible refine HSU.out.mono ?_); rintro e w4 ⟨rfl, hB4⟩; have HD4 := Lib.hid (dk_below HD3.out hB4); have HF4 := Lib.hid (HF3.out.trans (dk_fr HD3.out hB4)); clear hB4))
  have HS4 := same13_any (some ⟨w4.heap.size, 0, none⟩) 1 (dk_alloc HD4.out (.cells #[.string (ba [97]), .string (ba [120])] 46)) (fls1 w4 46 ([97], [120])) (by decide) (fun f hf => by rw [List.mem_singleton.1 hf]; decide)
  have HSA := Lib.hid (show Calls Tryz.prog 17 #[.pointer (some ⟨w.heap.size + 1, 0, none⟩), .slice (some ⟨w4.heap.size, 0, none⟩) 1 1] (w4.alloc (.cells #[.string ⟨#[97]⟩, .string ⟨#[120]⟩] 46)) (fun e w' => e = .returned (.bool true) ∧ Below (w4.alloc (.cells #[.string ⟨#[97]⟩, .string ⟨#[120]⟩] 46)).heap.size (w4.alloc (.cells #[.string ⟨#[97]⟩, .string ⟨#[120]⟩] 46)) w') from HS4)
  clear HS4
  have KJ := Lib.hid (show ∀ W, Calls Tryz.prog 21 #[.string ⟨#[97]⟩] W (fun e w' => e = .returned (.string ⟨#[97, 45, 106]⟩) ∧ w' = W) from kj)
  clear kj
  go_wp2_with (first
    | (go_at_call 17; go_must ((with_reducible refine HSA.out.mono ?_); rintro e w5 ⟨rfl, hB5⟩; have HB5 := Lib.hid hB5; clear hB5))
    | (go_at_call 21; go_must ((with_reducible refine (KJ.out _).mono ?_); rintro e w6 ⟨rfl, rfl⟩)))
  go_ret
  refine ⟨rfl, ?_⟩
  rw [HN.out]
  have hB4 : Below w.heap.size w w4 := HB.out.trans (below_fr (HF4.out.mono fun k hk => by omega))
  exact (hB4.alloc hB4.size _).trans (HB5.out.mono (by simp; have := hB4.size; omega))
end Go.Proofs.YthfebcfdhmihcaaGreatDoor

namespace Go.Proofs.YthfebcfdhmihcaaGreatDoor
open Go.RowKit
variable {P : Nat → Prop} {ea : Addr} {b n m : Nat} {l : List F13} {Q : PQ} {w : World}

theorem sta_pair {s : List UInt8} {f : F13} (h3 : ¬ f.1.length < 3) (h2 : f.1.drop (f.1.length - 2) = jx) (hn : nonF s f = true) : staF [f, (s, [])] (f.1.take (f.1.length - 2)) = staF [f] (f.1.take (f.1.length - 2)) := by
  have e : f.1.take (f.1.length - 2) ++ jx = f.1 := by rw [← h2, List.take_append_drop]
  rw [non_is h3 h2] at hn
  have hne : (rdJ f.2).s ≠ s := by simpa using hn
  unfold staF
  rw [e]
  have l1 : lookF [f, (s, [])] f.1 = some f.2 := by unfold lookF; simp
  have l2 : lookF [f] f.1 = some f.2 := by unfold lookF; simp
  rw [l1, l2]
  have l3 : lookF [f, (s, [])] (rdJ f.2).s = lookF [f] (rdJ f.2).s := by
    have hs : (s == (rdJ f.2).s) = false := by simpa using Ne.symm hne
    unfold lookF
    rw [List.find?_cons, List.find?_cons, List.find?_cons, List.find?_nil, hs]
  have hh : hotF [f, (s, [])] f.2 = hotF [f] f.2 := by unfold hotF; rw [l3]
  show (if hotF [f, (s, [])] f.2 = true then (1 : Int) else 2) = if hotF [f] f.2 = true then 1 else 2
  rw [hh]
/-- A restoration, either way: what it leaves. -/
def RecV (P : Nat → Prop) (ea : Addr) (b n : Nat) (l : List F13) (p : List UInt8) (w : World) (e : Ending) (w' : World) : Prop :=
  (e = .returned (.int .i64 0) ∧ Dk P ea b n 0 (recF l p) QN w' ∧ Fr P w w') ∨ (e = .returned (.int .i64 13) ∧ Dk P ea b n 0 l QD w' ∧ Fr P w w')
theorem recover_any {p : List UInt8} (h : Dk P ea b n m l QD w) (ho : RecOk l p) (hn : n + m + 14000 ≤ 100000) :
    Calls Tryz.prog 15 #[.pointer (some ⟨b, 0, none⟩), .string (ba p)] w (RecV P ea b (n + 13200 + m) l p w) := by
  unfold RecV
  by_cases hbad : ∃ d, lookF l (p ++ jx) = some d ∧ hotF l d = true ∧ lookF l p = none ∧ pathB p = false
  · obtain ⟨d, h1, h2, h3, h4⟩ := hbad
    exact (recover_no h ho h1 h2 h3 h4 hn).mono fun e w' hq => .inr ⟨hq.1, dk_mono hq.2.1 (by omega) (by omega) (Nat.le_refl _) fun _ _ h => h, hq.2.2⟩
  · refine (recover_ok h ho (fun d h1 h2 => ?_) hn).mono fun e w' hq => .inl hq
    cases h3 : lookF l p with
    | some x => exact .inl rfl
    | none =>
      cases h4 : pathB p with
      | true => exact .inr rfl
      | false => exact absurd ⟨d, h1, h2, h3, h4⟩ hbad
theorem rec_len {p : List UInt8} (hs : SrtF l) : (recF l p).length ≤ l.length + 1 := Nat.le_trans (rec_sub hs p).length_le (setl_len hs p)
theorem rec_tot {p : List UInt8} (hs : SrtF l) : totF (recF l p) ≤ totF l + 1024000 :=
  Nat.le_trans (sub_tot (rec_sub hs p)) (Nat.le_trans (wto_tot _ _) (hotl_tot hs p))
/-- The restoration of files that have been laid. -/
theorem lay_recok {l : List F13} (hl : l.length ≤ 13) (ht : totN l ≤ 30000) {p : List UInt8} (hp : p.length ≤ 30000) : RecOk (layF l) p := by
  have h1 := lay_len l
  have h2 := lay_tot l
  refine ⟨hp, fun f hf => ?_, fun f hf => ?_, by omega, by omega⟩
  · have := totN_mem (lay_mem hf); omega
  · have := totN_mem (lay_mem hf); omega
theorem fre_len (l : List F13) (p : List UInt8) : (freF l p).length ≤ p.length + 23 := by
  rcases fre_is (l := l) (p := p) 1000 1 with h | ⟨j, h1, h2, h3, -⟩
  · rw [show freF l p = [] from h]; exact Nat.zero_le _
  · rw [show freF l p = freS p j from h3]
    unfold freS
    rw [Lib.itoa_nonneg, List.length_append, List.length_append]
    have := dec_len j (by omega)
    have h5 : sx.length = 2 := rfl
    omega
end Go.Proofs.YthfebcfdhmihcaaGreatDoor

namespace Go.Proofs.YthfebcfdhmihcaaGreatDoor
open Go.RowKit
variable {P : Nat → Prop} {ea : Addr} {b n m : Nat} {l : List F13} {Q : PQ} {w : World}

def KeepQ (P : Nat → Prop) (ea : Addr) (b n m : Nat) (l : List F13) (Q : PQ) (lx : List F13) (w : World) (e : Ending) (w' : World) : Prop :=
  ∃ a c P', e = .returned (.slice a lx.length c) ∧ (∀ k, P k → P' k) ∧ Dk P' ea b n m l Q w' ∧ (∀ W, Fr P' w' W → Fls W a lx) ∧ Below w.heap.size w w'
theorem keep_law {f : FuncId} {args : Array Value} {lx : List F13} (hc : Calls Tryz.prog f args w (FlsQ lx w)) (h : Dk P ea b n m l Q w) : Calls Tryz.prog f args w (KeepQ P ea b n m l Q lx w) := by
  refine hc.mono fun e w' hq => ?_
  obtain ⟨a, c, rfl, ⟨hF, hN⟩, hB⟩ := hq
  refine ⟨a, c, fun k => P k ∨ (w.heap.size ≤ k ∧ k < w'.heap.size), rfl, fun k hk => .inl hk, dk_grab h hB, fun W hW j hj => ?_, hB⟩
  obtain ⟨g, off, rfl, hg, c0, c1⟩ := hF j hj
  have hP : w.heap.size ≤ g ∧ g < w'.heap.size := ⟨hN _ _ _ rfl, hg⟩
  exact ⟨g, off, rfl, Nat.lt_of_lt_of_le hg hW.size, (hW.cell (a := ⟨g, _, none⟩) (.inr hP)).trans c0, (hW.cell (a := ⟨g, _, none⟩) (.inr hP)).trans c1⟩
/-- Files that are laid: none, or a calm disk with them. -/
def LaidQ (ea : Addr) (l : List F13) (w : World) (e : Ending) (w' : World) : Prop :=
  (e = .returned (.tuple #[.pointer none, .bool false]) ∧ Below w.heap.size w w') ∨
  ∃ b P, e = .returned (.tuple #[.pointer (some ⟨b, 0, none⟩), .bool true]) ∧ (∀ k, k < w.heap.size → P k) ∧ Dk P ea b 1000 0 (layF l) QN w' ∧ Dist l ∧ Below w.heap.size w w'
theorem laid_law (a : Option Addr) (cap : Nat) (l : List F13) (w : World) (hl : l.length ≤ 13) (ht : totN l ≤ 30000) (ha : Fls w a l) (hg : Gl ea w) (hn : 6 ≤ w.heap.size) :
    Calls Tryz.prog 7 #[.slice a l.length cap] w (LaidQ ea l w) := by
  refine (laid_any a cap l w hl ht ha hg hn).mono fun e w' hq => ?_
  rcases hq with ⟨h1, -, h2⟩ | ⟨h1, h2, h3, h4⟩
  · exact .inl ⟨h1, h2⟩
  · exact .inr ⟨_, _, h1, fun k hk => hk, h2, h3, h4⟩
/-- A restoration that has been done is done again. -/
theorem recover_again {p : List UInt8} (hs : SrtF l) (h : Dk P ea b n m (recF l p) QD w) (ho : RecOk (recF l p) p) (hn : n + m + 14000 ≤ 100000) :
    Calls Tryz.prog 15 #[.pointer (some ⟨b, 0, none⟩), .string (ba p)] w fun e w' => e = .returned (.int .i64 0) ∧ Dk P ea b (n + 13200 + m) 0 (recF l p) QN w' ∧ Fr P w w' := by
  have := recover_ok h ho (fun d h1 h2 => by rw [rec_jx hs p] at h1; cases h1) hn
  rw [rec_again hs p] at this
  exact this
end Go.Proofs.YthfebcfdhmihcaaGreatDoor

namespace Go.Proofs.YthfebcfdhmihcaaGreatDoor
open Go.RowKit
variable {P : Nat → Prop} {ea : Addr} {b n m : Nat} {l : List F13} {Q : PQ} {w : World}

set_option maxRecDepth 100000 in
set_option maxHeartbeats 4000000 in
theorem hotrec_any (a : Option Addr) (cap : Nat) (l : List F13) (p : List UInt8) (w : World) (hl : l.length ≤ 9223372036854775807) (hz : SzF l) (hp : p.length ≤ 1152921504606846976) (ha : Fls w a l) (hg : Gl ea w) (hn : 6 ≤ w.heap.size) :
    Calls Tryz.prog 3 #[.slice a l.length cap, .string (ba p)] w fun e w' => e = .returned (.bool true) ∧ Below w.heap.size w w' := by
  have HW := Lib.hid (works13_any w hg hn)
  have HG := Lib.hid (fun W (hB : Below w.heap.size w W) => great13_any a cap l W hl hz (fls_next ha hB))
  have HLA := Lib.hid (fun W (hB : Below w.heap.size w W) h1 h2 => laid_law (ea := ea) a cap l W h1 h2 (fls_next ha hB) (gl_keep hg fun k hk => hB.block k (by omega)) (by have := hB.size; omega))
  have HFA := Lib.hid (fun W (hB : Below w.heap.size w W) => fls_next ha hB)
  have hps := ba_size p
  rw [← hps] at hp
  have HPS := Lib.hid hps
  obtain ⟨len, hlen⟩ : ∃ len, len = l.length := ⟨_, rfl⟩
  rw [← hlen] at HG HLA ⊢
  have HLEN := Lib.hid hlen
  clear ha hg hn hz hl hps hlen
  go_enter Tryz.func3, Tryz.ntmps3
  by_cases h100 : 100 < (ba p).size
  · have t0 : (100 : Int) < ((ba p).size : Int) := by omega
    go_wp2_with (first
      | (go_at_call 5; go_must ((with_reducible refine HW.out.mono ?_); rintro e w1 ⟨rfl, hB⟩; have HB1 := Lib.hid hB; clear hB))
      | (go_at_call 6; go_must ((with_reducible refine (HG.out _ HB1.out).mono ?_); rintro e w2 ⟨z, rfl, -, hB⟩; have HB2 := Lib.hid (HB1.out.trans (hB.mono HB1.out.size)); clear hB; cases z)))
    all_goals go_ret
    all_goals exact ⟨rfl, HB2.out⟩
  · have t0 : ¬ (100 : Int) < ((ba p).size : Int) := by omega
    go_upto_region 5 with (first
      | (go_at_call 5; go_must ((with_reducible refine HW.out.mono ?_); rintro e w1 ⟨rfl, hB⟩; have HB1 := Lib.hid hB; clear hB))
      | (go_at_call 6; go_must ((with_reducible refine (HG.out _ HB1.out).mono ?_); rintro e w2 ⟨z, rfl, hgr, hB⟩; have HB2 := Lib.hid (HB1.out.trans (hB.mono HB1.out.size)); have HGR := Lib.hid hgr; clear hB hgr; cases z)))
    · obtain ⟨hgl, hgt⟩ := HGR.out (by trivial)
      have hgl2 : len ≤ 13 := by have := HLEN.out; omega
      have hp100 : p.length ≤ 100 := by have := HPS.out; omega
      obtain ⟨L, hL⟩ : ∃ L, L = layF l := ⟨_, rfl⟩
      have hgl3 : l.length ≤ 13 := by have := HLEN.out; omega
      have hLl : L.length ≤ 13 := by rw [hL]; have := lay_len l; omega
      have HRO := Lib.hid (show RecOk L p from by rw [hL]; exact lay_recok hgl3 hgt (by omega))
      have HT := Lib.hid (show totF L ≤ 30000 from by rw [hL]; exact Nat.le_trans (lay_tot l) hgt)
      have HSR := Lib.hid (show SrtF L from by rw [hL]; exact lay_srt l)
      have HGT := Lib.hid hgt
      have HP := Lib.hid hp100
      have HRO2 := Lib.hid (show RecOk (recF L p) p from rec_ok HSR.out HRO.out (by omega) (by omega) (by have := HT.out; omega))
      have HRL := Lib.hid (show (recF L p).length ≤ 14 from by have := rec_len (p := p) HSR.out; omega)
      have HLE := Lib.hid hL
      clear HGR hgt hL hgl hgl3
      go_upto_region 8 with (go_at_call 7; go_must ((with_reducible refine (HLA.out _ HB2.out hgl2 HGT.out).mono ?_); rintro e w3 hq; unfold LaidQ at hq; rw [← HLE.out] at hq; rcases hq with ⟨rfl, hB⟩ | ⟨b, P, rfl, hPP, hD, hDi, hB⟩; have HB3 := Lib.hid (HB2.out.trans (hB.mono HB2.out.size))))
      · go_ret
        exact ⟨rfl, HB3.out⟩
      have HB3 := Lib.hid (HB2.out.trans (hB.mono HB2.out.size))
      have HPP := Lib.hid (fun k (hk : k < w.heap.size) => hPP k (Nat.lt_of_lt_of_le hk HB2.out.size))
      have HD := Lib.hid hD
      have HDI := Lib.hid hDi
      clear hB hD hDi hPP
      have HSO := Lib.hid (keep_law (sorted_any a cap l w3 (by have := HLEN.out; omega) HDI.out (HFA.out _ HB3.out)) (by rw [HLE.out] at HD; exact HD.out))
      rw [← HLE.out, ← HLEN.out] at HSO
      clear HW HG HLA HFA HLE HDI
      go_upto_region 9 with (go_at_call 8; (with_reducible refine HSO.out.mono ?_); rintro e w4 ⟨a4, cap4, P4, rfl, hP4, hD4, hFS, hB4⟩; have HP4 := Lib.hid (fun k (hk : k < w.heap.size) => hP4 k (HPP.out k hk)); have HD4 := Lib.hid hD4; have HFS := Lib.hid hFS; have HB4 := Lib.hid (HB3.out.trans (hB4.mono HB3.out.size)); clear hP4 hD4 hFS hB4)
      clear HD HSO HPP HB3 HB2 HB1
      have HST := Lib.hid (hstate_any HD4.out p (by have := HP.out; omega) HRO.out.sml (by omega))
      go_upto_region 10 with (go_at_call 9; (with_reducible refine HST.out.mono ?_); rintro e w5 ⟨rfl, hD5, hF5⟩; have HD5 := Lib.hid hD5; have HF5 := Lib.hid hF5; clear hD5 hF5)
      clear HST HD4
      have HFR := Lib.hid (hfresh_any HD5.out p (by have := HP.out; omega) (by omega) HRO.out.sml (fun f hf => Nat.le_trans (HRO.out.names f hf) (by decide)) (by omega))
      obtain ⟨s, hs⟩ : ∃ s, s = freF L p := ⟨_, rfl⟩
      have hv : freV L p = .tuple #[.string (ba s), .int .i64 (if s = [] then 6 else 0)] := by rw [hs]; rfl
      rw [hv] at HFR
      obtain ⟨y, hy⟩ : ∃ y : Int, y = if s = [] then 6 else 0 := ⟨_, rfl⟩
      rw [← hy] at HFR
      have HY := Lib.hid hy
      have HS := Lib.hid hs
      clear hv hy hs
      go_upto_region 11 with (go_at_call 10; (with_reducible refine HFR.out.mono ?_); rintro e w6 ⟨rfl, hD6, hF6⟩; have HD6 := Lib.hid hD6; have HF6 := Lib.hid (HF5.out.trans hF6); clear hD6 hF6)
      clear HFR HD5 HF5
      have HSU := Lib.hid (hsuper_any p (by have := HP.out; omega) w6 HD6.out.gl.tab)
      go_upto_region 12 with (go_at_call 11; (with_reducible refine HSU.out.mono ?_); rintro e w7 ⟨rfl, hB7⟩; have HD7 := Lib.hid (dk_below HD6.out hB7); have HF7 := Lib.hid (HF6.out.trans (dk_fr HD6.out hB7)); clear hB7)
      clear HSU HD6 HF6
      have HRS := Lib.hid (super13_any p (by have := HP.out; omega) w7)
      go_upto_region 13 with (go_at_call 12; (with_reducible refine HRS.out.mono ?_); rintro e w8 ⟨rfl, hB8⟩; have HD8 := Lib.hid (dk_below HD7.out hB8); have HF8 := Lib.hid (HF7.out.trans (dk_fr HD7.out hB8)); clear hB8)
      clear HRS HD7 HF7
      have HRF := Lib.hid (fresh13_any a4 cap4 L p w8 (by omega) (by have := HP.out; omega) HRO.out.sml HRO.out.names (HFS.out _ HF8.out))
      rw [← HS.out] at HRF
      go_upto_region 14 with (go_at_call 13; (with_reducible refine HRF.out.mono ?_); rintro e w9 ⟨rfl, hB9⟩; have HD9 := Lib.hid (dk_below HD8.out hB9); have HF9 := Lib.hid (HF8.out.trans (dk_fr HD8.out hB9)); clear hB9)
      clear HRF HD8 HF8
      have HRT := Lib.hid (state13_any a4 cap4 L p w9 (by omega) (by have := HP.out; omega) HRO.out.sml (HFS.out _ HF9.out))
      have hY := HY.out
      clear HY HS
      go_cut [93] from 63 to 94 (fun v wx => v = .bool false ∧ Hid (Below w9.heap.size w9 wx))
      case first =>
        by_cases hs : s = []
        · subst hs
          rw [if_pos rfl] at hY
          subst hY
          have te' : (ba []).toList = [] := by rw [ByteArray.toList_eq, ba_list]
          have te : (ba []).toList.isEmpty = true := by rw [te']; rfl
          go_wp2_with (go_at_call 14; (with_reducible refine HRT.out.mono ?_); rintro e w10 ⟨rfl, hB10⟩; have HB10 := Lib.hid hB10; clear hB10)
          all_goals go_meet
          all_goals exact ⟨rfl, HB10⟩
        · rw [if_neg hs] at hY
          subst hY
          have te' : ¬ (ba s).toList = [] := by rw [ByteArray.toList_eq, ba_list]; exact hs
          have te : (ba s).toList.isEmpty = false := by simpa using te'
          clear hs
          go_wp2_with (go_at_call 14; (with_reducible refine HRT.out.mono ?_); rintro e w10 ⟨rfl, hB10⟩; have HB10 := Lib.hid hB10; clear hB10)
          all_goals go_meet
          all_goals exact ⟨rfl, HB10⟩
      case rest =>
        obtain ⟨rfl, hcut⟩ := hcut
        clear HRT
        have HD10 := Lib.hid (dk_nd (dk_below HD9.out hcut.out))
        have HF10 := Lib.hid (HF9.out.trans (dk_fr HD9.out hcut.out))
        clear HD9 HF9 hcut hY
        have HRE := Lib.hid (recover_any HD10.out HRO.out (by omega))
        have hz : ∀ f, f ∈ recF L p → f.1.length ≤ 30000 := HRO2.out.names
        have hrl := HRL.out
        go_upto_region 17 with (go_at_call 15; go_must ((with_reducible refine HRE.out.mono ?_); rintro e w11 hq; unfold RecV at hq; rcases hq with ⟨rfl, hD11, hF11⟩ | ⟨rfl, -, hF11⟩))
        · have HD11 := Lib.hid hD11
          have HF11 := Lib.hid (HF10.out.trans hF11)
          clear HRE HD10 HF10 hD11 hF11
          have HRR := Lib.hid (keep_law (recov13_any a4 cap4 L p w11 (by omega) (by have := HP.out; omega) HRO.out.sml HRO.out.names (HFS.out _ HF11.out)) HD11.out)
          go_upto_region 20 with (go_at_call 16; (with_reducible refine HRR.out.mono ?_); rintro e w12 ⟨a12, cap12, P12, rfl, hP12, hD12, hFS12, hB12⟩; have HD12 := Lib.hid hD12; have HB12 := Lib.hid (HB4.out.trans ((below_fr (HF11.out.mono HP4.out)).trans ((fr_below hB12 HD11.out.lt).mono HP4.out |> below_fr))); have HP12 := Lib.hid (fun k hk => hP12 k (HP4.out k hk)); have HFS12 := Lib.hid hFS12; clear hP12 hD12 hFS12 hB12)
          clear HRR HFS HD11 HF11 HP4 HB4
          have HSA := Lib.hid (same13_any a12 cap12 HD12.out (HFS12.out _ (Fr.refl _ _)) (by omega) hz)
          go_upto_region 22 with (go_at_call 17; (with_reducible refine HSA.out.mono ?_); rintro e w13 ⟨rfl, hB13⟩; have HD13 := Lib.hid (dk_below HD12.out hB13); have HF13 := Lib.hid (dk_fr HD12.out hB13); clear hB13)
          clear HSA HD12
          have HRS := Lib.hid (dk_restart HD13.out (by omega))
          go_upto_region 23 with (go_at_call 18; (with_reducible refine HRS.out.mono ?_); rintro e w14 ⟨rfl, hD14, hF14⟩; have HD14 := Lib.hid hD14; have HF14 := Lib.hid (HF13.out.trans hF14); clear hD14 hF14)
          clear HRS HD13 HF13
          have HSB := Lib.hid (same13_any a12 cap12 HD14.out (HFS12.out _ HF14.out) (by omega) hz)
          have HRG := Lib.hid (fun W hD => recover_again (b := b) (P := P12) (ea := ea) (n := 1000 + 1 + L.length + 13200 + 0 + 0) (m := 0) (w := W) HSR.out hD HRO2.out (by omega))
          have HSC := Lib.hid (fun W n' (hD : Dk P12 ea b n' 0 (recF L p) QN W) (hF : Fr P12 w12 W) => same13_any a12 cap12 hD (HFS12.out _ hF) (by omega) hz)
          go_upto_region 25 with (first
            | (go_at_call 17; (with_reducible refine HSB.out.mono ?_); rintro e w15 ⟨rfl, hB15⟩; have HD15 := Lib.hid (dk_nd (dk_below HD14.out hB15)); have HF15 := Lib.hid (HF14.out.trans (dk_fr HD14.out hB15)); clear hB15)
            | (go_at_call 15; (with_reducible refine (HRG.out _ HD15.out).mono ?_); rintro e w16 ⟨rfl, hD16, hF16⟩; have HD16 := Lib.hid hD16; have HF16 := Lib.hid (HF15.out.trans hF16); clear hD16 hF16)
            | (go_at_call 17; (with_reducible refine (HSC.out _ _ HD16.out HF16.out).mono ?_); rintro e w17 ⟨rfl, hB17⟩; have HD17 := Lib.hid (dk_below HD16.out hB17); have HF17 := Lib.hid (HF16.out.trans (dk_fr HD16.out hB17)); clear hB17))
          have hse := hstate_any HD17.out p (by have := HP.out; omega) HRO2.out.sml (by omega)
          rw [rec_sta HSR.out] at hse
          have HSE := Lib.hid hse
          clear hse HSB HSC HRG
          go_wp2_with (go_at_call 9; (with_reducible refine HSE.out.mono ?_); rintro e w18 ⟨rfl, -, hF18⟩; have HF18 := Lib.hid (HF17.out.trans hF18); clear hF18)
          go_ret
          exact ⟨rfl, HB12.out.trans (below_fr (HF18.out.mono HP12.out))⟩
        · have HF11 := Lib.hid (HF10.out.trans hF11)
          clear HRE HD10 HF10 hF11
          go_wp2
          go_ret
          exact ⟨rfl, HB4.out.trans (below_fr (HF11.out.mono HP4.out))⟩
    · go_wp2
      go_ret
      exact ⟨rfl, HB2.out⟩
end Go.Proofs.YthfebcfdhmihcaaGreatDoor

namespace Go.Proofs.YthfebcfdhmihcaaGreatDoor
open Go.ChangeShapes Go.WideShapes Go.ChangeAt Go.RowKit

theorem hotrec_laid (a : Option Addr) (cap : Nat) (l : List F13) (s : ByteArray) (w : World) (hl : l.length ≤ 9223372036854775807) (hz : SzF l) (hs : s.size ≤ 1152921504606846976) (ha : Fls w a l) (hL : laidMetH Tryz.prog laidList w) :
    Calls Tryz.prog 3 #[.slice a l.length cap, .string s] w fun e w' => e = .returned (.bool true) ∧ Below w.heap.size w w' := by
  obtain ⟨ea, hg⟩ := gl_of_laid hL
  have := hotrec_any a cap l s.data.toList w hl hz (by simpa using hs) ha hg (gn_of_laid hL)
  rw [ba_back] at this
  exact this
end Go.Proofs.YthfebcfdhmihcaaGreatDoor
