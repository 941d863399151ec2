/-
  Layer 12: the walk of a list's remove, one of its four cases. Condition: the list has at most a million elements.
-/
import Derived.Test.YtkpgekfejfbpjaaCchAdd
namespace Go.Proofs.Ytkpgekfejfbpjaa
open Go.RowKit
variable {L : CL} {ρ ρ' : Nat → Option CRole} {S : CS} {w w' : World}

set_option maxHeartbeats 4000000 in
set_option maxRecDepth 100000 in
theorem rem_00 (h : CInv L ρ S w) (s : Bool) {e : Nat} (hl : S.li s = [] ++ e :: []) (hlen : (S.li s).length ≤ 1000000) :
    Calls Try.prog 30 #[ptr (some (L.lb s)), .pointer (some ⟨e, 0, none⟩)] w (AddQ L ρ (remS S s [] e []) w) := by
  obtain ⟨hr, hbe⟩ := h.ele s [] e [] hl
  have hbl := h.lst s
  obtain ⟨c0, c1, c2⟩ := li_cells hbl
  obtain ⟨-, -, -, d3, d4⟩ := el_cells hbe
  have f0 := blk_frozen hbl 0
  have f1 := blk_frozen hbl 1
  have f2 := blk_frozen hbl 2
  have g3 := blk_frozen hbe 3
  have g4 := blk_frozen hbe 4
  obtain ⟨lb, hlb⟩ : ∃ lb, lb = L.lb s := ⟨_, rfl⟩
  have hne : e ≠ lb := by rw [hlb]; exact (h.cl_ne hr).1
  have hne2 : lb ≠ e := hne.symm
  have hrl : ρ lb = some (.list s) := by rw [hlb]; exact h.hl s
  have HH := Lib.hid h; have HLB := Lib.hid hlb; have HBE := Lib.hid hbe; have HBL := Lib.hid hbl; have HR := Lib.hid hr; have HL := Lib.hid hl; have HRL := Lib.hid hrl
  obtain ⟨n, hn⟩ : ∃ n, n = ([] ++ [] : List Nat).length := ⟨_, rfl⟩
  have hn1 : (S.li s).length = n + 1 := by rw [hl, hn]; simp; try omega
  rw [hn1] at c2 hlen
  have HN := Lib.hid hn
  rw [hl] at c0 c1
  obtain ⟨hd, hhd⟩ : ∃ hd, hd = ([] ++ e :: [] : List Nat).head? := ⟨_, rfl⟩
  obtain ⟨la, hla⟩ : ∃ la, la = ([] ++ e :: [] : List Nat).getLast? := ⟨_, rfl⟩
  rw [← hhd] at c0
  rw [← hla] at c1
  simp only [List.head?_nil, List.getLast?_nil, List.head?_cons, ptr, Option.map_none, Option.map_some] at c0 c1 d3 d4 ⊢
  rw [← hlb] at c0 c1 c2 f0 f1 f2 ⊢
  clear h hlb hbe hbl hl hr hn hrl hn1 hhd hla
  go_enter Try.func30, Try.ntmps30
  go_wp2
  have hbl := HBL.out
  have hbe := HBE.out
  rw [← HLB.out] at hbl
  have q1 := (blk_set (blk_off (i := 4) (v := .pointer none) (blk_off (i := 3) (v := .pointer none) (blk_set (blk_set hbl 0 (.pointer none)) 1 (.pointer none)) hne2) hne2) 2 (.int .i64 n))
  have q2 := (blk_off (i := 2) (v := .int .i64 n) (blk_set (blk_set (blk_off (i := 1) (v := .pointer none) (blk_off (i := 0) (v := .pointer none) hbe hne) hne) 3 (.pointer none)) 4 (.pointer none)) hne)
  go_returns
  refine rem_fin HH.out s HL.out (by first | exact ((((((LStep.refl ρ w).set (g := lb) (i := 0) (v := .pointer none) (.inl ⟨s, HRL.out⟩)).set (g := lb) (i := 1) (v := .pointer none) (.inl ⟨s, HRL.out⟩)).set (g := e) (i := 3) (v := .pointer none) (.inr HR.out)).set (g := e) (i := 4) (v := .pointer none) (.inr HR.out)).set (g := lb) (i := 2) (v := .int .i64 n) (.inl ⟨s, HRL.out⟩))) ?_ ?_ (fun a1 x1 hx1 => ?_) (fun y1 b1 hy1 => ?_) (fun k h1 h2 h3 h4 => ?_)
  · rw [← HLB.out]
    refine Eq.trans q1 (congrArg (fun c => some (Obj.cells c 48 (0, 0))) ?_)
    show #[(.pointer none), (.pointer none), .int .i64 n] = #[ptr ([] ++ []).head?, ptr ([] ++ []).getLast?, .int .i64 ([] ++ []).length]
    rw [HN.out]
    all_goals rfl
  · exact q2
  · simp at hx1
  · cases hy1
  · rw [← HLB.out] at h1
    show (World.setCell (World.setCell (World.setCell (World.setCell (World.setCell w ⟨lb, 0, none⟩ (.pointer none)) ⟨lb, 1, none⟩ (.pointer none)) ⟨e, 3, none⟩ (.pointer none)) ⟨e, 4, none⟩ (.pointer none)) ⟨lb, 2, none⟩ (.int .i64 n)).heap[k]? = _
    rw [keep_set _ _ _ _ k h1, keep_set _ _ _ _ k h2, keep_set _ _ _ _ k h2, keep_set _ _ _ _ k h1, keep_set _ _ _ _ k h1]
end Go.Proofs.Ytkpgekfejfbpjaa
