/-
  Layer 13: restore of a file whose path is refused: it fails, and all files stay. Condition: the disk is calm, the sizes fit.
  Layer 13: pages of a file that is restored: piece; what the contents are behind each page that is written (mathematics). Condition: at most 1048576 bytes.
  Layer 11, Apply and the document's Apply: the contents of a file as they were ('apL'); they change nothing that was there. Condition: the file's number of pages is an int, at most 4096 pages in the journal, strings of at most 2^40 bytes (the document's: 2^20).
  Layer 13: write: a file gets its contents, page by page as far as they differ. Condition: the disk is calm, the sizes fit.
  Layer 13: inOrder: steps one by one, up to the first that fails; its error is wrapped. Condition: what each step does is told by contracts; each leaves the steps, and blocks that are none of its own, as they are.
  Layer 13: restore: a file whose journal counts is made what it was. Condition: the disk is calm, the sizes fit.
-/
import Derived.Lib.MinMax
import Derived.Deep.RegionWith
import Derived.Laws.EntriesVeiled
import Derived.Shelf.Abstract
import Derived.Test.YthfebcfdhmihcaaGreatDoorMh10
import Derived.Test.YthfebcfdhmihcaaGreatDoorMh16
import Derived.Test.YthfebcfdhmihcaaGreatDoorMh6
import Derived.Test.YthfebcfdhmihcaaGreatDoorMh7
import Derived.Test.YthfebcfdhmihcaaGreatDoorMh8
import Derived.Test.YthfebcfdhmihcaaGreatDoorMh15
import Derived.Test.YthfebcfdhmihcaaGreatDoorMh18
namespace Go.Proofs.YthfebcfdhmihcaaGreatDoor
open Go.RowKit

def pcF (s : List UInt8) (o : Nat) : List UInt8 := (s.drop o).take 512
def wrC (t x : List UInt8) (o : Nat) : List UInt8 := t.take o ++ x.drop o
theorem wr_zero (t x : List UInt8) : wrC t x 0 = x := by unfold wrC; simp
theorem wr_end {t x : List UInt8} {o : Nat} (h : t.length ≤ o) (hx : x.length ≤ t.length) : wrC t x o = t := by
  unfold wrC
  rw [List.take_of_length_le h, List.drop_eq_nil_of_le (by omega), List.append_nil]
theorem wr_len {t x : List UInt8} {o : Nat} (hx : x.length ≤ t.length) : (wrC t x o).length ≤ t.length := by
  unfold wrC
  rw [List.length_append, List.length_take, List.length_drop]; omega
theorem wr_ge {t x : List UInt8} {o : Nat} (ho : o ≤ t.length) : o ≤ (wrC t x o).length := by
  unfold wrC
  rw [List.length_append, List.length_take]; omega
theorem pc_ne {t : List UInt8} {o : Nat} (ho : o < t.length) : pcF t o ≠ [] := by
  intro e
  have := congrArg List.length e
  unfold pcF at this
  rw [List.length_take, List.length_drop] at this
  simp at this
  omega
theorem pc_len (t : List UInt8) (o : Nat) : (pcF t o).length ≤ 512 := by unfold pcF; rw [List.length_take]; omega
theorem pc_split (t : List UInt8) (o : Nat) : t.take (o + 512) = t.take o ++ pcF t o := by
  unfold pcF
  rw [List.take_add]
theorem wr_same {t now : List UInt8} {o : Nat} (h : pcF now o = pcF t o) : wrC t (now.take t.length) (o + 512) = wrC t (now.take t.length) o := by
  unfold wrC
  rw [pc_split, List.append_assoc, List.drop_take, List.drop_take]
  congr 1
  rw [← h]
  have hl : (pcF now o).length = (pcF t o).length := by rw [h]
  unfold pcF at hl ⊢
  simp only [List.length_take, List.length_drop] at hl
  have e : (now.drop (o + 512)) = (now.drop o).drop 512 := by rw [List.drop_drop]
  rw [e]
  by_cases h5 : 512 ≤ t.length - o
  · rw [show t.length - o = 512 + (t.length - (o + 512)) by omega, List.take_add]
  · have h6 : (now.drop o).length ≤ t.length - o := by rw [List.length_drop]; omega
    have e7 : (now.drop o).take 512 = now.drop o := List.take_of_length_le (by rw [List.length_drop]; omega)
    have e8 : (now.drop o).drop 512 = [] := List.drop_eq_nil_of_le (by rw [List.length_drop]; omega)
    rw [e7, e8, List.take_of_length_le h6]
    simp
theorem wr_new {t x : List UInt8} {o : Nat} (ho : o < t.length) (hx : x.length ≤ t.length) : overL (wrC t x o) o (pcF t o) = wrC t x (o + 512) := by
  have hne := pc_ne ho
  have hge := wr_ge (t := t) (x := x) (o := o) (by omega)
  have hpl : (pcF t o).length = min 512 (t.length - o) := by unfold pcF; rw [List.length_take, List.length_drop]
  unfold overL
  rw [if_neg hne]
  have htk : (resizeL (wrC t x o) (max (wrC t x o).length (o + (pcF t o).length))).take o = t.take o := by
    unfold resizeL
    have h1 : (wrC t x o).take o = t.take o := by
      unfold wrC
      rw [List.take_append_of_le_length (by rw [List.length_take]; omega), List.take_take, Nat.min_self]
    split
    · rw [List.take_take, Nat.min_eq_left (by omega)]; exact h1
    · rw [List.take_append_of_le_length hge]; exact h1
  rw [htk]
  have hdr : (resizeL (wrC t x o) (max (wrC t x o).length (o + (pcF t o).length))).drop (o + (pcF t o).length) = x.drop (o + 512) := by
    by_cases hlt : (wrC t x o).length ≤ o + (pcF t o).length
    · rw [List.drop_eq_nil_of_le (by rw [resizeL_len]; omega)]
      symm
      refine List.drop_eq_nil_of_le ?_
      unfold wrC at hlt
      rw [List.length_append, List.length_take, List.length_drop] at hlt
      omega
    · have hmx : max (wrC t x o).length (o + (pcF t o).length) = (wrC t x o).length := by omega
      rw [hmx]
      have hr : resizeL (wrC t x o) (wrC t x o).length = wrC t x o := by unfold resizeL; rw [if_pos (Nat.le_refl _), List.take_length]
      rw [hr]
      have hxl : o + (pcF t o).length < x.length := by
        unfold wrC at hlt
        rw [List.length_append, List.length_take, List.length_drop] at hlt
        omega
      have h512 : (pcF t o).length = 512 := by omega
      rw [h512]
      unfold wrC
      have htl : (t.take o).length = o := by rw [List.length_take]; omega
      rw [List.drop_append, htl, List.drop_eq_nil_of_le (by rw [htl]; omega), List.drop_drop]
      simp
  rw [hdr]
  unfold wrC
  rw [pc_split, List.append_assoc]

theorem hpiece_any (s : List UInt8) (o : Nat) (hs : s.length ≤ 1048576) (ho : o ≤ 2000000) (w : World) :
    Calls Tryz.prog 152 #[.string (ba s), .int .i64 o] w fun e w' => e = .returned (.string (ba (pcF s o))) ∧ w' = w := by
  have hsz := ba_size s
  obtain ⟨x, hx⟩ : ∃ x, x = min o s.length := ⟨_, rfl⟩
  obtain ⟨y, hy⟩ : ∃ y, y = min (o + 512) s.length := ⟨_, rfl⟩
  have e1 : min (o : Int) ((ba s).size : Int) = (x : Int) := by rw [hsz]; omega
  have e2 : min ((o : Int) + 512) ((ba s).size : Int) = (y : Int) := by rw [hsz]; omega
  have e3 : (ba s).extract x y = ba (pcF s o) := by
    rw [hsext]
    congr 1
    unfold pcF
    by_cases h1 : o ≤ s.length
    · have hx2 : x = o := by omega
      rw [hx2]
      by_cases h2 : o + 512 ≤ s.length
      · rw [show y - o = 512 by omega]
      · rw [List.take_of_length_le (by rw [List.length_drop]; omega), List.take_of_length_le (by rw [List.length_drop]; omega)]
    · rw [List.drop_eq_nil_of_le (by omega), List.drop_eq_nil_of_le (by omega)]; simp
  have w1 : IntKind.i64.wrap ((o : Int) + 512) = (o : Int) + 512 := IntWalk.i64_in _ ⟨by omega, by omega⟩
  have i1 : x ≤ y := by omega
  have i2 : y ≤ (ba s).size := by omega
  have i3 : (x : Int) ≤ (y : Int) := by omega
  have i4 : (y : Int) ≤ ((ba s).size : Int) := by omega
  clear hx hy hsz
  go_enter Tryz.func152, Tryz.ntmps152
  go_wp2
  go_ret
  exact ⟨rfl, rfl⟩
end Go.Proofs.YthfebcfdhmihcaaGreatDoor

namespace Go.Proofs.YthfebcfdhmihcaaGreatDoor
open Go.RowKit

theorem aw64 {x : Int} (h0 : 0 ≤ x) (h1 : x ≤ 9223372036854775807) : IntKind.i64.wrap x = x := IntWalk.i64_in _ ⟨by omega, by omega⟩
theorem u8_one : (Tryz.prog.info? 5).map (·.size) = some 1 := by kernel_rfl
theorem made_bytes (W : World) (n : Nat) : Blk (W.alloc (.cells (madeCells #[.int .u8 0] n) 5)) W.heap.size 5 (Lib.byteCells (List.replicate n 0)).toArray := by
  obtain ⟨cs, h1, h2, h3⟩ := World.rowIs_made W (.int .u8 0) n 5
  have e : cs = (Lib.byteCells (List.replicate n 0)).toArray := by
    apply Array.ext
    · rw [h2]; simp [Lib.byteCells]
    · intro i a1 a2
      have := h3 i (by omega)
      rw [Array.getElem?_eq_getElem a1] at this
      rw [Option.some.inj this]
      simp [Lib.byteCells]
  rw [← e]
  exact h1
theorem conv_bytes {v : World} {g n : Nat} {l : List UInt8} (h : Blk v g 5 (Lib.byteCells l).toArray) (hl : l.length = n) : (convert 100 9 (.slice (some ⟨g, 0, none⟩) n n)).run Tryz.prog v = .ok (.string (ba l)) v := by
  have := run_convert_bytes_back (P := Tryz.prog) v 100 9 5 ⟨g, 0, none⟩ n l Tryz.underlying100 Tryz.underlying5 Tryz.underlying9 (fun j hj => by
    rw [raddr_add]
    exact blk_cell h j (by simp [Lib.byteCells, hj]))
  rwa [hl] at this
theorem fit_put (M : Nat) (S : List UInt8) : putD (List.replicate M 0) 0 (S.take (Nat.min S.length M)) = fitL M S := by
  obtain ⟨m, hm⟩ : ∃ m, m = Nat.min S.length M := ⟨_, rfl⟩
  have m1 : m ≤ S.length := by rw [hm]; exact Nat.min_le_left _ _
  have m2 : m ≤ M := by rw [hm]; exact Nat.min_le_right _ _
  have m3 : m = S.length ∨ m = M := by
    rw [hm]
    by_cases h : S.length ≤ M
    · exact .inl (Nat.min_eq_left h)
    · exact .inr (Nat.min_eq_right (by omega))
  rw [← hm]
  clear hm
  have h1 : (S.take m).length = m := by rw [List.length_take]; exact Nat.min_eq_left m1
  have hM : (putD (List.replicate M 0) 0 (S.take m)).length = M := by
    rw [putD_len, List.length_replicate]
    rw [h1, List.length_replicate]; omega
  refine gB_ext (by rw [fit_len, hM]) fun i hi => ?_
  rw [hM] at hi
  rw [putD_g (Nat.zero_le _), fit_g, if_pos hi, h1]
  by_cases h2 : i < m
  · rw [if_pos (by omega)]
    unfold gB
    rw [Nat.sub_zero, List.getElem?_take, if_pos h2]
  · rw [if_neg (by omega), gB_out (l := S) (by omega)]
    have := gB_app [] M i
    rw [List.nil_append] at this
    rw [this]; rfl

set_option maxRecDepth 100000 in
set_option maxHeartbeats 4000000 in
theorem japply_any (k p : Int) (a : Option Addr) (cap : Nat) (l : List R11) (sp s : ByteArray) (p1 : -9223372036854775808 ≤ p) (p2 : p ≤ 9223372036854775807) (w : World) (hs : s.size ≤ 1099511627776) (hl : l.length ≤ 4096) (ha : Recs w a l) :
    Calls Tryz.prog 150 #[.agg #[.int .i64 k, .int .i64 p, .slice a l.length cap, .string sp], .string s] w fun e w' => e = .returned (.string (ba (apL p l s.data.toList))) ∧ Below w.heap.size w w' := by
  obtain ⟨N, hN⟩ : ∃ N, N = clN p := ⟨_, rfl⟩
  have hN2 : N ≤ 2000 := by rw [hN]; exact clN_le p
  have hmm : max 0 (min p 2000) = (N : Int) := by rw [hN]; unfold clN; omega
  obtain ⟨M, hM⟩ : ∃ M, M = N * 512 := ⟨_, rfl⟩
  have hwM : IntKind.i64.wrap ((N : Int) * 512) = (M : Int) := by rw [aw64 (by omega) (by omega)]; omega
  have hM2 : M ≤ 1024000 := by omega
  have HRES := Lib.hid (show apL p l s.data.toList = l.foldl (stP N) (fitL M s.data.toList) by rw [hM, hN]; rfl)
  obtain ⟨R, hR⟩ : ∃ R, R = apL p l s.data.toList := ⟨_, rfl⟩
  rw [← hR] at HRES ⊢
  have HF := Lib.hid (show l.foldl (stP N) (fitL M s.data.toList) = l.foldl (stP N) (fitL M s.data.toList) from rfl)
  obtain ⟨F, hF⟩ : ∃ F, F = fitL M s.data.toList := ⟨_, rfl⟩
  have hFl : F.length = M := by rw [hF, fit_len]
  have HFL := Lib.hid (show ∀ L : List R11, (L.foldl (stP N) F).length = M from fun L => by rw [hM]; exact fold_len L (by rw [hFl, hM]))
  have HM := Lib.hid hM
  rw [← hF] at HRES
  have hmk := fun W => run_make_row' (P := Tryz.prog) 100 5 (.int .u8 0) 1 Tryz.underlying100 infoU8 rfl .i64 .i64 M (by omega) (by omega) W
  obtain ⟨W0, hW0⟩ : ∃ W0, W0 = w.alloc (.cells #[.int .i64 k, .int .i64 p, .slice a l.length cap, .string sp] 55) := ⟨_, rfl⟩
  have hW0s : W0.heap.size = w.heap.size + 1 := by rw [hW0]; simp
  have hb0 := made_bytes W0 M
  rw [hW0s] at hb0
  have hsl : s.data.toList.length = s.size := by simp
  have hcp := run_copy_bytes (P := Tryz.prog) (W0.alloc (.cells (madeCells #[.int .u8 0] M) 5)) 100 9 3 5 (w.heap.size + 1) 0 M M s (List.replicate M 0) 5 Tryz.underlying100 u8_one hb0 (Nat.min s.size M) rfl (by rw [List.length_replicate, Nat.zero_add]; exact Nat.min_le_right _ _)
  rw [← hsl, fit_put, ← hF, hsl] at hcp
  have HJ := Lib.hid (blk_alloc (show Blk W0 w.heap.size 55 #[.int .i64 k, .int .i64 p, .slice a l.length cap, .string sp] by rw [hW0]; exact blk_new _ _ _) (.cells (madeCells #[.int .u8 0] M) 5))
  have HB := Lib.hid (show Below w.heap.size w (W0.alloc (.cells (madeCells #[.int .u8 0] M) 5)) by rw [hW0]; exact blw2 _ _ _)
  have HB0 := Lib.hid (blk_row hb0 (Lib.byteCells F).toArray)
  have HA := Lib.hid ha
  have z1 : W0.cell? ⟨w.heap.size, 1, none⟩ = some (.int .i64 p) := by rw [hW0]; exact blk_cell (blk_new _ _ _) 1 rfl
  rw [hW0] at hcp z1
  have HW0 := Lib.hid hW0
  obtain ⟨len, hlen⟩ : ∃ len, len = l.length := ⟨_, rfl⟩
  have HL := Lib.hid hlen
  rw [← hlen] at hl hcp HJ z1 ⊢
  have HW1 := Lib.hid (show W0 = w.alloc (.cells #[.int .i64 k, .int .i64 p, .slice a len cap, .string sp] 55) by rw [hlen]; exact HW0.out)
  clear hR hF hN hM hW0 hW0s hb0 hsl ha HF hlen HW0
  go_enter Tryz.func150, Tryz.ntmps150
  go_upto_region 4 with (fail)
  rw [← HW1.out]
  have HJ2 := Lib.hid (show Blk ((W0.alloc (.cells (madeCells #[.int .u8 0] M) 5)).setRow (w.heap.size + 1) (Lib.byteCells F).toArray) w.heap.size 55 _ from (setRow_other (W0.alloc (.cells (madeCells #[.int .u8 0] M) 5)) (w.heap.size + 1) w.heap.size (Lib.byteCells F).toArray (by omega)).trans HJ.out)
  have HB2 := Lib.hid (below_setRow HB.out (g := w.heap.size + 1) (by omega) (Lib.byteCells F).toArray)
  clear hcp z1 HJ HB HW1 hmk hmm hwM
  revert HB0 HJ2 HB2
  generalize (W0.alloc (.cells (madeCells #[.int .u8 0] M) 5)).setRow (w.heap.size + 1) (Lib.byteCells F).toArray = W2
  intro HB0 HJ2 HB2
  clear W0
  have z2 := blk_cell HJ2.out 2 rfl
  obtain ⟨g, hg⟩ : ∃ g, g = w.heap.size + 1 := ⟨_, rfl⟩
  rw [← hg] at HB0 ⊢
  have hgw : w.heap.size < g := by omega
  clear hg
  have HF0 := Lib.hid (show Blk W2 g 5 (Lib.byteCells ((l.take 0).foldl (stP N) F)).toArray from HB0.out)
  go_wp2
  clear z2 HJ2 HB0
  go_loopw [22] (fun i wr => ∃ q : Nat, q ≤ len ∧ i = .int .i64 q ∧ Hid (Blk wr g 5 (Lib.byteCells ((l.take q).foldl (stP N) F)).toArray) ∧ Hid (Below w.heap.size w wr)) (fun i _ => len - (intOf i).toNat)
  case atStart => exact ⟨0, by omega, rfl, HF0, HB2⟩
  case round =>
    clear HF0 HB2
    obtain ⟨q, hq, rfl, hG, hB⟩ := hrel
    by_cases hlt : q < len
    case neg =>
      have hql : l.take q = l := List.take_of_length_le (by have := HL.out; omega)
      rw [hql, ← HRES.out] at hG
      have hRl : R.length = M := by rw [HRES.out]; exact HFL.out l
      have hcv := conv_bytes hG.out hRl
      clear hql
      go_wp2
      go_ret
      exact ⟨rfl, hB.out⟩
    have hlt' : q < l.length := by have := HL.out; omega
    obtain ⟨b, off, rfl, hbw, c0, c1⟩ := recs_next HA.out hB.out q hlt'
    have HS := Lib.hid (apL_snoc (N := N) (b := F) hlt')
    have hlf : ((l.take q).foldl (stP N) F).length = M := HFL.out _
    obtain ⟨x, hx⟩ : ∃ x, x = l[q] := ⟨_, rfl⟩
    rw [← hx] at c0 c1 HS
    obtain ⟨n, hn⟩ : ∃ n, n = x.n := ⟨_, rfl⟩
    obtain ⟨d, hd⟩ : ∃ d, d = ba x.d := ⟨_, rfl⟩
    have hdz : d.size = x.d.length := by rw [hd, ba_size]
    rw [← hn] at c0
    rw [← hd] at c1
    have hok := okA_iff (N := N) (r := x)
    rw [← hn, ← hdz] at hok
    have HN := Lib.hid hn; have HD := Lib.hid hd
    obtain ⟨Q, hQ⟩ : ∃ Q, Q = (l.take q).foldl (stP N) F := ⟨_, rfl⟩
    rw [← hQ] at hG hlf HS
    have HBN := Lib.hid (fun (o : Obj) => hB.out.alloc hB.out.size o)
    clear hx hn hd hlt' hQ hdz
    by_cases hc : okA N x = true
    case neg =>
      have HS1 := Lib.hid (show Q = (l.take (q + 1)).foldl (stP N) F by rw [HS.out, stP, if_neg hc])
      have HG1 := Lib.hid (fun (o : Obj) => show Blk (wr.alloc o) g 5 (Lib.byteCells ((l.take (q + 1)).foldl (stP N) F)).toArray by rw [← HS1.out]; exact blk_alloc hG.out o)
      have hcs : n < 1 ∨ (1 ≤ n ∧ (N : Int) < n) ∨ (1 ≤ n ∧ n ≤ N ∧ ¬ (d.size : Int) = 512) := by
        by_cases h1 : 1 ≤ n
        · by_cases h2 : n ≤ N
          · refine .inr (.inr ⟨h1, h2, fun h3 => hc (hok.2 ⟨h1, h2, by omega⟩)⟩)
          · exact .inr (.inl ⟨h1, by omega⟩)
        · exact .inl (by omega)
      clear hok hc
      rcases hcs with h1 | ⟨h1, h2⟩ | ⟨h1, h2, h3⟩
      all_goals (
        go_wp2
        go_roundw
        case rel => exact ⟨q + 1, by omega, by go_num, HG1.out _, Lib.hid (HBN.out _)⟩
        case measure => simp [intOf]; omega)
    obtain ⟨h1, h2, h3⟩ := hok.1 hc
    have HS1 := Lib.hid (show putD Q (atA x) x.d = (l.take (q + 1)).foldl (stP N) F by rw [HS.out, stP, if_pos hc])
    have hat := atA_le hc
    have hat2 : ((atA x : Nat) : Int) = (n - 1) * 512 := by unfold atA; rw [← HN.out]; omega
    obtain ⟨o, ho⟩ : ∃ o, o = atA x := ⟨_, rfl⟩
    rw [← ho] at hat hat2 HS1
    have h3' : (d.size : Int) = 512 := by omega
    clear hok hc ho
    have hM5 := HM.out
    obtain ⟨x7, hx7⟩ : ∃ x7, x7 = n - 1 := ⟨_, rfl⟩
    have hw7 : IntKind.i64.wrap (n - 1) = x7 := by rw [hx7]; exact aw64 (by omega) (by omega)
    have hw8 : IntKind.i64.wrap (x7 * 512) = (o : Int) := by rw [hx7, aw64 (by omega) (by omega)]; omega
    have hMo : ¬ M = o := by omega
    have ho1 : o + 512 ≤ M := by omega
    have ho2 : (o : Int) ≤ M := by omega
    have ho3 : o < M := by omega
    have hnN : n ≤ 2000 := by omega
    have hmin : Nat.min d.size (M - o) = 512 := by
      have : d.size = 512 := by omega
      rw [this]; exact Nat.min_eq_left (by omega)
    have HT := Lib.hid (show d.data.toList.take 512 = x.d by rw [HD.out, ba_list]; exact List.take_of_length_le (by have := ba_size x.d; rw [← HD.out] at this; omega))
    clear hM5 hat hat2 HN hx7
    go_upto_region 8 with (fail)
    go_region_law ((refine step_copy_bytes rfl _ _ 100 9 (by rfl) 5 Tryz.underlying100 u8_one g o (M - o) (M - o) d (by rfl) (by rfl) Q 5 (by exact blk_alloc hG.out _) 512 hmin (by rw [hlf]; exact ho1) ?_))
    all_goals (
      rw [HT.out]
      have HG1 := Lib.hid (show Blk ((wr.alloc (.cells #[.int .i64 n, .string d] 165)).drew.setRow g (Lib.byteCells (putD Q o x.d)).toArray) g 5 (Lib.byteCells ((l.take (q + 1)).foldl (stP N) F)).toArray by
        rw [← HS1.out]
        exact blk_row (show Blk (wr.alloc (.cells #[.int .i64 n, .string d] 165)).drew g _ _ from blk_alloc hG.out _) _)
      have HB1 := Lib.hid (below_setRow (HBN.out (.cells #[.int .i64 n, .string d] 165)).drew (g := g) (by omega) (Lib.byteCells (putD Q o x.d)).toArray)
      clear hG hB HBN c0 c1 hw7 hw8
      go_wp2
      go_roundw
      case rel => exact ⟨q + 1, by omega, by go_num, HG1, HB1⟩
      case measure => simp [intOf]; omega)
end Go.Proofs.YthfebcfdhmihcaaGreatDoor

namespace Go.Proofs.YthfebcfdhmihcaaGreatDoor
open Go.RowKit
variable {P : Nat → Prop} {ea : Addr} {b n m : Nat} {l : List F13} {Q : PQ} {w : World}

theorem recs_fr {w' : World} {a : Option Addr} {L : List R11} (h : Recs w a L) (hF : Fr P w w') (hP : L ≠ [] → ∀ g o, a = some ⟨g, o, none⟩ → P g) : Recs w' a L := by
  intro j hj
  obtain ⟨g, o, ha, hlt, h1, h2⟩ := h j hj
  have hg := hP (fun e => by rw [e] at hj; cases hj) g o ha
  exact ⟨g, o, ha, Nat.lt_of_lt_of_le hlt hF.size, (hF.cell (a := ⟨g, o + j * 2, none⟩) hg).trans h1, (hF.cell (a := ⟨g, o + j * 2 + 1, none⟩) hg).trans h2⟩

set_option maxRecDepth 100000 in
set_option maxHeartbeats 2000000 in
theorem hwrite_any {rb : Nat} {p x d : List UInt8} {a : Option Addr} {cap : Nat} {hot cr : Bool} (h : Dk P ea b n m l (QF p) w) (hr : Blk w rb 79 (rcC b p (.int .i64 (rdJ d).k) (.int .i64 (rdJ d).p) (.slice a (rdJ d).L.length cap) (.string (ba (rdJ d).s)) hot cr)) (hPr : P rb)
    (hd : d.length ≤ 1048576) (hR : Recs w a (rdJ d).L) (hRP : (rdJ d).L ≠ [] → ∀ g o, a = some ⟨g, o, none⟩ → P g) (hp : p.length ≤ 999000) (hx : lookF l p = some x) (hxl : x.length ≤ 1048576) (ht : totF l + 1025000 ≤ 4000000) (hn : n + 6010 ≤ 100000) :
    Calls Tryz.prog 122 #[.pointer (some ⟨rb, 0, none⟩)] w (NilQ P ea b (n + 6010) (m + 2010) (setF l p (apD (rdJ d).p (rdJ d).L x)) (QF p) w) := by
  unfold NilQ
  have hsrt0 := dk_srt h
  obtain ⟨jl, jp1, jp2⟩ := rdJ_ok hd
  have kA := fun W (hR : Recs W a (rdJ d).L) => japply_any (rdJ d).k (rdJ d).p a cap (rdJ d).L (ba (rdJ d).s) (ba x) (by omega) (by omega) W (by rw [ba_size]; omega) jl hR
  rw [ba_list, ← apD_eq] at kA
  have hTl := apD_len (rdJ d).p (rdJ d).L x
  obtain ⟨T, hT⟩ : ∃ T, T = apD (rdJ d).p (rdJ d).L x := ⟨_, rfl⟩
  rw [← hT] at kA hTl ⊢
  clear hT jl jp1 jp2 hd
  generalize rdJ d = J at *
  obtain ⟨K, pg, RL, sp⟩ := J
  simp only at *
  have KR := Lib.hid (fun W (hF : Fr P w W) => recs_fr hR hF hRP)
  clear hR hRP
  have c0 := blk_cell hr 0 (v := .pointer (some ⟨b, 0, none⟩)) rfl
  have c1 := blk_cell hr 1 (v := .string (ba p)) rfl
  have HR := Lib.hid (hread_some (dk_drew h) p x (by omega) hx (by omega))
  have HUD := Lib.hid (fun W (hF : Fr P w.drew W) => fr_undrew hF)
  have HBR := Lib.hid hr
  clear h
  go_enter Tryz.func122, Tryz.ntmps122
  go_upto_region 1 with (fail)
  go_cut [3, 4] from 10 (fun u v wx => u = .string (ba x) ∧ v = .nilIface ∧ Hid (Dk P ea b (n + 1) m l (QF p) wx) ∧ Hid (Fr P w wx))
  case first =>
    go_region_with ((go_at_call 71; (with_reducible refine HR.out.mono ?_); rintro e w2 ⟨rfl, hD, hF⟩; have HD := Lib.hid hD; have HF := Lib.hid (HUD.out _ hF); clear hD hF))
    all_goals go_wp2
    all_goals go_meet
    all_goals exact ⟨rfl, rfl, HD, HF⟩
  case rest =>
    obtain ⟨rfl, rfl, hD, hF⟩ := hcut
    clear HR HUD c0 c1
    have hb1 := fr_blk hF.out hPr HBR.out
    have d0 := blk_cell hb1 0 (v := .pointer (some ⟨b, 0, none⟩)) rfl
    have d1 := blk_cell hb1 1 (v := .string (ba p)) rfl
    have d2 := blk_cell hb1 2 (v := .int .i64 K) rfl
    have d3 := blk_cell hb1 3 (v := .int .i64 pg) rfl
    have d4 := blk_cell hb1 4 (v := .slice a RL.length cap) rfl
    have d5 := blk_cell hb1 5 (v := .string (ba sp)) rfl
    have HA := Lib.hid (kA _ (KR.out _ hF.out))
    have HD := hD; have HF := hF
    clear hb1 hD hF kA KR
    obtain ⟨y, hy⟩ : ∃ y, y = x.take T.length := ⟨_, rfl⟩
    have hyl : y.length ≤ T.length := by rw [hy, List.length_take]; omega
    go_upto_if 35 with (go_at_call 150; (with_reducible refine HA.out.mono ?_); rintro e w3 ⟨rfl, hB⟩; have HB := Lib.hid hB; clear hB)
    have hFw := HF.out.trans (dk_fr HD.out HB.out)
    have hD3 := dk_below HD.out HB.out
    have hb3 := fr_blk hFw hPr HBR.out
    have e0 := blk_cell hb3 0 (v := .pointer (some ⟨b, 0, none⟩)) rfl
    have e1 := blk_cell hb3 1 (v := .string (ba p)) rfl
    have HD3 := Lib.hid hD3; have HFW := Lib.hid hFw
    clear d0 d1 d2 d3 d4 d5 HA HB hFw hD3 hb3
    have hf := fun W => hfailing_ok W
    have hsT := ba_size T
    have hsx := ba_size x
    have hY := Lib.hid hy
    clear hy
    go_cut [] from 6 (fun wx => Hid (Dk P ea b (n + 4) (m + 1) (setF l p y) (QF p) wx) ∧ Hid (Fr P w wx))
    case first =>
      by_cases hlt : T.length < x.length
      · have u1 : (T.length : Int) < (x.length : Int) := by omega
        have HS := Lib.hid (dk_trunc p x (dk_drew HD3.out) (by omega) hx T.length (by omega) (by omega) (by omega))
        unfold DkQ at HS
        have HUD := Lib.hid (fun W (hF : Fr P w3.drew W) => fr_undrew hF)
        go_upto_region 6 with fail
        refine wp_region_still_tail 10 (by kernel_rfl) (by kernel_rfl) ?_
        simp only [List.take_succ_cons, List.take_zero, List.drop_succ_cons, List.drop_zero]
        still_step
        still_step
        still_step
        still_step
        still_step
        still_step
        still_step
        still_step
        still_step
        still_step
        refine wpStill_nil ?_
        change wpList _ _ _ _ _ w3.drew
        clear e0 e1
        generalize w3.drew = W at HS HUD ⊢
        go_wp2_with (first
          | (go_at_call 151; (with_reducible refine HS.out.mono ?_); rintro e w4 ⟨rfl, hD, hF⟩; have HD4 := Lib.hid hD; have HF4 := Lib.hid hF; clear hD hF)
          | (go_at_call 87; (with_reducible refine (hf _).mono ?_); rintro e w5 ⟨rfl, rfl⟩))
        go_meet
        rw [hY.out]
        exact ⟨HD4, Lib.hid (HFW.out.trans (HUD.out _ HF4.out))⟩
      · have u1 : ¬ (T.length : Int) < (x.length : Int) := by omega
        have HYX := Lib.hid (show setF l p y = l by rw [hY.out, List.take_of_length_le (by omega)]; exact set_id (dk_srt HD3.out) hx)
        go_wp2
        go_meet
        rw [HYX.out]
        exact ⟨Lib.hid (dk_mono HD3.out (by omega) (by omega) (by omega) fun _ _ h => h), HFW⟩
    case rest =>
      obtain ⟨hD0, hF0⟩ := hcut
      clear HD3 HFW e0 e1 HD HF
      have hTot : ∀ C : List UInt8, C.length ≤ T.length → totF (setF l p C) + 512 ≤ 4000000 := fun C hC => by
        have := set_tot hsrt0 p C
        omega
      have hLk : ∀ C : List UInt8, lookF (setF l p C) p = some C := fun C => set_look hsrt0 (by rw [hx]; rfl)
      go_wp2
      go_loopw [7] (fun i wr => ∃ k : Nat, 512 * k ≤ T.length + 511 ∧ i = .int .i64 ((512 * k : Nat) : Int) ∧ Hid (Dk P ea b (n + 4 + 3 * k) (m + 1 + k) (setF l p (wrC T y (512 * k))) (QF p) wr) ∧ Hid (Fr P w wr)) (fun i _ => T.length + 512 - (intOf i).toNat)
      case atStart => exact ⟨0, by omega, rfl, Lib.hid (by rw [Nat.mul_zero, wr_zero]; exact hD0.out), hF0⟩
      case round =>
        obtain ⟨k, hk, rfl, hD, hF⟩ := hrel
        clear hD0 hF0
        obtain ⟨o, ho⟩ : ∃ o, o = 512 * k := ⟨_, rfl⟩
        rw [← ho] at hD hk ⊢
        by_cases hlt : o < T.length
        · have u1 : (o : Int) < (T.length : Int) := by omega
          have kp1 := fun W => hpiece_any T o (by omega) (by omega) W
          have kp2 := fun W => hpiece_any x o (by omega) (by omega) W
          have hb3 := fr_blk hF.out hPr HBR.out
          have e0 := blk_cell hb3 0 (v := .pointer (some ⟨b, 0, none⟩)) rfl
          have e1 := blk_cell hb3 1 (v := .string (ba p)) rfl
          have heq : ((ba (pcF x o)).toList == (ba (pcF T o)).toList) = decide (pcF x o = pcF T o) := ba_eq _ _
          have w1 : IntKind.i64.wrap ((o : Int) + 512) = (o : Int) + 512 := IntWalk.i64_in _ ⟨by omega, by omega⟩
          have HKO := Lib.hid ho
          clear ho hb3
          by_cases hpc : pcF x o = pcF T o
          · rw [decide_eq_true hpc] at heq
            have HW := Lib.hid (show wrC T y (o + 512) = wrC T y o by rw [hY.out]; exact wr_same hpc)
            clear hpc e0 e1
            go_wp2_with (first
              | (go_at_call 152; (with_reducible refine (kp1 _).mono ?_); rintro e w4 ⟨rfl, rfl⟩)
              | (go_at_call 152; (with_reducible refine (kp2 _).mono ?_); rintro e w4 ⟨rfl, rfl⟩))
            go_roundw
            case rel =>
              have := HKO.out
              refine ⟨k + 1, by omega, by rw [show 512 * (k + 1) = o + 512 by omega]; go_num, Lib.hid ?_, hF⟩
              rw [show 512 * (k + 1) = o + 512 by omega, HW.out]
              exact dk_mono hD.out (by omega) (by omega) (by omega) fun _ _ h => h
            case measure => have := HKO.out; simp [intOf]; omega
          · rw [decide_eq_false hpc] at heq
            have HW := Lib.hid (wr_new (t := T) (x := y) hlt hyl)
            have HS := Lib.hid (dk_write p (wrC T y o) (dk_drew hD.out) (by omega) (hLk _) o (pcF T o) (wr_ge (by omega)) (pc_ne hlt) (by have := hTot _ (wr_len (o := o) hyl); have := pc_len T o; omega) (by have := pc_len T o; omega) (by have := HKO.out; omega))
            unfold DkQ at HS
            have HUD := Lib.hid (fun W (hF : Fr P wr.drew W) => fr_undrew hF)
            clear hpc
            go_upto_region 14 with (first
              | (go_at_call 152; (with_reducible refine (kp1 _).mono ?_); rintro e w4 ⟨rfl, rfl⟩)
              | (go_at_call 152; (with_reducible refine (kp2 _).mono ?_); rintro e w5 ⟨rfl, rfl⟩))
            refine wp_region_still_tail 10 (by kernel_rfl) (by kernel_rfl) ?_
            simp only [List.take_succ_cons, List.take_zero, List.drop_succ_cons, List.drop_zero]
            still_step
            still_step
            still_step
            still_step
            still_step
            still_step
            still_step
            still_step
            still_step
            still_step
            refine wpStill_nil ?_
            change wpList _ _ _ _ _ w5.drew
            clear e0 e1
            generalize w5.drew = W at HS HUD ⊢
            go_wp2_with (first
              | (go_at_call 24; (with_reducible refine HS.out.mono ?_); rintro e w6 ⟨rfl, hD6, hF6⟩; have HD6 := Lib.hid hD6; have HF6 := Lib.hid hF6; clear hD6 hF6)
              | (go_at_call 87; (with_reducible refine (hf _).mono ?_); rintro e w7 ⟨rfl, rfl⟩))
            go_roundw
            case rel =>
              have := HKO.out
              refine ⟨k + 1, by omega, by rw [show 512 * (k + 1) = o + 512 by omega]; go_num, Lib.hid ?_, Lib.hid (hF.out.trans (HUD.out _ HF6.out))⟩
              rw [show 512 * (k + 1) = o + 512 by omega, ← HW.out, ← set_set]
              exact dk_mono HD6.out (by omega) (by omega) (by omega) fun _ _ h => h
            case measure => have := HKO.out; simp [intOf]; omega
        · have u1 : ¬ (o : Int) < (T.length : Int) := by omega
          have HE := Lib.hid (wr_end (t := T) (x := y) (o := o) (by omega) hyl)
          have HKO := Lib.hid ho
          clear ho
          go_wp2
          go_ret
          have hD9 := hD.out
          rw [HE.out] at hD9
          have := HKO.out
          exact ⟨rfl, dk_mono hD9 (by omega) (by omega) (by omega) fun _ _ h => h, hF.out⟩
end Go.Proofs.YthfebcfdhmihcaaGreatDoor

namespace Go.Proofs.YthfebcfdhmihcaaGreatDoor
open Go.RowKit

/-- What a step leaves. -/
def StepQ (I' : World → Prop) (F : Value → World → Prop) (b0 : Nat) (t0 : TypeId) (cs : Array Value) (e : Ending) (v' : World) : Prop :=
  Blk v' b0 t0 cs ∧ ((e = .returned .nilIface ∧ I' v') ∨ ∃ t u, e = .returned (.iface t u) ∧ F (.iface t u) v')
/-- What inOrder leaves. -/
def OrdQ (k : Nat) (nm : Nat → ByteArray) (I : World → Prop) (F : Nat → Value → World → Prop) (e : Ending) (w' : World) : Prop :=
  (e = .returned .nilIface ∧ I w') ∨ ∃ j x v, j < k ∧ F j x v ∧ w' = v.alloc (.cells #[.string (nm j), x] 147) ∧ e = .returned (.iface 145 (.pointer (some ⟨v.heap.size, 0, none⟩)))
set_option maxRecDepth 100000 in
set_option maxHeartbeats 1000000 in
theorem inorder_any (g off cap k : Nat) (hk : k ≤ 100000) (nm : Nat → ByteArray) (kf : Nat → Nat) (ra ca : Nat → Array Value) (I : Nat → World → Prop) (F : Nat → Value → World → Prop)
    (hc : ∀ j v, j < k → I j v → v.cell? ⟨g, off + j * 2, none⟩ = some (.string (nm j)) ∧ v.cell? ⟨g, off + j * 2 + 1, none⟩ = some (.func (.func (kf j)) (ra j) (ca j)))
    (he : ∀ j, j < k → ∀ args v, (callFunc (kf j) args).run Tryz.prog v = .ok (.enter (kf j) args) v)
    (hs : ∀ j v t0 cs, j < k → I j v → Calls Tryz.prog (kf j) (ra j ++ ca j) (v.alloc (.cells cs t0)) (StepQ (I (j + 1)) (F j) v.heap.size t0 cs))
    (w : World) (h0 : I 0 w) :
    Calls Tryz.prog 44 #[.slice (some ⟨g, off, none⟩) k cap] w (OrdQ k nm (I k) F) := by
  have HC := Lib.hid hc; have HS := Lib.hid hs; have H0 := Lib.hid h0
  have HE := Lib.hid he
  clear hc hs h0 he
  go_enter Tryz.func44, Tryz.ntmps44
  go_wp2
  go_loopw [8] (fun i wr => ∃ j : Nat, j ≤ k ∧ i = .int .i64 j ∧ Hid (I j wr)) (fun i _ => k - (intOf i).toNat)
  case atStart => exact ⟨0, by omega, rfl, H0⟩
  case round =>
    obtain ⟨j, hj, rfl, hIj⟩ := hrel
    by_cases hlt : j < k
    · have t1 : (j : Int) < k := by omega
      obtain ⟨c0, c1⟩ := HC.out j _ hlt hIj.out
      have hst := HS.out j wr 83 #[.string (nm j), .func (.func (kf j)) (ra j) (ca j)] hlt hIj.out
      unfold StepQ at hst
      have hent := HE.out j hlt
      obtain ⟨f, hf⟩ : ∃ f, f = kf j := ⟨_, rfl⟩
      obtain ⟨A1, hA⟩ : ∃ A1, A1 = ra j := ⟨_, rfl⟩
      obtain ⟨C1, hC⟩ : ∃ C1, C1 = ca j := ⟨_, rfl⟩
      obtain ⟨nj, hnj⟩ : ∃ nj, nj = nm j := ⟨_, rfl⟩
      rw [← hf] at hent
      rw [← hf, ← hA, ← hC, ← hnj] at hst
      rw [← hf, ← hA, ← hC] at c1
      rw [← hnj] at c0
      have HNJ := Lib.hid hnj
      clear hf hA hC hnj
      go_wp2_with (with_reducible refine hst.mono ?_; rintro e w2 ⟨hbk, (⟨rfl, hI2⟩ | ⟨t, u, rfl, hF2⟩)⟩ <;> have z0 := blk_cell hbk 0 rfl)
      · go_roundw
        case rel => exact ⟨j + 1, by omega, by go_num, Lib.hid hI2⟩
        case measure => simp [intOf]; omega
      · go_ret
        exact .inr ⟨j, _, w2, hlt, hF2, by rw [← HNJ.out], rfl⟩
    · obtain rfl : j = k := by omega
      have t1 : ¬ (j : Int) < j := by omega
      go_wp2
      go_ret
      exact .inl ⟨rfl, hIj.out⟩
end Go.Proofs.YthfebcfdhmihcaaGreatDoor

namespace Go.Proofs.YthfebcfdhmihcaaGreatDoor
open Go.RowKit
variable {P : Nat → Prop} {ea : Addr} {b n m : Nat} {l : List F13} {Q : PQ} {w : World}

/-- The blocks but one. -/
abbrev Bt (P : Nat → Prop) (rb : Nat) : Nat → Prop := fun k => P k ∧ k ≠ rb
def nmR (j : Nat) : ByteArray := match j with
  | 0 => ⟨#[99, 114, 101, 97, 116, 101, 32, 116, 104, 101, 32, 102, 105, 108, 101]⟩
  | 1 => ⟨#[119, 114, 105, 116, 101, 32, 116, 104, 101, 32, 102, 105, 108, 101]⟩
  | 2 => ⟨#[115, 121, 110, 99, 32, 116, 104, 101, 32, 102, 105, 108, 101]⟩
  | _ => ⟨#[115, 121, 110, 99, 32, 116, 104, 101, 32, 100, 105, 114, 101, 99, 116, 111, 114, 121]⟩
def kfR (j : Nat) : Nat := match j with
  | 0 => 121
  | 1 => 122
  | 2 => 123
  | _ => 124
theorem enters_R (j : Nat) : ∀ args v, (callFunc (kfR j) args).run Tryz.prog v = .ok (.enter (kfR j) args) v := by
  match j with
  | 0 => exact enters_of Tryz.func121 (by kernel_rfl) rfl
  | 1 => exact enters_of Tryz.func122 (by kernel_rfl) rfl
  | 2 => exact enters_of Tryz.func123 (by kernel_rfl) rfl
  | _ + 3 => exact enters_of Tryz.func124 (by kernel_rfl) rfl

theorem fr_al {o : Obj} (hlt : ∀ k, P k → k < w.heap.size) : Fr P w (w.alloc o) := fr_below (blw1 w o) hlt
/-- A step is called with the copy of its step beside: what stays. -/
theorem sq_fr {rb : Nat} {v w' : World} {t0 : TypeId} {cs : Array Value} (hF : Fr (Bt P rb) w v) (hlt : ∀ k, P k → k < v.heap.size) (hrb : P rb) (hF' : Fr (Bt (fun k => P k ∨ k = v.heap.size) rb) (v.alloc (.cells cs t0)) w') : Fr (Bt P rb) w w' ∧ Blk w' v.heap.size t0 cs := by
  refine ⟨(hF.trans (fr_al fun k hk => hlt k hk.1)).trans (hF'.mono fun k hk => ⟨.inl hk.1, hk.2⟩), fr_blk hF' ⟨.inr rfl, ?_⟩ (blk_new v t0 cs)⟩
  have := hlt rb hrb; omega
theorem bt_mono {rb : Nat} {v v' : World} (h : Fr P v v') : Fr (Bt P rb) v v' := h.mono fun _ hk => hk.1
/-- The disk and the recovery between two steps. -/
def RsI (P : Nat → Prop) (ea : Addr) (b n m rb : Nat) (l : List F13) (Q : PQ) (p : List UInt8) (j0 j1 j2 j3 : Value) (hot cr : Bool) (w v : World) : Prop := Dk P ea b n m l Q v ∧ Fr (Bt P rb) w v ∧ Blk v rb 79 (rcC b p j0 j1 j2 j3 hot cr)
/-- A step that goes well. -/
theorem sq_ok {rb n' m' : Nat} {l' : List F13} {Q' : PQ} {p : List UInt8} {j0 j1 j2 j3 k0 k1 k2 k3 : Value} {hot cr hot' cr' : Bool} {v w' : World} {t0 : TypeId} {cs : Array Value} {F : Value → World → Prop} {e : Ending} (hrb : P rb) (hgn : ∀ k, k < 6 → P k) (hI : RsI P ea b n m rb l Q p j0 j1 j2 j3 hot cr w v) (he : e = .returned .nilIface) (hD : Dk (fun k => P k ∨ k = v.heap.size) ea b n' m' l' Q' w') (hF : Fr (Bt (fun k => P k ∨ k = v.heap.size) rb) (v.alloc (.cells cs t0)) w') (hB : Blk w' rb 79 (rcC b p k0 k1 k2 k3 hot' cr')) :
    StepQ (RsI P ea b n' m' rb l' Q' p k0 k1 k2 k3 hot' cr' w) F v.heap.size t0 cs e w' := by
  obtain ⟨h1, h2⟩ := sq_fr hI.2.1 hI.1.lt hrb hF
  exact ⟨h2, .inl ⟨he, dk_less hD (fun k hk => .inl hk) hgn, h1, hB⟩⟩
theorem rs_alloc {rb : Nat} {p : List UInt8} {j0 j1 j2 j3 : Value} {hot cr : Bool} {v : World} (o : Obj) (hI : RsI P ea b n m rb l Q p j0 j1 j2 j3 hot cr w v) : Dk (fun k => P k ∨ k = v.heap.size) ea b n m l Q (v.alloc o) ∧ Blk (v.alloc o) rb 79 (rcC b p j0 j1 j2 j3 hot cr) := ⟨dk_add hI.1 o, blk_alloc hI.2.2 o⟩
theorem rs_up {rb n' m' : Nat} {Q' : PQ} {p : List UInt8} {j0 j1 j2 j3 : Value} {hot cr : Bool} {v : World} (hI : RsI P ea b n m rb l Q p j0 j1 j2 j3 hot cr w v) (hn : n ≤ n') (hn' : n' ≤ 100000) (hm : m ≤ m') (hQ : ∀ d q, Q d q → Q' d q) : RsI P ea b n' m' rb l Q' p j0 j1 j2 j3 hot cr w v := ⟨dk_mono hI.1 hn hn' hm hQ, hI.2⟩
theorem look_ins {p x : List UInt8} : ∀ {l : List F13}, SrtF l → lookF (insF (p, x) l) p = some x := fun {l} h => mem_look (ins_srt h) (f := (p, x)) (by
  induction l with
  | nil => simp [insF]
  | cons y r ih =>
    unfold insF
    split
    · exact List.mem_cons_of_mem _ (ih (List.pairwise_cons.1 h).2)
    · split <;> simp)

/-- The invariant of restore's steps. -/
def RsJ (P : Nat → Prop) (ea : Addr) (b n m rb : Nat) (l l1 l' : List F13) (p : List UInt8) (j0 j1 j2 j3 : Value) (cr : Bool) (w : World) (j : Nat) : World → Prop := match j with
  | 0 => RsI P ea b n m rb l QD p j0 j1 j2 j3 true false w
  | 1 => RsI P ea b (n + 3) (m + 1) rb l1 QD p j0 j1 j2 j3 true cr w
  | 2 => RsI P ea b (n + 6013) (m + 2011) rb l' (QF p) p j0 j1 j2 j3 true cr w
  | 3 => RsI P ea b (n + 8025 + m) (m + 2011) rb l' QD p j0 j1 j2 j3 true cr w
  | _ => RsI P ea b (n + 10037 + 2 * m) (m + 2011) rb l' QD p j0 j1 j2 j3 true cr w
def stR (rb : Nat) : Array Value := #[.string (nmR 0), .func (.func (kfR 0)) #[.pointer (some ⟨rb, 0, none⟩)] #[], .string (nmR 1), .func (.func (kfR 1)) #[.pointer (some ⟨rb, 0, none⟩)] #[], .string (nmR 2), .func (.func (kfR 2)) #[.pointer (some ⟨rb, 0, none⟩)] #[], .string (nmR 3), .func (.func (kfR 3)) #[.pointer (some ⟨rb, 0, none⟩)] #[]]
theorem st_cells {v : World} {sb rb : Nat} (h : Blk v sb 83 (stR rb)) : ∀ j, j < 4 → v.cell? ⟨sb, 0 + j * 2, none⟩ = some (.string (nmR j)) ∧ v.cell? ⟨sb, 0 + j * 2 + 1, none⟩ = some (.func (.func (kfR j)) #[.pointer (some ⟨rb, 0, none⟩)] #[]) := by
  intro j hj
  match j, hj with
  | 0, _ => exact ⟨blk_cell h 0 rfl, blk_cell h 1 rfl⟩
  | 1, _ => exact ⟨blk_cell h 2 rfl, blk_cell h 3 rfl⟩
  | 2, _ => exact ⟨blk_cell h 4 rfl, blk_cell h 5 rfl⟩
  | 3, _ => exact ⟨blk_cell h 6 rfl, blk_cell h 7 rfl⟩
/-- What a restoration leaves that goes well. -/
def RstOk (P : Nat → Prop) (ea : Addr) (b n m rb : Nat) (l' : List F13) (p : List UInt8) (j0 j1 j2 j3 : Value) (hot : Bool) (w : World) (e : Ending) (w' : World) : Prop := e = .returned .nilIface ∧ ∃ cr, RsI P ea b n m rb l' QD p j0 j1 j2 j3 hot cr w w'
/-- What a restoration leaves whose path is refused. -/
def RstNo (P : Nat → Prop) (ea : Addr) (b n m rb : Nat) (l : List F13) (p : List UInt8) (j0 j1 j2 j3 : Value) (w : World) (e : Ending) (w' : World) : Prop :=
  ∃ (g : Nat) (s : ByteArray), e = .returned (.iface 145 (.pointer (some ⟨g, 0, none⟩))) ∧ Blk w' g 147 #[.string s, .iface 29 (.int .i64 13)] ∧ w.heap.size ≤ g ∧ ∃ cr, RsI P ea b n m rb l QD p j0 j1 j2 j3 true cr w w'

theorem ordq_ret {k : Nat} {nm : Nat → ByteArray} {I : World → Prop} {F : Nat → Value → World → Prop} {e : Ending} {w' : World} (h : OrdQ k nm I F e w') : ∃ x, e = .returned x := by
  rcases h with ⟨h, -⟩ | ⟨_, _, _, _, _, _, h⟩
  · exact ⟨_, h⟩
  · exact ⟨_, h⟩
theorem restore_cold {rb : Nat} {p : List UInt8} {j0 j1 j2 j3 : Value} {cr : Bool} (hr : Blk w rb 79 (rcC b p j0 j1 j2 j3 false cr)) :
    Calls Tryz.prog 90 #[.pointer (some ⟨rb, 0, none⟩)] w fun e w' => e = .returned .nilIface ∧ w' = w := by
  have c6 := blk_cell hr 6 (v := .bool false) rfl
  clear hr
  go_enter Tryz.func90, Tryz.ntmps90
  go_wp2
  go_ret
  exact ⟨rfl, rfl⟩
set_option maxRecDepth 100000 in
set_option maxHeartbeats 2000000 in
theorem restore_walk {rb : Nat} {p : List UInt8} {j0 j1 j2 j3 : Value} {cr : Bool} {I : World → Prop} {F : Nat → Value → World → Prop} (hr : Blk w rb 79 (rcC b p j0 j1 j2 j3 true cr))
    (ho : Calls Tryz.prog 44 #[.slice (some ⟨w.heap.size, 0, none⟩) 4 4] (w.alloc (.cells (stR rb) 83)) (OrdQ 4 nmR I F)) :
    Calls Tryz.prog 90 #[.pointer (some ⟨rb, 0, none⟩)] w (OrdQ 4 nmR I F) := by
  have c6 := blk_cell hr 6 (v := .bool true) rfl
  unfold stR nmR kfR at ho
  simp only at ho
  have HO := Lib.hid ho
  clear hr ho
  go_enter Tryz.func90, Tryz.ntmps90
  go_wp2_with (go_at_call 44; (with_reducible refine HO.out.mono ?_); rintro e w1 hq; obtain ⟨x, rfl⟩ := ordq_ret hq; have HQ := Lib.hid hq; clear hq)
  go_ret
  exact HQ.out

theorem rs_look {l : List F13} {p x : List UInt8} (hs : SrtF l) (hx : lookF l p = some x) (T : List UInt8) : setF l p T = insF (p, T) l := by
  obtain ⟨f, hf, hp, -⟩ := look_mem hx
  exact set_ins hs ⟨f, hf, hp⟩

theorem rsj_fr {rb : Nat} {l l1 l' : List F13} {p : List UInt8} {j0 j1 j2 j3 : Value} {cr : Bool} {v : World} : ∀ j, RsJ P ea b n m rb l l1 l' p j0 j1 j2 j3 cr w j v → Fr (Bt P rb) w v
  | 0, h => h.2.1
  | 1, h => h.2.1
  | 2, h => h.2.1
  | 3, h => h.2.1
  | _ + 4, h => h.2.1

set_option maxRecDepth 100000 in
/-- A file that is there, or whose path is good. -/
theorem restore_ok {rb : Nat} {p d : List UInt8} {a : Option Addr} {cap : Nat} (h : Dk P ea b n m l QD w) (hP : P rb) (hg : 6 ≤ rb) (hr : Blk w rb 79 (rcC b p (.int .i64 (rdJ d).k) (.int .i64 (rdJ d).p) (.slice a (rdJ d).L.length cap) (.string (ba (rdJ d).s)) true false))
    (hd : d.length ≤ 1048576) (hR : Recs w a (rdJ d).L) (hRP : (rdJ d).L ≠ [] → ∀ g o, a = some ⟨g, o, none⟩ → P g ∧ g ≠ rb) (hp : p.length ≤ 999000) (hm : SmlF l) (hl : l.length < 60) (ht : totF l + 1025000 ≤ 4000000) (hok : (lookF l p).isSome = true ∨ pathB p = true) (hn : n + 12000 + 3 * m ≤ 100000) :
    Calls Tryz.prog 90 #[.pointer (some ⟨rb, 0, none⟩)] w (RstOk P ea b (n + 10037 + 2 * m) (m + 2011) rb (insF (p, apD (rdJ d).p (rdJ d).L ((lookF l p).getD [])) l) p (.int .i64 (rdJ d).k) (.int .i64 (rdJ d).p) (.slice a (rdJ d).L.length cap) (.string (ba (rdJ d).s)) true w) := by
  have hsrt := dk_srt h
  -- the file behind create
  obtain ⟨l1, x, cr1, hl1, hx1, hxl, hT, hts⟩ : ∃ (l1 : List F13) (x : List UInt8) (cr1 : Bool), ((lookF l p = some x ∧ l1 = l ∧ cr1 = false) ∨ (lookF l p = none ∧ pathB p = true ∧ l1 = insF (p, []) l ∧ cr1 = true)) ∧ lookF l1 p = some x ∧ x.length ≤ 1048576 ∧ (∀ T, setF l1 p T = insF (p, T) l) ∧ (x = (lookF l p).getD [] ∧ totF l1 ≤ totF l) := by
    cases hx : lookF l p with
    | some x =>
      obtain ⟨f, hf, -, hfd⟩ := look_mem hx
      exact ⟨l, x, false, .inl ⟨rfl, rfl, rfl⟩, hx, by rw [← hfd]; exact hm f hf, rs_look hsrt hx, rfl, Nat.le_refl _⟩
    | none =>
      have hb : pathB p = true := hok.resolve_left (by rw [hx]; simp)
      exact ⟨insF (p, []) l, [], true, .inr ⟨rfl, hb, rfl, rfl⟩, look_ins hsrt, by simp, fun T => set_ins2 hsrt, rfl, by have := ins_tot (p, []) l; simpa using this⟩
  obtain ⟨hxe, htot⟩ := hts
  rw [← hxe]
  obtain ⟨L', hL'⟩ : ∃ L', L' = insF (p, apD (rdJ d).p (rdJ d).L x) l := ⟨_, rfl⟩
  rw [← hL']
  have hLs : setF l1 p (apD (rdJ d).p (rdJ d).L x) = L' := by rw [hT, hL']
  have hLx : lookF L' p = some (apD (rdJ d).p (rdJ d).L x) := by rw [hL']; exact look_ins hsrt
  have hrlt := h.lt rb hP
  have hA := dk_add h (.cells (stR rb) 83)
  have hbs : Blk (w.alloc (.cells (stR rb) 83)) w.heap.size 83 (stR rb) := blk_new _ _ _
  obtain ⟨P2, hP2⟩ : ∃ P2 : Nat → Prop, P2 = fun k => P k ∨ k = w.heap.size := ⟨_, rfl⟩
  rw [← hP2] at hA
  have hPP : ∀ k, P k → P2 k := fun k hk => by rw [hP2]; exact .inl hk
  have hP2s : P2 w.heap.size := by rw [hP2]; exact .inr rfl
  have hrb2 := hPP rb hP
  have h0 : RsJ P2 ea b n m rb l l1 L' p (.int .i64 (rdJ d).k) (.int .i64 (rdJ d).p) (.slice a (rdJ d).L.length cap) (.string (ba (rdJ d).s)) cr1 (w.alloc (.cells (stR rb) 83)) 0 (w.alloc (.cells (stR rb) 83)) := ⟨hA, Fr.refl _ _, blk_alloc hr _⟩
  refine (restore_walk hr (inorder_any w.heap.size 0 4 4 (by decide) nmR kfR (fun _ => #[.pointer (some ⟨rb, 0, none⟩)]) (fun _ => #[]) (RsJ P2 ea b n m rb l l1 L' p (.int .i64 (rdJ d).k) (.int .i64 (rdJ d).p) (.slice a (rdJ d).L.length cap) (.string (ba (rdJ d).s)) cr1 (w.alloc (.cells (stR rb) 83))) (fun _ _ _ => False) ?_ (fun j _ => enters_R j) ?_ _ h0)).mono ?_
  · intro j v hj hI
    exact st_cells (fr_blk (rsj_fr j hI) ⟨hP2s, by omega⟩ hbs) j hj
  · intro j v t0 cs hj hI
    have hgn2 := hA.gn
    match j, hj, hI with
    | 0, _, hI =>
      obtain ⟨hD, hB⟩ := rs_alloc (.cells cs t0) hI
      rcases hl1 with ⟨e1, rfl, rfl⟩ | ⟨e1, e2, rfl, rfl⟩
      · refine (create_there hD hB hp e1).mono fun e w' hq => ?_
        exact sq_ok hrb2 hgn2 hI hq.1 (dk_mono (dk_below hD hq.2) (by omega) (by omega) (by omega) fun _ _ h => h) (bt_mono (dk_fr hD hq.2)) (blk_below hB hq.2)
      · refine (create_new hD (.inl hrb2) hg hB hp e1 hl e2 (by omega)).mono fun e w' hq => ?_
        exact sq_ok hrb2 hgn2 hI hq.1 hq.2.1 hq.2.2.1 hq.2.2.2
    | 1, _, hI =>
      obtain ⟨hD, hB⟩ := rs_alloc (.cells cs t0) hI
      have hRv : Recs (v.alloc (.cells cs t0)) a (rdJ d).L := recs_next (recs_fr (recs_next hR (blw1 w (.cells (stR rb) 83))) hI.2.1 (fun hne g o e => ⟨hPP g (hRP hne g o e).1, (hRP hne g o e).2⟩)) (blw1 v _)
      refine (hwrite_any (dk_toF hD p x hx1) hB (.inl hrb2) hd hRv (fun hne g o e => .inl (hPP g (hRP hne g o e).1)) hp hx1 hxl (by omega) (by omega)).mono fun e w' hq => ?_
      · rw [hLs] at hq
        exact sq_ok hrb2 hgn2 hI hq.1 (dk_mono hq.2.1 (by omega) (by omega) (by omega) fun _ _ h => h) (bt_mono hq.2.2) (fr_blk hq.2.2 (.inl hrb2) hB)
    | 2, _, hI =>
      obtain ⟨hD, hB⟩ := rs_alloc (.cells cs t0) hI
      refine (syncfile_any hD hB hp hLx (by omega)).mono fun e w' hq => ?_
      exact sq_ok hrb2 hgn2 hI hq.1 (dk_mono hq.2.1 (by omega) (by omega) (by omega) fun _ _ h => h) (bt_mono hq.2.2) (fr_blk hq.2.2 (.inl hrb2) hB)
    | 3, _, hI =>
      obtain ⟨hD, hB⟩ := rs_alloc (.cells cs t0) hI
      cases cr1 with
      | false =>
        refine (synccr_no hB).mono fun e w' hq => ?_
        obtain ⟨he, rfl⟩ := hq
        exact sq_ok hrb2 hgn2 hI he (dk_mono hD (by omega) (by omega) (by omega) fun _ _ h => h) (Fr.refl _ _) hB
      | true =>
        refine (synccr_yes hD hB (by omega)).mono fun e w' hq => ?_
        exact sq_ok hrb2 hgn2 hI hq.1 (dk_mono (dk_nd hq.2.1) (by omega) (by omega) (by omega) fun _ _ h => h) (bt_mono hq.2.2) (fr_blk hq.2.2 (.inl hrb2) hB)
  · intro e w' hq
    rcases hq with ⟨he, hI⟩ | ⟨j, x, v, -, hF, -⟩
    · have hI4 : RsI P2 ea b (n + 10037 + 2 * m) (m + 2011) rb L' QD p (.int .i64 (rdJ d).k) (.int .i64 (rdJ d).p) (.slice a (rdJ d).L.length cap) (.string (ba (rdJ d).s)) true cr1 (w.alloc (.cells (stR rb) 83)) w' := hI
      exact ⟨he, cr1, dk_less hI4.1 hPP h.gn, (fr_al fun k hk => h.lt k hk.1).trans (hI4.2.1.mono fun k hk => ⟨hPP k hk.1, hk.2⟩), hI4.2.2⟩
    · exact hF.elim
end Go.Proofs.YthfebcfdhmihcaaGreatDoor

namespace Go.Proofs.YthfebcfdhmihcaaGreatDoor
open Go.RowKit
variable {P : Nat → Prop} {ea : Addr} {b n m : Nat} {l : List F13} {Q : PQ} {w : World}

set_option maxRecDepth 100000 in
theorem restore_no {rb : Nat} {p : List UInt8} {j0 j1 j2 j3 : Value} (h : Dk P ea b n m l QD w) (hP : P rb) (hg : 6 ≤ rb) (hr : Blk w rb 79 (rcC b p j0 j1 j2 j3 true false))
    (hp : p.length ≤ 999000) (hx : lookF l p = none) (hb : pathB p = false) (hn : n + 3 ≤ 100000) :
    Calls Tryz.prog 90 #[.pointer (some ⟨rb, 0, none⟩)] w (RstNo P ea b (n + 3) m rb l p j0 j1 j2 j3 w) := by
  have hrlt := h.lt rb hP
  have hA := dk_add h (.cells (stR rb) 83)
  have hbs : Blk (w.alloc (.cells (stR rb) 83)) w.heap.size 83 (stR rb) := blk_new _ _ _
  obtain ⟨P2, hP2⟩ : ∃ P2 : Nat → Prop, P2 = fun k => P k ∨ k = w.heap.size := ⟨_, rfl⟩
  rw [← hP2] at hA
  have hPP : ∀ k, P k → P2 k := fun k hk => by rw [hP2]; exact .inl hk
  have hP2s : P2 w.heap.size := by rw [hP2]; exact .inr rfl
  have hrb2 := hPP rb hP
  have h0 : RsI P2 ea b n m rb l QD p j0 j1 j2 j3 true false (w.alloc (.cells (stR rb) 83)) (w.alloc (.cells (stR rb) 83)) := ⟨hA, Fr.refl _ _, blk_alloc hr _⟩
  refine (restore_walk hr (inorder_any w.heap.size 0 4 4 (by decide) nmR kfR (fun _ => #[.pointer (some ⟨rb, 0, none⟩)]) (fun _ => #[]) (fun j v => j = 0 ∧ RsI P2 ea b n m rb l QD p j0 j1 j2 j3 true false (w.alloc (.cells (stR rb) 83)) v) (fun _ x v => x = .iface 29 (.int .i64 13) ∧ RsI P2 ea b (n + 3) m rb l QD p j0 j1 j2 j3 true true (w.alloc (.cells (stR rb) 83)) v) ?_ (fun j _ => enters_R j) ?_ _ ⟨rfl, h0⟩)).mono ?_
  · intro j v hj hI
    exact st_cells (fr_blk hI.2.2.1 ⟨hP2s, by omega⟩ hbs) j hj
  · intro j v t0 cs hj hI
    obtain ⟨rfl, hI⟩ := hI
    obtain ⟨hD, hB⟩ := rs_alloc (.cells cs t0) hI
    refine (create_bad hD (.inl hrb2) hg hB hp hx hb (by omega)).mono fun e w' hq => ?_
    obtain ⟨h1, h2⟩ := sq_fr hI.2.1 hI.1.lt hrb2 hq.2.2.1
    exact ⟨h2, .inr ⟨_, _, hq.1, rfl, dk_less hq.2.1 (fun k hk => .inl hk) hA.gn, h1, hq.2.2.2⟩⟩
  · intro e w' hq
    rcases hq with ⟨-, hI⟩ | ⟨j, x, v, -, ⟨rfl, hI⟩, rfl, he⟩
    · exact absurd hI.1 (by decide)
    · have hsz : w.heap.size ≤ v.heap.size := Nat.le_trans (by simp) hI.2.1.size
      refine ⟨v.heap.size, nmR j, he, blk_new _ _ _, hsz, true, dk_less (dk_alloc hI.1 _) hPP h.gn, ?_, blk_alloc hI.2.2 _⟩
      exact ((fr_al fun k hk => h.lt k hk.1).trans (hI.2.1.mono fun k hk => ⟨hPP k hk.1, hk.2⟩)).trans (fr_al fun k hk => hI.1.lt k (hPP k hk.1))
end Go.Proofs.YthfebcfdhmihcaaGreatDoor
