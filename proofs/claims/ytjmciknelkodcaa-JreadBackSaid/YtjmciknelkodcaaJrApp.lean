/-
  Layer 11, Apply and the document's Apply: the contents of a file as they were ('apL'); they change nothing that was there. Condition: the file's number of pages is an int, at most 4096 pages in the journal, strings of at most 2^40 bytes (the document's: 2^20).
-/
import Derived.Test.YtjmciknelkodcaaJrAppM
import Derived.Test.YtjmciknelkodcaaJrLeaf
import Derived.Test.YtjmciknelkodcaaJpLaws1
import Derived.Lib.MinMax
namespace Go.Proofs.Ytjmciknelkodcaa
open Go.RowKit

theorem aw64 {x : Int} (h0 : 0 ≤ x) (h1 : x ≤ 9223372036854775807) : IntKind.i64.wrap x = x := IntWalk.i64_in _ ⟨by omega, by omega⟩
theorem u8_one : (Try.prog.info? 5).map (·.size) = some 1 := by kernel_rfl
theorem made_bytes (W : World) (n : Nat) : Blk (W.alloc (.cells (madeCells #[.int .u8 0] n) 5)) W.heap.size 5 (Lib.byteCells (List.replicate n 0)).toArray := by
  obtain ⟨cs, h1, h2, h3⟩ := World.rowIs_made W (.int .u8 0) n 5
  have e : cs = (Lib.byteCells (List.replicate n 0)).toArray := by
    apply Array.ext
    · rw [h2]; simp [Lib.byteCells]
    · intro i a1 a2
      have := h3 i (by omega)
      rw [Array.getElem?_eq_getElem a1] at this
      rw [Option.some.inj this]
      simp [Lib.byteCells]
  rw [← e]
  exact h1
theorem conv_bytes {v : World} {g n : Nat} {l : List UInt8} (h : Blk v g 5 (Lib.byteCells l).toArray) (hl : l.length = n) : (convert 63 9 (.slice (some ⟨g, 0, none⟩) n n)).run Try.prog v = .ok (.string (ba l)) v := by
  have := run_convert_bytes_back (P := Try.prog) v 63 9 5 ⟨g, 0, none⟩ n l Try.underlying63 Try.underlying5 Try.underlying9 (fun j hj => by
    rw [raddr_add]
    exact blk_cell h j (by simp [Lib.byteCells, hj]))
  rwa [hl] at this
theorem fit_put (M : Nat) (S : List UInt8) : putD (List.replicate M 0) 0 (S.take (Nat.min S.length M)) = fitL M S := by
  obtain ⟨m, hm⟩ : ∃ m, m = Nat.min S.length M := ⟨_, rfl⟩
  have m1 : m ≤ S.length := by rw [hm]; exact Nat.min_le_left _ _
  have m2 : m ≤ M := by rw [hm]; exact Nat.min_le_right _ _
  have m3 : m = S.length ∨ m = M := by
    rw [hm]
    by_cases h : S.length ≤ M
    · exact .inl (Nat.min_eq_left h)
    · exact .inr (Nat.min_eq_right (by omega))
  rw [← hm]
  clear hm
  have h1 : (S.take m).length = m := by rw [List.length_take]; exact Nat.min_eq_left m1
  have hM : (putD (List.replicate M 0) 0 (S.take m)).length = M := by
    rw [putD_len, List.length_replicate]
    rw [h1, List.length_replicate]; omega
  refine gB_ext (by rw [fit_len, hM]) fun i hi => ?_
  rw [hM] at hi
  rw [putD_g (Nat.zero_le _), fit_g, if_pos hi, h1]
  by_cases h2 : i < m
  · rw [if_pos (by omega)]
    unfold gB
    rw [Nat.sub_zero, List.getElem?_take, if_pos h2]
  · rw [if_neg (by omega), gB_out (l := S) (by omega)]
    have := gB_app [] M i
    rw [List.nil_append] at this
    rw [this]; rfl

set_option maxRecDepth 100000 in
set_option maxHeartbeats 4000000 in
theorem japply_any (k p : Int) (a : Option Addr) (cap : Nat) (l : List R11) (sp s : ByteArray) (p1 : -9223372036854775808 ≤ p) (p2 : p ≤ 9223372036854775807) (w : World) (hs : s.size ≤ 1099511627776) (hl : l.length ≤ 4096) (ha : Recs w a l) :
    Calls Try.prog 17 #[.agg #[.int .i64 k, .int .i64 p, .slice a l.length cap, .string sp], .string s] w fun e w' => e = .returned (.string (ba (apL p l s.data.toList))) ∧ Below w.heap.size w w' := by
  obtain ⟨N, hN⟩ : ∃ N, N = clN p := ⟨_, rfl⟩
  have hN2 : N ≤ 2000 := by rw [hN]; exact clN_le p
  have hmm : max 0 (min p 2000) = (N : Int) := by rw [hN]; unfold clN; omega
  obtain ⟨M, hM⟩ : ∃ M, M = N * 512 := ⟨_, rfl⟩
  have hwM : IntKind.i64.wrap ((N : Int) * 512) = (M : Int) := by rw [aw64 (by omega) (by omega)]; omega
  have hM2 : M ≤ 1024000 := by omega
  have HRES := Lib.hid (show apL p l s.data.toList = l.foldl (stP N) (fitL M s.data.toList) by rw [hM, hN]; rfl)
  obtain ⟨R, hR⟩ : ∃ R, R = apL p l s.data.toList := ⟨_, rfl⟩
  rw [← hR] at HRES ⊢
  have HF := Lib.hid (show l.foldl (stP N) (fitL M s.data.toList) = l.foldl (stP N) (fitL M s.data.toList) from rfl)
  obtain ⟨F, hF⟩ : ∃ F, F = fitL M s.data.toList := ⟨_, rfl⟩
  have hFl : F.length = M := by rw [hF, fit_len]
  have HFL := Lib.hid (show ∀ L : List R11, (L.foldl (stP N) F).length = M from fun L => by rw [hM]; exact fold_len L (by rw [hFl, hM]))
  have HM := Lib.hid hM
  rw [← hF] at HRES
  have hmk := fun W => run_make_row' (P := Try.prog) 63 5 (.int .u8 0) 1 Try.underlying63 infoU8 rfl .i64 .i64 M (by omega) (by omega) W
  obtain ⟨W0, hW0⟩ : ∃ W0, W0 = w.alloc (.cells #[.int .i64 k, .int .i64 p, .slice a l.length cap, .string sp] 25) := ⟨_, rfl⟩
  have hW0s : W0.heap.size = w.heap.size + 1 := by rw [hW0]; simp
  have hb0 := made_bytes W0 M
  rw [hW0s] at hb0
  have hsl : s.data.toList.length = s.size := by simp
  have hcp := run_copy_bytes (P := Try.prog) (W0.alloc (.cells (madeCells #[.int .u8 0] M) 5)) 63 9 3 5 (w.heap.size + 1) 0 M M s (List.replicate M 0) 5 Try.underlying63 u8_one hb0 (Nat.min s.size M) rfl (by rw [List.length_replicate, Nat.zero_add]; exact Nat.min_le_right _ _)
  rw [← hsl, fit_put, ← hF, hsl] at hcp
  have HJ := Lib.hid (blk_alloc (show Blk W0 w.heap.size 25 #[.int .i64 k, .int .i64 p, .slice a l.length cap, .string sp] by rw [hW0]; exact blk_new _ _ _) (.cells (madeCells #[.int .u8 0] M) 5))
  have HB := Lib.hid (show Below w.heap.size w (W0.alloc (.cells (madeCells #[.int .u8 0] M) 5)) by rw [hW0]; exact blw2 _ _ _)
  have HB0 := Lib.hid (blk_row hb0 (Lib.byteCells F).toArray)
  have HA := Lib.hid ha
  have z1 : W0.cell? ⟨w.heap.size, 1, none⟩ = some (.int .i64 p) := by rw [hW0]; exact blk_cell (blk_new _ _ _) 1 rfl
  rw [hW0] at hcp z1
  have HW0 := Lib.hid hW0
  obtain ⟨len, hlen⟩ : ∃ len, len = l.length := ⟨_, rfl⟩
  have HL := Lib.hid hlen
  rw [← hlen] at hl hcp HJ z1 ⊢
  have HW1 := Lib.hid (show W0 = w.alloc (.cells #[.int .i64 k, .int .i64 p, .slice a len cap, .string sp] 25) by rw [hlen]; exact HW0.out)
  clear hR hF hN hM hW0 hW0s hb0 hsl ha HF hlen HW0
  go_enter Try.func17, Try.ntmps17
  go_upto_region 4 with (fail)
  rw [← HW1.out]
  have HJ2 := Lib.hid (show Blk ((W0.alloc (.cells (madeCells #[.int .u8 0] M) 5)).setRow (w.heap.size + 1) (Lib.byteCells F).toArray) w.heap.size 25 _ from (setRow_other (W0.alloc (.cells (madeCells #[.int .u8 0] M) 5)) (w.heap.size + 1) w.heap.size (Lib.byteCells F).toArray (by omega)).trans HJ.out)
  have HB2 := Lib.hid (below_setRow HB.out (g := w.heap.size + 1) (by omega) (Lib.byteCells F).toArray)
  clear hcp z1 HJ HB HW1 hmk hmm hwM
  revert HB0 HJ2 HB2
  generalize (W0.alloc (.cells (madeCells #[.int .u8 0] M) 5)).setRow (w.heap.size + 1) (Lib.byteCells F).toArray = W2
  intro HB0 HJ2 HB2
  clear W0
  have z2 := blk_cell HJ2.out 2 rfl
  obtain ⟨g, hg⟩ : ∃ g, g = w.heap.size + 1 := ⟨_, rfl⟩
  rw [← hg] at HB0 ⊢
  have hgw : w.heap.size < g := by omega
  clear hg
  have HF0 := Lib.hid (show Blk W2 g 5 (Lib.byteCells ((l.take 0).foldl (stP N) F)).toArray from HB0.out)
  go_wp2
  clear z2 HJ2 HB0
  go_loopw [22] (fun i wr => ∃ q : Nat, q ≤ len ∧ i = .int .i64 q ∧ Hid (Blk wr g 5 (Lib.byteCells ((l.take q).foldl (stP N) F)).toArray) ∧ Hid (Below w.heap.size w wr)) (fun i _ => len - (intOf i).toNat)
  case atStart => exact ⟨0, by omega, rfl, HF0, HB2⟩
  case round =>
    clear HF0 HB2
    obtain ⟨q, hq, rfl, hG, hB⟩ := hrel
    by_cases hlt : q < len
    case neg =>
      have hql : l.take q = l := List.take_of_length_le (by have := HL.out; omega)
      rw [hql, ← HRES.out] at hG
      have hRl : R.length = M := by rw [HRES.out]; exact HFL.out l
      have hcv := conv_bytes hG.out hRl
      clear hql
      go_wp2
      go_ret
      exact ⟨rfl, hB.out⟩
    have hlt' : q < l.length := by have := HL.out; omega
    obtain ⟨b, off, rfl, hbw, c0, c1⟩ := recs_next HA.out hB.out q hlt'
    have HS := Lib.hid (apL_snoc (N := N) (b := F) hlt')
    have hlf : ((l.take q).foldl (stP N) F).length = M := HFL.out _
    obtain ⟨x, hx⟩ : ∃ x, x = l[q] := ⟨_, rfl⟩
    rw [← hx] at c0 c1 HS
    obtain ⟨n, hn⟩ : ∃ n, n = x.n := ⟨_, rfl⟩
    obtain ⟨d, hd⟩ : ∃ d, d = ba x.d := ⟨_, rfl⟩
    have hdz : d.size = x.d.length := by rw [hd, ba_size]
    rw [← hn] at c0
    rw [← hd] at c1
    have hok := okA_iff (N := N) (r := x)
    rw [← hn, ← hdz] at hok
    have HN := Lib.hid hn; have HD := Lib.hid hd
    obtain ⟨Q, hQ⟩ : ∃ Q, Q = (l.take q).foldl (stP N) F := ⟨_, rfl⟩
    rw [← hQ] at hG hlf HS
    have HBN := Lib.hid (fun (o : Obj) => hB.out.alloc hB.out.size o)
    clear hx hn hd hlt' hQ hdz
    by_cases hc : okA N x = true
    case neg =>
      have HS1 := Lib.hid (show Q = (l.take (q + 1)).foldl (stP N) F by rw [HS.out, stP, if_neg hc])
      have HG1 := Lib.hid (fun (o : Obj) => show Blk (wr.alloc o) g 5 (Lib.byteCells ((l.take (q + 1)).foldl (stP N) F)).toArray by rw [← HS1.out]; exact blk_alloc hG.out o)
      have hcs : n < 1 ∨ (1 ≤ n ∧ (N : Int) < n) ∨ (1 ≤ n ∧ n ≤ N ∧ ¬ (d.size : Int) = 512) := by
        by_cases h1 : 1 ≤ n
        · by_cases h2 : n ≤ N
          · refine .inr (.inr ⟨h1, h2, fun h3 => hc (hok.2 ⟨h1, h2, by omega⟩)⟩)
          · exact .inr (.inl ⟨h1, by omega⟩)
        · exact .inl (by omega)
      clear hok hc
      rcases hcs with h1 | ⟨h1, h2⟩ | ⟨h1, h2, h3⟩
      all_goals (
        go_wp2
        go_roundw
        case rel => exact ⟨q + 1, by omega, by go_num, HG1.out _, Lib.hid (HBN.out _)⟩
        case measure => simp [intOf]; omega)
    obtain ⟨h1, h2, h3⟩ := hok.1 hc
    have HS1 := Lib.hid (show putD Q (atA x) x.d = (l.take (q + 1)).foldl (stP N) F by rw [HS.out, stP, if_pos hc])
    have hat := atA_le hc
    have hat2 : ((atA x : Nat) : Int) = (n - 1) * 512 := by unfold atA; rw [← HN.out]; omega
    obtain ⟨o, ho⟩ : ∃ o, o = atA x := ⟨_, rfl⟩
    rw [← ho] at hat hat2 HS1
    have h3' : (d.size : Int) = 512 := by omega
    clear hok hc ho
    have hM5 := HM.out
    obtain ⟨x7, hx7⟩ : ∃ x7, x7 = n - 1 := ⟨_, rfl⟩
    have hw7 : IntKind.i64.wrap (n - 1) = x7 := by rw [hx7]; exact aw64 (by omega) (by omega)
    have hw8 : IntKind.i64.wrap (x7 * 512) = (o : Int) := by rw [hx7, aw64 (by omega) (by omega)]; omega
    have hMo : ¬ M = o := by omega
    have ho1 : o + 512 ≤ M := by omega
    have ho2 : (o : Int) ≤ M := by omega
    have ho3 : o < M := by omega
    have hnN : n ≤ 2000 := by omega
    have hmin : Nat.min d.size (M - o) = 512 := by
      have : d.size = 512 := by omega
      rw [this]; exact Nat.min_eq_left (by omega)
    have HT := Lib.hid (show d.data.toList.take 512 = x.d by rw [HD.out, ba_list]; exact List.take_of_length_le (by have := ba_size x.d; rw [← HD.out] at this; omega))
    clear hM5 hat hat2 HN hx7
    go_upto_region 8 with (fail)
    go_region_law ((refine step_copy_bytes rfl _ _ 63 9 (by rfl) 5 Try.underlying63 u8_one g o (M - o) (M - o) d (by rfl) (by rfl) Q 5 (by exact blk_alloc hG.out _) 512 hmin (by rw [hlf]; exact ho1) ?_))
    all_goals (
      rw [HT.out]
      have HG1 := Lib.hid (show Blk ((wr.alloc (.cells #[.int .i64 n, .string d] 52)).drew.setRow g (Lib.byteCells (putD Q o x.d)).toArray) g 5 (Lib.byteCells ((l.take (q + 1)).foldl (stP N) F)).toArray by
        rw [← HS1.out]
        exact blk_row (show Blk (wr.alloc (.cells #[.int .i64 n, .string d] 52)).drew g _ _ from blk_alloc hG.out _) _)
      have HB1 := Lib.hid (below_setRow (HBN.out (.cells #[.int .i64 n, .string d] 52)).drew (g := g) (by omega) (Lib.byteCells (putD Q o x.d)).toArray)
      clear hG hB HBN c0 c1 hw7 hw8
      go_wp2
      go_roundw
      case rel => exact ⟨q + 1, by omega, by go_num, HG1, HB1⟩
      case measure => simp [intOf]; omega)
end Go.Proofs.Ytjmciknelkodcaa
