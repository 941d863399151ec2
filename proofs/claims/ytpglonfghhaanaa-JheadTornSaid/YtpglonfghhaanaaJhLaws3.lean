/-
  The statement JheadTorn as a walk: it returns true for every input and changes nothing that was there.
-/
import Derived.Test.YtpglonfghhaanaaJhLaws1
import Derived.Test.YtpglonfghhaanaaJhTurnM
import Derived.Laws.IdiomStrings
namespace Go.Proofs.Ytpglonfghhaanaa
open Go.RowKit

structure T8I (w wr : World) : Prop where
  below : Below w.heap.size w wr
theorem t8_drew {w wr : World} (h : T8I w wr) : T8I w wr.drew := ⟨h.below.drew⟩
theorem t8_alloc {w wr : World} (h : T8I w wr) (o : Obj) : T8I w (wr.alloc o) := ⟨h.below.trans ((blw1 wr o).mono h.below.size)⟩
theorem t8_next {w wr w2 : World} (hb : Below wr.heap.size wr w2) (h : T8I w wr) : T8I w w2 := ⟨h.below.trans (hb.mono h.below.size)⟩
theorem t8_sets {w wr : World} (h : T8I w wr) {g : Nat} (hg : w.heap.size ≤ g) (p q s : Value) : T8I w (((wr.setCell ⟨g, 0, none⟩ p).setCell ⟨g, 1, none⟩ q).setCell ⟨g, 2, none⟩ s) := ⟨blw_set (blw_set (blw_set h.below hg 0 p) hg 1 q) hg 2 s⟩

abbrev hd0 : Obj := .cells #[.int .i64 0, .int .i64 0, .int .i64 0] 27
abbrev Hd0 (v : World) (g : Nat) : Prop := Blk v g 27 #[.int .i64 0, .int .i64 0, .int .i64 0]
theorem hd_a {W W' : World} {o : Obj} (h : Below ((W.alloc hd0).alloc o).drew.heap.size ((W.alloc hd0).alloc o).drew W') : Hd0 W' W.heap.size := blk_below (w := ((W.alloc hd0).alloc o).drew) (show Blk ((W.alloc hd0).alloc o) _ _ _ from blk_alloc (blk_new _ _ _) o) h
theorem hd_b {W W' : World} {o : Obj} (h : Below ((W.alloc o).alloc hd0).drew.heap.size ((W.alloc o).alloc hd0).drew W') : Hd0 W' (W.heap.size + 1) := blk_below (w := ((W.alloc o).alloc hd0).drew) (show Blk ((W.alloc o).alloc hd0) _ _ _ from blk_at (by simp)) h
theorem zconv (v : World) (b n : Nat) (h : ∀ j, j < n → v.cell? ⟨b, j, none⟩ = some (.int .u8 0)) :
    (convert 37 9 (.slice (some ⟨b, 0, none⟩) n n)).run Try.prog v = .ok (.string ⟨(List.replicate n (0 : UInt8)).toArray⟩) v := by
  have := run_convert_bytes_back (P := Try.prog) v 37 9 5 ⟨b, 0, none⟩ n (List.replicate n (0 : UInt8)) Try.underlying37 Try.underlying5 Try.underlying9 (fun j hj => by
    rw [Addr.add_lit, Nat.zero_add, h j (by simpa using hj), List.getElem_replicate]; rfl)
  rwa [List.length_replicate] at this

set_option maxHeartbeats 4000000 in
set_option maxRecDepth 100000 in
theorem htorn_any (a b c : Int) (h1 : -9223372036854775808 ≤ a) (h2 : a ≤ 9223372036854775807) (h3 : -9223372036854775808 ≤ b) (h4 : b ≤ 9223372036854775807) (h5 : -9223372036854775808 ≤ c) (h6 : c ≤ 9223372036854775807)
    (t : Int) (h7 : -9223372036854775808 ≤ t) (h8 : t ≤ 9223372036854775807) (w : World) :
    Calls Try.prog 5 #[.agg #[.int .i64 a, .int .i64 b, .int .i64 c], .int .i64 t] w fun e w' => e = .returned (.bool true) ∧ Below w.heap.size w w' := by
  have k1 := fun w => jwrite_any a b c h1 h2 h3 h4 h5 h6 w
  have HN := Lib.hid (h8_new w (.int .i64 a) (.int .i64 b) (.int .i64 c) 23)
  by_cases hok : okH a b c = true
  case neg =>
    rw [wrH, if_neg hok] at k1
    clear hok
    go_enter Try.func5, Try.ntmps5
    go_wp2_with (first | (go_at_call 9; (with_reducible refine (works8_any _).mono ?_); rintro e w1 ⟨rfl, b1⟩; replace HN := Lib.hid (h8_next HN.out b1); have c0 := HN.out.c0; have c1 := HN.out.c1; have c2 := HN.out.c2; clear b1) | (go_at_call 7; (with_reducible refine (k1 _).mono ?_); rintro e w2 ⟨rfl, b2⟩; replace HN := Lib.hid (h8_next HN.out b2); clear b2))
    go_ret
    exact ⟨rfl, HN.out.below⟩
  rw [wrH, if_pos hok] at k1
  simp only at k1
  obtain ⟨E, hE⟩ : ∃ E : ByteArray, E = ⟨(enL a b c).toArray⟩ := ⟨_, rfl⟩
  rw [← hE] at k1
  have hEl : E.data.toList = enL a b c := by rw [hE]
  have hE2 : E.size = 32 := by rw [hE]; rfl
  have t1 : (E.toList == []) = false := beq_eq_false_iff_ne.2 fun e => by
    rw [ByteArray.toList_eq, hEl] at e
    exact absurd e (by simp [enL, hdL, j8F])
  have hw1 : IntKind.u64.wrap (E.size : Int) = (E.size : Int) := IntWalk.u64_in _ ⟨by omega, by omega⟩
  obtain ⟨u, hu⟩ : ∃ u, IntKind.u64.wrap t = u := ⟨_, rfl⟩
  have hu0 : 0 ≤ u ∧ u ≤ 18446744073709551615 := by rw [← hu, IntKind.wrap_u64]; omega
  obtain ⟨hu0, hu1⟩ := hu0
  obtain ⟨i, hi⟩ : ∃ i : Nat, u % (E.size : Int) = (i : Int) := ⟨(u % (E.size : Int)).toNat, by have := Int.emod_nonneg u (show (E.size : Int) ≠ 0 by omega); omega⟩
  have hi1 : i < E.size := by have := Int.emod_lt_of_pos u (show (0 : Int) < (E.size : Int) by omega); omega
  have hi32 : i < 32 := by omega
  have hw2 : IntKind.i64.wrap (i : Int) = (i : Int) := IntWalk.i64_in _ ⟨by omega, by omega⟩
  obtain ⟨n, hn⟩ : ∃ n, n = 32 - i := ⟨_, rfl⟩
  have hw3 : IntKind.i64.wrap ((E.size : Int) - (i : Int)) = (n : Int) := by rw [show (E.size : Int) - (i : Int) = (n : Int) by omega]; exact IntWalk.i64_in _ ⟨by omega, by omega⟩
  have hl0 : 0 < E.size := by omega
  have hl1 : E.size ≤ 20000 := by omega
  have hl2 : (i : Int) ≤ E.size := by omega
  obtain ⟨Z, hZ⟩ : ∃ Z : ByteArray, Z = ⟨(List.replicate n (0 : UInt8)).toArray⟩ := ⟨_, rfl⟩
  have hmk := fun W => run_make_row' (P := Try.prog) 37 5 (.int .u8 0) 1 Try.underlying37 infoU8 rfl .i64 .i64 n (by omega) (by omega) W
  have hrow := fun (W : World) => World.rowIs_made W (.int .u8 0) n 5
  have q1 := fun (W : World) => zconv (W.alloc (.cells (madeCells #[.int .u8 0] n) 5)).drew W.heap.size n (fun j hj => (hrow W).cell hj)
  have q2 := fun (W : World) o => zconv ((W.alloc (.cells (madeCells #[.int .u8 0] n) 5)).alloc o).drew W.heap.size n (fun j hj => ((hrow W).alloc o).cell hj)
  have q3 := fun (W : World) o => zconv ((W.alloc o).alloc (.cells (madeCells #[.int .u8 0] n) 5)).drew (W.heap.size + 1) n (by have := hrow (W.alloc o); rw [show (W.alloc o).heap.size = W.heap.size + 1 by simp] at this; exact fun j hj => this.cell hj)
  rw [← hZ] at q1 q2 q3
  have hsz : (E.extract 0 i ++ Z).size ≤ 9223372036854775807 := by
    rw [app_size]
    have := ext_le E 0 i (by omega)
    have : Z.size = n := by rw [hZ]; simp [ByteArray.size]
    omega
  have hrd : rdH (E.extract 0 i ++ Z).data.toList = (⟨0, 0, 0⟩, 4) := by
    rw [app_data, ext_data, hEl, hZ]
    have := rd_torn a b c hi32
    rw [← hn] at this
    exact this
  have k2 := fun w => jread_is hsz hrd w
  have z5 : Z.size ≤ 32 := by rw [hZ]; simp [ByteArray.size]; omega
  have hq := run_eqlH 0 0 0 0 0 0
  have hms : min i E.size + Z.size ≤ 9223372036854775807 := by omega
  have hmt : ¬ 9223372036854775807 < min i E.size + Z.size := by omega
  rw [show eq3 0 0 0 0 0 0 = true from rfl] at hq
  have hg := guardH
  have HE2 := Lib.hid hE2
  clear hE2 hE hEl hZ hrd hsz hok hrow hn
  go_enter Try.func5, Try.ntmps5
  go_upto_region 9 with (first | (go_at_call 9; (with_reducible refine (works8_any _).mono ?_); rintro e w1 ⟨rfl, b1⟩; replace HN := Lib.hid (h8_next HN.out b1); have c0 := HN.out.c0; have c1 := HN.out.c1; have c2 := HN.out.c2; clear b1) | (go_at_call 7; (with_reducible refine (k1 _).mono ?_); rintro e w2 ⟨rfl, b2⟩; replace HN := Lib.hid (h8_next HN.out b2); clear b2))
  have HT := Lib.hid (T8I.mk HN.out.below)
  go_region_with
    ((go_at_call 10; (with_reducible refine (k2 _).mono ?_); rintro e w3 ⟨rfl, hb⟩; have HB : Hid (T8I w w3) := Lib.hid (by first | exact t8_next hb (t8_alloc (t8_alloc HT.out _) _) | exact t8_next hb (t8_alloc HT.out _) | exact t8_next hb (t8_drew (t8_alloc (t8_alloc HT.out _) _)) | exact t8_next hb (t8_drew (t8_alloc HT.out _))); (try (first | (have hz := hd_a hb; have z0 := blk_cell hz 0 rfl; have z1 := blk_cell hz 1 rfl; have z2 := blk_cell hz 2 rfl; have z3 := blk_frozen hz 0; have z4 := blk_frozen hz 1; have z5 := blk_frozen hz 2) | (have hz := hd_b hb; have z0 := blk_cell hz 0 rfl; have z1 := blk_cell hz 1 rfl; have z2 := blk_cell hz 2 rfl; have z3 := blk_frozen hz 0; have z4 := blk_frozen hz 1; have z5 := blk_frozen hz 2)))))
  all_goals clear hb q1 q2 q3 hmk k1 k2
  all_goals go_wp2
  all_goals go_ret
  all_goals first
    | exact ⟨rfl, (t8_alloc HB.out _).below⟩
    | exact ⟨rfl, (t8_sets HB.out HT.out.below.size _ _ _).below⟩
    | exact ⟨rfl, (t8_sets (g := w2.heap.size + 1) HB.out (Nat.le_succ_of_le HT.out.below.size) _ _ _).below⟩
end Go.Proofs.Ytpglonfghhaanaa
