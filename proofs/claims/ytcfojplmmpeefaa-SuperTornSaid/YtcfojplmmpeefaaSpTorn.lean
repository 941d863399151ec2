/-
  Layer 10, the walk of SuperTorn: it returns true for every input and changes nothing that was there.
-/
import Derived.Test.YtcfojplmmpeefaaSpLaws3
import Derived.Test.YtcfojplmmpeefaaVarPut
namespace Go.Proofs.Ytcfojplmmpeefaa
open Go.RowKit

theorem szconv (v : World) (b n : Nat) (h : ∀ j, j < n → v.cell? ⟨b, j, none⟩ = some (.int .u8 0)) :
    (convert 35 9 (.slice (some ⟨b, 0, none⟩) n n)).run Try.prog v = .ok (.string ⟨(List.replicate n (0 : UInt8)).toArray⟩) v := by
  have := run_convert_bytes_back (P := Try.prog) v 35 9 5 ⟨b, 0, none⟩ n (List.replicate n (0 : UInt8)) Try.underlying35 Try.underlying5 Try.underlying9 (fun j hj => by
    rw [Addr.add_lit, Nat.zero_add, h j (by simpa using hj), List.getElem_replicate]; rfl)
  rwa [List.length_replicate] at this
theorem torn_list (s : List UInt8) (i n : Nat) : ((ba s).extract 0 i ++ (⟨(List.replicate n (0 : UInt8)).toArray⟩ : ByteArray)) = ba (s.take i ++ List.replicate n 0) := by
  rw [sext_take]; exact ba_app _ _

theorem tr3 {w W w6 : World} (h : Below w.heap.size w W) (b : Below W.heap.size W w6) : Below w.heap.size w w6 := h.trans (b.mono h.size)

set_option maxHeartbeats 4000000 in
set_option maxRecDepth 100000 in
theorem storn_any (a : Option Addr) (cap : Nat) (L : List (List UInt8)) (hl : L.length ≤ 4611686018427387904) (hcap : L.length ≤ cap) (hz : ∀ p ∈ L, p.length ≤ 4611686018427387904)
    (nm : ByteArray) (hn : nm.size ≤ 9223372036854775807) (t : Int) (h7 : -9223372036854775808 ≤ t) (h8 : t ≤ 9223372036854775807) (em : Bool) (w : World) (ha : Strs w a L) :
    Calls Try.prog 5 #[.slice a L.length cap, .string nm, .int .i64 t, .bool em] w fun e w' => e = .returned (.bool true) ∧ Below w.heap.size w w' := by
  have kg := fun w ha => s10great_any a cap L w (by omega) hz ha
  have ke := fun w ha => spencode_any a cap L w (by omega) ha hcap
  have kt := fun w => sptrailer_any nm w
  have HA := Lib.hid ha
  clear ha
  generalize hM : nm.data.toList = M at kt
  by_cases h1000 : 1000 < nm.size
  · have t1 : decide ((1000 : Int) < nm.size) = true := decide_eq_true (by omega)
    clear ke kt
    go_enter Try.func5, Try.ntmps5
    go_wp2_with (first | (go_at_call 15; refine (works10_any _).mono ?_; rintro e w1 ⟨rfl, b1⟩) | (go_at_call 7; refine (kg _ (strs_below HA.out b1)).mono ?_; rintro e w2 ⟨g, rfl, -, rfl⟩; cases g))
    all_goals go_ret
    all_goals exact ⟨rfl, b1⟩
  have t1 : decide ((1000 : Int) < nm.size) = false := decide_eq_false (by omega)
  obtain ⟨u, hu⟩ : ∃ u, IntKind.u64.wrap t = u := ⟨_, rfl⟩
  have hu0 : 0 ≤ u ∧ u ≤ 18446744073709551615 := by rw [← hu, IntKind.wrap_u64]; omega
  obtain ⟨hu0, hu1⟩ := hu0
  rcases enc_split L with ⟨s1, he⟩ | ⟨x, hx, he⟩
  · obtain ⟨E1, hE1⟩ : ∃ E : ByteArray, E = ba s1 := ⟨_, rfl⟩
    have hsz1 : 24 ≤ E1.size ∧ E1.size ≤ 600 := by rw [hE1, ba_size]; exact enc_len he
    rw [he] at ke
    simp only at ke
    rw [← hE1] at ke
    obtain ⟨hsa1, hsb1⟩ := hsz1
    obtain ⟨i1, hi1⟩ : ∃ i : Nat, u % (E1.size : Int) = (i : Int) := ⟨(u % (E1.size : Int)).toNat, by have := Int.emod_nonneg u (show (E1.size : Int) ≠ 0 by omega); omega⟩
    have hj1 : i1 < E1.size := by have := Int.emod_lt_of_pos u (show (0 : Int) < (E1.size : Int) by omega); omega
    have hw1a : IntKind.u64.wrap (E1.size : Int) = (E1.size : Int) := IntWalk.u64_in _ ⟨by omega, by omega⟩
    have hw1b : IntKind.i64.wrap (i1 : Int) = (i1 : Int) := IntWalk.i64_in _ ⟨by omega, by omega⟩
    obtain ⟨n1, hn1⟩ : ∃ n, n = E1.size - i1 := ⟨_, rfl⟩
    have hw1c : IntKind.i64.wrap ((E1.size : Int) - (i1 : Int)) = (n1 : Int) := by rw [show (E1.size : Int) - (i1 : Int) = (n1 : Int) by omega]; exact IntWalk.i64_in _ ⟨by omega, by omega⟩
    have hw1d : (E1.size : Int) - (i1 : Int) = (n1 : Int) := by omega
    have hw1e : IntKind.i64.wrap (n1 : Int) = (n1 : Int) := IntWalk.i64_in _ ⟨by omega, by omega⟩
    have hl1a : 0 < E1.size := by omega
    have hl1b : (i1 : Int) ≤ E1.size := by omega
    have hm1 := fun W => run_make_row' (P := Try.prog) 35 5 (.int .u8 0) 1 Try.underlying35 infoU8 rfl .i64 .i64 n1 (by omega) (by omega) W
    have q1a := fun (W : World) => szconv (W.alloc (.cells (madeCells #[.int .u8 0] n1) 5)) W.heap.size n1 (fun j hj => (World.rowIs_made W (.int .u8 0) n1 5).cell hj)
    have q1b := fun (W : World) => szconv (W.alloc (.cells (madeCells #[.int .u8 0] n1) 5)).drew W.heap.size n1 (fun j hj => (World.rowIs_made W (.int .u8 0) n1 5).cell hj)
    have HD1 := Lib.hid (dec_torn (l := s1.take i1) (n := n1) (by omega))
    obtain ⟨Z1, hZ1⟩ : ∃ Z : ByteArray, Z = ⟨(List.replicate n1 (0 : UInt8)).toArray⟩ := ⟨_, rfl⟩
    have HT1 := Lib.hid (show E1.extract 0 i1 ++ Z1 = ba (s1.take i1 ++ List.replicate n1 0) by rw [hE1, hZ1]; exact torn_list _ _ _)
    have HS1 := Lib.hid (show (s1.take i1 ++ List.replicate n1 0).length ≤ 4096 by rw [List.length_append, List.length_take, List.length_replicate]; have := ba_size s1; rw [← hE1] at this; omega)
    rw [← hZ1] at q1a q1b
    have hz1 : Z1.size ≤ 600 := by rw [hZ1]; simp [ByteArray.size]; omega
    have hms1 : min i1 E1.size + Z1.size ≤ 9223372036854775807 := by omega
    have hmt1 : ¬ 9223372036854775807 < min i1 E1.size + Z1.size := by omega
    generalize s1.take i1 ++ List.replicate n1 0 = g1 at HD1 HT1 HS1
    have k51 := fun w => decode_no HS1.out HD1.out w
    rw [← HT1.out] at k51
    have k50 := fun w => decode_no (s := []) (by decide) dec_empty w
    change ∀ w, Calls _ _ #[.string ⟨#[]⟩] w _ at k50
    clear hZ1 hE1 hn1
    clear he
    rcases tr_split M with ⟨s2, hs2⟩ | hs2
    · obtain ⟨E2, hE2⟩ : ∃ E : ByteArray, E = ba s2 := ⟨_, rfl⟩
      have hsz2 : 24 ≤ E2.size ∧ E2.size ≤ 600 := by rw [hE2, ba_size]; exact tr_len hs2
      rw [hs2] at kt
      simp only at kt
      rw [← hE2] at kt
      obtain ⟨hsa2, hsb2⟩ := hsz2
      obtain ⟨i2, hi2⟩ : ∃ i : Nat, u % (E2.size : Int) = (i : Int) := ⟨(u % (E2.size : Int)).toNat, by have := Int.emod_nonneg u (show (E2.size : Int) ≠ 0 by omega); omega⟩
      have hj2 : i2 < E2.size := by have := Int.emod_lt_of_pos u (show (0 : Int) < (E2.size : Int) by omega); omega
      have hw2a : IntKind.u64.wrap (E2.size : Int) = (E2.size : Int) := IntWalk.u64_in _ ⟨by omega, by omega⟩
      have hw2b : IntKind.i64.wrap (i2 : Int) = (i2 : Int) := IntWalk.i64_in _ ⟨by omega, by omega⟩
      obtain ⟨n2, hn2⟩ : ∃ n, n = E2.size - i2 := ⟨_, rfl⟩
      have hw2c : IntKind.i64.wrap ((E2.size : Int) - (i2 : Int)) = (n2 : Int) := by rw [show (E2.size : Int) - (i2 : Int) = (n2 : Int) by omega]; exact IntWalk.i64_in _ ⟨by omega, by omega⟩
      have hw2d : (E2.size : Int) - (i2 : Int) = (n2 : Int) := by omega
      have hw2e : IntKind.i64.wrap (n2 : Int) = (n2 : Int) := IntWalk.i64_in _ ⟨by omega, by omega⟩
      have hl2a : 0 < E2.size := by omega
      have hl2b : (i2 : Int) ≤ E2.size := by omega
      have hm2 := fun W => run_make_row' (P := Try.prog) 35 5 (.int .u8 0) 1 Try.underlying35 infoU8 rfl .i64 .i64 n2 (by omega) (by omega) W
      have q2a := fun (W : World) => szconv (W.alloc (.cells (madeCells #[.int .u8 0] n2) 5)) W.heap.size n2 (fun j hj => (World.rowIs_made W (.int .u8 0) n2 5).cell hj)
      have q2b := fun (W : World) => szconv (W.alloc (.cells (madeCells #[.int .u8 0] n2) 5)).drew W.heap.size n2 (fun j hj => (World.rowIs_made W (.int .u8 0) n2 5).cell hj)
      have HD2 := Lib.hid (named_torn (l := s2.take i2) (n := n2) (by omega))
      obtain ⟨Z2, hZ2⟩ : ∃ Z : ByteArray, Z = ⟨(List.replicate n2 (0 : UInt8)).toArray⟩ := ⟨_, rfl⟩
      have HT2 := Lib.hid (show E2.extract 0 i2 ++ Z2 = ba (s2.take i2 ++ List.replicate n2 0) by rw [hE2, hZ2]; exact torn_list _ _ _)
      have HS2 := Lib.hid (show (s2.take i2 ++ List.replicate n2 0).length ≤ 4096 by rw [List.length_append, List.length_take, List.length_replicate]; have := ba_size s2; rw [← hE2] at this; omega)
      rw [← hZ2] at q2a q2b
      have hz2 : Z2.size ≤ 600 := by rw [hZ2]; simp [ByteArray.size]; omega
      have hms2 : min i2 E2.size + Z2.size ≤ 9223372036854775807 := by omega
      have hmt2 : ¬ 9223372036854775807 < min i2 E2.size + Z2.size := by omega
      generalize s2.take i2 ++ List.replicate n2 0 = g2 at HD2 HT2 HS2
      have k52 := fun w => named_no HS2.out HD2.out w
      rw [← HT2.out] at k52
      have k60 := fun w => named_no (s := []) (by decide) named_empty w
      change ∀ w, Calls _ _ #[.string ⟨#[]⟩] w _ at k60
      clear hZ2 hE2 hn2
      clear hs2
      cases em
      · go_enter Try.func5, Try.ntmps5
        go_upto_region 9 with (first | (go_at_call 15; refine (works10_any _).mono ?_; rintro e w1 ⟨rfl, b1⟩) | (go_at_call 7; refine (kg _ (strs_below HA.out b1)).mono ?_; rintro e w2 ⟨g, rfl, -, rfl⟩; cases g) | (go_at_call 8; refine (ke _ (strs_below HA.out b1)).mono ?_; rintro e w3 ⟨rfl, b3⟩; have c3 := b1.trans (b3.mono b1.size)) | (go_at_call 10; refine (kt _).mono ?_; rintro e w4 ⟨rfl, b4⟩; have c4 := c3.trans (b4.mono c3.size)))
        all_goals try (go_ret; exact ⟨rfl, b1⟩)
        go_region_with (fail)
        all_goals clear hm1 q1a q1b
        go_upto_region 18 with (go_at_call 12; (with_reducible refine (k51 _).mono ?_); rintro e w6 ⟨a6, p6, rfl, b6⟩; have c6 : Below w.heap.size w w6 := (by first | exact tr3 ((c4.drew.alloc c4.size _).drew) b6 | exact tr3 (c4.drew.alloc c4.size _) b6 | exact tr3 ((c4.alloc c4.size _).drew) b6 | exact tr3 (c4.alloc c4.size _) b6))
        all_goals clear b6 k51 k50
        go_region_with (fail)
        go_wp2_with (go_at_call 13; (with_reducible refine (k52 _).mono ?_); rintro e w8 ⟨rfl, b8⟩; have c8 : Below w.heap.size w w8 := (by first | exact tr3 ((c6.drew.alloc c6.size _).drew) b8 | exact tr3 (c6.drew.alloc c6.size _) b8 | exact tr3 ((c6.alloc c6.size _).drew) b8 | exact tr3 (c6.alloc c6.size _) b8))
        all_goals go_ret
        all_goals exact ⟨rfl, c8⟩
      · go_enter Try.func5, Try.ntmps5
        go_upto_region 9 with (first | (go_at_call 15; refine (works10_any _).mono ?_; rintro e w1 ⟨rfl, b1⟩) | (go_at_call 7; refine (kg _ (strs_below HA.out b1)).mono ?_; rintro e w2 ⟨g, rfl, -, rfl⟩; cases g) | (go_at_call 8; refine (ke _ (strs_below HA.out b1)).mono ?_; rintro e w3 ⟨rfl, b3⟩; have c3 := b1.trans (b3.mono b1.size)) | (go_at_call 10; refine (kt _).mono ?_; rintro e w4 ⟨rfl, b4⟩; have c4 := c3.trans (b4.mono c3.size)))
        all_goals try (go_ret; exact ⟨rfl, b1⟩)
        go_region_with (fail)
        all_goals clear hm1 q1a q1b
        go_upto_region 18 with (go_at_call 12; (with_reducible refine (k50 _).mono ?_); rintro e w6 ⟨a6, p6, rfl, b6⟩; have c6 : Below w.heap.size w w6 := (by first | exact tr3 ((c4.drew.alloc c4.size _).drew) b6 | exact tr3 (c4.drew.alloc c4.size _) b6 | exact tr3 ((c4.alloc c4.size _).drew) b6 | exact tr3 (c4.alloc c4.size _) b6))
        all_goals clear b6 k51 k50
        go_region_with (fail)
        go_wp2_with (go_at_call 13; (with_reducible refine (k60 _).mono ?_); rintro e w8 ⟨rfl, b8⟩; have c8 : Below w.heap.size w w8 := (by first | exact tr3 ((c6.drew.alloc c6.size _).drew) b8 | exact tr3 (c6.drew.alloc c6.size _) b8 | exact tr3 ((c6.alloc c6.size _).drew) b8 | exact tr3 (c6.alloc c6.size _) b8))
        all_goals go_ret
        all_goals exact ⟨rfl, c8⟩
    · rw [hs2] at kt
      simp only at kt
      clear hs2
      cases em
      · go_enter Try.func5, Try.ntmps5
        go_upto_region 9 with (first | (go_at_call 15; refine (works10_any _).mono ?_; rintro e w1 ⟨rfl, b1⟩) | (go_at_call 7; refine (kg _ (strs_below HA.out b1)).mono ?_; rintro e w2 ⟨g, rfl, -, rfl⟩; cases g) | (go_at_call 8; refine (ke _ (strs_below HA.out b1)).mono ?_; rintro e w3 ⟨rfl, b3⟩; have c3 := b1.trans (b3.mono b1.size)) | (go_at_call 10; refine (kt _).mono ?_; rintro e w4 ⟨rfl, b4⟩; have c4 := c3.trans (b4.mono c3.size)))
        all_goals try (go_ret; exact ⟨rfl, b1⟩)
        go_region_with (fail)
        go_wp2_with (go_at_call 12; (with_reducible refine (k51 _).mono ?_); rintro e w6 ⟨a6, p6, rfl, b6⟩; have c6 : Below w.heap.size w w6 := (by first | exact tr3 ((c4.drew.alloc c4.size _).drew) b6 | exact tr3 (c4.drew.alloc c4.size _) b6 | exact tr3 ((c4.alloc c4.size _).drew) b6 | exact tr3 (c4.alloc c4.size _) b6))
        all_goals go_ret
        all_goals exact ⟨rfl, c6⟩
      · go_enter Try.func5, Try.ntmps5
        go_upto_region 9 with (first | (go_at_call 15; refine (works10_any _).mono ?_; rintro e w1 ⟨rfl, b1⟩) | (go_at_call 7; refine (kg _ (strs_below HA.out b1)).mono ?_; rintro e w2 ⟨g, rfl, -, rfl⟩; cases g) | (go_at_call 8; refine (ke _ (strs_below HA.out b1)).mono ?_; rintro e w3 ⟨rfl, b3⟩; have c3 := b1.trans (b3.mono b1.size)) | (go_at_call 10; refine (kt _).mono ?_; rintro e w4 ⟨rfl, b4⟩; have c4 := c3.trans (b4.mono c3.size)))
        all_goals try (go_ret; exact ⟨rfl, b1⟩)
        go_region_with (fail)
        go_wp2_with (go_at_call 12; (with_reducible refine (k50 _).mono ?_); rintro e w6 ⟨a6, p6, rfl, b6⟩; have c6 : Below w.heap.size w w6 := (by first | exact tr3 ((c4.drew.alloc c4.size _).drew) b6 | exact tr3 (c4.drew.alloc c4.size _) b6 | exact tr3 ((c4.alloc c4.size _).drew) b6 | exact tr3 (c4.alloc c4.size _) b6))
        all_goals go_ret
        all_goals exact ⟨rfl, c6⟩
  · rw [he] at ke
    simp only at ke
    have t3 : (x == 0) = false := beq_eq_false_iff_ne.2 hx
    clear he
    rcases tr_split M with ⟨s2, hs2⟩ | hs2
    · obtain ⟨E2, hE2⟩ : ∃ E : ByteArray, E = ba s2 := ⟨_, rfl⟩
      have hsz2 : 24 ≤ E2.size ∧ E2.size ≤ 600 := by rw [hE2, ba_size]; exact tr_len hs2
      rw [hs2] at kt
      simp only at kt
      rw [← hE2] at kt
      obtain ⟨hsa2, hsb2⟩ := hsz2
      obtain ⟨i2, hi2⟩ : ∃ i : Nat, u % (E2.size : Int) = (i : Int) := ⟨(u % (E2.size : Int)).toNat, by have := Int.emod_nonneg u (show (E2.size : Int) ≠ 0 by omega); omega⟩
      have hj2 : i2 < E2.size := by have := Int.emod_lt_of_pos u (show (0 : Int) < (E2.size : Int) by omega); omega
      have hw2a : IntKind.u64.wrap (E2.size : Int) = (E2.size : Int) := IntWalk.u64_in _ ⟨by omega, by omega⟩
      have hw2b : IntKind.i64.wrap (i2 : Int) = (i2 : Int) := IntWalk.i64_in _ ⟨by omega, by omega⟩
      obtain ⟨n2, hn2⟩ : ∃ n, n = E2.size - i2 := ⟨_, rfl⟩
      have hw2c : IntKind.i64.wrap ((E2.size : Int) - (i2 : Int)) = (n2 : Int) := by rw [show (E2.size : Int) - (i2 : Int) = (n2 : Int) by omega]; exact IntWalk.i64_in _ ⟨by omega, by omega⟩
      have hw2d : (E2.size : Int) - (i2 : Int) = (n2 : Int) := by omega
      have hw2e : IntKind.i64.wrap (n2 : Int) = (n2 : Int) := IntWalk.i64_in _ ⟨by omega, by omega⟩
      have hl2a : 0 < E2.size := by omega
      have hl2b : (i2 : Int) ≤ E2.size := by omega
      have hm2 := fun W => run_make_row' (P := Try.prog) 35 5 (.int .u8 0) 1 Try.underlying35 infoU8 rfl .i64 .i64 n2 (by omega) (by omega) W
      have q2a := fun (W : World) => szconv (W.alloc (.cells (madeCells #[.int .u8 0] n2) 5)) W.heap.size n2 (fun j hj => (World.rowIs_made W (.int .u8 0) n2 5).cell hj)
      have q2b := fun (W : World) => szconv (W.alloc (.cells (madeCells #[.int .u8 0] n2) 5)).drew W.heap.size n2 (fun j hj => (World.rowIs_made W (.int .u8 0) n2 5).cell hj)
      have HD2 := Lib.hid (named_torn (l := s2.take i2) (n := n2) (by omega))
      obtain ⟨Z2, hZ2⟩ : ∃ Z : ByteArray, Z = ⟨(List.replicate n2 (0 : UInt8)).toArray⟩ := ⟨_, rfl⟩
      have HT2 := Lib.hid (show E2.extract 0 i2 ++ Z2 = ba (s2.take i2 ++ List.replicate n2 0) by rw [hE2, hZ2]; exact torn_list _ _ _)
      have HS2 := Lib.hid (show (s2.take i2 ++ List.replicate n2 0).length ≤ 4096 by rw [List.length_append, List.length_take, List.length_replicate]; have := ba_size s2; rw [← hE2] at this; omega)
      rw [← hZ2] at q2a q2b
      have hz2 : Z2.size ≤ 600 := by rw [hZ2]; simp [ByteArray.size]; omega
      have hms2 : min i2 E2.size + Z2.size ≤ 9223372036854775807 := by omega
      have hmt2 : ¬ 9223372036854775807 < min i2 E2.size + Z2.size := by omega
      generalize s2.take i2 ++ List.replicate n2 0 = g2 at HD2 HT2 HS2
      have k52 := fun w => named_no HS2.out HD2.out w
      rw [← HT2.out] at k52
      have k60 := fun w => named_no (s := []) (by decide) named_empty w
      change ∀ w, Calls _ _ #[.string ⟨#[]⟩] w _ at k60
      clear hZ2 hE2 hn2
      clear hs2
      cases em
      · go_enter Try.func5, Try.ntmps5
        go_upto_region 18 with (first | (go_at_call 15; refine (works10_any _).mono ?_; rintro e w1 ⟨rfl, b1⟩) | (go_at_call 7; refine (kg _ (strs_below HA.out b1)).mono ?_; rintro e w2 ⟨g, rfl, -, rfl⟩; cases g) | (go_at_call 8; refine (ke _ (strs_below HA.out b1)).mono ?_; rintro e w3 ⟨rfl, b3⟩; have c3 := b1.trans (b3.mono b1.size)) | (go_at_call 10; refine (kt _).mono ?_; rintro e w4 ⟨rfl, b4⟩; have c4 := c3.trans (b4.mono c3.size)))
        all_goals try (go_ret; exact ⟨rfl, b1⟩)
        go_region_with (fail)
        go_wp2_with (go_at_call 13; (with_reducible refine (k52 _).mono ?_); rintro e w8 ⟨rfl, b8⟩; have c8 : Below w.heap.size w w8 := (by first | exact tr3 ((c4.drew.alloc c4.size _).drew) b8 | exact tr3 (c4.drew.alloc c4.size _) b8 | exact tr3 ((c4.alloc c4.size _).drew) b8 | exact tr3 (c4.alloc c4.size _) b8))
        all_goals go_ret
        all_goals exact ⟨rfl, c8⟩
      · go_enter Try.func5, Try.ntmps5
        go_upto_region 18 with (first | (go_at_call 15; refine (works10_any _).mono ?_; rintro e w1 ⟨rfl, b1⟩) | (go_at_call 7; refine (kg _ (strs_below HA.out b1)).mono ?_; rintro e w2 ⟨g, rfl, -, rfl⟩; cases g) | (go_at_call 8; refine (ke _ (strs_below HA.out b1)).mono ?_; rintro e w3 ⟨rfl, b3⟩; have c3 := b1.trans (b3.mono b1.size)) | (go_at_call 10; refine (kt _).mono ?_; rintro e w4 ⟨rfl, b4⟩; have c4 := c3.trans (b4.mono c3.size)))
        all_goals try (go_ret; exact ⟨rfl, b1⟩)
        go_region_with (fail)
        go_wp2_with (go_at_call 13; (with_reducible refine (k60 _).mono ?_); rintro e w8 ⟨rfl, b8⟩; have c8 : Below w.heap.size w w8 := (by first | exact tr3 ((c4.drew.alloc c4.size _).drew) b8 | exact tr3 (c4.drew.alloc c4.size _) b8 | exact tr3 ((c4.alloc c4.size _).drew) b8 | exact tr3 (c4.alloc c4.size _) b8))
        all_goals go_ret
        all_goals exact ⟨rfl, c8⟩
    · rw [hs2] at kt
      simp only at kt
      clear hs2
      go_enter Try.func5, Try.ntmps5
      go_wp2_with (first | (go_at_call 15; refine (works10_any _).mono ?_; rintro e w1 ⟨rfl, b1⟩) | (go_at_call 7; refine (kg _ (strs_below HA.out b1)).mono ?_; rintro e w2 ⟨g, rfl, -, rfl⟩; cases g) | (go_at_call 8; refine (ke _ (strs_below HA.out b1)).mono ?_; rintro e w3 ⟨rfl, b3⟩; have c3 := b1.trans (b3.mono b1.size)) | (go_at_call 10; refine (kt _).mono ?_; rintro e w4 ⟨rfl, b4⟩; have c4 := c3.trans (b4.mono c3.size)))
      all_goals go_ret
      all_goals first | exact ⟨rfl, c4⟩ | exact ⟨rfl, b1⟩
end Go.Proofs.Ytcfojplmmpeefaa
