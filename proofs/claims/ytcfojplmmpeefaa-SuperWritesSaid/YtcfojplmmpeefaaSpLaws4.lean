/-
  Layer 10, the walk of SuperWrites: it returns true for every input and changes nothing that was there.
-/
import Derived.Test.YtcfojplmmpeefaaSpLaws3
import Derived.Test.YtcfojplmmpeefaaSpApp
namespace Go.Proofs.Ytcfojplmmpeefaa
open Go.RowKit

theorem nm_back (nm : ByteArray) : ba nm.data.toList = nm := rfl
set_option maxHeartbeats 4000000 in
set_option maxRecDepth 100000 in
theorem swrites_any (a : Option Addr) (cap : Nat) (L : List (List UInt8)) (hl : L.length ≤ 4611686018427387904) (hz : ∀ p ∈ L, p.length ≤ 4611686018427387904)
    (nm : ByteArray) (hn : nm.size ≤ 9223372036854775807) (w : World) (ha : Strs w a L) :
    Calls Try.prog 3 #[.slice a L.length cap, .string nm] w fun e w' => e = .returned (.bool true) ∧ Below w.heap.size w w' := by
  have kg := fun w ha => s10great_any a cap L w (by omega) hz ha
  have HA := Lib.hid ha
  clear ha
  by_cases h1000 : 1000 < nm.size
  · have t1 : decide ((1000 : Int) < nm.size) = true := decide_eq_true (by omega)
    go_enter Try.func3, Try.ntmps3
    go_wp2_with (go_at_call 7; refine (kg _ HA.out).mono ?_; rintro e w2 ⟨g, rfl, -, rfl⟩; cases g)
    all_goals go_ret
    all_goals exact ⟨rfl, Below.refl _ _⟩
  have t1 : decide ((1000 : Int) < nm.size) = false := decide_eq_false (by omega)
  have ke := fun w a cap ha hcap => spencode_any a cap L w (by omega) ha hcap
  have ke2 := fun w ha => r10encode_any a cap L w (by omega) ha
  have kt := fun w => sptrailer_any nm w
  have kt2 := fun w => r10trailer_any nm w
  have ks := fun w a a2 cap cap2 ha hb => s10same_any a a2 cap cap2 L L w (by omega) (by omega) ha hb
  rw [decide_eq_true rfl] at ks
  generalize hM : nm.data.toList = M at kt kt2
  have HAP := Lib.hid (fun (hg : L.length ≤ 21) => app_strs w 22 a cap L hg HA.out)
  have q0 : ∀ p : List UInt8, ((ba p).toList == (ba p).toList) = true := fun p => by rw [ba_eqb]; exact decide_eq_true rfl
  rcases enc_split L with ⟨s1, he⟩ | ⟨x, hx, he⟩
  · have k1 : ∀ w, Calls Try.prog 12 #[.string (ba s1)] w fun e w' => ∃ a cap, e = .returned (.tuple #[.slice a L.length cap, .int .i64 0]) ∧ Strs w' a L ∧ Below w.heap.size w w' := fun w => by
      have := spdecode_any (ba s1) (by rw [ba_size]; have := enc_len he; omega) w
      rw [ba_list, dec_enc he] at this
      exact this
    rw [he] at ke ke2
    simp only at ke ke2
    generalize ba s1 = E1 at ke ke2 k1
    rcases tr_split M with ⟨s2, hs2⟩ | hs2
    · have k2 : ∀ w, Calls Try.prog 13 #[.string (ba s2)] w fun e w' => e = .returned (.tuple #[.string nm, .int .i64 0]) ∧ Below w.heap.size w w' := fun w => by
        have := spnamed_any (ba s2) (by rw [ba_size]; have := tr_len hs2; omega) w
        rw [ba_list, named_tr hs2, ← hM, nm_back] at this
        exact this
      rw [hs2] at kt kt2
      simp only at kt kt2
      generalize ba s2 = E2 at kt kt2 k2
      clear hs2 he hM q0
      go_enter Try.func3, Try.ntmps3
      go_wp2_with (first
        | (go_at_call 7; refine (kg _ HA.out).mono ?_; rintro e w2 ⟨g, rfl, hg, rfl⟩; cases g; all_goals (try have hG := Lib.hid (hg rfl)); all_goals clear hg)
        | (at_builtin; obtain ⟨v', w1, a', cap', hr, rfl, hc', hst', hb'⟩ := HAP.out hG.out.1; refine wpList_append_is _ rfl _ _ 22 rfl _ _ _ _ rfl rfl hr ?_; clear hr)
        | (go_at_call 8; refine (ke _ _ _ hst' hc').mono ?_; rintro e w3 ⟨rfl, b3⟩; have c3 := hb'.trans (b3.mono hb'.size))
        | (go_at_call 9; refine (ke2 _ (strs_below HA.out c3)).mono ?_; rintro e w4 ⟨rfl, b4⟩; have c4 := c3.trans (b4.mono c3.size))
        | (go_at_call 10; refine (kt _).mono ?_; rintro e w5 ⟨rfl, b5⟩; have c5 := c4.trans (b5.mono c4.size))
        | (go_at_call 11; refine (kt2 _).mono ?_; rintro e w6 ⟨rfl, b6⟩; have c6 := c5.trans (b6.mono c5.size))
        | (go_at_call 12; refine (k1 _).mono ?_; rintro e w7 ⟨a7, p7, rfl, st7, b7⟩; have c7 := c6.trans (b7.mono c6.size))
        | (go_at_call 13; refine (k2 _).mono ?_; rintro e w8 ⟨rfl, b8⟩; have c8 := c7.trans (b8.mono c7.size))
        | (go_at_call 14; refine (ks _ _ _ _ _ (strs_below st7 b8) (strs_below HA.out c8)).mono ?_; rintro e w9 ⟨rfl, b9⟩; have c9 := c8.trans (b9.mono c8.size))
        | (go_at_call 15; refine (works10_any _).mono ?_; rintro e w10 ⟨rfl, b10⟩; have c10 : Below w.heap.size w w10 := (by first | exact c9.trans (b10.mono c9.size) | exact c8.trans (b10.mono c8.size))))
      all_goals go_ret
      all_goals first | exact ⟨rfl, c10⟩ | exact ⟨rfl, Below.refl _ _⟩
    · have k2 := fun w => named_no (s := []) (by decide) named_empty w
      rw [hs2] at kt kt2
      simp only at kt kt2
      generalize hb0 : ba [] = E2 at kt kt2 k2
      clear hs2 he hM q0
      go_enter Try.func3, Try.ntmps3
      go_wp2_with (first
        | (go_at_call 7; refine (kg _ HA.out).mono ?_; rintro e w2 ⟨g, rfl, hg, rfl⟩; cases g; all_goals (try have hG := Lib.hid (hg rfl)); all_goals clear hg)
        | (at_builtin; obtain ⟨v', w1, a', cap', hr, rfl, hc', hst', hb'⟩ := HAP.out hG.out.1; refine wpList_append_is _ rfl _ _ 22 rfl _ _ _ _ rfl rfl hr ?_; clear hr)
        | (go_at_call 8; refine (ke _ _ _ hst' hc').mono ?_; rintro e w3 ⟨rfl, b3⟩; have c3 := hb'.trans (b3.mono hb'.size))
        | (go_at_call 9; refine (ke2 _ (strs_below HA.out c3)).mono ?_; rintro e w4 ⟨rfl, b4⟩; have c4 := c3.trans (b4.mono c3.size))
        | (go_at_call 10; refine (kt _).mono ?_; rintro e w5 ⟨rfl, b5⟩; have c5 := c4.trans (b5.mono c4.size))
        | (go_at_call 11; refine (kt2 _).mono ?_; rintro e w6 ⟨rfl, b6⟩; have c6 := c5.trans (b6.mono c5.size))
        | (go_at_call 12; refine (k1 _).mono ?_; rintro e w7 ⟨a7, p7, rfl, st7, b7⟩; have c7 := c6.trans (b7.mono c6.size))
        | (go_at_call 13; refine (k2 _).mono ?_; rintro e w8 ⟨rfl, b8⟩; have c8 := c7.trans (b8.mono c7.size))
        | (go_at_call 14; refine (ks _ _ _ _ _ (strs_below st7 b8) (strs_below HA.out c8)).mono ?_; rintro e w9 ⟨rfl, b9⟩; have c9 := c8.trans (b9.mono c8.size))
        | (go_at_call 15; refine (works10_any _).mono ?_; rintro e w10 ⟨rfl, b10⟩; have c10 : Below w.heap.size w w10 := (by first | exact c9.trans (b10.mono c9.size) | exact c8.trans (b10.mono c8.size))))
      all_goals go_ret
      all_goals first | exact ⟨rfl, c10⟩ | exact ⟨rfl, Below.refl _ _⟩
  · have k1 : ∀ w, Calls Try.prog 12 #[.string (ba [])] w fun e w' => ∃ a cap, e = .returned (.tuple #[.slice a 0 cap, .int .i64 4]) ∧ True ∧ Below w.heap.size w w' :=
      fun w => (decode_no (s := []) (by decide) dec_empty w).mono fun e w' ⟨a, c, h, hb⟩ => ⟨a, c, h, trivial, hb⟩
    have t3 : (x == 0) = false := beq_eq_false_iff_ne.2 hx
    have t4 : (x != 0) = true := by simpa using hx
    rw [he] at ke ke2
    simp only at ke ke2
    generalize hb1 : ba [] = E1 at ke ke2 k1
    rcases tr_split M with ⟨s2, hs2⟩ | hs2
    · have k2 : ∀ w, Calls Try.prog 13 #[.string (ba s2)] w fun e w' => e = .returned (.tuple #[.string nm, .int .i64 0]) ∧ Below w.heap.size w w' := fun w => by
        have := spnamed_any (ba s2) (by rw [ba_size]; have := tr_len hs2; omega) w
        rw [ba_list, named_tr hs2, ← hM, nm_back] at this
        exact this
      rw [hs2] at kt kt2
      simp only at kt kt2
      generalize ba s2 = E2 at kt kt2 k2
      clear hs2 he hM q0
      go_enter Try.func3, Try.ntmps3
      go_wp2_with (first
        | (go_at_call 7; refine (kg _ HA.out).mono ?_; rintro e w2 ⟨g, rfl, hg, rfl⟩; cases g; all_goals (try have hG := Lib.hid (hg rfl)); all_goals clear hg)
        | (at_builtin; obtain ⟨v', w1, a', cap', hr, rfl, hc', hst', hb'⟩ := HAP.out hG.out.1; refine wpList_append_is _ rfl _ _ 22 rfl _ _ _ _ rfl rfl hr ?_; clear hr)
        | (go_at_call 8; refine (ke _ _ _ hst' hc').mono ?_; rintro e w3 ⟨rfl, b3⟩; have c3 := hb'.trans (b3.mono hb'.size))
        | (go_at_call 9; refine (ke2 _ (strs_below HA.out c3)).mono ?_; rintro e w4 ⟨rfl, b4⟩; have c4 := c3.trans (b4.mono c3.size))
        | (go_at_call 10; refine (kt _).mono ?_; rintro e w5 ⟨rfl, b5⟩; have c5 := c4.trans (b5.mono c4.size))
        | (go_at_call 11; refine (kt2 _).mono ?_; rintro e w6 ⟨rfl, b6⟩; have c6 := c5.trans (b6.mono c5.size))
        | (go_at_call 12; refine (k1 _).mono ?_; rintro e w7 ⟨a7, p7, rfl, st7, b7⟩; have c7 := c6.trans (b7.mono c6.size))
        | (go_at_call 13; refine (k2 _).mono ?_; rintro e w8 ⟨rfl, b8⟩; have c8 := c7.trans (b8.mono c7.size))
        | (go_at_call 14; refine (ks _ _ _ _ _ (strs_below st7 b8) (strs_below HA.out c8)).mono ?_; rintro e w9 ⟨rfl, b9⟩; have c9 := c8.trans (b9.mono c8.size))
        | (go_at_call 15; refine (works10_any _).mono ?_; rintro e w10 ⟨rfl, b10⟩; have c10 : Below w.heap.size w w10 := (by first | exact c9.trans (b10.mono c9.size) | exact c8.trans (b10.mono c8.size))))
      all_goals go_ret
      all_goals first | exact ⟨rfl, c10⟩ | exact ⟨rfl, Below.refl _ _⟩
    · have k2 := fun w => named_no (s := []) (by decide) named_empty w
      rw [hs2] at kt kt2
      simp only at kt kt2
      rw [hb1] at kt kt2 k2
      clear hs2 he hM q0
      go_enter Try.func3, Try.ntmps3
      go_wp2_with (first
        | (go_at_call 7; refine (kg _ HA.out).mono ?_; rintro e w2 ⟨g, rfl, hg, rfl⟩; cases g; all_goals (try have hG := Lib.hid (hg rfl)); all_goals clear hg)
        | (at_builtin; obtain ⟨v', w1, a', cap', hr, rfl, hc', hst', hb'⟩ := HAP.out hG.out.1; refine wpList_append_is _ rfl _ _ 22 rfl _ _ _ _ rfl rfl hr ?_; clear hr)
        | (go_at_call 8; refine (ke _ _ _ hst' hc').mono ?_; rintro e w3 ⟨rfl, b3⟩; have c3 := hb'.trans (b3.mono hb'.size))
        | (go_at_call 9; refine (ke2 _ (strs_below HA.out c3)).mono ?_; rintro e w4 ⟨rfl, b4⟩; have c4 := c3.trans (b4.mono c3.size))
        | (go_at_call 10; refine (kt _).mono ?_; rintro e w5 ⟨rfl, b5⟩; have c5 := c4.trans (b5.mono c4.size))
        | (go_at_call 11; refine (kt2 _).mono ?_; rintro e w6 ⟨rfl, b6⟩; have c6 := c5.trans (b6.mono c5.size))
        | (go_at_call 12; refine (k1 _).mono ?_; rintro e w7 ⟨a7, p7, rfl, st7, b7⟩; have c7 := c6.trans (b7.mono c6.size))
        | (go_at_call 13; refine (k2 _).mono ?_; rintro e w8 ⟨rfl, b8⟩; have c8 := c7.trans (b8.mono c7.size))
        | (go_at_call 14; refine (ks _ _ _ _ _ (strs_below st7 b8) (strs_below HA.out c8)).mono ?_; rintro e w9 ⟨rfl, b9⟩; have c9 := c8.trans (b9.mono c8.size))
        | (go_at_call 15; refine (works10_any _).mono ?_; rintro e w10 ⟨rfl, b10⟩; have c10 : Below w.heap.size w w10 := (by first | exact c9.trans (b10.mono c9.size) | exact c8.trans (b10.mono c8.size))))
      all_goals go_ret
      all_goals first | exact ⟨rfl, c10⟩ | exact ⟨rfl, Below.refl _ _⟩
end Go.Proofs.Ytcfojplmmpeefaa
