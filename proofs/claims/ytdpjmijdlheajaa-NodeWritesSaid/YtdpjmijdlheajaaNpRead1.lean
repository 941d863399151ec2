/-
  Layer 16, the program's reader (annexe/node): count, page, size: what each reads, and what it leaves; each changes the reader alone. Condition: at most 100000 bytes.
-/
import Derived.Test.YtdpjmijdlheajaaNpDecM
namespace Go.Proofs.Ytdpjmijdlheajaa
open Go.RowKit

theorem nvnumber_any (l : List UInt8) (hl : l.length ≤ 100000) (w : World) :
    Calls Try.prog 66 #[.string (nb l)] w fun e w' => e = .returned (.tuple #[.int .i64 (numR l).1, .int .i64 (numR l).2]) ∧ w' = w :=
  (vnumber_any (nb l) (by rw [nb_size]; omega) w).mono fun _ _ h => ⟨h.1, h.2.symm⟩
set_option maxRecDepth 100000 in
set_option maxHeartbeats 2000000 in
theorem count_r (b : Nat) (l : List UInt8) (w : World) (hl : l.length ≤ 100000) (h : R16 w b l) :
    Calls Try.prog 49 #[.pointer (some ⟨b, 0, none⟩)] w fun e w' => e = .returned (.int .i64 (cntN l : Int)) ∧ R16 w' b (l.drop 2) ∧ w.grownBy w' (some b) := by
  have kt := take_r b l 2 w hl (by omega) h
  rw [show ((2 : Nat) : Int) = 2 from rfl] at kt
  have kn := fun W => nvnumber_any (0 :: 0 :: l.take 2) (by simp only [List.length_cons, List.length_take]; omega) W
  have hz : (cntN l : Int) = (numR (0 :: 0 :: l.take 2)).1 := by unfold cntN; have := num_pos (0 :: 0 :: l.take 2); omega
  have ha : (⟨#[0, 0]⟩ : ByteArray) ++ nb (l.take 2) = nb (0 :: 0 :: l.take 2) := by
    rw [show (⟨#[0, 0]⟩ : ByteArray) = nb [0, 0] from rfl, nb_app]; rfl
  obtain ⟨T, hT⟩ : ∃ T, T = nb (l.take 2) := ⟨_, rfl⟩
  obtain ⟨U, hU⟩ : ∃ U, U = nb (0 :: 0 :: l.take 2) := ⟨_, rfl⟩
  rw [← hT] at kt ha
  rw [← hU] at kn ha
  have hts : T.size ≤ 2 := by rw [hT, nb_size, List.length_take]; omega
  rw [hz]
  obtain ⟨r, hr⟩ : ∃ r, r = numR (0 :: 0 :: l.take 2) := ⟨_, rfl⟩
  rw [← hr] at kn ⊢
  obtain ⟨r1, r2⟩ := r
  simp only at kn ⊢
  clear hr hz hT hU h
  go_enter Try.func49, Try.ntmps49
  go_wp2_with (first
    | (go_at_call 48; (with_reducible refine kt.mono ?_); rintro e w2 ⟨rfl, hr2, hg2⟩; have HR2 := Lib.hid hr2; have HG2 := Lib.hid hg2; clear hr2 hg2)
    | (go_at_call 66; (try rw [ha]); (with_reducible refine (kn _).mono ?_); rintro e w3 ⟨rfl, hw3⟩; obtain rfl := hw3.symm))
  go_ret
  exact ⟨rfl, HR2.out, HG2.out⟩
set_option maxRecDepth 100000 in
set_option maxHeartbeats 2000000 in
theorem page_r (b : Nat) (l : List UInt8) (w : World) (hl : l.length ≤ 100000) (h : R16 w b l) :
    Calls Try.prog 67 #[.pointer (some ⟨b, 0, none⟩)] w fun e w' => e = .returned (.int .i64 (pgN l)) ∧ R16 w' b (l.drop 4) ∧ w.grownBy w' (some b) := by
  have kt := take_r b l 4 w hl (by omega) h
  rw [show ((4 : Nat) : Int) = 4 from rfl] at kt
  have kn := fun W => nvnumber_any (l.take 4) (by simp only [List.length_take]; omega) W
  unfold pgN
  obtain ⟨T, hT⟩ : ∃ T, T = nb (l.take 4) := ⟨_, rfl⟩
  rw [← hT] at kt kn
  obtain ⟨r, hr⟩ : ∃ r, r = numR (l.take 4) := ⟨_, rfl⟩
  rw [← hr] at kn ⊢
  obtain ⟨r1, r2⟩ := r
  simp only at kn ⊢
  clear hr hT h
  go_enter Try.func67, Try.ntmps67
  go_wp2_with (first
    | (go_at_call 48; (with_reducible refine kt.mono ?_); rintro e w2 ⟨rfl, hr2, hg2⟩; have HR2 := Lib.hid hr2; have HG2 := Lib.hid hg2; clear hr2 hg2)
    | (go_at_call 66; (with_reducible refine (kn _).mono ?_); rintro e w3 ⟨rfl, hw3⟩; obtain rfl := hw3.symm))
  go_ret
  exact ⟨rfl, HR2.out, HG2.out⟩
theorem nvget_any (l : List UInt8) (hl : l.length ≤ 100000) (w : World) :
    Calls Try.prog 75 #[.string (nb l)] w fun e w' => e = .returned (.tuple #[.int .u64 (getR l).1, .int .i64 (getR l).2.1, .int .i64 (getR l).2.2]) ∧ w' = w :=
  (vget_any (nb l) (by rw [nb_size]; omega) w).mono fun _ _ h => ⟨h.1, h.2.symm⟩
set_option maxRecDepth 100000 in
set_option maxHeartbeats 2000000 in
theorem size_r (b : Nat) (l : List UInt8) (w : World) (hl : l.length ≤ 100000) (h : R16 w b l) :
    Calls Try.prog 74 #[.pointer (some ⟨b, 0, none⟩)] w fun e w' => e = .returned (.int .i64 ((szN l).1 : Int)) ∧ R16 w' b (szN l).2 ∧ w.grownBy w' (some b) := by
  have HRD := Lib.hid h
  obtain ⟨c0, f0, hlt⟩ := r16_cell h
  have hs := nb_size l
  have kg := fun W => nvget_any l hl W
  obtain ⟨Z, hZ⟩ : ∃ Z, Z = szN l := ⟨_, rfl⟩
  rw [← hZ]
  unfold szN at hZ
  have hf := fun h0 => nget_form (l := l) h0
  have he := nb_ext l (getR l).2.1 (nb l).size
  rw [show (l.drop (getR l).2.1).take ((nb l).size - (getR l).2.1) = l.drop (getR l).2.1 from List.take_of_length_le (by rw [List.length_drop, hs]; omega)] at he
  obtain ⟨g, hg⟩ : ∃ g, g = getR l := ⟨_, rfl⟩
  rw [← hg] at kg hZ hf he
  obtain ⟨n, k, er⟩ := g
  simp only at kg hZ hf he
  obtain ⟨S, hS⟩ : ∃ S, S = nb l := ⟨_, rfl⟩
  rw [← hS] at c0 kg he hs
  by_cases h0 : er = 0
  · subst h0
    obtain ⟨f1, f2, f3⟩ := hf rfl
    by_cases h1 : n ≤ 268435456
    · rw [if_pos ⟨rfl, h1⟩] at hZ
      subst hZ
      have h1' : ¬ (268435456 : Int) < n := by omega
      have q1 : k ≤ S.size := by omega
      have q2 : (k : Int) ≤ S.size := by omega
      have wn : IntKind.i64.wrap (n : Int) = n := IntWalk.i64_in _ ⟨by omega, by omega⟩
      have HE := Lib.hid he
      clear hg h hf hs he f3 hl hS
      go_enter Try.func74, Try.ntmps74
      go_wp2_with (go_at_call 75; (with_reducible refine (kg _).mono ?_); rintro e w3 ⟨rfl, hw3⟩; obtain rfl := hw3.symm)
      go_ret
      refine ⟨rfl, ?_, ?_⟩
      · have := r16_set HRD.out (l.drop k)
        rw [← HE.out] at this
        exact this
      · exact Lib.grownBy_setB (.refl _ _) 0 _
    · rw [if_neg (fun h => h1 h.2)] at hZ
      subst hZ
      have h1' : (268435456 : Int) < n := by omega
      clear hg h hf hs he f3 hl hS f1 f2
      go_enter Try.func74, Try.ntmps74
      go_wp2_with (go_at_call 75; (with_reducible refine (kg _).mono ?_); rintro e w3 ⟨rfl, hw3⟩; obtain rfl := hw3.symm)
      go_ret
      exact ⟨rfl, r16_set HRD.out [], Lib.grownBy_setB (.refl _ _) 0 _⟩
  · rw [if_neg (fun h => h0 h.1)] at hZ
    subst hZ
    have t1 : (er != 0) = true := by simpa using h0
    clear hg h hf hs he hl hS
    go_enter Try.func74, Try.ntmps74
    go_wp2_with (go_at_call 75; (with_reducible refine (kg _).mono ?_); rintro e w3 ⟨rfl, hw3⟩; obtain rfl := hw3.symm)
    go_ret
    exact ⟨rfl, r16_set HRD.out [], Lib.grownBy_setB (.refl _ _) 0 _⟩
end Go.Proofs.Ytdpjmijdlheajaa
