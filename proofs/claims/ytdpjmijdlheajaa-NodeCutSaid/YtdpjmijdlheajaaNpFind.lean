/-
  Layer 16, the program's Find (annexe/node) over slices.BinarySearchFunc: where a key is, or would be, in a node whose keys rise; it changes nothing that was there. Condition: the keys rise; sizes of at most 2^60.
-/
import Derived.Test.YtdpjmijdlheajaaNpValid
import Derived.Test.YtdpjmijdlheajaaNdFind
import Derived.Test.YtdpjmijdlheajaaShelf
namespace Go.Proofs.Ytdpjmijdlheajaa
open Go.RowKit

theorem cmp_less : ∀ a b : List UInt8, (Lib.compareBytes a b < 0 ↔ Op.bytesLess a b = true) ∧ (Lib.compareBytes a b = 0 ↔ a = b)
  | [], [] => by simp [Lib.compareBytes, Op.bytesLess]
  | [], _ :: _ => by simp [Lib.compareBytes, Op.bytesLess]
  | _ :: _, [] => by simp [Lib.compareBytes, Op.bytesLess]
  | x :: a, y :: b => by
    have ih := cmp_less a b
    unfold Lib.compareBytes Op.bytesLess
    by_cases h1 : x < y
    · have h4 : ¬ x = y := fun h => absurd (h ▸ h1) (UInt8.lt_irrefl _)
      simp [h1, h4]
    · by_cases h2 : y < x
      · have h4 : ¬ x = y := fun h => absurd (h ▸ h2) (UInt8.lt_irrefl _)
        simp [h1, h2, h4]
      · have h3 : x = y := UInt8.le_antisymm (UInt8.not_lt.1 h2) (UInt8.not_lt.1 h1)
        subst h3
        simpa [h1] using ih
theorem less_trans : ∀ a b c : List UInt8, Op.bytesLess a b = true → Op.bytesLess b c = true → Op.bytesLess a c = true
  | _, _, [], _, h => by cases ‹List UInt8› <;> simp [Op.bytesLess] at h
  | [], _, _ :: _, _, _ => rfl
  | _ :: _, [], _ :: _, h, _ => by simp [Op.bytesLess] at h
  | x :: a, y :: b, z :: c, h1, h2 => by
    have ih := less_trans a b c
    unfold Op.bytesLess at h1 h2 ⊢
    simp only [Bool.or_eq_true, decide_eq_true_eq, Bool.and_eq_true, beq_iff_eq] at h1 h2 ⊢
    rcases h1 with h1 | ⟨rfl, h1⟩
    · rcases h2 with h2 | ⟨rfl, h2⟩
      · exact .inl (UInt8.lt_trans h1 h2)
      · exact .inl h1
    · rcases h2 with h2 | ⟨rfl, h2⟩
      · exact .inl h2
      · exact .inr ⟨rfl, ih h1 h2⟩
def Rising (l : List Cel) : Prop := ∀ k, RisAt l k
theorem rising_lt {l : List Cel} (h : Rising l) : ∀ (j i : Nat) (hij : i < j) (hj : j < l.length), Op.bytesLess (l[i]'(by omega)).key l[j].key = true
  | 0, i, hij, _ => absurd hij (Nat.not_lt_zero _)
  | j + 1, i, hij, hj => by
    have h1 : Op.bytesLess (l[j]'(by omega)).key l[j + 1].key = true := h (j + 1) hj (Nat.zero_lt_succ _)
    by_cases e : i = j
    · subst e; exact h1
    · exact less_trans _ _ _ (rising_lt h j i (by omega) (by omega)) h1
theorem less_mono {l : List Cel} (h : Rising l) (p : List UInt8) {i j : Nat} (hij : i ≤ j) (hj : j < l.length) (hl : Op.bytesLess l[j].key p = true) : Op.bytesLess (l[i]'(by omega)).key p = true := by
  by_cases e : i = j
  · subst e; exact hl
  · exact less_trans _ _ _ (rising_lt h j i (by omega) hj) hl
theorem les_at {l : List Cel} {p : List UInt8} : ∀ {k : Nat} (_ : k ≤ l.length), (∀ t (h : t < l.length), t < k → Op.bytesLess l[t].key p = true) → (∀ t (h : t < l.length), k ≤ t → Op.bytesLess l[t].key p = false) → lesN l p = k := by
  induction l with
  | nil => intro k hk _ _; simp at hk; subst hk; rfl
  | cons c t ih =>
    intro k hk h1 h2
    cases k with
    | zero =>
      have h3 := ih (k := 0) (Nat.zero_le _) (fun j _ hj => absurd hj (Nat.not_lt_zero _)) (fun j hj _ => h2 (j + 1) (by simpa using hj) (Nat.zero_le _))
      have h4 : Op.bytesLess c.key p = false := h2 0 (Nat.zero_lt_succ _) (Nat.le_refl _)
      unfold lesN at h3 ⊢
      rw [List.filter_cons, h4]
      simpa using h3
    | succ k =>
      have h3 := ih (k := k) (by simpa using hk) (fun j hj hjk => h1 (j + 1) (by simpa using hj) (by omega)) (fun j hj hjk => h2 (j + 1) (by simpa using hj) (by omega))
      have h4 : Op.bytesLess c.key p = true := h1 0 (Nat.zero_lt_succ _) (Nat.zero_lt_succ _)
      unfold lesN at h3 ⊢
      rw [List.filter_cons, h4]
      simpa using h3
set_option maxRecDepth 100000 in
set_option maxHeartbeats 2000000 in
theorem findc_any (c : Cel) (p : List UInt8) (w : World) :
    Calls Try.prog 31 #[.agg #[.string (nb c.key), .int .i64 c.len, .string (nb c.loc), .int .i64 c.ov], .string (nb p)] w fun e w' => e = .returned (.int .i64 (Lib.compareBytes c.key p)) ∧ Below w.heap.size w w' := by
  have kc := fun W => Try.strings_Compare (nb c.key) (nb p) W
  rw [nb_list, nb_list] at kc
  generalize Lib.compareBytes c.key p = z at *
  go_enter Try.func31, Try.ntmps31
  go_wp2_with (go_at_call 32; (with_reducible refine (kc _).mono ?_); rintro e w3 ⟨rfl, hw3⟩; obtain rfl := hw3.symm)
  go_ret
  exact ⟨rfl, blw1 _ _⟩
set_option maxRecDepth 100000 in
set_option maxHeartbeats 4000000 in
theorem bsf_any (l : List Cel) (p : List UInt8) (ca : Option Addr) (cc : Nat) (w : World) (hz : l.length ≤ 1152921504606846976) (hr : Rising l) (hc : Cls w ca l) :
    Calls Try.prog 30 #[.slice ca l.length cc, .string (nb p), .func (.func 31) #[] #[]] w fun e w' => e = .returned (.tuple #[.int .i64 (lesN l p), .bool (isN l p)]) ∧ Below w.heap.size w w' := by
  obtain ⟨len, hlen⟩ : ∃ b, b = l.length := ⟨_, rfl⟩
  rw [← hlen] at hz ⊢
  have HC := Lib.hid hc; have HL := Lib.hid hlen; have HR := Lib.hid hr
  obtain ⟨S, hS⟩ : ∃ S, S = nb p := ⟨_, rfl⟩
  have HK := Lib.hid (fun c W => findc_any c p W)
  rw [← hS] at HK ⊢
  clear hc hlen hr hS
  go_enter Try.func30, Try.ntmps30
  go_wp2
  go_loopw [9, 10] (fun s9 s10 wr => ∃ lo hi : Nat, s9 = .int .i64 lo ∧ s10 = .int .i64 hi ∧ lo ≤ hi ∧ hi ≤ len ∧ Hid (∀ t (h : t < l.length), t < lo → Op.bytesLess l[t].key p = true) ∧ Hid (∀ t (h : t < l.length), hi ≤ t → Op.bytesLess l[t].key p = false) ∧ Hid (Below w.heap.size w wr)) (fun s9 s10 _ => (intOf s10).toNat - (intOf s9).toNat)
  case atStart => exact ⟨0, len, rfl, rfl, Nat.zero_le _, Nat.le_refl _, Lib.hid (fun t _ h => absurd h (Nat.not_lt_zero _)), Lib.hid (fun t h1 h2 => by have := HL.out; omega), Lib.hid (Below.refl _ _)⟩
  case round =>
    obtain ⟨lo, hi, rfl, rfl, hlh, hhl, hA, hB, hW⟩ := hrel
    by_cases hlt : lo < hi
    · have t1 : (lo : Int) < hi := by omega
      obtain ⟨m, hm⟩ : ∃ m, m = (lo + hi) / 2 := ⟨_, rfl⟩
      have hml : m < l.length := by have := HL.out; omega
      have w1 : IntKind.i64.wrap ((lo : Int) + hi) = (lo : Int) + hi := IntWalk.i64_in _ ⟨by omega, by omega⟩
      have w2 : IntKind.u64.wrap ((lo : Int) + hi) = (lo : Int) + hi := by rw [IntKind.wrap_u64]; omega
      have hmi : ((lo : Int) + hi) / 2 = (m : Int) := by omega
      have w3 : IntKind.i64.wrap (m : Int) = (m : Int) := IntWalk.i64_in _ ⟨by omega, by omega⟩
      have q1 : (m : Int) < len := by omega
      have q2 : m < len := by omega
      have q3 : ¬ (m : Int) < 0 := by omega
      have hlm : lo ≤ m := by omega
      have hmh : m < hi := by omega
      obtain ⟨b, off, rfl, hbw, c0, c1, c2, c3⟩ := (cls_next HC.out hW.out) m hml
      have hcm := cmp_less l[m].key p
      obtain ⟨x, hx⟩ : ∃ x, x = l[m] := ⟨_, rfl⟩
      have kx := fun W => HK.out x W
      rw [← hx] at c0 c1 c2 c3 hcm
      obtain ⟨v, hv⟩ : ∃ v, v = Lib.compareBytes x.key p := ⟨_, rfl⟩
      rw [← hv] at kx hcm
      have HX := Lib.hid hx; have HM := Lib.hid hm; have HCM := Lib.hid hcm
      clear hx hm hcm hv
      by_cases hneg : v < 0
      · have hl := HCM.out.1.1 hneg
        have HA2 := Lib.hid (show ∀ t (h : t < l.length), t < m + 1 → Op.bytesLess l[t].key p = true from fun t h ht => less_mono HR.out p (show t ≤ m by omega) hml (by rw [← HX.out]; exact hl))
        clear hl
        go_wp2_with (go_at_call 31; (with_reducible refine (kx _).mono ?_); rintro e w3 ⟨rfl, hb3⟩; have HB3 := Lib.hid (hW.out.trans (hb3.mono hW.out.size)); clear hb3)
        go_roundw
        case rel => exact ⟨m + 1, hi, by go_num, rfl, by omega, hhl, HA2, hB, HB3⟩
        case measure => simp only [intOf]; omega
      · have hl : Op.bytesLess x.key p = false := by
          cases hh : Op.bytesLess x.key p with
          | false => rfl
          | true => exact absurd (HCM.out.1.2 hh) hneg
        have HB2 := Lib.hid (show ∀ t (h : t < l.length), m ≤ t → Op.bytesLess l[t].key p = false from fun t h ht => by
          cases hh : Op.bytesLess l[t].key p with
          | false => rfl
          | true =>
            have := less_mono HR.out p ht h hh
            rw [← HX.out, hl] at this
            cases this)
        clear hl
        go_wp2_with (go_at_call 31; (with_reducible refine (kx _).mono ?_); rintro e w3 ⟨rfl, hb3⟩; have HB3 := Lib.hid (hW.out.trans (hb3.mono hW.out.size)); clear hb3)
        go_roundw
        case rel => exact ⟨lo, m, rfl, rfl, hlm, by omega, hA, HB2, HB3⟩
        case measure => simp only [intOf]; omega
    · obtain rfl : lo = hi := by omega
      have t1 : ¬ (lo : Int) < lo := by omega
      have HN := Lib.hid (les_at (by have := HL.out; omega) hA.out hB.out)
      clear hA hB hlt
      by_cases hll : lo < len
      · have hml : lo < l.length := by have := HL.out; omega
        have t2 : (lo : Int) < len := by omega
        obtain ⟨b, off, rfl, hbw, c0, c1, c2, c3⟩ := (cls_next HC.out hW.out) lo hml
        have hcm := cmp_less l[lo].key p
        have hi : isN l p = (l[lo].key == p) := by
          unfold isN
          rw [HN.out, List.getElem?_eq_getElem hml]
        obtain ⟨x, hx⟩ : ∃ x, x = l[lo] := ⟨_, rfl⟩
        have kx := fun W => HK.out x W
        rw [← hx] at c0 c1 c2 c3 hcm hi
        obtain ⟨v, hv⟩ : ∃ v, v = Lib.compareBytes x.key p := ⟨_, rfl⟩
        rw [← hv] at kx hcm
        have HI := Lib.hid (show isN l p = decide (v = 0) from by
          rw [hi]
          by_cases h0 : v = 0
          · rw [hcm.2.1 h0, decide_eq_true h0]; simp
          · rw [decide_eq_false h0]
            simpa using fun h => h0 (hcm.2.2 h))
        clear hx hcm hi hv
        go_wp2_with (go_at_call 31; (with_reducible refine (kx _).mono ?_); rintro e w3 ⟨rfl, hb3⟩; have HB3 := Lib.hid (hW.out.trans (hb3.mono hW.out.size)); clear hb3)
        go_ret2
        exact ⟨by rw [HN.out, HI.out]; first | rfl | (simp; done) | congr, HB3.out⟩
      · have t2 : ¬ (lo : Int) < len := by omega
        have HI := Lib.hid (show isN l p = false from by
          unfold isN
          rw [HN.out, List.getElem?_eq_none (by have := HL.out; omega)])
        go_wp2
        go_ret2
        exact ⟨by rw [HN.out, HI.out]; rfl, hW.out⟩
set_option maxRecDepth 100000 in
set_option maxHeartbeats 2000000 in
theorem find_any (leaf : Bool) (l : List Cel) (kn : Nat) (ca ka : Option Addr) (cc kc : Nat) (p : List UInt8) (w : World) (hz : l.length ≤ 1152921504606846976) (hr : Rising l) (hc : Cls w ca l) :
    Calls Try.prog 17 #[.agg #[.bool leaf, .slice ca l.length cc, .slice ka kn kc], .string (nb p)] w fun e w' => e = .returned (.tuple #[.int .i64 (lesN l p), .bool (isN l p)]) ∧ Below w.heap.size w w' := by
  have kb := bsf_any l p ca cc (w.alloc (.cells #[.bool leaf, .slice ca l.length cc, .slice ka kn kc] 32)) hz hr (cls_alloc hc _)
  obtain ⟨a, ha⟩ : ∃ a, a = lesN l p := ⟨_, rfl⟩
  obtain ⟨b, hb⟩ : ∃ a, a = isN l p := ⟨_, rfl⟩
  obtain ⟨len, hlen⟩ : ∃ b, b = l.length := ⟨_, rfl⟩
  rw [← ha, ← hb, ← hlen] at kb
  rw [← ha, ← hb, ← hlen]
  have HB1 := Lib.hid (blw1 w (.cells #[.bool leaf, .slice ca len cc, .slice ka kn kc] 32))
  generalize nb p = S at *
  clear ha hb hlen hc hr hz
  go_enter Try.func17, Try.ntmps17
  go_wp2_with (go_at_call 30; (with_reducible refine kb.mono ?_); rintro e w3 ⟨rfl, hb3⟩; have HB3 := Lib.hid hb3; clear hb3)
  go_ret2
  exact ⟨rfl, HB1.out.trans (HB3.out.mono HB1.out.size)⟩
end Go.Proofs.Ytdpjmijdlheajaa
