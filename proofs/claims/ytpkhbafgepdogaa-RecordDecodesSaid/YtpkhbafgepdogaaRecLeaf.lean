/-
  Layer 5, the leaves: markOf, dataOf, record.check, value.Number, strings.Clone: each returns what its text says, and changes nothing that was there. Condition: the strings have at most 2^47 - 4096 bytes.
-/
import Derived.Test.YtpkhbafgepdogaaRecVals
import Derived.Test.YtpkhbafgepdogaaVarPut
import Derived.Test.YtpkhbafgepdogaaShelf
namespace Go.Proofs.Ytpkhbafgepdogaa
open Go.RowKit

set_option maxRecDepth 100000 in
set_option maxHeartbeats 1000000 in
theorem markOf_any (v : Val) (w : World) (hs : v.s.size ≤ 140737488351232) :
    Calls Try.prog 19 #[.agg #[.int .i64 v.k, .int .i64 v.n, .string v.s]] w fun e w' => e = .returned (.int .u64 (markN v)) ∧ Below w.heap.size w w' := by
  obtain ⟨k, n, s⟩ := v
  simp only at hs ⊢
  have w1 : IntKind.u64.wrap (s.size : Int) = s.size := by rw [IntKind.wrap_u64]; omega
  obtain ⟨r, hr⟩ : ∃ r, r = markN ⟨k, n, s⟩ := ⟨_, rfl⟩
  rw [← hr]
  unfold markN at hr
  simp only at hr
  by_cases h1 : k = 1
  · rw [if_pos h1] at hr; subst h1 hr
    go_enter Try.func19, Try.ntmps19
    go_wp2
    go_ret
    exact ⟨rfl, below_alloc _ _⟩
  rw [if_neg h1] at hr
  by_cases h2 : k = 2
  · rw [if_pos h2] at hr; subst h2
    have HR := Lib.hid hr; clear hr
    go_enter Try.func19, Try.ntmps19
    go_wp2
    go_ret
    exact ⟨ret_int (by rw [HR.out]; push_cast; omega), below_alloc _ _⟩
  rw [if_neg h2] at hr
  by_cases h3 : k = 3
  · rw [if_pos h3] at hr; subst h3
    have HR := Lib.hid hr; clear hr
    go_enter Try.func19, Try.ntmps19
    go_wp2
    go_ret
    exact ⟨ret_int (by rw [HR.out]; push_cast; omega), below_alloc _ _⟩
  · rw [if_neg h3] at hr; subst hr
    go_enter Try.func19, Try.ntmps19
    go_wp2
    go_ret
    exact ⟨rfl, below_alloc _ _⟩

set_option maxRecDepth 100000 in
set_option maxHeartbeats 1000000 in
theorem dataOf_any (v : Val) (w : World) (hn : I64 v.n) :
    Calls Try.prog 20 #[.agg #[.int .i64 v.k, .int .i64 v.n, .string v.s]] w fun e w' => e = .returned (.string ⟨(dataL v).toArray⟩) ∧ Below w.heap.size w w' := by
  obtain ⟨k, n, s⟩ := v
  simp only at hn ⊢
  obtain ⟨r, hr⟩ : ∃ r, r = dataL ⟨k, n, s⟩ := ⟨_, rfl⟩
  rw [← hr]
  unfold dataL at hr
  simp only at hr
  by_cases h1 : k = 1
  · rw [if_pos h1] at hr; subst h1
    have hb := fold_bd hn
    have hf := fun w => vfold_any n hn.1 hn.2 w
    obtain ⟨z, hz⟩ : ∃ z, z = foldZ n := ⟨_, rfl⟩
    rw [← hz] at hf hr hb
    clear hz hn
    have hp := fun w => vput_any z hb.1 (by omega) w
    rw [← hr] at hp
    clear hr
    go_enter Try.func20, Try.ntmps20
    go_wp2_with (first | (go_at_call 35; refine (hf _).mono ?_; rintro e w' ⟨rfl, rfl⟩) | (go_at_call 18; refine (hp _).mono ?_; rintro e w' ⟨rfl, hb2⟩))
    go_ret
    exact ⟨rfl, (below_alloc _ _).trans (hb2.mono (by simp))⟩
  · rw [if_neg h1] at hr
    have HR := Lib.hid hr; clear hr
    go_enter Try.func20, Try.ntmps20
    go_wp2
    go_ret
    exact ⟨ret_str (by rw [HR.out]), below_alloc _ _⟩

theorem clone_any (s : ByteArray) (w : World) (h : s.size ≤ 281474976710656) :
    Calls Try.prog 44 #[.string s] w fun e w' => e = .returned (.string s) ∧ Below w.heap.size w w' := by
  have hc := fun w => Try.stringslite_Clone s w h
  go_enter Try.func44, Try.ntmps44
  go_wp2_with (go_at_call 46; refine (hc _).mono ?_; rintro e w' ⟨rfl, hb⟩)
  go_ret
  exact ⟨rfl, hb⟩

set_option maxRecDepth 100000 in
theorem number_any (n : Int) (w : World) :
    Calls Try.prog 42 #[.int .i64 n] w fun e w' => e = .returned (.agg #[.int .i64 1, .int .i64 n, .string ⟨#[]⟩]) ∧ Below w.heap.size w w' := by
  go_enter Try.func42, Try.ntmps42
  go_wp2
  go_returns
  exact ⟨rfl, below_alloc _ _⟩

theorem checks_one {l : List Val} {k : Nat} (h : k < l.length) : checks (l.drop k) = if checkZ l[k].k l[k].n l[k].s = 0 then checks (l.drop (k + 1)) else checkZ l[k].k l[k].n l[k].s := by
  rw [List.drop_eq_getElem_cons h, checks]

set_option maxRecDepth 100000 in
set_option maxHeartbeats 1000000 in
theorem rcheck_any (a : Option Addr) (cap : Nat) (l : List Val) (w : World) (hl : l.length ≤ 9223372036854775807) (ha : Vals w a l) :
    Calls Try.prog 16 #[.slice a l.length cap] w fun e w' => e = .returned (.int .i64 (errE l)) ∧ Below w.heap.size w w' := by
  obtain ⟨len, hlen⟩ : ∃ len, len = l.length := ⟨_, rfl⟩
  obtain ⟨r, hr⟩ : ∃ r, r = errE l := ⟨_, rfl⟩
  rw [← hr]
  unfold errE at hr
  rw [← hlen] at hl hr ⊢
  by_cases h16 : 16 < len
  · rw [if_pos h16] at hr; subst hr
    go_enter Try.func16, Try.ntmps16
    go_wp2
    go_ret
    exact ⟨rfl, Below.refl _ _⟩
  rw [if_neg h16] at hr
  have HA := Lib.hid ha; clear ha
  have HR := Lib.hid hr; clear hr
  have HL := Lib.hid hlen; clear hlen
  go_enter Try.func16, Try.ntmps16
  go_wp2
  go_loopw [11] (fun i wr => ∃ k : Nat, k ≤ len ∧ i = .int .i64 k ∧ Hid (r = checks (l.drop k)) ∧ Hid (Below w.heap.size w wr)) (fun i _ => len - (intOf i).toNat)
  case atStart => exact ⟨0, by omega, rfl, HR, Lib.hid (Below.refl _ _)⟩
  case round =>
    obtain ⟨k, hk, rfl, hz, hB⟩ := hrel
    clear HR
    by_cases hlt : k < len
    · have hlt' : k < l.length := by have := HL.out; omega
      obtain ⟨hs, -, b, off, rfl, hbw, c0, c1, c2⟩ := vals_next HA.out hB.out k hlt'
      have hz' := hz.out
      rw [checks_one hlt'] at hz'
      obtain ⟨v, hv⟩ : ∃ v, v = l[k] := ⟨_, rfl⟩
      rw [← hv] at hz' hs c0 c1 c2
      clear hv hz hlt'
      obtain ⟨k1, n1, s1⟩ := v
      simp only at hs c0 c1 c2 hz'
      obtain ⟨x, hx⟩ : ∃ x, x = checkZ k1 n1 s1 := ⟨_, rfl⟩
      have hc := fun w => check_any k1 n1 s1 w (by omega)
      rw [← hx] at hz' hc
      clear hx
      by_cases h0 : x = 0
      · rw [if_pos h0] at hz'; subst h0
        have HZ := Lib.hid hz'; clear hz'
        go_wp2_with (go_at_call 32; refine (hc _).mono ?_; rintro e w' ⟨rfl, hb⟩)
        go_roundw
        case rel => exact ⟨k + 1, by omega, by go_num, HZ, Lib.hid ((hB.out.alloc hB.out.size _).trans (hb.mono (by simp; have := hB.out.size; omega)))⟩
        case measure => simp [intOf]; omega
      · rw [if_neg h0] at hz'; subst hz'
        have t1 : (r != 0) = true := by simpa using h0
        go_wp2_with (go_at_call 32; refine (hc _).mono ?_; rintro e w' ⟨rfl, hb⟩)
        go_ret
        exact ⟨rfl, (hB.out.alloc hB.out.size _).trans (hb.mono (by simp; have := hB.out.size; omega))⟩
    · have hz' := hz.out
      rw [List.drop_eq_nil_of_le (by have := HL.out; omega), checks] at hz'
      subst hz'
      clear hz
      go_wp2
      go_ret
      exact ⟨rfl, hB.out⟩
end Go.Proofs.Ytpkhbafgepdogaa
