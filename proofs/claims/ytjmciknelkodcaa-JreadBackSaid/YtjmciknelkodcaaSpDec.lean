/-
  Layer 10, Decode and Named, the program's and the document's: each returns its plain function of the bytes and changes nothing that was there. Condition: at most 1048576 bytes.
-/
import Derived.Test.YtjmciknelkodcaaSpRef
import Derived.OwnWalk
namespace Go.Proofs.Ytjmciknelkodcaa
open Go.RowKit

theorem sext_drop2 (s : ByteArray) (k : Nat) : (s.extract k s.size).data.toList = s.data.toList.drop k := by
  rw [Lib.extract_data]
  exact List.take_of_length_le (by simp)
theorem sext_mid (s : ByteArray) (k m : Nat) : s.extract k m = ba ((s.data.toList.drop k).take (m - k)) := by
  have : (s.extract k m).data.toList = (s.data.toList.drop k).take (m - k) := by rw [Lib.extract_data]
  rw [← this, ba_back]
theorem r10trailer_any (s : ByteArray) (w : World) :
    Calls Try.prog 19 #[.string s] w fun e w' => e = .returned (.tuple #[.string (ba (trS s.data.toList).1), .int .i64 (trS s.data.toList).2]) ∧ Below w.heap.size w w' := by
  have kv := fun w => r10path_any s w
  by_cases hok : okS s.data.toList = true
  case neg =>
    have hr : trS s.data.toList = ([], 13) := by rw [trS, if_neg hok]
    rw [hr]
    rw [show okS s.data.toList = false by simpa using hok] at kv
    go_enter Try.func19, Try.ntmps19
    go_wp2_with (go_at_call 32; refine (kv _).mono ?_; rintro e w0 ⟨rfl, rfl⟩)
    go_ret2
    exact ⟨rfl, Below.refl _ _⟩
  have hr : trS s.data.toList = (seS (stF ++ txS s.data.toList) 13 stL, 0) := by rw [trS, if_pos hok]
  rw [hr]
  rw [hok] at kv
  have hl : s.data.toList.length = s.size := by simp
  have h40 := okS_iff.1 hok
  have kt := fun w => r10text_any s (by omega) w
  have hz := ba_size (txS s.data.toList)
  rw [txS_len] at hz
  have k1 := fun w => rsum_any 13 (by decide) (by decide) (ba (stF ++ txS s.data.toList)) (by rw [ba_size, List.length_append, txS_len, show stF.length = 8 from rfl]; omega) w
  rw [ba_list] at k1
  have hbd := sumZ_bd 13 (stF ++ txS s.data.toList)
  obtain ⟨g, hg⟩ : ∃ g, g = sumZ 13 (stF ++ txS s.data.toList) := ⟨_, rfl⟩
  rw [← hg] at k1 hbd
  have k2 := fun w => sfour_any g hbd.1 hbd.2 w
  have hy : (ba (fourL g.toNat)).size = 4 := rfl
  obtain ⟨x, hx⟩ : ∃ x, x = ba (txS s.data.toList) := ⟨_, rfl⟩
  have HE : (⟨#[97, 110, 110, 120, 110, 97, 109, 101]⟩ : ByteArray) ++ x = ba (stF ++ txS s.data.toList) := by rw [← ba_app, hx]; rfl
  have HAp := Lib.hid (show ba (stF ++ txS s.data.toList) ++ ba (fourL g.toNat) ++ ⟨#[101, 109, 97, 110, 120, 110, 110, 97]⟩ = ba (seS (stF ++ txS s.data.toList) 13 stL) by rw [seS, ← ba_app, ← ba_app, hg]; rfl)
  have hzs : (ba (stF ++ txS s.data.toList)).size ≤ 60 := by rw [ba_size, List.length_append, txS_len, show stF.length = 8 from rfl]; omega
  generalize ba (seS (stF ++ txS s.data.toList) 13 stL) = y at HAp ⊢
  rw [← hx] at kt hz
  generalize ba (stF ++ txS s.data.toList) = z at k1 HE HAp hzs
  generalize ba (fourL g.toNat) = u at k2 hy HAp
  have e1 := app_size z u
  have e2 := app_size (z ++ u) ⟨#[101, 109, 97, 110, 120, 110, 110, 97]⟩
  clear hx hr hok hg
  go_enter Try.func19, Try.ntmps19
  go_wp2_with (first
    | (go_at_call 32; refine (kv _).mono ?_; rintro e w0 ⟨rfl, rfl⟩)
    | (go_at_call 33; refine (kt _).mono ?_; rintro e w1 ⟨rfl, b1⟩)
    | (go_at_call 35; refine (k1 _).mono ?_; rintro e w2 ⟨rfl, rfl⟩)
    | (go_at_call 34; refine (k2 _).mono ?_; rintro e w3 ⟨rfl, b3⟩))
  go_ret2
  exact ⟨ret_sbe HAp.out, b1.trans (b3.mono b1.size)⟩

set_option maxHeartbeats 1000000 in
theorem r10take_any (s : ByteArray) (hs : s.size ≤ 1048576) (at_ : Int) (h1 : -1 ≤ at_) (h2 : at_ ≤ 1048576) (w : World) :
    Calls Try.prog 42 #[.string s, .int .i64 at_] w fun e w' => e = .returned (.tuple #[.string (ba (tkD s.data.toList at_).1), .int .i64 (tkD s.data.toList at_).2]) ∧ Below w.heap.size w w' := by
  have hl : s.data.toList.length = s.size := by simp
  obtain ⟨r, hr⟩ : ∃ r, r = tkD s.data.toList at_ := ⟨_, rfl⟩
  rw [← hr]
  unfold tkD at hr
  rw [hl] at hr
  by_cases ha : at_ < 0 ∨ s.size < at_
  · rw [if_pos ha] at hr; subst hr
    by_cases h0 : at_ < 0
    · have t1 : decide (at_ < 0) = true := decide_eq_true h0
      go_enter Try.func42, Try.ntmps42
      go_wp2
      go_ret2
      exact ⟨rfl, Below.refl _ _⟩
    · have t1 : decide (at_ < 0) = false := decide_eq_false h0
      have t2 : decide ((s.size : Int) < at_) = true := decide_eq_true (by omega)
      go_enter Try.func42, Try.ntmps42
      go_wp2
      go_ret2
      exact ⟨rfl, Below.refl _ _⟩
  rw [if_neg ha] at hr
  obtain ⟨a, rfl⟩ : ∃ a : Nat, at_ = a := ⟨at_.toNat, by omega⟩
  rw [Int.toNat_natCast] at hr
  have t1 : decide ((a : Int) < 0) = false := decide_eq_false (by omega)
  have t2 : decide ((s.size : Int) < a) = false := decide_eq_false (by omega)
  have ha' : a ≤ s.size := by omega
  have ha2 : (a : Int) ≤ s.size := by omega
  have kn := fun w => rnumber_any (s.extract a s.size) (by simp only [ByteArray.size_extract]; omega) w
  rw [sext_drop2] at kn
  have hbd := nmL_bd (s.data.toList.drop a)
  have hlen : (s.data.toList.drop a).length = s.size - a := by rw [List.length_drop, hl]
  have hN : (numR (s.data.toList.drop a)).1 = nmL (s.data.toList.drop a) := rfl
  have hE : (numR (s.data.toList.drop a)).2 = if s.size - a < 4 then (numR []).2 else 0 := by
    unfold numR
    rw [hlen]
    by_cases c : s.size - a < 4
    · rw [if_pos c, if_pos c]; rfl
    · rw [if_neg c, if_neg c]
  have he1 : (numR []).2 ≠ 0 := by decide
  generalize (numR []).2 = e1 at hE he1
  rw [hN] at kn
  generalize nmL (s.data.toList.drop a) = n at kn hr hbd
  generalize (numR (s.data.toList.drop a)).2 = er at kn hE
  clear hN ha
  by_cases c4 : s.size - a < 4
  · rw [if_pos c4] at hE
    subst hE
    have t3 : (er != 0) = true := by simpa using he1
    rw [if_pos (by left; omega)] at hr; subst hr
    go_enter Try.func42, Try.ntmps42
    go_wp2_with (go_at_call 59; refine (kn _).mono ?_; rintro e w1 ⟨rfl, hb⟩)
    go_ret2
    exact ⟨rfl, hb⟩
  rw [if_neg c4] at hE
  subst hE
  by_cases c40 : 40 < n
  · have t4 : decide (40 < n) = true := decide_eq_true c40
    rw [if_pos (by right; left; exact c40)] at hr; subst hr
    go_enter Try.func42, Try.ntmps42
    go_wp2_with (go_at_call 59; refine (kn _).mono ?_; rintro e w1 ⟨rfl, hb⟩)
    go_ret2
    exact ⟨rfl, hb⟩
  have t4 : decide (40 < n) = false := decide_eq_false c40
  by_cases cn : (s.size : Int) - a - 4 < n
  · have t5 : decide ((s.size : Int) - a - 4 < n) = true := decide_eq_true cn
    rw [if_pos (by right; right; exact cn)] at hr; subst hr
    go_enter Try.func42, Try.ntmps42
    go_wp2_with (go_at_call 59; refine (kn _).mono ?_; rintro e w1 ⟨rfl, hb⟩)
    go_ret2
    exact ⟨rfl, hb⟩
  have t5 : decide ((s.size : Int) - a - 4 < n) = false := decide_eq_false cn
  rw [if_neg (by omega)] at hr
  obtain ⟨m, rfl⟩ : ∃ m : Nat, n = m := ⟨n.toNat, by omega⟩
  rw [Int.toNat_natCast] at hr
  have HM := Lib.hid (sext_mid s (a + 4) (a + 4 + m))
  rw [show a + 4 + m - (a + 4) = m by omega] at HM
  have HR := Lib.hid hr
  clear hr hlen hl he1
  have i1 : a + 4 + m ≤ s.size := by omega
  have i2 : (a : Int) + 4 + m ≤ s.size := by omega
  have i3 : ((a : Int) + 4).toNat = a + 4 := by omega
  have i4 : ((a : Int) + 4 + m).toNat = a + 4 + m := by omega
  have sl : ∀ w : World, (Instr.slice 9 (.string s) (some (.int .i64 ((a : Int) + 4))) (some (.int .i64 ((a : Int) + 4 + m))) none).run Try.prog w = .ok (.string (s.extract (a + 4) (a + 4 + m))) w := fun w => by
    have := run_slice_string (P := Try.prog) w 9 s .i64 .i64 ((a : Int) + 4) ((a : Int) + 4 + m) Try.underlying9 (by omega) (by omega) (by omega)
    rw [i3, i4] at this
    exact this
  go_enter Try.func42, Try.ntmps42
  go_wp2_with (go_at_call 59; refine (kn _).mono ?_; rintro e w1 ⟨rfl, hb⟩)
  all_goals go_ret2
  all_goals exact ⟨by rw [HR.out]; exact ret_sbe HM.out, hb⟩
end Go.Proofs.Ytjmciknelkodcaa
