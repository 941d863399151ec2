/-
  The statements FigureFolded and FigureBack as walks: each returns true for every input and changes nothing that was there. Conditions: the number is an int; the string is no longer than the model's greatest length; strconv's table of powers of ten lies in memory as its initialiser lays it ('Tab').
-/
import Derived.Test.YtoeohliniecniaaDoorFigMath
import Derived.Test.YtoeohliniecniaaDoorFigWorks
namespace Go.Proofs.YtoeohliniecniaaDoor
open Go.RowKit Go.Shelf

theorem great_any (s : ByteArray) (w : World) (h : s.size ≤ 9223372036854775807) : Calls Tryd.prog 9 #[.string s] w fun e w' => e = .returned (.bool (decide (3000 < (s.size : Int)))) ∧ w = w' := by
  go_enter Tryd.func9, Tryd.ntmps9
  go_wp2
  go_ret
  exact ⟨rfl, rfl⟩
theorem mk_toList (l : List UInt8) : (⟨l.toArray⟩ : ByteArray).data.toList = l := by simp
theorem mk_size (l : List UInt8) : (⟨l.toArray⟩ : ByteArray).size = l.length := by simp [ByteArray.size]

set_option maxRecDepth 100000 in
set_option maxHeartbeats 2000000 in
theorem folded_any (s : ByteArray) (n : Int) (h0 : -9223372036854775808 ≤ n) (h1 : n ≤ 9223372036854775807) (w : World) (hs : s.size ≤ 9223372036854775807) (ht : Tab w) :
    Calls Tryd.prog 8 #[.string s, .int .i64 n] w fun e w' => e = .returned (.bool true) ∧ Below w.heap.size w w' := by
  have HT := Lib.hid ht; clear ht
  have H0 := Lib.hid h0; have H1 := Lib.hid h1; clear h0 h1
  obtain ⟨f, hf⟩ : ∃ f : ByteArray, f = ⟨(foldL s.data.toList).toArray⟩ := ⟨_, rfl⟩
  obtain ⟨t, htx⟩ : ∃ t : ByteArray, t = ⟨(Lib.itoa n).toArray⟩ := ⟨_, rfl⟩
  have hfs : f.size = s.size := by rw [hf, mk_size, foldL_length]; simp
  have hft : f.data.toList = foldL s.data.toList := by rw [hf]
  have htn : nameB t.data.toList = false := by rw [htx]; exact itoa_name n
  have hts : t.size ≤ 21 := by rw [htx, mk_size]; exact Lib.itoa_length_le n H0.out H1.out
  have HF := Lib.hid hf; have HFS := Lib.hid hfs; have HFT := Lib.hid hft; have HTX := Lib.hid htx; have HTN := Lib.hid htn
  have tl : ((f.size : Int) == (s.size : Int)) = true := by rw [HFS.out]; simp
  clear hf htx hfs hft htn
  have hn : nameB f.data.toList = nameB s.data.toList := by rw [HFT.out, foldL_name]
  have HN := Lib.hid hn; clear hn
  by_cases hg : 3000 < s.size
  · have tg : decide (3000 < (s.size : Int)) = true := by simp; omega
    go_enter Tryd.func8, Tryd.ntmps8
    go_wp2_with fail
    refine (works_any _ HT.out).mono ?_
    rintro e w1 ⟨rfl, b1⟩
    go_wp2_with fail
    refine (great_any _ _ hs).mono ?_
    rintro e w2 ⟨rfl, rfl⟩
    go_wp2_with fail
    go_ret
    exact ⟨rfl, b1⟩
  · have tg : decide (3000 < (s.size : Int)) = false := by simp; omega
    have hfb : f.size ≤ 140737488351232 := by have := HFS.out; omega
    go_enter Tryd.func8, Tryd.ntmps8
    go_wp2_with fail
    refine (works_any _ HT.out).mono ?_
    rintro e w1 ⟨rfl, b1⟩
    go_wp2_with fail
    refine (great_any _ _ hs).mono ?_
    rintro e w2 ⟨rfl, rfl⟩
    go_wp2_with fail
    refine (fold_any _ _ (by omega)).mono ?_
    rintro e w2 ⟨rfl, b2⟩
    have B2 := b1.trans (b2.mono b1.size)
    rw [← HF.out]
    go_wp2_with fail
    refine (fold_any _ _ hfb).mono ?_
    rintro e w3 ⟨rfl, b3⟩
    have B3 := B2.trans (b3.mono B2.size)
    rw [HFT.out, foldL_idem, ← HF.out]
    go_wp2_with fail
    refine (name_any _ _ hfb).mono ?_
    rintro e w4 ⟨rfl, b4⟩
    have B4 := B3.trans (b4.mono B3.size)
    rw [HN.out]
    go_wp2_with fail
    refine (name_any _ _ (by omega)).mono ?_
    rintro e w5 ⟨rfl, b5⟩
    have B5 := B4.trans (b5.mono B4.size)
    go_wp2_with fail
    refine (text_any _ H0.out H1.out _ (tab_below HT.out B5)).mono ?_
    rintro e w6 ⟨rfl, b6⟩
    have B6 := B5.trans (b6.mono B5.size)
    rw [← HTX.out]
    go_wp2_with fail
    refine (name_any _ _ (by omega)).mono ?_
    rintro e w7 ⟨rfl, b7⟩
    have B7 := B6.trans (b7.mono B6.size)
    rw [HTN.out]
    go_wp2_with fail
    go_ret
    exact ⟨rfl, B7⟩
theorem mk_self (s : ByteArray) : (⟨s.data.toList.toArray⟩ : ByteArray) = s := by
  obtain ⟨⟨l⟩⟩ := s; rfl
theorem quoteL_le (l : List UInt8) : (quoteL l).length ≤ 2 + 2 * l.length := by
  have := quoteM_length l
  simp [quoteL]; omega

theorem back_great (s : ByteArray) (n : Int) (w : World) (hs : s.size ≤ 9223372036854775807) (ht : Tab w) (tg : decide (3000 < (s.size : Int)) = true) :
    Calls Tryd.prog 7 #[.int .i64 n, .string s] w fun e w' => e = .returned (.bool true) ∧ Below w.heap.size w w' := by
  have HT := Lib.hid ht; clear ht
  go_enter Tryd.func7, Tryd.ntmps7
  go_wp2_with fail
  refine (works_any _ HT.out).mono ?_
  rintro e w1 ⟨rfl, b1⟩
  go_wp2_with fail
  refine (great_any _ _ hs).mono ?_
  rintro e w2 ⟨rfl, rfl⟩
  go_wp2_with fail
  go_ret
  exact ⟨rfl, b1⟩

set_option maxRecDepth 100000 in
set_option maxHeartbeats 4000000 in
/-- The way to the last statement, the number's part decided. -/
theorem back_small (s : ByteArray) (n : Int) (h0 : Hid (-9223372036854775808 ≤ n)) (h1 : Hid (n ≤ 9223372036854775807)) (w : World) (hs : s.size ≤ 9223372036854775807) (ht : Hid (Tab w)) (tg : decide (3000 < (s.size : Int)) = false) (hle : s.size ≤ 3000)
    (m e0 : Int) (hm : Hid (readR (Lib.itoa n) = (m, e0)))
    (hc : (0 ≤ n ∧ decide (0 ≤ n) = true ∧ m = n ∧ e0 = 0) ∨ (n < 0 ∧ decide (0 ≤ n) = false ∧ decide (n < 0) = true ∧ m = 0 ∧ e0 = 4)) (v : ByteArray) (h : Int) (hv : Hid (unqR s.data.toList = (v.data.toList, h))) (hvs : v.size ≤ 3000)
    (hd : ((h == 0) = false ∧ (h != 0) = true ∧ Hid (v.data.toList = [])) ∨ (h = 0 ∧ Hid (quoteL v.data.toList = s.data.toList))) :
    Calls Tryd.prog 7 #[.int .i64 n, .string s] w fun e w' => e = .returned (.bool true) ∧ Below w.heap.size w w' := by
  obtain ⟨t, htx⟩ : ∃ t : ByteArray, t = ⟨(Lib.itoa n).toArray⟩ := ⟨_, rfl⟩
  have hts : t.size ≤ 21 := by rw [htx, mk_size]; exact Lib.itoa_length_le n h0.out h1.out
  have HTD := Lib.hid (show readR t.data.toList = (m, e0) by rw [htx]; exact hm.out)
  have HTX := Lib.hid htx; clear htx
  obtain ⟨q, hq⟩ : ∃ q : ByteArray, q = ⟨(quoteL s.data.toList).toArray⟩ := ⟨_, rfl⟩
  have hqs : q.size ≤ 6002 := by rw [hq, mk_size]; have := quoteL_le s.data.toList; simp at this; omega
  have HQD := Lib.hid (show unqR q.data.toList = (s.data.toList, 0) by rw [hq]; exact unq_quote _)
  have HQ := Lib.hid hq; clear hq
  obtain ⟨x, hx⟩ : ∃ x : ByteArray, x = ⟨(hexL s.data.toList).toArray⟩ := ⟨_, rfl⟩
  have hxs : x.size ≤ 6000 := by rw [hx, mk_size, hexL_length]; simp; omega
  have HXD := Lib.hid (show unhR x.data.toList = (s.data.toList, 0) by rw [hx]; exact unhex_hex _)
  have HX := Lib.hid hx; clear hx
  rcases hc with ⟨g1, g2, rfl, rfl⟩ | ⟨g1, g2, g3, rfl, rfl⟩
  all_goals rcases hd with ⟨d1, d2, d3⟩ | ⟨rfl, d3⟩
  all_goals
    go_enter Tryd.func7, Tryd.ntmps7
    go_wp2_with fail
    refine (works_any _ ht.out).mono ?_
    rintro e w1 ⟨rfl, b1⟩
    go_wp2_with fail
    refine (great_any _ _ hs).mono ?_
    rintro e w2 ⟨rfl, rfl⟩
    go_wp2_with fail
    refine (text_any _ h0.out h1.out _ (tab_below ht.out b1)).mono ?_
    rintro e w3 ⟨rfl, b3⟩
    have B3 := b1.trans (b3.mono b1.size)
    rw [← HTX.out]
    go_wp2_with fail
    refine (read_any _ _ (by omega)).mono ?_
    rintro e w4 ⟨rfl, b4⟩
    have B4 := B3.trans (b4.mono B3.size)
    rw [HTD.out]
    go_wp2_with fail
    refine (quote_any _ _ (by omega)).mono ?_
    rintro e w5 ⟨rfl, b5⟩
    have B5 := B4.trans (b5.mono B4.size)
    rw [← HQ.out]
    go_wp2_with fail
    refine (unq_any _ _ (by omega)).mono ?_
    rintro e w6 ⟨rfl, b6⟩
    have B6 := B5.trans (b6.mono B5.size)
    rw [HQD.out, mk_self]
    go_wp2_with fail
    refine (hex_any _ _ (by omega)).mono ?_
    rintro e w7 ⟨rfl, b7⟩
    have B7 := B6.trans (b7.mono B6.size)
    rw [← HX.out]
    go_wp2_with fail
    refine (unhex_any _ _ (by omega)).mono ?_
    rintro e w8 ⟨rfl, b8⟩
    have B8 := B7.trans (b8.mono B7.size)
    rw [HXD.out, mk_self]
    go_wp2_with fail
    refine (unq_any _ _ (by omega)).mono ?_
    rintro e w9 ⟨rfl, b9⟩
    have B9 := B8.trans (b9.mono B8.size)
    rw [hv.out, mk_self]
  · obtain ⟨te, te'⟩ := empty_yes (s := v) (by have := congrArg List.length d3.out; simpa using this)
    go_wp2_with fail
    go_ret
    exact ⟨rfl, B9⟩
  · go_wp2_with fail
    refine (quote_any _ _ (by omega)).mono ?_
    rintro e w10 ⟨rfl, b10⟩
    have B10 := B9.trans (b10.mono B9.size)
    rw [d3.out, mk_self]
    go_wp2_with fail
    go_ret
    exact ⟨rfl, B10⟩
  · obtain ⟨te, te'⟩ := empty_yes (s := v) (by have := congrArg List.length d3.out; simpa using this)
    go_wp2_with fail
    go_ret
    exact ⟨rfl, B9⟩
  · go_wp2_with fail
    refine (quote_any _ _ (by omega)).mono ?_
    rintro e w10 ⟨rfl, b10⟩
    have B10 := B9.trans (b10.mono B9.size)
    rw [d3.out, mk_self]
    go_wp2_with fail
    go_ret
    exact ⟨rfl, B10⟩

theorem back_any (n : Int) (s : ByteArray) (h0 : -9223372036854775808 ≤ n) (h1 : n ≤ 9223372036854775807) (w : World) (hs : s.size ≤ 9223372036854775807) (ht : Tab w) :
    Calls Tryd.prog 7 #[.int .i64 n, .string s] w fun e w' => e = .returned (.bool true) ∧ Below w.heap.size w w' := by
  by_cases hg : 3000 < s.size
  · exact back_great s n w hs ht (by simp; omega)
  · have hub := unq_back s.data.toList
    obtain ⟨v, h, hv⟩ : ∃ (v : ByteArray) (h : Int), unqR s.data.toList = (v.data.toList, h) := ⟨⟨(unqR s.data.toList).1.toArray⟩, (unqR s.data.toList).2, by simp⟩
    rw [hv] at hub
    have hvs : v.size ≤ 3000 := by
      have hl : v.data.toList.length = v.size := by simp
      have hsl : s.data.toList.length = s.size := by simp
      rcases hub with ⟨_, e⟩ | ⟨_, e⟩
      · have e' : v.data.toList = [] := e
        rw [e'] at hl; simp at hl; omega
      · have e' : quoteL v.data.toList = s.data.toList := e
        have h3 : v.data.toList.length ≤ (quoteL v.data.toList).length := by
          simp only [quoteL, quoteM, List.length_append, List.length_cons]
          have : ∀ l : List UInt8, l.length ≤ (l.flatMap quoteC).length := by
            intro l
            induction l with
            | nil => simp
            | cons a t ih =>
              rw [List.flatMap_cons, List.length_append, List.length_cons]
              have : 1 ≤ (quoteC a).length := by unfold quoteC; split <;> simp
              omega
          have := this v.data.toList
          omega
        rw [e'] at h3; omega
    have hd : ((h == 0) = false ∧ (h != 0) = true ∧ Hid (v.data.toList = [])) ∨ (h = 0 ∧ Hid (quoteL v.data.toList = s.data.toList)) := by
      rcases hub with ⟨e1, e2⟩ | ⟨e1, e2⟩
      · exact .inl ⟨by simpa using e1, by simpa using e1, Lib.hid e2⟩
      · exact .inr ⟨e1, Lib.hid e2⟩
    by_cases hn : 0 ≤ n
    · exact back_small s n (Lib.hid h0) (Lib.hid h1) w hs (Lib.hid ht) (by simp; omega) (by omega) n 0 (Lib.hid (read_text n hn h1)) (.inl ⟨hn, by simpa using hn, rfl, rfl⟩) v h (Lib.hid hv) hvs hd
    · exact back_small s n (Lib.hid h0) (Lib.hid h1) w hs (Lib.hid ht) (by simp; omega) (by omega) 0 4 (Lib.hid (read_neg n (by omega))) (.inr ⟨by omega, by simpa using hn, by simpa using hn, rfl, rfl⟩) v h (Lib.hid hv) hvs hd
end Go.Proofs.YtoeohliniecniaaDoor
