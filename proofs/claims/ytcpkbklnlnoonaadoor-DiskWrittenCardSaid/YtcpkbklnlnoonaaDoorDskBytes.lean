/-
  Layer 7: resize and overwrite: the contents of a file, cut or made longer by zero bytes, and with data at an offset: each leaves all blocks but the slice's own as they were. Conditions: lengths up to a thousand millions.
-/
import Derived.Test.YtcpkbklnlnoonaaDoorDskMem
import Derived.Deep.QuietTactic
import Derived.BigQuiet
import Derived.Handy
import Derived.OwnWalk
import Derived.KernelRfl
import Derived.Lib.MinMax
namespace Go.Proofs.YtcpkbklnlnoonaaDoor
open Go.RowKit

/-- The slice v holds these bytes, in a block of its own. -/
def Bys (w : World) (v : Value) (l : List UInt8) : Prop := w.ownsRow 0 5 1 v l.length (Lib.byteCells l)
def resizeL (l : List UInt8) (n : Nat) : List UInt8 := if n ≤ l.length then l.take n else l ++ List.replicate (n - l.length) 0
def overL (l : List UInt8) (at_ : Nat) (d : List UInt8) : List UInt8 := if d = [] then l else (resizeL l (max l.length (at_ + d.length))).take at_ ++ (d ++ (resizeL l (max l.length (at_ + d.length))).drop (at_ + d.length))
theorem resizeL_len (l : List UInt8) (n : Nat) : (resizeL l n).length = n := by unfold resizeL; split <;> simp <;> omega
theorem overL_len (l : List UInt8) (a : Nat) (d : List UInt8) : (overL l a d).length = if d = [] then l.length else max l.length (a + d.length) := by
  unfold overL
  split
  · rfl
  · simp only [List.length_append, List.length_take, List.length_drop, resizeL_len]; omega
theorem byteCells_app7 (a b : List UInt8) : Lib.byteCells (a ++ b) = Lib.byteCells a ++ Lib.byteCells b := by simp [Lib.byteCells]
theorem byteCells_rep (n : Nat) : Lib.byteCells (List.replicate n 0) = List.replicate n (.int .u8 0) := by simp [Lib.byteCells]
theorem byteCells_take (l : List UInt8) (n : Nat) : Lib.byteCells (l.take n) = (Lib.byteCells l).take n := by simp [Lib.byteCells, List.map_take]
theorem byteCells_drop (l : List UInt8) (n : Nat) : Lib.byteCells (l.drop n) = (Lib.byteCells l).drop n := by simp [Lib.byteCells, List.map_drop]

theorem bys_cases {w : World} {v : Value} {l : List UInt8} (h : Bys w v l) : (v = .slice none 0 0 ∧ l = []) ∨ ∃ g cap cur, v = .slice (some ⟨g, 0, none⟩) l.length cap ∧ w.heap[g]? = some (.cells cur 5 (0, 0)) ∧ l.length ≤ cap ∧ cap ≤ maxLen ∧ cur.size = cap ∧ cur.toList.take l.length = Lib.byteCells l := by
  rcases h.2 with ⟨rfl, h0⟩ | ⟨g, cap, cur, rfl, _, hg, h1, h2, h3, h4⟩
  · exact .inl ⟨rfl, List.eq_nil_of_length_eq_zero h0⟩
  · exact .inr ⟨g, cap, cur, rfl, hg, h1, h2, by omega, by simpa using h4⟩
theorem bys_mk {w : World} {l : List UInt8} {g cap : Nat} {cur : Array Value} (hg : w.heap[g]? = some (.cells cur 5 (0, 0))) (h1 : l.length ≤ cap) (h2 : cap ≤ maxLen) (h3 : cur.size = cap) (h4 : cur.toList.take l.length = Lib.byteCells l) : Bys w (.slice (some ⟨g, 0, none⟩) l.length cap) l :=
  ⟨by simp [Lib.byteCells], .inr ⟨g, cap, cur, rfl, Nat.zero_le _, hg, h1, h2, by omega, by simpa using h4⟩⟩

theorem bys_at {w : World} {v : Value} {l : List UInt8} {n : Nat} (h : Bys w v l) (hn : l.length = n) (hp : 0 < n) : ∃ g cap cur, v = .slice (some ⟨g, 0, none⟩) n cap ∧ n ≤ cap ∧ Hid (w.heap[g]? = some (.cells cur 5 (0, 0))) ∧ Hid (cap ≤ maxLen) ∧ cur.size = cap ∧ Hid (cur.toList.take l.length = Lib.byteCells l) := by
  rcases bys_cases h with ⟨rfl, rfl⟩ | ⟨g, cap, cur, rfl, hg, h1, h2, h3, h4⟩
  · simp at hn; omega
  · subst hn; exact ⟨g, cap, cur, rfl, h1, Lib.hid hg, Lib.hid h2, h3, Lib.hid h4⟩
theorem bys_slice {w : World} {v : Value} {l : List UInt8} (h : Bys w v l) : ∃ a cap, v = .slice a l.length cap ∧ l.length ≤ cap := by
  rcases bys_cases h with ⟨rfl, rfl⟩ | ⟨g, cap, cur, rfl, _, h1, _⟩
  · exact ⟨none, 0, rfl, Nat.le_refl _⟩
  · exact ⟨_, cap, rfl, h1⟩

theorem u8_info : (Tryd.prog.info? 5).map (fun i => (i.zero, i.size, i.bytes)) = some (some (.int .u8 0), 1, 1) := by kernel_rfl
theorem u8_size : (Tryd.prog.info? 5).map (·.size) = some 1 := by kernel_rfl
theorem grown_refl (w : World) (r : Option Nat) : w.grownBy w r := ⟨rfl, rfl, rfl, Nat.le_refl _, fun _ _ _ => rfl⟩

theorem grown_then {a b c : World} {row row' : Option Nat} (h : a.grownBy b row) (k : b.grownBy c row') (hr : ∀ j, row' = some j → a.heap.size ≤ j ∨ row = some j) : a.grownBy c row :=
  ⟨k.os.trans h.os, k.tape.trans h.tape, k.output.trans h.output, Nat.le_trans h.size k.size, fun i hi hne => (k.block i (Nat.lt_of_lt_of_le hi h.size) (fun e => (hr i e.symm).elim (fun h' => absurd hi (Nat.not_lt.2 h')) (fun h' => hne h'.symm))).trans (h.block i hi hne)⟩
theorem resize_any (v : Value) (l : List UInt8) (n : Nat) (w : World) (h : Bys w v l) (hl : l.length ≤ 1000000000) (hn : n ≤ 1000000000) :
    Calls Tryd.prog 41 #[v, .int .i64 n] w fun e w' => ∃ v', e = .returned v' ∧ Bys w' v' (resizeL l n) ∧ w.grownBy w' v.ownBlock ∧ (v'.ownBlock = v.ownBlock ∨ v'.ownBlock = some w.heap.size) := by
  by_cases hle : n ≤ l.length
  · have HR := Lib.hid (show resizeL l n = l.take n by rw [resizeL, if_pos hle])
    rcases bys_cases h with ⟨rfl, rfl⟩ | ⟨g, cap, cur, rfl, hg, h1, h2, h3, h4⟩
    · obtain rfl : n = 0 := by simpa using hle
      have H := Lib.hid h; clear h
      go_enter Tryd.func41, Tryd.ntmps41
      go_wp2
      go_ret
      exact ⟨_, rfl, by rw [HR.out]; exact H.out, grown_refl _ _, .inl rfl⟩
    · have HG := Lib.hid hg; have H4 := Lib.hid h4; have H2 := Lib.hid h2; have H3 := Lib.hid h3; clear hg h4 h h2 h3
      have hnc : n ≤ cap := by omega
      go_enter Tryd.func41, Tryd.ntmps41
      go_wp2
      go_ret
      refine ⟨_, rfl, ?_, grown_refl _ _, .inl rfl⟩
      rw [HR.out]
      have := bys_mk (w := w) (l := l.take n) HG.out (by simp; omega) H2.out H3.out (by rw [byteCells_take, ← H4.out, List.take_take]; congr 1; simp)
      simpa [Nat.min_eq_left hle] using this
  · obtain ⟨i, hi, hz⟩ : ∃ i, Tryd.prog.info? 5 = some i ∧ (i.zero = some (.int .u8 0) ∧ i.size = 1 ∧ i.bytes = 1) := by
      have := u8_info
      cases hq : Tryd.prog.info? 5 with
      | none => rw [hq] at this; simp at this
      | some i => rw [hq] at this; simp at this; exact ⟨i, rfl, this⟩
    have HR := Lib.hid (show resizeL l n = l ++ List.replicate (n - l.length) 0 by rw [resizeL, if_neg hle])
    obtain ⟨v', w', hr, h2, h3, h4⟩ := run_append_zeros_own (P := Tryd.prog) w 0 30 3 30 5 i (by kernel_rfl) (by kernel_rfl) hi hz.1 hz.2.1 hz.2.2 v l.length _ h (n - l.length) (by omega) (Nat.zero_le _)
    obtain ⟨a, cap, rfl, hc⟩ := bys_slice h
    obtain ⟨m, hm⟩ : ∃ m, m = n - l.length := ⟨_, rfl⟩
    rw [← hm] at hr h2
    obtain ⟨k, hk⟩ : ∃ k, k = l.length := ⟨_, rfl⟩
    rw [← hk] at h2 hr hc hle hl h3 h4
    have hnk : n = k + m := by omega
    have HM := Lib.hid hm; have HK := Lib.hid hk
    clear hm hk
    have H2 := Lib.hid h2; have H3 := Lib.hid h3; have H4 := Lib.hid h4; have HRun := Lib.hid hr
    clear h2 h3 h4 h hr hi hz
    rw [← HK.out]
    have e1 : (n : Int) - (k : Int) = (m : Int) := by omega
    have hnle : ¬ ((n : Int) ≤ (k : Int)) := by omega
    have HN := Lib.hid hnk
    clear hle hnk
    go_enter Tryd.func41, Tryd.ntmps41
    go_wp2_with (at_builtin; refine Lib.wpList_append_run _ rfl _ _ _ _ rfl _ _ rfl rfl v' w' HRun.out ?_)
    go_ret
    refine ⟨v', rfl, ?_, H3.out, H4.out⟩
    rw [HR.out, ← HM.out]
    have := H2.out
    unfold Bys
    rw [byteCells_app7, byteCells_rep, List.length_append, List.length_replicate, ← HK.out]
    exact this

theorem setRow_grown (w : World) (g : Nat) (cs : Array Value) : w.grownBy (w.setRow g cs) (some g) := ⟨rfl, rfl, rfl, by simp, fun k _ hk => setRow_other w g k _ (fun e => hk (by rw [e]))⟩
theorem bys_over {w : World} {l : List UInt8} {g cap a : Nat} {cur : Array Value} (hg : w.heap[g]? = some (.cells cur 5 (0, 0))) (h1 : l.length ≤ cap) (h2 : cap ≤ maxLen) (h3 : cur.size = cap) (h4 : cur.toList.take l.length = Lib.byteCells l) (d : ByteArray) (hd : a + d.size ≤ l.length) :
    Bys (w.setRow g (cur.toList.take a ++ (Lib.strCells d ++ cur.toList.drop (a + d.size))).toArray) (.slice (some ⟨g, 0, none⟩) l.length cap) (l.take a ++ (d.data.toList ++ l.drop (a + d.size))) := by
  have hdl : d.data.toList.length = d.size := Array.length_toList
  have hll : (l.take a ++ (d.data.toList ++ l.drop (a + d.size))).length = l.length := by simp only [List.length_append, List.length_take, List.length_drop, hdl]; omega
  have := bys_mk (l := l.take a ++ (d.data.toList ++ l.drop (a + d.size))) (cap := cap) (setRow_heap w g cur (cur.toList.take a ++ (Lib.strCells d ++ cur.toList.drop (a + d.size))).toArray 5 _ hg) (by rw [hll]; exact h1) h2 (by simp [Lib.strCells_length]; omega) (by
    rw [hll, byteCells_app7, byteCells_app7, byteCells_take, byteCells_drop, ← h4]
    have hs : Lib.byteCells d.data.toList = Lib.strCells d := rfl
    rw [hs]
    simp only [List.take_append, List.length_append, List.length_take, List.length_drop, Lib.strCells_length, Array.length_toList, List.take_take, List.drop_take]
    rw [List.take_of_length_le (l := Lib.strCells d) (by rw [Lib.strCells_length]; omega)]
    congr 1
    · congr 1; omega
    · congr 1
      congr 1
      omega)
  rw [hll] at this
  exact this

set_option maxHeartbeats 1000000 in
set_option maxRecDepth 20000 in
theorem overwrite_any (v : Value) (l : List UInt8) (a : Nat) (d : ByteArray) (w : World) (h : Bys w v l) (hl : l.length ≤ 100000000) (ha : a + d.size ≤ 100000000) :
    Calls Tryd.prog 40 #[v, .int .i64 a, .string d] w fun e w' => ∃ v', e = .returned v' ∧ Bys w' v' (overL l a d.data.toList) ∧ w.grownBy w' v.ownBlock ∧ (v'.ownBlock = v.ownBlock ∨ v'.ownBlock = some w.heap.size) := by
  have hdl : d.data.toList.length = d.size := Array.length_toList
  by_cases h0 : d = ⟨#[]⟩
  · subst h0
    have HR := Lib.hid (show overL l a (ByteArray.mk #[]).data.toList = l by rw [overL, if_pos rfl])
    have H := Lib.hid h; clear h hdl
    go_enter Tryd.func40, Tryd.ntmps40
    go_wp2
    go_ret
    exact ⟨_, rfl, by rw [HR.out]; exact H.out, grown_refl _ _, .inl rfl⟩
  · have hd0 : d.data.toList ≠ [] := fun e => h0 (by obtain ⟨⟨x⟩⟩ := d; simp at e; rw [e])
    have hpos : 0 < d.size := by rw [← hdl]; exact List.length_pos_iff.2 hd0
    obtain ⟨M, hM⟩ : ∃ M, M = max l.length (a + d.size) := ⟨_, rfl⟩
    have hMb : a + d.size ≤ M ∧ l.length ≤ M ∧ M ≤ 100000000 := by omega
    have HO := Lib.hid (show overL l a d.data.toList = (resizeL l M).take a ++ (d.data.toList ++ (resizeL l M).drop (a + d.size)) by rw [overL, if_neg hd0, hdl, ← hM])
    have hc := resize_any v l M w h (by omega) (by omega)
    have HC := Lib.hid hc
    obtain ⟨al, cap0, rfl, hc0⟩ := bys_slice h
    obtain ⟨k, hk⟩ : ∃ k, k = l.length := ⟨_, rfl⟩
    rw [← hk] at hc0 hMb hl hM
    have HK := Lib.hid hk; have HM := Lib.hid hM
    rw [← hk]
    rw [← hk] at HC
    have hmax : max (k : Int) ((a : Int) + (d.size : Int)) = (M : Int) := by rw [hM]; omega
    clear hc h hk hM hd0 hdl
    obtain ⟨m1, m2, m3⟩ := hMb
    have e1 : wrap64 ((a : Int) + (d.size : Int)) = (a : Int) + (d.size : Int) := by unfold wrap64; omega
    have hne : d.toList.isEmpty = false := by
      cases hq : d.toList with
      | nil => exfalso; apply h0; have : d.data.toList = [] := by rw [← ByteArray.toList_eq]; exact hq
               obtain ⟨⟨x⟩⟩ := d; simp at this; rw [this]
      | cons _ _ => rfl
    clear h0
    go_enter Tryd.func40, Tryd.ntmps40
    go_wp2_with (go_at_call 41; with_reducible refine HC.out.mono ?_; rintro e w1 ⟨v1, rfl, hb1, hg1, ho1⟩
                 obtain ⟨g, cap, cur, rfl, c1, hg, c2, c3, c4⟩ := bys_at hb1 (resizeL_len l M) (by omega)
                 have hcp := run_copy_string (P := Tryd.prog) w1 30 9 3 5 g a (M - a) (cap - a) d cur 5 (by kernel_rfl) u8_size hg.out (by omega) (by omega)
                 have HG1 := Lib.hid hg1; have HO1 := Lib.hid ho1; clear hg1 ho1 hb1)
    go_ret
    refine ⟨_, rfl, ?_, ?_, HO1.out⟩
    · rw [HO.out]
      have hz := bys_over (a := a) hg.out (by rw [resizeL_len]; exact c1) c2.out c3 c4.out d (by rw [resizeL_len]; exact m1)
      rw [resizeL_len] at hz
      exact hz
    · refine grown_then HG1.out (setRow_grown _ _ _) (fun j hj => ?_)
      obtain rfl : g = j := by simpa using hj
      rcases HO1.out with h | h
      · exact .inr h.symm
      · exact .inl (by have : g = w.heap.size := by simpa [Value.ownBlock] using h
                       omega)
end Go.Proofs.YtcpkbklnlnoonaaDoor
