/-
  figure.Unquote: it returns the string that a string literal denotes, or the error that the chapter names ('unqR'), and changes nothing that was there. Condition: the string is no longer than the model's greatest length.
-/
import Derived.Test.YtoeohliniecniaaDoorFigUnd
import Derived.Laws.DeepStrings4
import Derived.Lib.Strings
namespace Go.Proofs.YtoeohliniecniaaDoor
open Go.RowKit Go.Shelf

def mid (l : List UInt8) : List UInt8 := (l.drop 1).take (l.length - 2)
def unqR (l : List UInt8) : List UInt8 × Int :=
  if l.length < 2 then ([], 1) else if l.headD 0 = 39 ∧ l.getLastD 0 = 39 then undR (mid l) else ([], 4)
theorem head_at {s : ByteArray} (h : 0 < s.size) : s.data.toList.headD 0 = s[0] := by
  obtain ⟨⟨l⟩⟩ := s
  cases l with
  | nil => exact absurd h (Nat.lt_irrefl 0)
  | cons a t => rfl
theorem last_at {s : ByteArray} (h : 0 < s.size) : s.data.toList.getLastD 0 = s[s.size - 1]'(by omega) := by
  obtain ⟨⟨l⟩⟩ := s
  show l.getLastD 0 = l[l.length - 1]'(by have : 0 < l.length := h; omega)
  cases l with
  | nil => exact absurd h (Nat.lt_irrefl 0)
  | cons a t => rw [← List.getLast_eq_getElem (l := a :: t) (by simp), List.getLast_eq_getLastD, List.getLastD_cons]
theorem ne39 {x : UInt8} (h : x = 39) : ((x.toNat : Int) != 39) = false := by rw [h]; rfl
theorem ne39' {x : UInt8} (h : ¬ x = 39) : ((x.toNat : Int) != 39) = true := bne_iff_ne.2 fun e => h (UInt8.toNat_inj.1 (Int.ofNat.inj e))

set_option maxRecDepth 100000 in
set_option maxHeartbeats 1000000 in
theorem unq_yes (s : ByteArray) (w : World) (hs : s.size ≤ 140737488351232) (h2 : 2 ≤ s.size) (t1 : (((s[0]'(by omega)).toNat : Int) != 39) = false) (t2 : (((s[s.size - 1]'(by omega)).toNat : Int) != 39) = false) :
    Calls Tryd.prog 19 #[.string s] w fun e w' => e = .returned (.tuple #[.string ⟨(undR (mid s.data.toList)).1.toArray⟩, .int .i64 (undR (mid s.data.toList)).2]) ∧ Below w.heap.size w w' := by
  have HM := Lib.hid (show (s.extract 1 (s.size - 1)).data.toList = mid s.data.toList by
    rw [Lib.extract_data, mid, show s.data.toList.length - 2 = s.size - 1 - 1 by simp; omega])
  go_enter Tryd.func19, Tryd.ntmps19
  go_wp2_with (go_at_call 37; refine (callsIn_wide.1 (und_in _ _ (by simp; omega))).mono ?_; rintro e w' ⟨rfl, hb⟩; rw [HM.out])
  go_ret2
  exact ⟨rfl, hb⟩

set_option maxHeartbeats 1000000 in
theorem unq_no (s : ByteArray) (w : World) (hs : s.size ≤ 140737488351232) (h2 : 2 ≤ s.size) (h : (((s[0]'(by omega)).toNat : Int) != 39) = true ∨ ((((s[0]'(by omega)).toNat : Int) != 39) = false ∧ (((s[s.size - 1]'(by omega)).toNat : Int) != 39) = true)) :
    Calls Tryd.prog 19 #[.string s] w fun e w' => e = .returned (.tuple #[.string ⟨#[]⟩, .int .i64 4]) ∧ w = w' := by
  rcases h with t1 | ⟨t1, t2⟩
  · go_enter Tryd.func19, Tryd.ntmps19
    go_wp2
    go_ret2
    exact ⟨rfl, rfl⟩
  · go_enter Tryd.func19, Tryd.ntmps19
    go_wp2
    go_ret2
    exact ⟨rfl, rfl⟩

theorem unq_short (s : ByteArray) (w : World) (h2 : s.size < 2) :
    Calls Tryd.prog 19 #[.string s] w fun e w' => e = .returned (.tuple #[.string ⟨#[]⟩, .int .i64 1]) ∧ w = w' := by
  go_enter Tryd.func19, Tryd.ntmps19
  go_wp2
  go_ret2
  exact ⟨rfl, rfl⟩

theorem unq_any (s : ByteArray) (w : World) (hs : s.size ≤ 140737488351232) :
    Calls Tryd.prog 19 #[.string s] w fun e w' => e = .returned (.tuple #[.string ⟨(unqR s.data.toList).1.toArray⟩, .int .i64 (unqR s.data.toList).2]) ∧ Below w.heap.size w w' := by
  have hlen : s.data.toList.length = s.size := by simp
  by_cases h2 : s.size < 2
  · refine (unq_short s w h2).mono fun e w' ⟨he, hw⟩ => ⟨?_, hw ▸ Below.refl _ _⟩
    rw [he, unqR, if_pos (by omega)]
  · have h0 : 0 < s.size := by omega
    by_cases h : s.data.toList.headD 0 = 39 ∧ s.data.toList.getLastD 0 = 39
    · have h' := h
      rw [head_at h0, last_at h0] at h'
      refine (unq_yes s w hs (by omega) (ne39 h'.1) (ne39 h'.2)).mono fun e w' ⟨he, hw⟩ => ⟨?_, hw⟩
      rw [he, unqR, if_neg (by omega), if_pos h]
    · have h' := h
      rw [head_at h0, last_at h0] at h'
      refine (unq_no s w hs (by omega) ?_).mono fun e w' ⟨he, hw⟩ => ⟨?_, hw ▸ Below.refl _ _⟩
      · by_cases k : s[0] = 39
        · exact .inr ⟨ne39 k, ne39' fun k' => h' ⟨k, k'⟩⟩
        · exact .inl (ne39' k)
      · rw [he, unqR, if_neg (by omega), if_neg h]
end Go.Proofs.YtoeohliniecniaaDoor
