/-
  The document's answer Fold of layer 1: it returns the string with small letters in place of capital ones ('foldL') and changes nothing that was there. Condition: the string has at most 30000 bytes.
-/
import Derived.Test.YtadbmjmikoggbaaFigRefName
import Derived.Laws.IdiomStrings
namespace Go.Proofs.Ytadbmjmikoggbaa
open Go.RowKit

theorem ret_str {a b : ByteArray} (h : a = b) : Ending.returned (.string a) = .returned (.string b) := by rw [h]
/-- Between two rounds: the first k bytes are folded. -/
def midB (s : ByteArray) (k j : Nat) : Int := if j < k then lowI (s.get! j).toNat else (s.get! j).toNat
theorem midB_at (s : ByteArray) (k : Nat) : midB s k k = (s.get! k).toNat := by simp [midB]
theorem get_bd (s : ByteArray) (k : Nat) : 0 ≤ ((s.get! k).toNat : Int) ∧ ((s.get! k).toNat : Int) ≤ 255 := byte_bd _
structure FoldI (s : ByteArray) (w : World) (k : Nat) (wr : World) : Prop where
  cell : ∀ j, j < s.size → wr.cell? ⟨w.heap.size, j, none⟩ = some (.int .u8 (midB s k j))
  free : ∀ j, j < s.size → wr.frozen? ⟨w.heap.size, j, none⟩ = false
  below : Below w.heap.size w wr
theorem foldI_step {s : ByteArray} {w wr : World} {k : Nat} (h : FoldI s w k wr) (hk : k < s.size) : FoldI s w (k + 1) (wr.setCell ⟨w.heap.size, k, none⟩ (.int .u8 (lowI (s.get! k).toNat))) := by
  refine ⟨fun j hj => ?_, fun j hj => ?_, h.below.setCell (p := ⟨w.heap.size, k, none⟩) (Nat.le_refl _) _⟩
  · by_cases e : j = k
    · subst e
      rw [World.cell?_setCell_same' _ _ _ (by rw [h.cell j hj]; rfl)]
      simp [midB]
    · rw [World.cell?_setCell_other (a := ⟨w.heap.size, k, none⟩) (b := ⟨w.heap.size, j, none⟩) (h := by intro e'; cases e'; exact e rfl), h.cell j hj]
      unfold midB
      by_cases h1 : j < k
      · rw [if_pos h1, if_pos (by omega)]
      · rw [if_neg h1, if_neg (by omega)]
  · rw [World.frozen?_setCell]; exact h.free j hj
theorem foldI_same {s : ByteArray} {w wr : World} {k : Nat} (h : FoldI s w k wr) (hl : lowI (s.get! k).toNat = (s.get! k).toNat) : FoldI s w (k + 1) wr := by
  refine ⟨fun j hj => ?_, h.free, h.below⟩
  rw [h.cell j hj]
  unfold midB
  by_cases h1 : j < k
  · rw [if_pos h1, if_pos (by omega)]
  · by_cases e : j = k
    · subst e; rw [if_neg (by omega), if_pos (by omega), hl]
    · rw [if_neg h1, if_neg (by omega)]

set_option maxRecDepth 100000 in
set_option maxHeartbeats 2000000 in
theorem rfold_any (s : ByteArray) (w : World) (hs : s.size ≤ 30000) :
    Calls Try.prog 51 #[.string s] w fun e w' => e = .returned (.string ⟨(foldL s.data.toList).toArray⟩) ∧ Below w.heap.size w w' := by
  have hrun := run_bytes_of_string (P := Try.prog) w 9 65 5 s Try.underlying9 Try.underlying65 Try.underlying5
  obtain ⟨cap, hcap⟩ : ∃ cap, cap = grownCap w s.size 0 5 := ⟨_, rfl⟩
  rw [← hcap] at hrun
  obtain ⟨W1, hW1⟩ : ∃ W1, W1 = w.drew.alloc (.cells (bytesRow s cap) 5 ((bytesRow s cap).size, (bytesRow s cap).size + 1)) := ⟨_, rfl⟩
  rw [← hW1] at hrun
  have hI : FoldI s w 0 W1 := by
    have hsz : s.size ≤ (bytesRow s cap).size := by simp [bytesRow]
    refine ⟨fun j hj => ?_, fun j hj => ?_, ?_⟩
    · rw [hW1]
      have e := World.cell?_alloc_mark w.drew (bytesRow s cap) 5 ((bytesRow s cap).size, (bytesRow s cap).size + 1) j
      refine e.trans ((bytesRow_at s cap j hj).trans ?_)
      have : s.get! j = s.data[j]'hj := by
        obtain ⟨d⟩ := s
        show d[j]! = d[j]
        rw [getElem!_pos d j hj]
      simp [midB, this]
    · rw [hW1]
      refine (World.frozen?_alloc_mark w.drew (bytesRow s cap) 5 _ _ j).trans ?_
      simp; intro h; omega
    · rw [hW1]
      exact ((Below.refl _ w).drew).alloc (Nat.le_refl _) _
  clear hcap hW1
  have HI := Lib.hid hI; clear hI
  go_enter Try.func51, Try.ntmps51
  go_wp2
  go_loopw [4] (fun i wr => ∃ k : Nat, k ≤ s.size ∧ i = .int .i64 k ∧ Hid (FoldI s w k wr)) (fun i _ => s.size - (intOf i).toNat)
  case atStart => exact ⟨0, Nat.zero_le _, rfl, HI⟩
  case round =>
    obtain ⟨k, hk, rfl, hI⟩ := hrel
    clear hrun
    by_cases hlt : k < s.size
    · have hc := hI.out.cell k hlt
      have hf := hI.out.free k hlt
      rw [midB_at] at hc
      have hb := get_bd s k
      obtain ⟨c, hcc⟩ : ∃ c : Int, c = ((s.get! k).toNat : Int) := ⟨_, rfl⟩
      rw [← hcc] at hc hb
      have HC := Lib.hid hcc; clear hcc
      by_cases h1 : 65 ≤ c
      · by_cases h2 : c ≤ 90
        · have HL := Lib.hid (show c + 32 = lowI (s.get! k).toNat by rw [← HC.out, low_hi ⟨h1, h2⟩])
          go_wp2
          go_roundw
          case rel => exact ⟨k + 1, by omega, by go_num, Lib.hid (by rw [HL.out]; exact foldI_step hI.out hlt)⟩
          case measure => simp [intOf]; omega
        · have HL := Lib.hid (show lowI (s.get! k).toNat = (s.get! k).toNat by rw [← HC.out, low_eq (by omega)])
          go_wp2
          go_roundw
          case rel => exact ⟨k + 1, by omega, by go_num, Lib.hid (foldI_same hI.out HL.out)⟩
          case measure => simp [intOf]; omega
      · have HL := Lib.hid (show lowI (s.get! k).toNat = (s.get! k).toNat by rw [← HC.out, low_eq (by omega)])
        go_wp2
        go_roundw
        case rel => exact ⟨k + 1, by omega, by go_num, Lib.hid (foldI_same hI.out HL.out)⟩
        case measure => simp [intOf]; omega
    · have hle : (foldL s.data.toList).length = s.size := by rw [foldL_length]; simp
      have hb := run_convert_bytes_back (P := Try.prog) wr 65 9 5 ⟨w.heap.size, 0, none⟩ cap (foldL s.data.toList) Try.underlying65 Try.underlying5 Try.underlying9 (fun j hj => by
        rw [hle] at hj
        have e := hI.out.cell j hj
        obtain rfl : k = s.size := by omega
        rw [midB, if_pos hj] at e
        have e2 : ((foldL s.data.toList)[j]'(by rw [hle]; exact hj)) = lowU (s.get! j) := by
          have : s.get! j = s.data[j]'hj := by
            obtain ⟨d⟩ := s
            show d[j]! = d[j]
            rw [getElem!_pos d j hj]
          simp [foldL, this]
        rw [e2, lowU_toNat]
        rw [Addr.add_lit, Nat.zero_add]; exact e)
      rw [hle] at hb
      obtain ⟨r, hr⟩ : ∃ r : ByteArray, r = ⟨(foldL s.data.toList).toArray⟩ := ⟨_, rfl⟩
      rw [← hr] at hb
      have HR := Lib.hid hr; clear hr
      go_wp2
      go_ret
      exact ⟨ret_str HR.out, hI.out.below⟩
end Go.Proofs.Ytadbmjmikoggbaa
