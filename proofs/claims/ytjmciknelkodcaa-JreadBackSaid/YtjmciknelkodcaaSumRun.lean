/-
  The two methods of a running checksum of layer 3: Add goes on with the bytes and changes the running checksum alone, and Sum returns the checksum so far; at nil they do nothing and return 0. Condition: the two numbers are below 65521; the string has at most 2^63 - 1 bytes.
-/
import Derived.Test.YtjmciknelkodcaaSumLeaf
namespace Go.Proofs.Ytjmciknelkodcaa
open Go.RowKit

theorem drop_at (s : ByteArray) (k : Nat) (h : k < s.size) : s.data.toList.drop k = s[k] :: s.data.toList.drop (k + 1) := by
  obtain ⟨⟨l⟩⟩ := s
  exact List.drop_eq_getElem_cons h
theorem drop_all (s : ByteArray) (k : Nat) (h : s.size ≤ k) : s.data.toList.drop k = [] := by
  obtain ⟨⟨l⟩⟩ := s
  exact List.drop_eq_nil_of_le h
theorem byte_bd (x : UInt8) : 0 ≤ (x.toNat : Int) ∧ (x.toNat : Int) ≤ 255 := by have := x.toNat_lt; omega
theorem tmod_pos {x : Int} (h : 0 ≤ x) : x.tmod 65521 = x % 65521 := Int.tmod_eq_emod_of_nonneg h

theorem stp_eq (x y : Int) (c : UInt8) : stp (x, y) c = ((x + (c.toNat : Int)) % 65521, (y + (x + (c.toNat : Int))) % 65521) := by
  unfold stp; simp only [Prod.mk.injEq, true_and]; omega
theorem row_two {w : World} {b : Nat} {p : Int × Int} {x y : Int} (h : w.rowIs b 118 2 (pair2 p)) : ((w.setCell ⟨b, 0, none⟩ (.int .i64 x)).setCell ⟨b, 1, none⟩ (.int .i64 y)).rowIs b 118 2 (pair2 (x, y)) := by
  refine ((h.set 0 _).set 1 _).congr fun j hj => ?_
  unfold pair2
  match j, hj with
  | 0, _ => rfl
  | 1, _ => rfl
theorem run_nil (w : World) : Calls Try.prog 64 #[.pointer none] w fun e w' => e = .returned (.int .i64 0) ∧ w = w' := by
  go_enter Try.func64, Try.ntmps64
  go_wp2
  go_ret
  exact ⟨rfl, rfl⟩
theorem add_nil (s : ByteArray) (w : World) : Calls Try.prog 63 #[.pointer none, .string s] w fun e w' => e = .returned (.tuple #[]) ∧ w = w' := by
  go_enter Try.func63, Try.ntmps63
  go_wp2
  go_returns
  exact ⟨rfl, rfl⟩

theorem run_any (b : Nat) (p : Int × Int) (w : World) (hr : w.rowIs b 118 2 (pair2 p)) (hp : InZ p) :
    Calls Try.prog 64 #[.pointer (some ⟨b, 0, none⟩)] w fun e w' => e = .returned (.int .i64 (endZ p)) ∧ (∀ B, Below B w w') ∧ w'.heap = w.heap := by
  have c0 := hr.cell (i := 0) (by decide)
  have c1 := hr.cell (i := 1) (by decide)
  obtain ⟨x, y⟩ := p
  obtain ⟨h0, h1, h2, h3⟩ := hp
  simp only [pair2, if_pos, if_neg, Nat.one_ne_zero, if_true, if_false] at c0 c1 h0 h1 h2 h3
  clear hr
  go_enter Try.func64, Try.ntmps64
  go_wp2
  go_quiet (fail)
  go_wp2
  go_ret
  exact ⟨ret_int (by simp only [endZ]), fun B => ⟨rfl, rfl, rfl, Nat.le_refl _, fun _ _ => rfl⟩, rfl⟩

set_option maxHeartbeats 2000000 in
set_option maxRecDepth 100000 in
theorem add_any (b : Nat) (p : Int × Int) (s : ByteArray) (hs : s.size ≤ 9223372036854775807) (w : World) (hr : w.rowIs b 118 2 (pair2 p)) (hp : InZ p) :
    Calls Try.prog 63 #[.pointer (some ⟨b, 0, none⟩), .string s] w fun e w' => e = .returned (.tuple #[]) ∧ w'.rowIs b 118 2 (pair2 (adl p s.data.toList)) ∧ Below b w w' ∧ w'.heap.size = w.heap.size := by
  obtain ⟨r, hr'⟩ : ∃ r, r = adl p s.data.toList := ⟨_, rfl⟩
  rw [← hr']
  have HR := Lib.hid hr'; have HW := Lib.hid hr; have HP := Lib.hid hp; clear hr' hr hp
  go_enter Try.func63, Try.ntmps63
  go_wp2
  go_loopw [9] (fun i wr => ∃ (k : Nat) (x y : Int), k ≤ s.size ∧ i = .int .i64 k ∧ 0 ≤ x ∧ x < 65521 ∧ 0 ≤ y ∧ y < 65521 ∧ Hid (wr.rowIs b 118 2 (pair2 (x, y))) ∧ Hid (r = adl (x, y) (s.data.toList.drop k)) ∧ Hid (Below b w wr) ∧ Hid (wr.heap.size = w.heap.size)) (fun i _ => s.size - (intOf i).toNat)
  case atStart => exact ⟨0, p.1, p.2, by omega, rfl, HP.out.1, HP.out.2.1, HP.out.2.2.1, HP.out.2.2.2, HW, HR, Lib.hid (Below.refl _ _), Lib.hid rfl⟩
  case round =>
    obtain ⟨k, x, y, hk, rfl, hx0, hx1, hy0, hy1, hw, hI, hB, hz⟩ := hrel
    by_cases hlt : k < s.size
    · have hc := byte_bd s[k]
      have HD := Lib.hid (drop_at s k hlt)
      have c0 := hw.out.cell (i := 0) (by decide)
      have c1 := hw.out.cell (i := 1) (by decide)
      have f0 := hw.out.frozen 0
      have f1 := hw.out.frozen 1
      simp only [pair2, if_pos, if_neg, Nat.one_ne_zero, if_true, if_false] at c0 c1
      obtain ⟨hc0, hc1⟩ := hc
      have e1 := tmod_pos (x := x + ((s[k]).toNat : Int)) (by omega)
      have e2 := tmod_pos (x := y + (x + ((s[k]).toNat : Int)) % 65521) (by omega)
      go_wp2
      go_region
      go_wp2
      go_region
      go_wp2
      go_roundw
      case rel => exact ⟨k + 1, (x + ((s[k]).toNat : Int)) % 65521, (y + (x + ((s[k]).toNat : Int))) % 65521, by omega, by go_num, by omega, by omega, by omega, by omega, Lib.hid ((row_two hw.out).drew.drew), Lib.hid (by rw [hI.out, HD.out, adl_cons, stp_eq]), Lib.hid (((hB.out.setCell (p := ⟨b, 0, none⟩) (Nat.le_refl _) _).setCell (p := ⟨b, 1, none⟩) (Nat.le_refl _) _).drew.drew), Lib.hid (by rw [← hz.out]; simp [World.setCell])⟩
      case measure => simp [intOf]; omega
    · go_wp2
      go_end0
      exact ⟨rfl, by rw [hI.out, drop_all s k (by omega)]; exact hw.out, hB.out, hz.out⟩
end Go.Proofs.Ytjmciknelkodcaa
