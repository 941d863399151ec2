/-
  Layer 12, what both laws share: great, ints, works. Conditions: the slice of operations lies in memory.
-/
import Derived.Test.YtkpgekfejfbpjaaCcLaw0
namespace Go.Proofs.Ytkpgekfejfbpjaa
open Go.RowKit
variable {w w' : World}

structure OpC where
  kind : Int
  n : Int
  data : ByteArray
structure OpCOk (o : OpC) : Prop where
  k1 : -9223372036854775808 ≤ o.kind
  k2 : o.kind ≤ 9223372036854775807
  n1 : -9223372036854775808 ≤ o.n
  n2 : o.n ≤ 9223372036854775807
  dz : o.data.size ≤ 1152921504606846976
def OpsC (w : World) (a : Option Addr) (l : List OpC) : Prop := ∀ j (h : j < l.length), OpCOk l[j] ∧ ∃ g off, a = some ⟨g, off, none⟩ ∧ g < w.heap.size ∧
  w.cell? ⟨g, off + j * 3, none⟩ = some (.int .i64 l[j].kind) ∧ w.cell? ⟨g, off + j * 3 + 1, none⟩ = some (.int .i64 l[j].n) ∧ w.cell? ⟨g, off + j * 3 + 2, none⟩ = some (.string l[j].data)
theorem opsC_below {a : Option Addr} {l : List OpC} {B : Nat} (h : OpsC w a l) (hB : w.heap.size ≤ B) (hb : Below B w w') : OpsC w' a l := by
  intro j hj
  obtain ⟨h1, g, off, e, hlt, c⟩ := h j hj
  have hb' := hb.mono hB
  refine ⟨h1, g, off, e, Nat.lt_of_lt_of_le hlt hb.size, ?_⟩
  rw [hb'.cell hlt, hb'.cell hlt, hb'.cell hlt]
  exact c
def GrtC (l : List OpC) : Prop := l.length ≤ 101 ∧ ∀ o, o ∈ l → o.data.size ≤ 1000
theorem grtC_snoc {l : List OpC} {k : Nat} (hk : k < l.length) (h : ∀ o, o ∈ l.take k → o.data.size ≤ 1000) (ho : l[k].data.size ≤ 1000) : ∀ o, o ∈ l.take (k + 1) → o.data.size ≤ 1000 := by
  rw [List.take_succ_eq_append_getElem hk]
  intro o hm
  rcases List.mem_append.1 hm with hm | hm
  · exact h o hm
  · rw [List.mem_singleton.1 hm]; exact ho

def GrtQ (P : Prop) (w : World) (e : Ending) (w' : World) : Prop := ∃ g : Bool, e = .returned (.bool g) ∧ (g = false → P) ∧ w = w'
set_option maxRecDepth 100000 in
set_option maxHeartbeats 1000000 in
theorem cgreat_any (a : Option Addr) (cap : Nat) (l : List OpC) (w : World) (hl : l.length ≤ 9223372036854775807) (ha : OpsC w a l) :
    Calls Try.prog 6 #[.slice a l.length cap] w (GrtQ (GrtC l) w) := by
  obtain ⟨len, hlen⟩ : ∃ len, len = l.length := ⟨_, rfl⟩
  obtain ⟨P, hP⟩ : ∃ P : Prop, P = GrtC l := ⟨_, rfl⟩
  rw [← hlen] at hl ⊢
  rw [← hP]
  have HP := Lib.hid hP
  have HA := Lib.hid ha; clear ha hP
  have HL := Lib.hid hlen; clear hlen
  go_enter Try.func6, Try.ntmps6
  go_wp2
  go_loop [3] (fun i => ∃ k : Nat, k ≤ len ∧ k ≤ 101 ∧ i = .int .i64 k ∧ Hid (∀ o, o ∈ l.take k → o.data.size ≤ 1000)) (fun i => len - (intOf i).toNat)
  case atStart => exact ⟨0, by omega, by omega, rfl, Lib.hid (fun o ho => absurd ho (by simp))⟩
  case round =>
    obtain ⟨k, hk, hk1, rfl, hok⟩ := hrel
    by_cases hlt : k < len
    · have hlt' : k < l.length := by have := HL.out; omega
      obtain ⟨hoo, g, off, rfl, hgw, -, -, c2⟩ := HA.out k hlt'
      have HS := Lib.hid (fun h => grtC_snoc hlt' hok.out h)
      have hdz := hoo.dz
      clear hoo
      generalize l[k].data = dt at *
      have i1 : (k : Int) < len := by omega
      have i2 : ¬ (k : Int) < 0 := by omega
      by_cases h60 : 100 < k
      · have t1 : decide ((100 : Int) < k) = true := decide_eq_true (by omega)
        clear HS
        go_wp2
        go_ret
        exact ⟨true, rfl, fun h => absurd h (by decide), rfl⟩
      · have t1 : decide ((100 : Int) < k) = false := decide_eq_false (by omega)
        by_cases h5 : 1000 < dt.size
        · have t2 : decide ((1000 : Int) < dt.size) = true := decide_eq_true (by omega)
          have t3 : (1000 : Int) < dt.size := by omega
          clear HS
          go_wp2
          go_ret
          exact ⟨true, rfl, fun h => absurd h (by decide), rfl⟩
        · have t2 : decide ((1000 : Int) < dt.size) = false := decide_eq_false (by omega)
          have t3 : ¬ (1000 : Int) < dt.size := by omega
          have HN := Lib.hid (HS.out (by omega))
          clear HS
          go_wp2
          go_round
          case rel => exact ⟨k + 1, by omega, by omega, by go_num, HN⟩
          case measure => simp [intOf]; omega
    · have hz : P := by
        rw [HP.out]
        have := HL.out
        refine ⟨by omega, fun o ho => hok.out o ?_⟩
        rw [List.take_of_length_le (by omega)]; exact ho
      have HPP := Lib.hid hz
      have i1 : ¬ (k : Int) < len := by omega
      go_wp2
      go_ret
      exact ⟨false, rfl, fun _ => HPP.out, rfl⟩
theorem drewN_two (w : World) (a b : Nat) : (w.drewN a).drewN b = w.drewN (a + b) := by simp [World.drewN, Nat.add_assoc]
theorem int_cells {b : Nat} {v : Value} {l : List Int} (h : w.ownsRow b 3 1 v l.length (l.map intC)) : ∃ a cap, v = .slice a l.length cap ∧ ∀ k (hk : k < l.length), ∃ g, a = some ⟨g, 0, none⟩ ∧ w.cell? ⟨g, k, none⟩ = some (.int .i64 l[k]) := by
  obtain ⟨a, cap, rfl, -, hc⟩ := row_form h
  refine ⟨a, cap, rfl, fun k hk => ?_⟩
  rcases hc with ⟨h0, -⟩ | ⟨g, rfl, -, -, hc, -⟩
  · omega
  · exact ⟨g, rfl, hc k _ (by rw [List.getElem?_map, List.getElem?_eq_getElem hk]; rfl)⟩

set_option maxHeartbeats 1000000 in
/-- The same ints. -/
theorem cints_any {b1 b2 : Nat} {v1 v2 : Value} {l : List Int} (h1 : w.ownsRow b1 3 1 v1 l.length (l.map intC)) (h2 : w.ownsRow b2 3 1 v2 l.length (l.map intC)) (hl : l.length ≤ 1000000) :
    Calls Try.prog 18 #[v1, v2] w fun e w' => e = .returned (.bool true) ∧ ∃ n, w' = w.drewN n := by
  obtain ⟨a1, c1, rfl, hc1⟩ := int_cells h1
  obtain ⟨a2, c2, rfl, hc2⟩ := int_cells h2
  have H1 := Lib.hid hc1; have H2 := Lib.hid hc2
  clear h1 h2 hc1 hc2
  obtain ⟨len, hlen⟩ : ∃ len, len = l.length := ⟨_, rfl⟩
  rw [← hlen] at hl ⊢
  have HL := Lib.hid hlen; clear hlen
  go_enter Try.func18, Try.ntmps18
  go_wp2
  go_loopw [5] (fun i wr => ∃ k : Nat, k ≤ len ∧ i = .int .i64 k ∧ Hid (∃ n, wr = w.drewN n)) (fun i _ => len - (intOf i).toNat)
  case atStart => exact ⟨0, Nat.zero_le _, rfl, Lib.hid ⟨0, rfl⟩⟩
  case round =>
    obtain ⟨k, hk, rfl, HN⟩ := hrel
    by_cases hlt : k < len
    · have hlt' : k < l.length := by have := HL.out; omega
      obtain ⟨g1, rfl, d1⟩ := H1.out k hlt'
      obtain ⟨g2, rfl, d2⟩ := H2.out k hlt'
      generalize l[k] = y at d1 d2
      have i1 : (k : Int) < len := by omega
      have i2 : ¬ (k : Int) < 0 := by omega
      obtain ⟨e1, e2⟩ : wr.cell? ⟨g1, k, none⟩ = some (.int .i64 y) ∧ wr.cell? ⟨g2, k, none⟩ = some (.int .i64 y) := by
        obtain ⟨n, rfl⟩ := HN.out
        exact ⟨d1, d2⟩
      clear d1 d2
      go_wp2
      go_quiet (fail)
      go_wp2
      go_roundw
      case rel => exact ⟨k + 1, by omega, by go_num, Lib.hid (by obtain ⟨n, e⟩ := HN.out; rw [e]; exact ⟨_, drewN_two _ _ _⟩)⟩
      case measure => simp [intOf]; omega
    · have i1 : ¬ (k : Int) < len := by omega
      go_wp2
      go_ret
      exact ⟨rfl, HN.out⟩
end Go.Proofs.Ytkpgekfejfbpjaa
