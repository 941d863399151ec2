/-
  Layer 7: works: a disk that is new, a file that is created, written, synced and, its path not synced, lost at a restart. Condition: none.
  Layer 7: the steps of DiskDoes and DiskSure as an argument (a slice of structures, each with a slice of ints), and the helper great: where it says false there are at most 61 steps, each with at most 5000 bytes, and a place within 20000 or beyond 4000000; it changes nothing. Condition: sizes of at most 2^62.
  What the rows of DiskDoes and DiskSure share: a slice of steps as an argument, opened to what the walks ask.
-/
import Derived.Deep.Slices
import Derived.ChangeSlices
import Derived.Test.YtkfncnpeockiaaaGreatDoorMg9
import Derived.Test.YtkfncnpeockiaaaGreatDoorMg4
namespace Go.Proofs.YtkfncnpeockiaaaGreatDoor
open Go.RowKit
variable {L : Loc} {ρ ρ' : Nat → Option Role} {n : Nat} {S : DS} {w w' : World}

/-- A disk of our own, made above all that was there. -/
structure Own (w : World) (b n : Nat) (S : DS) (v : World) : Prop where
  ex : ∃ L ρ, Inv L ρ n S v ∧ L.b = b ∧ ∀ k, k < w.heap.size → ρ k = none
  below : Below w.heap.size w v
theorem own_step {L L' : Loc} {ρ ρ' : Nat → Option Role} {m : Nat} {S' : DS} {v v' : World} {b : Nat} (hb : L.b = b) (hr : ∀ k, k < w.heap.size → ρ k = none) (hB : Below w.heap.size w v) (hI : Inv L' ρ' m S' v') (hS : Step L ρ v L' ρ' v') : Own w b m S' v' :=
  ⟨⟨L', ρ', hI, hS.b.trans hb, fun k hk => (hS.ro k (Nat.lt_of_lt_of_le hk hB.size)).trans (hr k hk)⟩,
   ⟨hS.os.trans hB.os, hS.tape.trans hB.tape, hS.output.trans hB.output, Nat.le_trans hB.size hS.size, fun k hk => (hS.blk k (Nat.lt_of_lt_of_le hk hB.size) (hr k hk)).trans (hB.block k hk)⟩⟩
theorem own_below {b : Nat} {v v' : World} (h : Own w b n S v) (hb : Below v.heap.size v v') : Own w b n S v' := by
  obtain ⟨L, ρ, hI, hb', hr⟩ := h.ex
  exact ⟨⟨L, ρ, hI.below hb, hb', hr⟩, h.below.trans (hb.mono h.below.size)⟩
theorem own_new (r : Int) (w : World) : Calls Tryz.prog 8 #[.int .i64 r] w fun e w' => e = .returned (.pointer (some ⟨w.heap.size, 0, none⟩)) ∧ Own w w.heap.size 0 (newS r) w' :=
  (new_any r w).mono fun _ _ ⟨he, hI, hB⟩ => ⟨he, ⟨⟨_, _, hI, rfl, fun k hk => by unfold newR; rw [if_neg (Nat.ne_of_lt hk)]⟩, hB⟩⟩
/-- A counted call's answer and the disk behind it. -/
def OwnQ (w : World) (b : Nat) (r : Int × DS) (N : Nat) (e : Ending) (w' : World) : Prop := ∃ m, e = .returned (.int .i64 r.1) ∧ Own w b m r.2 w' ∧ m ≤ N
theorem own_out {v : World} {b : Nat} {r : Int × DS} {N : Nat} {e : Ending} {w' : World} {L : Loc} {ρ : Nat → Option Role} (hb : L.b = b) (hr : ∀ k, k < w.heap.size → ρ k = none) (hB : Below w.heap.size w v) (h : OutQ L ρ v r N e w') : OwnQ w b r N e w' := by
  obtain ⟨L', ρ', n', he, hI, hS, hn⟩ := h
  exact ⟨n', he, own_step hb hr hB hI hS, hn⟩
theorem own_create {b : Nat} {v : World} (h : Own w b n S v) (p : ByteArray) (hp : p.size ≤ 1000000) (hd : S.down = false) (hfl : S.flt (S.ops + 1) = 0) (hn : n + 3 ≤ 100000) :
    Calls Tryz.prog 22 #[.pointer (some ⟨b, 0, none⟩), .string p] v (OwnQ w b (createZ S p.data.toList) (n + 3)) := by
  obtain ⟨L, ρ, hI, rfl, hr⟩ := h.ex
  exact (create_any p hp hI hd hfl hn).mono fun _ _ hq => own_out rfl hr h.below hq
theorem own_write {b : Nat} {v : World} (h : Own w b n S v) (p : ByteArray) (hp : p.size ≤ 1000000) (o : Int) (ho1 : -9223372036854775808 ≤ o) (ho2 : o ≤ 9223372036854775807) (d : ByteArray) (hd' : d.size ≤ 4611686018427387904) (hk : ((S.dirs false).map (·.1)).Nodup) (hd : S.down = false) (hfl : S.flt (S.ops + 1) = 0) (hn : n + 3 ≤ 100000) :
    Calls Tryz.prog 24 #[.pointer (some ⟨b, 0, none⟩), .string p, .int .i64 o, .string d] v (OwnQ w b (writeZ S p.data.toList o d.data.toList) (n + 3)) := by
  obtain ⟨L, ρ, hI, rfl, hr⟩ := h.ex
  exact (write_any p hp o ho1 ho2 d hd' hI hk hd hfl hn).mono fun _ _ hq => own_out rfl hr h.below hq
theorem own_sync {b : Nat} {v : World} (h : Own w b n S v) (p : ByteArray) (hp : p.size ≤ 1000000) (hd : S.down = false) (hfl : S.flt (S.ops + 1) = 0) (hn : n + S.pend.length + 2 ≤ 100000) :
    Calls Tryz.prog 14 #[.pointer (some ⟨b, 0, none⟩), .string p] v (OwnQ w b (syncZ S p.data.toList) (n + 1 + S.pend.length)) := by
  obtain ⟨L, ρ, hI, rfl, hr⟩ := h.ex
  exact (sync_any p hp hI hd hfl hn).mono fun _ _ hq => own_out rfl hr h.below hq
theorem own_content {b : Nat} {v : World} (h : Own w b n S v) (p : ByteArray) (hp : p.size ≤ 1000000) :
    Calls Tryz.prog 16 #[.pointer (some ⟨b, 0, none⟩), .string p] v fun e w' => e = .returned (.tuple #[.string (bz (contZ S p.data.toList)), .bool (hasZ S p.data.toList)]) ∧ w' = v := by
  obtain ⟨L, ρ, hI, rfl, hr⟩ := h.ex
  exact content_any hI p hp
theorem own_ops {b : Nat} {v : World} (h : Own w b n S v) : Calls Tryz.prog 26 #[.pointer (some ⟨b, 0, none⟩)] v fun e w' => e = .returned (.int .i64 S.ops) ∧ w' = v := by
  obtain ⟨L, ρ, hI, rfl, hr⟩ := h.ex
  exact ops_any hI
theorem own_rest0 {b : Nat} {v : World} (h : Own w b n S v) (hz : S.dirs true = []) :
    Calls Tryz.prog 17 #[.pointer (some ⟨b, 0, none⟩), .slice none 0 0] v fun e w' => e = .returned (.tuple #[]) ∧ Own w b n (restS S []) w' := by
  obtain ⟨L, ρ, hI, rfl, hr⟩ := h.ex
  exact (rest_zero hI hz).mono fun _ _ ⟨he, L', ρ', hI', hS, _⟩ => ⟨he, own_step rfl hr h.below hI' hS⟩

def wk1 : Int × DS := createZ (newS 1000) [97]
def wk2 : Int × DS := writeZ wk1.2 [97] 0 [120, 121]
def wk3 : Int × DS := syncZ wk2.2 [97]
theorem wk1_is : wk1.1 = 0 ∧ wk1.2.down = false ∧ wk1.2.flt (wk1.2.ops + 1) = 0 ∧ (wk1.2.dirs false).map (·.1) = [[97]] := ⟨rfl, rfl, rfl, rfl⟩
theorem wk2_is : wk2.1 = 0 ∧ wk2.2.down = false ∧ wk2.2.flt (wk2.2.ops + 1) = 0 ∧ wk2.2.pend.length = 2 := ⟨rfl, rfl, rfl, rfl⟩
theorem wk3_is : wk3.1 = 0 ∧ wk3.2.dirs true = [] ∧ contZ wk3.2 [97] = [120, 121] ∧ wk3.2.ops = 3 := ⟨rfl, rfl, rfl, rfl⟩

set_option maxHeartbeats 2000000 in
set_option maxRecDepth 100000 in
theorem works7_any (w : World) : Calls Tryz.prog 6 #[] w fun e w' => e = .returned (.bool true) ∧ Below w.heap.size w w' := by
  go_enter Tryz.func6, Tryz.ntmps6
  go_wp2_with fail
  refine (own_new 1000 _).mono ?_
  rintro e w1 ⟨rfl, h1⟩
  have H1 := Lib.hid h1; clear h1
  go_wp2_with fail
  refine (own_create H1.out ⟨#[97]⟩ (by decide) rfl rfl (by decide)).mono ?_
  rw [show createZ (newS 1000) (⟨#[97]⟩ : ByteArray).data.toList = wk1 from rfl]
  rintro e w2 ⟨m1, rfl, h2, hm1⟩
  have H2 := Lib.hid h2; clear h2
  rw [wk1_is.1]
  go_wp2_with fail
  refine (own_write H2.out ⟨#[97]⟩ (by decide) 0 (by decide) (by decide) ⟨#[120, 121]⟩ (by decide) (by rw [wk1_is.2.2.2]; decide) wk1_is.2.1 wk1_is.2.2.1 (by omega)).mono ?_
  rw [show writeZ wk1.2 (⟨#[97]⟩ : ByteArray).data.toList 0 (⟨#[120, 121]⟩ : ByteArray).data.toList = wk2 from rfl]
  rintro e w3 ⟨m2, rfl, h3, hm2⟩
  have H3 := Lib.hid h3; clear h3
  rw [wk2_is.1]
  go_wp2_with fail
  refine (own_sync H3.out ⟨#[97]⟩ (by decide) wk2_is.2.1 wk2_is.2.2.1 (by rw [wk2_is.2.2.2]; omega)).mono ?_
  rw [show syncZ wk2.2 (⟨#[97]⟩ : ByteArray).data.toList = wk3 from rfl]
  rintro e w4 ⟨m3, rfl, h4, hm3⟩
  have H4 := Lib.hid h4; clear h4
  rw [wk3_is.1]
  go_wp2_with fail
  refine (own_content H4.out ⟨#[97]⟩ (by decide)).mono ?_
  rw [show contZ wk3.2 (⟨#[97]⟩ : ByteArray).data.toList = [120, 121] from wk3_is.2.2.1, show bz [120, 121] = (⟨#[120, 121]⟩ : ByteArray) from rfl]
  rintro e w5 ⟨rfl, rfl⟩
  go_wp2_with fail
  refine (own_rest0 H4.out wk3_is.2.1).mono ?_
  rintro e w6 ⟨rfl, h6⟩
  have H6 := Lib.hid h6; clear h6
  go_wp2_with fail
  refine (own_content H6.out ⟨#[97]⟩ (by decide)).mono ?_
  rw [show contZ (restS wk3.2 []) (⟨#[97]⟩ : ByteArray).data.toList = [] from rfl, show hasZ (restS wk3.2 []) (⟨#[97]⟩ : ByteArray).data.toList = false from rfl, show bz [] = (⟨#[]⟩ : ByteArray) from rfl]
  rintro e w7 ⟨rfl, rfl⟩
  go_wp2_with fail
  refine (own_ops H6.out).mono ?_
  rw [show (restS wk3.2 []).ops = 3 from rfl]
  rintro e w8 ⟨rfl, rfl⟩
  go_wp2_with fail
  go_ret
  exact ⟨rfl, H6.out.below⟩
end Go.Proofs.YtkfncnpeockiaaaGreatDoor

namespace Go.Proofs.YtkfncnpeockiaaaGreatDoor
open Go.RowKit

structure OpL where
  kind : Int
  name : ByteArray
  n : Int
  m : Int
  data : ByteArray
  ch : List Int
  cha : Option Addr
  chc : Nat
/-- A slice of ints. -/
def Ints (w : World) (a : Option Addr) (l : List Int) : Prop := ∀ k (h : k < l.length), ∃ g o, a = some ⟨g, o, none⟩ ∧ g < w.heap.size ∧ w.cell? ⟨g, o + k, none⟩ = some (.int .i64 l[k])
structure OpOk (o : OpL) : Prop where
  k1 : -9223372036854775808 ≤ o.kind
  k2 : o.kind ≤ 9223372036854775807
  n1 : -9223372036854775808 ≤ o.n
  n2 : o.n ≤ 9223372036854775807
  m1 : -9223372036854775808 ≤ o.m
  m2 : o.m ≤ 9223372036854775807
  nz : o.name.size ≤ 1152921504606846976
  dz : o.data.size ≤ 1152921504606846976
  cz : o.ch.length ≤ 1152921504606846976
  cb : ∀ x, x ∈ o.ch → -9223372036854775808 ≤ x ∧ x ≤ 9223372036854775807
  cc : o.ch.length ≤ o.chc
/-- A slice of steps. -/
def Ops (w : World) (a : Option Addr) (l : List OpL) : Prop := ∀ j (h : j < l.length), OpOk l[j] ∧ Ints w l[j].cha l[j].ch ∧ ∃ g off, a = some ⟨g, off, none⟩ ∧ g < w.heap.size ∧
  w.cell? ⟨g, off + j * 6, none⟩ = some (.int .i64 l[j].kind) ∧ w.cell? ⟨g, off + j * 6 + 1, none⟩ = some (.string l[j].name) ∧ w.cell? ⟨g, off + j * 6 + 2, none⟩ = some (.int .i64 l[j].n) ∧
  w.cell? ⟨g, off + j * 6 + 3, none⟩ = some (.int .i64 l[j].m) ∧ w.cell? ⟨g, off + j * 6 + 4, none⟩ = some (.string l[j].data) ∧ w.cell? ⟨g, off + j * 6 + 5, none⟩ = some (.slice l[j].cha l[j].ch.length l[j].chc)
theorem ints_below {w w' : World} {a : Option Addr} {l : List Int} (h : Ints w a l) (hb : Below w.heap.size w w') : Ints w' a l := by
  intro k hk
  obtain ⟨g, o, e, hlt, hc⟩ := h k hk
  exact ⟨g, o, e, Nat.lt_of_lt_of_le hlt hb.size, by rw [hb.cell hlt]; exact hc⟩
theorem ops_below {w w' : World} {a : Option Addr} {l : List OpL} (h : Ops w a l) (hb : Below w.heap.size w w') : Ops w' a l := by
  intro j hj
  obtain ⟨h1, h2, g, off, e, hlt, c⟩ := h j hj
  refine ⟨h1, ints_below h2 hb, g, off, e, Nat.lt_of_lt_of_le hlt hb.size, ?_⟩
  rw [hb.cell hlt, hb.cell hlt, hb.cell hlt, hb.cell hlt, hb.cell hlt, hb.cell hlt]
  exact c
/-- A step that great lets pass. -/
structure OpG (o : OpL) : Prop where
  d : o.data.size ≤ 5000
  c : o.ch.length ≤ 5000
  nm : o.name.size ≤ 5000
  n : o.n ≤ 20000 ∨ 4000000 < o.n
def GrtOk (l : List OpL) : Prop := l.length ≤ 61 ∧ ∀ o, o ∈ l → OpG o
theorem grt_snoc {l : List OpL} {k : Nat} (hk : k < l.length) (h : ∀ o, o ∈ l.take k → OpG o) (ho : OpG l[k]) : ∀ o, o ∈ l.take (k + 1) → OpG o := by
  rw [List.take_succ_eq_append_getElem hk]
  intro o hm
  rcases List.mem_append.1 hm with hm | hm
  · exact h o hm
  · rw [List.mem_singleton.1 hm]; exact ho

set_option maxRecDepth 100000 in
set_option maxHeartbeats 2000000 in
theorem dgreat_any (a : Option Addr) (cap : Nat) (l : List OpL) (w : World) (hl : l.length ≤ 9223372036854775807) (ha : Ops w a l) :
    Calls Tryz.prog 7 #[.slice a l.length cap] w fun e w' => ∃ g : Bool, e = .returned (.bool g) ∧ (g = false → GrtOk l) ∧ Below w.heap.size w w' := by
  obtain ⟨len, hlen⟩ : ∃ len, len = l.length := ⟨_, rfl⟩
  obtain ⟨P, hP⟩ : ∃ P : Prop, P = GrtOk l := ⟨_, rfl⟩
  rw [← hlen] at hl ⊢
  rw [← hP]
  have HP := Lib.hid hP
  have HA := Lib.hid ha; clear ha hP
  have HL := Lib.hid hlen; clear hlen
  go_enter Tryz.func7, Tryz.ntmps7
  go_wp2
  go_loopw [3, 4] (fun x i wr => ∃ (k t : Nat), k ≤ len ∧ k ≤ 61 ∧ t ≤ 5000 ∧ i = .int .i64 k ∧ x = .int .i64 t ∧ Hid (∀ o, o ∈ l.take k → OpG o) ∧ Hid (Below w.heap.size w wr)) (fun _ i _ => len - (intOf i).toNat)
  case atStart => exact ⟨0, 0, by omega, by omega, by omega, rfl, rfl, Lib.hid (fun o ho => absurd ho (by simp)), Lib.hid (Below.refl _ _)⟩
  case round =>
    obtain ⟨k, t, hk, hk1, ht, rfl, rfl, hok, hB⟩ := hrel
    by_cases hlt : k < len
    · have hlt' : k < l.length := by have := HL.out; omega
      obtain ⟨hoo, -, g, off, rfl, hgw, -, c1, c2, -, c4, c5⟩ := HA.out k hlt'
      rw [← hB.out.cell hgw] at c1 c2 c4 c5
      have HS := Lib.hid (fun h => grt_snoc hlt' hok.out h)
      obtain ⟨o, ho⟩ : ∃ o, o = l[k]'hlt' := ⟨_, rfl⟩
      rw [← ho] at c1 c2 c4 c5 hoo HS
      clear ho
      have hz1 := hoo.nz; have hz2 := hoo.dz; have hz3 := hoo.cz
      have HN1 := Lib.hid hoo.n1; have HN2 := Lib.hid hoo.n2
      obtain ⟨kd, nm, N, M, dt, ch, ca, cc⟩ := o
      simp only at c1 c2 c4 c5 hz1 hz2 hz3 HN1 HN2
      have HG := Lib.hid (show dt.size + ch.length + nm.size ≤ 5000 → (N ≤ 20000 ∨ 4000000 < N) → ∀ o, o ∈ l.take (k + 1) → OpG o from fun h1 h2 => HS.out ⟨by show dt.size ≤ 5000; omega, by show ch.length ≤ 5000; omega, by show nm.size ≤ 5000; omega, h2⟩)
      generalize ch.length = cl at c5 hz3 HG
      clear HS hoo hlt'
      have i1 : (k : Int) < len := by omega
      by_cases h60 : 60 < k
      · have t1 : decide ((60 : Int) < k) = true := decide_eq_true (by omega)
        go_upto_region 5 with (fail)
        go_quiet (fail)
        all_goals go_wp2
        all_goals go_ret
        all_goals exact ⟨true, rfl, fun h => absurd h (by decide), hB.out.trans ⟨rfl, rfl, rfl, Nat.le_refl _, fun _ _ => rfl⟩⟩
      · have t1 : decide ((60 : Int) < k) = false := decide_eq_false (by omega)
        by_cases h5 : 5000 < t + dt.size + cl + nm.size
        · have t2 : decide ((5000 : Int) < (t : Int) + dt.size + cl + nm.size) = true := decide_eq_true (by omega)
          go_upto_region 5 with (fail)
          go_quiet (fail)
          all_goals go_wp2
          all_goals go_ret
          all_goals exact ⟨true, rfl, fun h => absurd h (by decide), hB.out.trans ⟨rfl, rfl, rfl, Nat.le_refl _, fun _ _ => rfl⟩⟩
        have t2 : decide ((5000 : Int) < (t : Int) + dt.size + cl + nm.size) = false := decide_eq_false (by omega)
        by_cases hb1 : 20000 < N
        · have t3 : decide ((20000 : Int) < N) = true := decide_eq_true hb1
          by_cases hb2 : N ≤ 4000000
          · have t4 : decide (N ≤ (4000000 : Int)) = true := decide_eq_true hb2
            go_upto_region 5 with (fail)
            go_quiet (fail)
            all_goals go_wp2
            all_goals go_ret
            all_goals exact ⟨true, rfl, fun h => absurd h (by decide), hB.out.trans ⟨rfl, rfl, rfl, Nat.le_refl _, fun _ _ => rfl⟩⟩
          · have t4 : decide (N ≤ (4000000 : Int)) = false := decide_eq_false hb2
            have HN := Lib.hid (HG.out (by omega) (by omega))
            go_upto_region 5 with (fail)
            go_quiet (fail)
            all_goals go_wp2
            all_goals go_roundw
            all_goals first
              | exact ⟨k + 1, t + dt.size + cl + nm.size, by omega, by omega, by omega, by go_num, by go_num, HN, Lib.hid (hB.out.trans ⟨rfl, rfl, rfl, Nat.le_refl _, fun _ _ => rfl⟩)⟩
              | (simp [intOf]; omega)
        · have t3 : decide ((20000 : Int) < N) = false := decide_eq_false hb1
          have HN := Lib.hid (HG.out (by omega) (by omega))
          go_upto_region 5 with (fail)
          go_quiet (fail)
          all_goals go_wp2
          all_goals go_roundw
          all_goals first
            | exact ⟨k + 1, t + dt.size + cl + nm.size, by omega, by omega, by omega, by go_num, by go_num, HN, Lib.hid (hB.out.trans ⟨rfl, rfl, rfl, Nat.le_refl _, fun _ _ => rfl⟩)⟩
            | (simp [intOf]; omega)
    · have hz : P := by
        rw [HP.out]
        have := HL.out
        refine ⟨by omega, fun o ho => hok.out o ?_⟩
        rw [List.take_of_length_le (by omega)]; exact ho
      have HPP := Lib.hid hz
      clear hz
      go_wp2
      go_ret
      exact ⟨false, rfl, fun _ => HPP.out, hB.out⟩
end Go.Proofs.YtkfncnpeockiaaaGreatDoor

namespace Go.Proofs.YtkfncnpeockiaaaGreatDoor
open Go.ChangeShapes Go.WideShapes Go.ChangeAt Go.RowKit Go.Deep

theorem cellsStr : Tryz.prog.cellsOf 9 = 1 := by kernel_rfl
theorem cellsInts : Tryz.prog.cellsOf 30 = 1 := by kernel_rfl
theorem cellsOp : Tryz.prog.cellsOf 32 = 6 := by kernel_rfl
section
variable {H : Type} {enc : TypeId × Value → H} {W W' : World}
theorem weights_all {e : TypeId} {d : DataW H} : ∀ {l : List (DataW H)}, d ∈ l → ∀ n ∈ d.weights Tryz.prog e, n ∈ DataW.weightsAll Tryz.prog e l
  | x :: l, h, n, hn => by
    rw [List.mem_cons] at h
    simp only [DataW.weightsAll, List.mem_append]
    rcases h with rfl | h
    · exact .inl hn
    · exact .inr (weights_all h n hn)
theorem sz_slice {t e : TypeId} {l sp : List (DataW H)} {d : DataW H} (ht : Tryz.prog.underlying t = some (.slice e)) (h : Sz t (.slice l sp)) (hd : d ∈ l) : Sz e d := by
  intro n hn
  refine h n ?_
  simp only [DataW.weights, ht, List.mem_cons, List.mem_append]
  exact .inr (.inl (weights_all hd n hn))
theorem sz_len {t e : TypeId} {l sp : List (DataW H)} (ht : Tryz.prog.underlying t = some (.slice e)) (h : Sz t (.slice l sp)) : (l.length + sp.length) * Tryz.prog.bytesOf e ≤ 140737488351232 := h _ (by simp [DataW.weights, ht])

set_option maxRecDepth 100000 in
theorem op_cells {fuel : Nat} {cs : List Value} {x : DataW H × List MemPlace} (h : DataW.trod enc Tryz.prog W 0 (fun _ => true) true fuel 32 cs = some x) :
    ∃ kd nm N M dt sv y m, cs = [.int .i64 kd, .string nm, .int .i64 N, .int .i64 M, .string dt, sv] ∧ (Lit.int .i64 kd).wf = true ∧ (Lit.int .i64 N).wf = true ∧ (Lit.int .i64 M).wf = true ∧
      DataW.trod enc Tryz.prog W 0 (fun _ => true) true m 30 [sv] = some y ∧ x.1 = .agg [.lit (.int .i64 kd), .lit (.string nm.data.toList), .lit (.int .i64 N), .lit (.int .i64 M), .lit (.string dt.data.toList), y.1] ∧ (∀ p, p ∈ y.2 → p ∈ x.2) := by
  obtain ⟨xs, m, -, hx, hlen, hxl, hf⟩ := DataW.trod_struct Tryz.underlying32 h
  rw [cellsOp] at hlen
  match cs, hlen with
  | [c0, c1, c2, c3, c4, c5], _ =>
    match xs, hxl with
    | [y0, y1, y2, y3, y4, y5], _ =>
      have h0 : DataW.trod enc Tryz.prog W 0 (fun _ => true) true m 3 [c0] = some y0 := by have := hf 0 _ rfl; change DataW.trod _ _ _ _ _ _ _ 3 (List.take (Tryz.prog.cellsOf 3) (List.drop 0 _)) = _ at this; rw [cellsInt] at this; exact this
      have h1 : DataW.trod enc Tryz.prog W 0 (fun _ => true) true m 9 [c1] = some y1 := by have := hf 1 _ rfl; change DataW.trod _ _ _ _ _ _ _ 9 (List.take (Tryz.prog.cellsOf 9) (List.drop 1 _)) = _ at this; rw [cellsStr] at this; exact this
      have h2 : DataW.trod enc Tryz.prog W 0 (fun _ => true) true m 3 [c2] = some y2 := by have := hf 2 _ rfl; change DataW.trod _ _ _ _ _ _ _ 3 (List.take (Tryz.prog.cellsOf 3) (List.drop 2 _)) = _ at this; rw [cellsInt] at this; exact this
      have h3 : DataW.trod enc Tryz.prog W 0 (fun _ => true) true m 3 [c3] = some y3 := by have := hf 3 _ rfl; change DataW.trod _ _ _ _ _ _ _ 3 (List.take (Tryz.prog.cellsOf 3) (List.drop 3 _)) = _ at this; rw [cellsInt] at this; exact this
      have h4 : DataW.trod enc Tryz.prog W 0 (fun _ => true) true m 9 [c4] = some y4 := by have := hf 4 _ rfl; change DataW.trod _ _ _ _ _ _ _ 9 (List.take (Tryz.prog.cellsOf 9) (List.drop 4 _)) = _ at this; rw [cellsStr] at this; exact this
      have h5 : DataW.trod enc Tryz.prog W 0 (fun _ => true) true m 30 [c5] = some y5 := by have := hf 5 _ rfl; change DataW.trod _ _ _ _ _ _ _ 30 (List.take (Tryz.prog.cellsOf 30) (List.drop 5 _)) = _ at this; rw [cellsInts] at this; exact this
      obtain ⟨kd, e0, rfl, w0⟩ := DataW.trod_int Tryz.underlying3 h0
      obtain ⟨nm, e1, rfl, -⟩ := DataW.trod_string Tryz.underlying9 h1
      obtain ⟨N, e2, rfl, w2⟩ := DataW.trod_int Tryz.underlying3 h2
      obtain ⟨M, e3, rfl, w3⟩ := DataW.trod_int Tryz.underlying3 h3
      obtain ⟨dt, e4, rfl, -⟩ := DataW.trod_string Tryz.underlying9 h4
      simp only [List.cons.injEq, and_true] at e0 e1 e2 e3 e4
      subst e0 e1 e2 e3 e4
      refine ⟨kd, nm, N, M, dt, c5, y5, m, rfl, w0, w2, w3, h5, by rw [hx]; rfl, fun p hp => ?_⟩
      rw [hx]
      simp [hp]
set_option maxRecDepth 100000 in
theorem sz_op {d0 d2 d3 d5 : DataW H} {l1 l4 : List UInt8} (h : Sz 32 (.agg [d0, .lit (.string l1), d2, d3, .lit (.string l4), d5] : DataW H)) : l1.length ≤ 140737488351232 ∧ l4.length ≤ 140737488351232 ∧ Sz 30 d5 := by
  refine ⟨h _ (by simp [DataW.weights, DataW.weightsEach, Tryz.underlying32]), h _ (by simp [DataW.weights, DataW.weightsEach, Tryz.underlying32]), fun n hn => h n (by simp [DataW.weights, DataW.weightsEach, Tryz.underlying32, hn])⟩
set_option maxRecDepth 100000 in
theorem ints_of {fuel : Nat} {sv : Value} {y : DataW H × List MemPlace} (h : DataW.trod enc Tryz.prog W 0 (fun _ => true) true fuel 30 [sv] = some y) (hz : Sz 30 y.1) (hlt : ∀ p, p ∈ y.2 → p.block < W.heap.size) :
    ∃ a cap l, sv = .slice a (List.length l) cap ∧ l.length ≤ cap ∧ l.length ≤ 1152921504606846976 ∧ (∀ x, x ∈ l → -9223372036854775808 ≤ x ∧ x ≤ 9223372036854775807) ∧ Ints W a l := by
  rcases open_ints Tryz.underlying30 Tryz.underlying3 cellsInt h with ⟨hcs, -⟩ | ⟨a, len, cap, zs, hcs, -, hl, hm, hlen, hx, hcell, hw⟩
  · injection hcs with e _
    exact ⟨none, 0, [], e, Nat.le_refl _, Nat.zero_le _, fun x hx => (by cases hx), fun k hk => absurd hk (Nat.not_lt_zero k)⟩
  · injection hcs with e _
    simp only [if_true] at hlen
    have hx1 : y.1 = _ := congrArg Prod.fst hx
    have hx2 : y.2 = _ := congrArg Prod.snd hx
    simp only at hx1 hx2
    have hll : (zs.take len).length = len := by rw [List.length_take]; omega
    have hbz : len ≤ 1152921504606846976 := by
      rw [hx1] at hz
      have := sz_len Tryz.underlying30 hz
      have e8 : Tryz.prog.bytesOf 3 = 8 := by kernel_rfl
      rw [e8] at this
      simp only [lits, List.length_map, hll] at this
      omega
    refine ⟨some a, cap, zs.take len, by rw [hll]; exact e, by rw [hll]; exact hl, by rw [hll]; exact hbz, fun x hx => bounds_i64 (hw x (List.mem_of_mem_take hx)), fun k hk => ?_⟩
    rw [hll] at hk
    obtain ⟨b, off, spot⟩ := a
    have hspot : spot = none := by simpa [Addr.add] using World.cell?_spot (hcell 0 (by omega))
    subst hspot
    refine ⟨b, off, rfl, hlt (.cell b off) (by rw [hx2]; exact MemPlace.mem_row.2 ⟨0, by omega, by simp⟩), ?_⟩
    have := hcell k (by omega)
    rw [add_plain] at this
    rw [this, List.getElem_take]
    simp [List.getD, List.getElem?_eq_getElem (show k < zs.length by omega)]
set_option maxRecDepth 100000 in
theorem open_ops {b0 : Nat} {r : Reach} {v : Value} {d : DataW H} {p : List MemPlace} (hlt : ∀ x ∈ p, x.block < W.heap.size) (hv : Value.okWide Tryz.prog W r b0 22 v) (h : DataW.Trod enc Tryz.prog W 0 (fun _ => true) true 22 v d p) (hz : Sz 22 d) :
    ∃ a cap l, v = .slice a (List.length l) cap ∧ l.length ≤ 140737488351232 ∧ Ops W a l := by
  obtain ⟨a, len, cap, rfl⟩ := okWide_slice Tryz.underlying22 hv
  obtain ⟨fuel, hf⟩ := h
  rcases open_slice Tryz.underlying22 hf with ⟨hcs, -⟩ | ⟨a', len', cap', m, n, D, Pl, hcs, -, hl, hm, hmm, hx, hi⟩
  · simp [Value.cells] at hcs
    obtain ⟨rfl, rfl, rfl⟩ := hcs
    exact ⟨none, 0, [], rfl, Nat.zero_le _, fun j hj => absurd hj (Nat.not_lt_zero j)⟩
  · simp [Value.cells] at hcs
    obtain ⟨rfl, rfl, rfl⟩ := hcs
    simp only [if_true] at hmm
    subst hmm
    simp only [Prod.mk.injEq] at hx
    obtain ⟨rfl, hx2⟩ := hx
    have hlen : len ≤ 140737488351232 := by
      have := sz_len Tryz.underlying22 hz
      have e : Tryz.prog.bytesOf 32 = 80 := by kernel_rfl
      rw [List.length_map, List.length_range, e] at this
      omega
    have hel0 : ∀ j, j < len → Sz 32 (D j) := fun j hj => sz_slice Tryz.underlying22 hz (List.mem_map.2 ⟨j, List.mem_range.2 hj, rfl⟩)
    have hel : ∀ j, j < len → ∃ o : OpL, OpOk o ∧ Ints W o.cha o.ch ∧ W.cell? (a'.add (j * 6)) = some (.int .i64 o.kind) ∧ W.cell? (a'.add (j * 6 + 1)) = some (.string o.name) ∧ W.cell? (a'.add (j * 6 + 2)) = some (.int .i64 o.n) ∧
        W.cell? (a'.add (j * 6 + 3)) = some (.int .i64 o.m) ∧ W.cell? (a'.add (j * 6 + 4)) = some (.string o.data) ∧ W.cell? (a'.add (j * 6 + 5)) = some (.slice o.cha o.ch.length o.chc) := by
      intro j hj
      obtain ⟨cs', hc, ht⟩ := hi j (by omega)
      obtain ⟨kd, nm, N, M, dt, sv, y, mm, e, w0, w1, w2, hy, ex, hsub⟩ := op_cells ht
      rw [cellsOp] at hc
      obtain ⟨_, _, hat⟩ := World.cells?_some hc
      have c0 := hat 0 (by decide)
      have c1 := hat 1 (by decide)
      have c2 := hat 2 (by decide)
      have c3 := hat 3 (by decide)
      have c4 := hat 4 (by decide)
      have c5 := hat 5 (by decide)
      rw [e] at c0 c1 c2 c3 c4 c5
      rw [Go.Deep.add_add] at c0 c1 c2 c3 c4 c5
      have hsz := hel0 j hj
      rw [show D j = _ from ex] at hsz
      obtain ⟨z1, z4, z5⟩ := sz_op hsz
      have hplt : ∀ p, p ∈ y.2 → p.block < W.heap.size := fun p hp => hlt p (by
        rw [hx2]
        exact List.mem_append_right _ (List.mem_flatMap.2 ⟨j, List.mem_range.2 (by omega), hsub p hp⟩))
      obtain ⟨ca, cc, l, rfl, hcc, hcz, hcb, hint⟩ := ints_of hy z5 hplt
      have q0 := bounds_i64 w0; have q1 := bounds_i64 w1; have q2 := bounds_i64 w2
      have e1 : nm.data.toList.length = nm.size := by simp
      have e4 : dt.data.toList.length = dt.size := by simp
      exact ⟨⟨kd, nm, N, M, dt, l, ca, cc⟩, ⟨q0.1, q0.2, q1.1, q1.2, q2.1, q2.2, by show nm.size ≤ _; omega, by show dt.size ≤ _; omega, hcz, hcb, hcc⟩, hint, c0, c1, c2, c3, c4, c5⟩
    obtain ⟨f, hf⟩ : ∃ f : Nat → OpL, f = fun j => if hj : j < len then (hel j hj).choose else ⟨0, ⟨#[]⟩, 0, 0, ⟨#[]⟩, [], none, 0⟩ := ⟨_, rfl⟩
    have hlf : ((List.range len).map f).length = len := by simp
    refine ⟨some a', _, (List.range len).map f, by rw [hlf], by omega, fun j hj => ?_⟩
    have hj : j < len := by omega
    have hs := (hel j hj).choose_spec
    rw [show ((List.range len).map f)[j] = (hel j hj).choose by simp [hf, hj]]
    generalize (hel j hj).choose = o at hs
    obtain ⟨b, off, spot⟩ := a'
    have hspot : spot = none := by
      obtain ⟨y, -, -, h0, -⟩ := hel 0 (by omega)
      simpa [Addr.add] using World.cell?_spot h0
    subst hspot
    obtain ⟨s1, s2, k0, k1, k2, k3, k4, k5⟩ := hs
    rw [add_plain] at k0 k1 k2 k3 k4 k5
    refine ⟨s1, s2, b, off, rfl, ?_, k0, k1, k2, k3, k4, k5⟩
    rw [hx2] at hlt
    refine hlt (.cell b off) (List.mem_append_left _ (MemPlace.mem_row.2 ⟨0, ?_, by simp⟩))
    rw [cellsOp]; omega
end
end Go.Proofs.YtkfncnpeockiaaaGreatDoor
