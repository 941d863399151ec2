/-
  Layer 7: works: a disk that is new, a file that is created, written, synced and, its path not synced, lost at a restart. Condition: none.
-/
import Derived.Test.YtcpkbklnlnoonaaDoorDskRest
namespace Go.Proofs.YtcpkbklnlnoonaaDoor
open Go.RowKit
variable {L : Loc} {ρ ρ' : Nat → Option Role} {n : Nat} {S : DS} {w w' : World}

/-- A disk of our own, made above all that was there. -/
structure Own (w : World) (b n : Nat) (S : DS) (v : World) : Prop where
  ex : ∃ L ρ, Inv L ρ n S v ∧ L.b = b ∧ ∀ k, k < w.heap.size → ρ k = none
  below : Below w.heap.size w v
theorem own_step {L L' : Loc} {ρ ρ' : Nat → Option Role} {m : Nat} {S' : DS} {v v' : World} {b : Nat} (hb : L.b = b) (hr : ∀ k, k < w.heap.size → ρ k = none) (hB : Below w.heap.size w v) (hI : Inv L' ρ' m S' v') (hS : Step L ρ v L' ρ' v') : Own w b m S' v' :=
  ⟨⟨L', ρ', hI, hS.b.trans hb, fun k hk => (hS.ro k (Nat.lt_of_lt_of_le hk hB.size)).trans (hr k hk)⟩,
   ⟨hS.os.trans hB.os, hS.tape.trans hB.tape, hS.output.trans hB.output, Nat.le_trans hB.size hS.size, fun k hk => (hS.blk k (Nat.lt_of_lt_of_le hk hB.size) (hr k hk)).trans (hB.block k hk)⟩⟩
theorem own_below {b : Nat} {v v' : World} (h : Own w b n S v) (hb : Below v.heap.size v v') : Own w b n S v' := by
  obtain ⟨L, ρ, hI, hb', hr⟩ := h.ex
  exact ⟨⟨L, ρ, hI.below hb, hb', hr⟩, h.below.trans (hb.mono h.below.size)⟩
theorem own_new (r : Int) (w : World) : Calls Tryd.prog 5 #[.int .i64 r] w fun e w' => e = .returned (.pointer (some ⟨w.heap.size, 0, none⟩)) ∧ Own w w.heap.size 0 (newS r) w' :=
  (new_any r w).mono fun _ _ ⟨he, hI, hB⟩ => ⟨he, ⟨⟨_, _, hI, rfl, fun k hk => by unfold newR; rw [if_neg (Nat.ne_of_lt hk)]⟩, hB⟩⟩
/-- A counted call's answer and the disk behind it. -/
def OwnQ (w : World) (b : Nat) (r : Int × DS) (N : Nat) (e : Ending) (w' : World) : Prop := ∃ m, e = .returned (.int .i64 r.1) ∧ Own w b m r.2 w' ∧ m ≤ N
theorem own_out {v : World} {b : Nat} {r : Int × DS} {N : Nat} {e : Ending} {w' : World} {L : Loc} {ρ : Nat → Option Role} (hb : L.b = b) (hr : ∀ k, k < w.heap.size → ρ k = none) (hB : Below w.heap.size w v) (h : OutQ L ρ v r N e w') : OwnQ w b r N e w' := by
  obtain ⟨L', ρ', n', he, hI, hS, hn⟩ := h
  exact ⟨n', he, own_step hb hr hB hI hS, hn⟩
theorem own_create {b : Nat} {v : World} (h : Own w b n S v) (p : ByteArray) (hp : p.size ≤ 1000000) (hd : S.down = false) (hfl : S.flt (S.ops + 1) = 0) (hn : n + 3 ≤ 100000) :
    Calls Tryd.prog 6 #[.pointer (some ⟨b, 0, none⟩), .string p] v (OwnQ w b (createZ S p.data.toList) (n + 3)) := by
  obtain ⟨L, ρ, hI, rfl, hr⟩ := h.ex
  exact (create_any p hp hI hd hfl hn).mono fun _ _ hq => own_out rfl hr h.below hq
theorem own_write {b : Nat} {v : World} (h : Own w b n S v) (p : ByteArray) (hp : p.size ≤ 1000000) (o : Int) (ho1 : -9223372036854775808 ≤ o) (ho2 : o ≤ 9223372036854775807) (d : ByteArray) (hd' : d.size ≤ 4611686018427387904) (hk : ((S.dirs false).map (·.1)).Nodup) (hd : S.down = false) (hfl : S.flt (S.ops + 1) = 0) (hn : n + 3 ≤ 100000) :
    Calls Tryd.prog 7 #[.pointer (some ⟨b, 0, none⟩), .string p, .int .i64 o, .string d] v (OwnQ w b (writeZ S p.data.toList o d.data.toList) (n + 3)) := by
  obtain ⟨L, ρ, hI, rfl, hr⟩ := h.ex
  exact (write_any p hp o ho1 ho2 d hd' hI hk hd hfl hn).mono fun _ _ hq => own_out rfl hr h.below hq
theorem own_sync {b : Nat} {v : World} (h : Own w b n S v) (p : ByteArray) (hp : p.size ≤ 1000000) (hd : S.down = false) (hfl : S.flt (S.ops + 1) = 0) (hn : n + S.pend.length + 2 ≤ 100000) :
    Calls Tryd.prog 11 #[.pointer (some ⟨b, 0, none⟩), .string p] v (OwnQ w b (syncZ S p.data.toList) (n + 1 + S.pend.length)) := by
  obtain ⟨L, ρ, hI, rfl, hr⟩ := h.ex
  exact (sync_any p hp hI hd hfl hn).mono fun _ _ hq => own_out rfl hr h.below hq
theorem own_content {b : Nat} {v : World} (h : Own w b n S v) (p : ByteArray) (hp : p.size ≤ 1000000) :
    Calls Tryd.prog 10 #[.pointer (some ⟨b, 0, none⟩), .string p] v fun e w' => e = .returned (.tuple #[.string (bz (contZ S p.data.toList)), .bool (hasZ S p.data.toList)]) ∧ w' = v := by
  obtain ⟨L, ρ, hI, rfl, hr⟩ := h.ex
  exact content_any hI p hp
theorem own_ops {b : Nat} {v : World} (h : Own w b n S v) : Calls Tryd.prog 13 #[.pointer (some ⟨b, 0, none⟩)] v fun e w' => e = .returned (.int .i64 S.ops) ∧ w' = v := by
  obtain ⟨L, ρ, hI, rfl, hr⟩ := h.ex
  exact ops_any hI
theorem own_rest0 {b : Nat} {v : World} (h : Own w b n S v) (hz : S.dirs true = []) :
    Calls Tryd.prog 12 #[.pointer (some ⟨b, 0, none⟩), .slice none 0 0] v fun e w' => e = .returned (.tuple #[]) ∧ Own w b n (restS S []) w' := by
  obtain ⟨L, ρ, hI, rfl, hr⟩ := h.ex
  exact (rest_zero hI hz).mono fun _ _ ⟨he, L', ρ', hI', hS, _⟩ => ⟨he, own_step rfl hr h.below hI' hS⟩

def wk1 : Int × DS := createZ (newS 1000) [97]
def wk2 : Int × DS := writeZ wk1.2 [97] 0 [120, 121]
def wk3 : Int × DS := syncZ wk2.2 [97]
theorem wk1_is : wk1.1 = 0 ∧ wk1.2.down = false ∧ wk1.2.flt (wk1.2.ops + 1) = 0 ∧ (wk1.2.dirs false).map (·.1) = [[97]] := ⟨rfl, rfl, rfl, rfl⟩
theorem wk2_is : wk2.1 = 0 ∧ wk2.2.down = false ∧ wk2.2.flt (wk2.2.ops + 1) = 0 ∧ wk2.2.pend.length = 2 := ⟨rfl, rfl, rfl, rfl⟩
theorem wk3_is : wk3.1 = 0 ∧ wk3.2.dirs true = [] ∧ contZ wk3.2 [97] = [120, 121] ∧ wk3.2.ops = 3 := ⟨rfl, rfl, rfl, rfl⟩

set_option maxHeartbeats 2000000 in
set_option maxRecDepth 100000 in
theorem works7_any (w : World) : Calls Tryd.prog 4 #[] w fun e w' => e = .returned (.bool true) ∧ Below w.heap.size w w' := by
  go_enter Tryd.func4, Tryd.ntmps4
  go_wp2_with fail
  refine (own_new 1000 _).mono ?_
  rintro e w1 ⟨rfl, h1⟩
  have H1 := Lib.hid h1; clear h1
  go_wp2_with fail
  refine (own_create H1.out ⟨#[97]⟩ (by decide) rfl rfl (by decide)).mono ?_
  rw [show createZ (newS 1000) (⟨#[97]⟩ : ByteArray).data.toList = wk1 from rfl]
  rintro e w2 ⟨m1, rfl, h2, hm1⟩
  have H2 := Lib.hid h2; clear h2
  rw [wk1_is.1]
  go_wp2_with fail
  refine (own_write H2.out ⟨#[97]⟩ (by decide) 0 (by decide) (by decide) ⟨#[120, 121]⟩ (by decide) (by rw [wk1_is.2.2.2]; decide) wk1_is.2.1 wk1_is.2.2.1 (by omega)).mono ?_
  rw [show writeZ wk1.2 (⟨#[97]⟩ : ByteArray).data.toList 0 (⟨#[120, 121]⟩ : ByteArray).data.toList = wk2 from rfl]
  rintro e w3 ⟨m2, rfl, h3, hm2⟩
  have H3 := Lib.hid h3; clear h3
  rw [wk2_is.1]
  go_wp2_with fail
  refine (own_sync H3.out ⟨#[97]⟩ (by decide) wk2_is.2.1 wk2_is.2.2.1 (by rw [wk2_is.2.2.2]; omega)).mono ?_
  rw [show syncZ wk2.2 (⟨#[97]⟩ : ByteArray).data.toList = wk3 from rfl]
  rintro e w4 ⟨m3, rfl, h4, hm3⟩
  have H4 := Lib.hid h4; clear h4
  rw [wk3_is.1]
  go_wp2_with fail
  refine (own_content H4.out ⟨#[97]⟩ (by decide)).mono ?_
  rw [show contZ wk3.2 (⟨#[97]⟩ : ByteArray).data.toList = [120, 121] from wk3_is.2.2.1, show bz [120, 121] = (⟨#[120, 121]⟩ : ByteArray) from rfl]
  rintro e w5 ⟨rfl, rfl⟩
  go_wp2_with fail
  refine (own_rest0 H4.out wk3_is.2.1).mono ?_
  rintro e w6 ⟨rfl, h6⟩
  have H6 := Lib.hid h6; clear h6
  go_wp2_with fail
  refine (own_content H6.out ⟨#[97]⟩ (by decide)).mono ?_
  rw [show contZ (restS wk3.2 []) (⟨#[97]⟩ : ByteArray).data.toList = [] from rfl, show hasZ (restS wk3.2 []) (⟨#[97]⟩ : ByteArray).data.toList = false from rfl, show bz [] = (⟨#[]⟩ : ByteArray) from rfl]
  rintro e w7 ⟨rfl, rfl⟩
  go_wp2_with fail
  refine (own_ops H6.out).mono ?_
  rw [show (restS wk3.2 []).ops = 3 from rfl]
  rintro e w8 ⟨rfl, rfl⟩
  go_wp2_with fail
  go_ret
  exact ⟨rfl, H6.out.below⟩
end Go.Proofs.YtcpkbklnlnoonaaDoor
