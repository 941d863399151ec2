/-
  Layer 7: find, begin, used by every call: the file to which a path visibly refers; a counted call's number, its fault, its crash. Condition: none but the sizes that the invariant holds.
-/
import Derived.Test.YtcpkbklnlnoonaaDoorDskInv
import Derived.Deep.Light
import Derived.StringKeys
namespace Go.Proofs.YtcpkbklnlnoonaaDoor
open Go.RowKit

def ptrF (F : Nat → Nat) (o : Option Nat) : Value := .pointer (o.map fun i => ⟨F i, 0, none⟩)
theorem lawStr : Maps.Keyed Tryd.prog 9 := Maps.string_keyed (by kernel_rfl)
theorem underF : Tryd.prog.underlying 37 = some (.map 9 45) := by kernel_rfl
theorem zeroF (w : World) : (zeroValue 45).run Tryd.prog w = .ok (.pointer none) w := by kernel_rfl
theorem keyStr {p : ByteArray} (hp : p.size ≤ 1000000) : keyOf Tryd.prog 9 (.string p) = some (.string p.data.toList) := WideMaps.keyOf_string_mk (by kernel_rfl) (by unfold maxLen; omega)

variable {L : Loc} {ρ ρ' : Nat → Option Role} {n : Nat} {S : DS} {w w' : World}

theorem mapI_look {F : Nat → Nat} {m : Option Nat} {r : Role} {l : List (List UInt8 × Nat)} (h : MapI ρ F w m r l) {p : ByteArray} (hp : p.size ≤ 1000000) :
    (Instr.lookup 37 (.map m) (.string p) false).run Tryd.prog w = .ok (ptrF F (findL l p.data.toList)) w := by
  rcases h with ⟨rfl, rfl⟩ | ⟨g, rfl, _, hown⟩
  · have := Maps.look_nil (w := w) false lawStr underF (zeroF w) (keyStr hp)
    rw [this]; rfl
  · obtain ⟨v, ps, hrun, hR⟩ := hown.lookup lawStr underF (zeroF w) (zd := .nil) (zp := []) rfl (keyStr hp)
    have hv : v = ptrF F (findL l p.data.toList) := by
      rw [fileD_at] at hR
      cases hf : findL l p.data.toList with
      | none =>
        rw [hf] at hR
        unfold fileR at hR
        split at hR <;> simp at hR
        rfl
      | some i =>
        rw [hf] at hR
        unfold fileR at hR
        split at hR <;> simp at hR
        obtain ⟨e, _⟩ := hR
        have e' := Int.ofNat.inj e
        rw [e']
        rfl
    rw [hrun, hv]
theorem find_nil (p : ByteArray) (w : World) : Calls Tryd.prog 17 #[.pointer none, .string p] w fun e w' => e = .returned (.pointer none) ∧ w' = w := by
  go_enter Tryd.func17, Tryd.ntmps17
  go_wp2
  go_ret
  exact ⟨rfl, rfl⟩
theorem find_any (h : Inv L ρ n S w) (p : ByteArray) (hp : p.size ≤ 1000000) :
    Calls Tryd.prog 17 #[.pointer (some ⟨L.b, 0, none⟩), .string p] w fun e w' => e = .returned (ptrF L.F (findL (S.dirs false) p.data.toList)) ∧ w' = w := by
  have hl := mapI_look (h.mp false) hp
  have c1 := blk_cell h.blk 1 rfl
  obtain ⟨o, ho⟩ : ∃ o, o = ptrF L.F (findL (S.dirs false) p.data.toList) := ⟨_, rfl⟩
  rw [← ho] at hl ⊢
  clear h ho
  obtain ⟨b, m, fm, pv, F, V⟩ := L
  simp only at hl c1 ⊢
  generalize m false = m0 at hl c1
  go_enter Tryd.func17, Tryd.ntmps17
  go_wp2
  go_ret
  exact ⟨rfl, rfl⟩

/-! ### begin -/
theorem lawInt : Maps.Keyed Tryd.prog 3 := Maps.int_keyed (q := .i64) (by kernel_rfl)
theorem underE : Tryd.prog.underlying 40 = some (.map 3 25) := by kernel_rfl
theorem underErr : Tryd.prog.underlying 25 = some (.int .i64) := by kernel_rfl
theorem zeroE (w : World) : (zeroValue 25).run Tryd.prog w = .ok (.int .i64 0) w := by kernel_rfl
theorem keyInt {k : Int} (h0 : -9223372036854775808 ≤ k) (h1 : k ≤ 9223372036854775807) : keyOf Tryd.prog 3 (.int .i64 k) = some (.int .i64 k) := Maps.keyOf_int_mk (by kernel_rfl) (WalkArith.wf_i64 ⟨h0, h1⟩)
theorem fltI_look {m : Option Nat} {f : Int → Int} (h : FltI ρ w m f) {k : Int} (h0 : -9223372036854775808 ≤ k) (h1 : k ≤ 9223372036854775807) :
    (Instr.lookup 40 (.map m) (.int .i64 k) true).run Tryd.prog w = .ok (.tuple #[.int .i64 (f k), .bool (!(f k == 0))]) w := by
  rcases h with ⟨rfl, hf⟩ | ⟨g, n, D, rfl, _, hown, hf⟩
  · have := Maps.look_nil (w := w) true lawInt underE (zeroE w) (keyInt h0 h1)
    rw [this, hf k]; rfl
  · obtain ⟨v, ps, hrun, hR⟩ := hown.look_ok lawInt underE (zeroE w) (zd := .lit (.int .i64 0)) (zp := []) (plainElem_int underErr (by decide)) (keyInt h0 h1)
    obtain ⟨c, rfl, hc, _⟩ := plainElem_int_inv underErr hR
    rw [(hf k).1] at hc
    simp only [Prod.mk.injEq, DataW.lit.injEq, Lit.int.injEq, true_and] at hc
    rw [hrun, (hf k).2, hc.1]

/-- What a counted call does ahead of its own effect: the state behind it. -/
def begS (S : DS) : DS := { S with ops := S.ops + 1, down := decide ((S.ops + 1 : Nat) = S.crash) }
def cntS (S : DS) : DS := { S with ops := S.ops + 1 }

theorem inv_disk (h : Inv L ρ n S w) {S' : DS} {n' : Nat} (hn : n ≤ n') (hn' : n' ≤ 100000) (hw : Blk w' L.b 42 #[.int .i64 S'.room, .map (L.m false), .map (L.m true), L.pv, .int .i64 S'.ops, .map L.fm, .int .i64 S'.crash, .bool S'.down])
    (hk : ∀ g, g ≠ L.b → w'.heap[g]? = w.heap[g]?) (hz : w.heap.size ≤ w'.heap.size) (e1 : S'.room = S.room) (e2 : S'.dirs = S.dirs) (e3 : S'.con = S.con) (e4 : S'.nf = S.nf) (e5 : S'.pend = S.pend) (e6 : S'.flt = S.flt) (e7 : S'.ops ≤ n') : Inv L ρ n' S' w' where
  hb := h.hb
  blk := hw
  mp s := by rw [e2]; exact mapI_keep (h.mp s) (fun g hg => hk g (fun e => by subst e; rw [h.hb] at hg; cases hg)) (fun _ _ h => h)
  flt := by rw [e6]; exact fltI_keep h.flt (fun g hg => hk g (fun e => by subst e; rw [h.hb] at hg; cases hg)) (fun _ _ h => h)
  pnd := by rw [e5]; exact row_keep h.pnd (fun g hg => hk g (fun e => by subst e; have := h.pro _ hg; rw [h.hb] at this; cases this))
  pro := h.pro
  fro := by rw [e4]; exact h.fro
  fil := by rw [e4]; exact fun i hi => (hk _ (fun e => by have := h.fro i hi; rw [e, h.hb] at this; cases this)).trans (h.fil i hi)
  con := by rw [e4, e3]; exact fun s i hi => row_keep (h.con s i hi) (fun g hg => hk g (fun e => by subst e; have := h.cro s i _ hi hg; rw [h.hb] at this; cases this))
  cro := by rw [e4]; exact h.cro
  clen := by rw [e4, e3]; exact h.clen
  dok := by rw [e4, e2]; exact h.dok
  pok := by rw [e4, e5]; exact h.pok
  old k hk' := h.old k (Nat.le_trans hz hk')
  room := by rw [e1]; exact h.room
  bnd := ⟨by rw [e5]; exact Nat.le_trans h.bnd.1 hn, e7, fun s => by rw [e2]; exact Nat.le_trans (h.bnd.2.2.1 s) hn, hn'⟩
theorem Step.disk (h : ∀ g, g ≠ L.b → w'.heap[g]? = w.heap[g]?) (hb : ρ L.b = some .disk) (hz : w'.heap.size = w.heap.size) (e1 : w'.os = w.os) (e2 : w'.tape = w.tape) (e3 : w'.output = w.output) : Step L ρ w L ρ w' :=
  ⟨e1, e2, e3, Nat.le_of_eq hz.symm, fun k _ hk => h k (fun e => by subst e; rw [hb] at hk; cases hk), fun _ _ => rfl, rfl⟩

theorem begin_nil (w : World) : Calls Tryd.prog 31 #[.pointer none] w fun e w' => e = .returned (.iface 25 (.int .i64 10)) ∧ w' = w := by
  go_enter Tryd.func31, Tryd.ntmps31
  go_wp2
  go_ret
  exact ⟨rfl, rfl⟩
theorem begin_down (h : Inv L ρ n S w) (hd : S.down = true) : Calls Tryd.prog 31 #[.pointer (some ⟨L.b, 0, none⟩)] w fun e w' => e = .returned (.iface 25 (.int .i64 33)) ∧ w' = w := by
  have c7 := blk_cell h.blk 7 rfl
  rw [hd] at c7
  clear h
  go_enter Tryd.func31, Tryd.ntmps31
  go_wp2
  go_ret
  exact ⟨rfl, rfl⟩
end Go.Proofs.YtcpkbklnlnoonaaDoor
