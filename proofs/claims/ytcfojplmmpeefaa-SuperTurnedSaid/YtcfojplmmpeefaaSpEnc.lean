/-
  Layer 10, super.Encode and Trailer: they return the encoding of a super-journal ('encS') and of a trailer ('trS'), and change nothing that was there. Condition: none beyond the memory's own.
-/
import Derived.Test.YtcfojplmmpeefaaSpCheck
import Derived.Lib.BufferOwn
namespace Go.Proofs.Ytcfojplmmpeefaa
open Go.RowKit

theorem sbuilderAt_below {T e : TypeId} {B b : Nat} {p : Value} {bs : List Value} {W W' : World} (h : Lib.BuilderAtF T e B b p bs W) (hb : Below W.heap.size W W') : Lib.BuilderAtF T e B b p bs W' := by
  obtain ⟨hB, v, hh, hown, hne⟩ := h
  have hg : W.grownBy W' none := ⟨hb.os, hb.tape, hb.output, hb.size, fun k hk _ => hb.block k hk⟩
  have hlt : b < W.heap.size := by
    obtain ⟨hlt, _⟩ := Array.getElem?_eq_some_iff.1 hh
    exact hlt
  refine ⟨hB, v, (hb.block b hlt).trans hh, hown.kept hg ?_, hne⟩
  cases hv : v.ownBlock with
  | none => exact .inl rfl
  | some g => exact .inr (by simp)
theorem sbuilder_below {T e : TypeId} {B b : Nat} {bs : List Value} {W W' : World} (h : Lib.IsBuilderF T e B b bs W) (hb : Below W.heap.size W W') : Lib.IsBuilderF T e B b bs W' :=
  h.elim (fun x => .inl (sbuilderAt_below x hb)) (fun x => .inr (sbuilderAt_below x hb))
theorem sbyteCells_app (a b : List UInt8) : Lib.byteCells (a ++ b) = Lib.byteCells a ++ Lib.byteCells b := by simp [Lib.byteCells]
theorem sbelow_alloc (w : World) (o : Obj) : Below w.heap.size w (w.alloc o) := (Below.refl _ w).alloc (Nat.le_refl _) o
theorem bd_snoc {L : List (List UInt8)} {k : Nat} (hk : k < L.length) : bdS (L.take (k + 1)) = bdS (L.take k) ++ txS L[k] := by
  rw [List.take_succ_eq_append_getElem hk, bdS_app, bdS, bdS, List.append_nil]

set_option maxRecDepth 100000 in
set_option maxHeartbeats 2000000 in
theorem spencode_any (a : Option Addr) (cap : Nat) (L : List (List UInt8)) (w : World) (hl : L.length ≤ 9223372036854775807) (ha : Strs w a L) (hcap : L.length ≤ cap) :
    Calls Try.prog 8 #[.slice a L.length cap] w fun e w' => e = .returned (.tuple #[.string (ba (encS L).1), .int .i64 (encS L).2]) ∧ Below w.heap.size w w' := by
  have hc := spcheck_any a cap L w hl ha hcap
  obtain ⟨x, hx⟩ : ∃ x, x = ckS L := ⟨_, rfl⟩
  rw [← hx] at hc
  by_cases h0 : x = 0
  case neg =>
    have hr : encS L = ([], x) := by rw [encS, if_neg (by rw [← hx]; exact h0), ← hx]
    rw [hr]
    have t1 : (x != 0) = true := by simpa using h0
    clear hr hx h0
    go_enter Try.func8, Try.ntmps8
    go_wp2_with (go_at_call 19; refine hc.mono ?_; rintro e w0 ⟨rfl, rfl⟩)
    go_ret2
    exact ⟨rfl, Below.refl _ _⟩
  have hr : encS L = (seS (hdS L) 11 sjL, 0) := by rw [encS, if_pos (by rw [← hx, h0])]
  obtain ⟨g2, g12, hok, -⟩ := ckS_ok.1 (hx.symm.trans h0)
  rw [hr]
  rw [h0] at hc
  clear hr hx h0
  simp only
  obtain ⟨n, hn⟩ : ∃ n, n = L.length := ⟨_, rfl⟩
  have HN := Lib.hid hn
  have HA := Lib.hid ha; clear ha
  have HO := Lib.hid hok; clear hok
  have hbl : (bdS L).length ≤ 44 * L.length := bdS_len L fun p hp => (okS_iff.1 (HO.out p hp)).2
  have ks := fun w => spseal_any (ba (hdS L)) (by rw [ba_size, hdS_len]; omega) 11 (by decide) (by decide) (ba sjL) rfl w
  rw [ba_list, ba_list] at ks
  have HBL := Lib.hid (show ∀ k, k < n → (sjF ++ fourL n ++ bdS (L.take k)).length ≤ 600 from fun k hk => by
    have h3 := bdS_len (L.take k) fun p hp => (okS_iff.1 (HO.out p (List.mem_of_mem_take hp))).2
    rw [List.length_take] at h3
    rw [List.length_append, List.length_append, four_len, show sjF.length = 8 from rfl]; omega)
  have HZ := Lib.hid (show hdS L = sjF ++ fourL n ++ bdS L by rw [hn, hdS])
  obtain ⟨z, hz⟩ : ∃ z, z = hdS L := ⟨_, rfl⟩
  rw [← hz] at ks HZ
  rw [← hz]
  clear hz hbl
  rw [← hn] at hl hcap hc g2 g12 ⊢
  clear hn
  have kf := fun w => spfixed_any (n : Int) (by omega) (by omega) w
  rw [Int.toNat_natCast] at kf
  go_enter Try.func8, Try.ntmps8
  go_wp2_with (first
    | (go_at_call 19; refine hc.mono ?_; rintro e w0 ⟨rfl, rfl⟩; have HI0 := Lib.hid (Lib.IsBuilderF.of (Lib.fresh_isBuilder 42 5 w)))
    | (go_at_call 21; refine (kf _).mono ?_; rintro e w2 ⟨rfl, b2⟩)
    | (go_at_call_of 20 (Value.string ⟨#[97, 110, 110, 120, 115, 117, 112, 114]⟩); refine (Try.Builder_WriteString_k w.heap.size w.heap.size [] _ _ HI0.out (by decide) (by simp)).mono ?_; rintro e w1 ⟨rfl, hbd1, hbl1, -⟩)
    | (go_at_call 20; refine (Try.Builder_WriteString_k w.heap.size w.heap.size _ _ _ (sbuilder_below (Or.inr hbd1) b2) (by rw [ba_size, four_len]; decide) (by have := b2.size; have := hbl1.size; simp at this; omega)).mono ?_; rintro e w3 ⟨rfl, hbd, hbl, -⟩))
  obtain ⟨B, hB⟩ : ∃ B, B = w.heap.size := ⟨_, rfl⟩
  have hI3 : Lib.IsBuilderF 42 5 B B (Lib.byteCells (sjF ++ fourL n ++ bdS (L.take 0))) w3 := by
    rw [hB, List.take_zero, bdS, List.append_nil, sbyteCells_app]; exact Or.inr hbd
  have hB3 : Below w.heap.size w w3 := ((((sbelow_alloc w _).trans (hbl1.mono (by simp))).trans (b2.mono (by have := hbl1.size; simp at *; omega)))).trans (hbl.mono (Nat.le_refl _))
  have hs3 : B ≤ w3.heap.size := by rw [hB]; exact hB3.size
  have hwB : w.heap.size ≤ B := by omega
  rw [← hB]
  have HI3 := Lib.hid hI3; have HB3 := Lib.hid hB3
  clear hI3 hB3 hbd hbl b2 hbd1 hbl1 HI0 hB hc kf
  have kt := fun p (hp : okS p = true) w => sptext_any (ba p) (by rw [ba_size]; exact (okS_iff.1 hp).2) w
  go_loopw [20] (fun i wr => ∃ k : Nat, k ≤ n ∧ i = .int .i64 k ∧ B ≤ wr.heap.size ∧ Hid (Lib.IsBuilderF 42 5 B B (Lib.byteCells (sjF ++ fourL n ++ bdS (L.take k))) wr) ∧ Hid (Below w.heap.size w wr)) (fun i _ => n - (intOf i).toNat)
  case atStart => exact ⟨0, by omega, rfl, hs3, HI3, HB3⟩
  case round =>
    obtain ⟨k, hk, rfl, hsr, hI, hBr⟩ := hrel
    clear HI3 HB3 hs3
    by_cases hlt : k < n
    · have hlt' : k < L.length := by rw [← HN.out]; exact hlt
      obtain ⟨b, off, rfl, hbw, c0⟩ := HA.out k hlt'
      rw [← hBr.out.cell hbw] at c0
      have HLN := Lib.hid (HBL.out k hlt)
      have HS := Lib.hid (bd_snoc hlt')
      have HOk := Lib.hid (HO.out _ (List.getElem_mem hlt'))
      obtain ⟨p, hp⟩ : ∃ p, p = L[k]'hlt' := ⟨_, rfl⟩
      rw [← hp] at c0 HS HOk
      clear hp hlt'
      have kp := fun w => kt p HOk.out w
      rw [ba_list] at kp
      have hpl : (txS p).length ≤ 44 := by have := okS_iff.1 HOk.out; rw [txS_len]; omega
      clear kt
      go_wp2_with (first
        | (go_at_call 22; refine (kp _).mono ?_; rintro e w5 ⟨rfl, b5⟩)
        | (go_at_call 20; refine (Try.Builder_WriteString_k B B _ _ _ (sbuilder_below hI.out b5) (by have := HLN.out; rw [Lib.byteCells_length, ba_size]; omega) (by have h5 := b5.size; omega)).mono ?_; rintro e w6 ⟨rfl, hbd, hbl, -⟩))
      have HI6 : Hid (Lib.IsBuilderF 42 5 B B (Lib.byteCells (sjF ++ fourL n ++ bdS (L.take (k + 1)))) w6) := by
        rw [HS.out, ← List.append_assoc, sbyteCells_app]; exact Or.inr hbd
      have h5 := b5.size
      have h6 := hbl.size
      have HB6 := Lib.hid ((hBr.out.trans (b5.mono (by omega))).trans (hbl.mono hwB))
      clear hbd hbl b5
      go_roundw
      case rel => exact ⟨k + 1, by omega, by go_num, by omega, HI6, HB6⟩
      case measure => simp [intOf]; omega
    · have hkl : L.take k = L := List.take_of_length_le (by have := HN.out; omega)
      rw [hkl, ← HZ.out] at hI
      clear hkl kt HBL
      go_wp2_with (first
        | (go_at_call 24; refine (Try.Builder_String_any_k B B _ _ hI.out hsr).mono ?_; rintro e W1 ⟨rfl, h1, b1, k1⟩)
        | (go_at_call 23; refine (ks _).mono ?_; rintro e W2 ⟨rfl, b2⟩))
      go_ret2
      exact ⟨rfl, (hBr.out.trans (b1.mono hwB)).trans (b2.mono (by have := b1.size; omega))⟩
theorem sptrailer_any (s : ByteArray) (w : World) :
    Calls Try.prog 10 #[.string s] w fun e w' => e = .returned (.tuple #[.string (ba (trS s.data.toList).1), .int .i64 (trS s.data.toList).2]) ∧ Below w.heap.size w w' := by
  have kv := fun w => spvalid_any s w
  by_cases hok : okS s.data.toList = true
  case neg =>
    have hr : trS s.data.toList = ([], 13) := by rw [trS, if_neg hok]
    rw [hr]
    rw [show okS s.data.toList = false by simpa using hok] at kv
    go_enter Try.func10, Try.ntmps10
    go_wp2_with (go_at_call 29; refine (kv _).mono ?_; rintro e w0 ⟨rfl, rfl⟩)
    go_ret2
    exact ⟨rfl, Below.refl _ _⟩
  have hr : trS s.data.toList = (seS (stF ++ txS s.data.toList) 13 stL, 0) := by rw [trS, if_pos hok]
  rw [hr]
  rw [hok] at kv
  have hl : s.data.toList.length = s.size := by simp
  have h40 := okS_iff.1 hok
  have kt := fun w => sptext_any s (by omega) w
  have hz := ba_size (txS s.data.toList)
  rw [txS_len] at hz
  have hfz : (ba stF).size = 8 := rfl
  have ks := fun w => spseal_any (ba (stF ++ txS s.data.toList)) (by rw [ba_size, List.length_append, txS_len, show stF.length = 8 from rfl]; omega) 13 (by decide) (by decide) (ba stL) rfl w
  rw [ba_list, ba_list, ← ba_app] at ks
  generalize ba (seS (stF ++ txS s.data.toList) 13 stL) = y at ks ⊢
  obtain ⟨x, hx⟩ : ∃ x, x = ba (txS s.data.toList) := ⟨_, rfl⟩
  rw [← hx] at kt ks hz
  clear hx hr hok
  go_enter Try.func10, Try.ntmps10
  go_wp2_with (first
    | (go_at_call 29; refine (kv _).mono ?_; rintro e w0 ⟨rfl, rfl⟩)
    | (go_at_call 22; refine (kt _).mono ?_; rintro e w1 ⟨rfl, b1⟩)
    | (go_at_call 23; refine (ks _).mono ?_; rintro e w2 ⟨rfl, b2⟩))
  go_ret2
  exact ⟨rfl, b1.trans (b2.mono b1.size)⟩
end Go.Proofs.Ytcfojplmmpeefaa
