/-
  Layer 5, record.Encode and Len: they return the row's encoding and its length, or what is wrong with the row ('encR'), and change nothing that was there. Condition: none beyond the memory's own (strings of at most 2^47 - 4096 bytes).
-/
import Derived.Test.YtpkhbafgepdogaaRecLeaf
namespace Go.Proofs.Ytpkhbafgepdogaa
open Go.RowKit

theorem builderAt_below {T e : TypeId} {B b : Nat} {p : Value} {bs : List Value} {W W' : World} (h : Lib.BuilderAtF T e B b p bs W) (hb : Below W.heap.size W W') : Lib.BuilderAtF T e B b p bs W' := by
  obtain ⟨hB, v, hh, hown, hne⟩ := h
  have hg : W.grownBy W' none := ⟨hb.os, hb.tape, hb.output, hb.size, fun k hk _ => hb.block k hk⟩
  have hlt : b < W.heap.size := by
    obtain ⟨hlt, _⟩ := Array.getElem?_eq_some_iff.1 hh
    exact hlt
  refine ⟨hB, v, (hb.block b hlt).trans hh, hown.kept hg ?_, hne⟩
  cases hv : v.ownBlock with
  | none => exact .inl rfl
  | some g => exact .inr (by simp)
theorem builder_below {T e : TypeId} {B b : Nat} {bs : List Value} {W W' : World} (h : Lib.IsBuilderF T e B b bs W) (hb : Below W.heap.size W W') : Lib.IsBuilderF T e B b bs W' :=
  h.elim (fun x => .inl (builderAt_below x hb)) (fun x => .inr (builderAt_below x hb))
theorem byteCells_app (a b : List UInt8) : Lib.byteCells (a ++ b) = Lib.byteCells a ++ Lib.byteCells b := by simp [Lib.byteCells]
theorem strCells_eq (s : ByteArray) : Lib.strCells s = Lib.byteCells s.data.toList := rfl

theorem encM_snoc {l : List Val} {k : Nat} (h : k < l.length) : encM (l.take (k + 1)) = encM (l.take k) ++ putL (markN l[k]) := by
  rw [List.take_succ_eq_append_getElem h]
  induction l.take k with
  | nil => simp [encM]
  | cons v t ih => simp [encM, ih]
theorem encD_snoc {l : List Val} {k : Nat} (h : k < l.length) : encD (l.take (k + 1)) = encD (l.take k) ++ dataL l[k] := by
  rw [List.take_succ_eq_append_getElem h]
  induction l.take k with
  | nil => simp [encD]
  | cons v t ih => simp [encD, ih]
theorem encM_len (l : List Val) : (encM l).length ≤ 9 * l.length := by
  induction l with
  | nil => simp [encM]
  | cons v t ih =>
    have := lenN_le (markN v)
    rw [encM, List.length_append, putL_length, List.length_cons]; omega
theorem dataL_len {v : Val} (h : checkZ v.k v.n v.s = 0) : (dataL v).length ≤ 1000 := by
  have h5 := (check_ok h).2.2.2.2
  unfold dataL
  split
  · rw [putL_length]; have := lenN_le (foldZ v.n).toNat; omega
  · rw [size_list]; exact h5
theorem encD_len (l : List Val) (h : ∀ v ∈ l, checkZ v.k v.n v.s = 0) : (encD l).length ≤ 1000 * l.length := by
  induction l with
  | nil => simp [encD]
  | cons v t ih =>
    have := dataL_len (h v (by simp))
    have := ih (fun x hx => h x (by simp [hx]))
    rw [encD, List.length_append, List.length_cons]; omega
theorem ret_se {a b : ByteArray} {x y : Int} (h : a = b) (h2 : x = y) : Ending.returned (.tuple #[.string a, .int .i64 x]) = .returned (.tuple #[.string b, .int .i64 y]) := by rw [h, h2]

set_option maxRecDepth 100000 in
set_option maxHeartbeats 2000000 in
theorem encode_any (a : Option Addr) (cap : Nat) (l : List Val) (w : World) (hl : l.length ≤ 9223372036854775807) (ha : Vals w a l) :
    Calls Try.prog 8 #[.slice a l.length cap] w fun e w' => e = .returned (.tuple #[.string ⟨(encR l).1.toArray⟩, .int .i64 (encR l).2]) ∧ Below w.heap.size w w' := by
  have hc := rcheck_any a cap l w hl ha
  obtain ⟨x, hx⟩ : ∃ x, x = errE l := ⟨_, rfl⟩
  by_cases h0 : x = 0
  · have hr : encR l = (encL l, 0) := by rw [encR, if_pos (by rw [← hx, h0])]
    obtain ⟨h16, hok⟩ := err_all.1 (by rw [← hx, h0])
    rw [hr]
    rw [← hx, h0] at hc
    clear hr hx h0
    simp only
    obtain ⟨r, hr⟩ : ∃ r, r = encL l := ⟨_, rfl⟩
    rw [← hr]
    obtain ⟨len, hlen⟩ : ∃ len, len = l.length := ⟨_, rfl⟩
    rw [← hlen] at hl hc h16 ⊢
    have w1 : IntKind.u64.wrap (len : Int) = len := by rw [IntKind.wrap_u64]; omega
    have HA := Lib.hid ha; clear ha
    have HL := Lib.hid hlen; clear hlen
    have HR := Lib.hid hr; clear hr
    have HO := Lib.hid hok; clear hok
    have hp : ∀ w, Calls Try.prog 18 #[.int .u64 len] w fun e w' => e = .returned (.string ⟨(putL len).toArray⟩) ∧ Below w.heap.size w w' := fun w => vput_any (len : Int) (by omega) (by omega) w
    go_enter Try.func8, Try.ntmps8
    go_wp2_with (first
      | (go_at_call 16; refine hc.mono ?_; rintro e w0 ⟨rfl, b0⟩; have HI0 := Lib.hid (Lib.IsBuilderF.of (Lib.fresh_isBuilder 44 5 w0)))
      | (go_at_call 18; refine (hp _).mono ?_; rintro e w2 ⟨rfl, b2⟩)
      | (go_at_call 17; refine (Try.Builder_WriteString_k w0.heap.size w0.heap.size [] _ _ (builder_below HI0.out b2) (by have := lenN_le len; rw [← size_list]; simp [putL_length]; omega) (by have := b2.size; simp at this; omega)).mono ?_; rintro e w3 ⟨rfl, hbd, hbl, -⟩))
    obtain ⟨B, hB⟩ : ∃ B, B = w0.heap.size := ⟨_, rfl⟩
    have hI3 : Lib.IsBuilderF 44 5 B B (Lib.byteCells (putL len ++ encM (l.take 0))) w3 := by
      rw [hB, List.take_zero, encM, List.append_nil]; exact Or.inr hbd
    have hB3 : Below w.heap.size w w3 := b0.trans (((below_alloc w0 _).trans (b2.mono (by simp))).trans hbl |>.mono b0.size)
    have hs3 : B ≤ w3.heap.size := by have := hbl.size; have := b2.size; simp at *; omega
    have hwB : w.heap.size ≤ B := by rw [hB]; exact b0.size
    rw [← hB]
    have HI3 := Lib.hid hI3; have HB3 := Lib.hid hB3
    clear hI3 hB3 hbd hbl b2 b0 HI0 hB hp hc
    go_loopw [22] (fun i wr => ∃ k : Nat, k ≤ len ∧ i = .int .i64 k ∧ B ≤ wr.heap.size ∧ Hid (Lib.IsBuilderF 44 5 B B (Lib.byteCells (putL len ++ encM (l.take k))) wr) ∧ Hid (Below w.heap.size w wr)) (fun i _ => len - (intOf i).toNat)
    case atStart => exact ⟨0, by omega, rfl, hs3, HI3, HB3⟩
    case round =>
      obtain ⟨k, hk, rfl, hsr, hI, hBr⟩ := hrel
      clear HI3 HB3 hs3
      by_cases hlt : k < len
      · have hlt' : k < l.length := by have := HL.out; omega
        obtain ⟨hs, -, b, off, rfl, hbw, c0, c1, c2⟩ := vals_next HA.out hBr.out k hlt'
        have HS := Lib.hid (encM_snoc hlt')
        have hml := mark_le (HO.out l[k] (List.getElem_mem hlt'))
        obtain ⟨v, hv⟩ : ∃ v, v = l[k] := ⟨_, rfl⟩
        rw [← hv] at hs c0 c1 c2 HS hml
        have HLN := Lib.hid (show (putL len ++ encM (l.take k)).length ≤ 9 + 9 * 16 by
          have h1 := lenN_le len
          have h2 := encM_len (l.take k)
          rw [List.length_append, putL_length]
          rw [List.length_take] at h2
          have h3 := HL.out
          omega)
        clear hv hlt'
        have hm := fun w => markOf_any v w hs
        obtain ⟨m, hm'⟩ : ∃ m, m = markN v := ⟨_, rfl⟩
        rw [← hm'] at hm HS hml
        clear hm'
        have hpp : ∀ w, Calls Try.prog 18 #[.int .u64 m] w fun e w' => e = .returned (.string ⟨(putL m).toArray⟩) ∧ Below w.heap.size w w' := fun w => vput_any (m : Int) (by omega) (by omega) w
        obtain ⟨k1, n1, s1⟩ := v
        simp only at hs c0 c1 c2 hm
        go_wp2_with (first
          | (go_at_call 19; refine (hm _).mono ?_; rintro e w4 ⟨rfl, b4⟩)
          | (go_at_call 18; refine (hpp _).mono ?_; rintro e w5 ⟨rfl, b5⟩)
          | (go_at_call 17; refine (Try.Builder_WriteString_k B B _ _ _ (builder_below (builder_below (hI.out.alloc _) b4) b5) (by have h1 := lenN_le m; rw [← putL_length] at h1; have := HLN.out; rw [Lib.byteCells_length, ← size_list]; simp only; omega) (by have h5 := b5.size; have h4 := b4.size; simp only [World.size_alloc] at h4; omega)).mono ?_; rintro e w6 ⟨rfl, hbd, hbl, -⟩))
        have HI6 : Hid (Lib.IsBuilderF 44 5 B B (Lib.byteCells (putL len ++ encM (l.take (k + 1)))) w6) := by
          rw [HS.out, ← List.append_assoc, byteCells_app]; exact Or.inr hbd
        have h4 := b4.size
        have h5 := b5.size
        have h6 := hbl.size
        simp only [World.size_alloc] at h4
        have HB6 := Lib.hid (((hBr.out.alloc hBr.out.size _).trans (b4.mono (by simp; omega))).trans (b5.mono (by omega)) |>.trans (hbl.mono hwB))
        clear hbd hbl b4 b5
        go_roundw
        case rel => exact ⟨k + 1, by omega, by go_num, by omega, HI6, HB6⟩
        case measure => simp [intOf]; omega
      · have hkl : l.take k = l := List.take_of_length_le (by have := HL.out; omega)
        have HI7 : Hid (Lib.IsBuilderF 44 5 B B (Lib.byteCells ((putL len ++ encM l) ++ encD (l.take 0))) wr) := by
          rw [List.take_zero, encD, List.append_nil]
          rw [hkl] at hI
          exact hI.out
        have hsr' := hsr
        clear hI hkl hsr
        go_wp2
        go_loopw [33] (fun i wr => ∃ k : Nat, k ≤ len ∧ i = .int .i64 k ∧ B ≤ wr.heap.size ∧ Hid (Lib.IsBuilderF 44 5 B B (Lib.byteCells ((putL len ++ encM l) ++ encD (l.take k))) wr) ∧ Hid (Below w.heap.size w wr)) (fun i _ => len - (intOf i).toNat)
        case atStart => exact ⟨0, by omega, rfl, hsr', HI7, hBr⟩
        case round =>
          clear HI7 hBr hsr'
          obtain ⟨k, hk, rfl, hsr, hI, hBr⟩ := hrel
          have HLN := Lib.hid (show ((putL len ++ encM l) ++ encD (l.take k)).length ≤ 9 + 9 * 16 + 1000 * 16 by
            have h1 := lenN_le len
            have h2 := encM_len l
            have h3 := encD_len (l.take k) (fun v hv => HO.out v (List.mem_of_mem_take hv))
            rw [List.length_append, List.length_append, putL_length]
            rw [List.length_take] at h3
            have h4 := HL.out
            omega)
          by_cases hlt : k < len
          · have hlt' : k < l.length := by have := HL.out; omega
            obtain ⟨hs, hn, b, off, rfl, hbw, c0, c1, c2⟩ := vals_next HA.out hBr.out k hlt'
            have HS := Lib.hid (encD_snoc hlt')
            have hdl := dataL_len (HO.out l[k] (List.getElem_mem hlt'))
            obtain ⟨v, hv⟩ : ∃ v, v = l[k] := ⟨_, rfl⟩
            rw [← hv] at hs c0 c1 c2 HS hdl hn
            clear hv hlt'
            have hd := fun w => dataOf_any v w hn
            obtain ⟨d, hd'⟩ : ∃ d, d = dataL v := ⟨_, rfl⟩
            rw [← hd'] at hd HS hdl
            clear hd' hn
            obtain ⟨k1, n1, s1⟩ := v
            simp only at hs c0 c1 c2 hd
            go_wp2_with (first
              | (go_at_call 20; refine (hd _).mono ?_; rintro e w4 ⟨rfl, b4⟩)
              | (go_at_call 17; refine (Try.Builder_WriteString_k B B _ _ _ (builder_below (hI.out.alloc _) b4) (by have := HLN.out; rw [Lib.byteCells_length, ← size_list]; simp only; omega) (by have h4 := b4.size; simp only [World.size_alloc] at h4; omega)).mono ?_; rintro e w6 ⟨rfl, hbd, hbl, -⟩))
            have HI6 : Hid (Lib.IsBuilderF 44 5 B B (Lib.byteCells ((putL len ++ encM l) ++ encD (l.take (k + 1)))) w6) := by
              rw [HS.out, ← List.append_assoc, byteCells_app]; exact Or.inr hbd
            have h4 := b4.size
            have h6 := hbl.size
            simp only [World.size_alloc] at h4
            have HB6 := Lib.hid (((hBr.out.alloc hBr.out.size _).trans (b4.mono (by simp; omega))).trans (hbl.mono hwB))
            clear hbd hbl b4
            go_roundw
            case rel => exact ⟨k + 1, by omega, by go_num, by omega, HI6, HB6⟩
            case measure => simp [intOf]; omega
          · have hkl : l.take k = l := List.take_of_length_le (by have := HL.out; omega)
            rw [hkl] at hI
            have HI7 : Hid (Lib.IsBuilderF 44 5 B B (Lib.byteCells r) wr) := by
              have e : r = (putL len ++ encM l) ++ encD l := by rw [HR.out, encL, HL.out]; simp
              rw [e]; exact hI.out
            clear hI hkl
            go_wp2_with (go_at_call 21; refine (Try.Builder_String_any_k B B _ _ HI7.out hsr).mono ?_; rintro e W1 ⟨rfl, h1, b1, k1⟩)
            go_ret2
            exact ⟨rfl, hBr.out.trans (b1.mono hwB)⟩
  · have hr : encR l = ([], x) := by rw [encR, if_neg (by rw [← hx]; exact h0), ← hx]
    rw [hr]
    rw [← hx] at hc
    have t1 : (x != 0) = true := by simpa using h0
    clear hr hx h0
    go_enter Try.func8, Try.ntmps8
    go_wp2_with (go_at_call 16; refine hc.mono ?_; rintro e w0 ⟨rfl, b0⟩)
    go_ret2
    exact ⟨rfl, b0⟩

set_option maxRecDepth 100000 in
theorem len_any (a : Option Addr) (cap : Nat) (l : List Val) (w : World) (hl : l.length ≤ 9223372036854775807) (ha : Vals w a l) :
    Calls Try.prog 10 #[.slice a l.length cap] w fun e w' => e = .returned (.int .i64 ((encR l).1.length : Nat)) ∧ Below w.heap.size w w' := by
  have he := encode_any a cap l w hl ha
  obtain ⟨x, hx⟩ : ∃ x, x = encR l := ⟨_, rfl⟩
  rw [← hx] at he ⊢
  clear hx
  obtain ⟨p, e⟩ := x
  simp only at he ⊢
  go_enter Try.func10, Try.ntmps10
  go_wp2_with (go_at_call 8; refine he.mono ?_; rintro e w0 ⟨rfl, b0⟩)
  go_ret
  exact ⟨rfl, b0⟩
end Go.Proofs.Ytpkhbafgepdogaa
