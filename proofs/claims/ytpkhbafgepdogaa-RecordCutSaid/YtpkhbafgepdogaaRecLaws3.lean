/-
  Layer 5, the law RecordBack: it returns true, and changes nothing that was there. Condition: none beyond the memory's own (strings of at most 2^47 - 4096 bytes).
-/
import Derived.Test.YtpkhbafgepdogaaRecLaws2
namespace Go.Proofs.Ytpkhbafgepdogaa
open Go.RowKit

theorem encR_ok {l : List Val} (h : (encR l).2 = 0) : errE l = 0 ∧ encR l = (encL l, 0) := by
  unfold encR at *
  split at h
  · rename_i h0; rw [if_pos h0]; exact ⟨h0, rfl⟩
  · rename_i h0; exact absurd h h0
theorem enc_back {l : List Val} (h : (encR l).2 = 0) (hn : ∀ v ∈ l, I64 v.n) : decR (encR l).1 = (l, 0) := by
  obtain ⟨h0, h1⟩ := encR_ok h
  rw [h1]
  have := dec_enc h0 hn []
  rw [List.append_nil, if_pos rfl] at this
  exact this
theorem enc_len {l : List Val} : (encR l).1.length ≤ 16153 := by
  unfold encR
  split
  · rename_i h
    obtain ⟨h1, h2⟩ := err_all.1 h
    have a := encM_len l
    have b := encD_len l h2
    have c := lenN_le l.length
    rw [encL, List.length_append, List.length_append, putL_length]; omega
  · simp
theorem str_eq (p q : List UInt8) : ((bz p).toList == (bz q).toList) = decide (p = q) := by
  rw [same_list]
  by_cases h : p = q
  · subst h; simp
  · rw [decide_eq_false h]
    refine decide_eq_false fun e => h ?_
    have := congrArg (fun s : ByteArray => s.data.toList) e
    simpa [bz_list] using this
theorem enc_same {a b : List Val} (ha : (encR a).2 = 0) (hb : (encR b).2 = 0) (hna : ∀ v ∈ a, I64 v.n) (hnb : ∀ v ∈ b, I64 v.n) : (encR a).1 = (encR b).1 ↔ a = b := by
  obtain ⟨a0, a1⟩ := encR_ok ha
  obtain ⟨b0, b1⟩ := encR_ok hb
  constructor
  · intro h; rw [a1, b1] at h; exact enc_inj a0 b0 hna hnb h
  · intro h; rw [h]
theorem dec_back {s : List UInt8} (h : (decR s).2 = 0) : encR (decR s).1 = (s, 0) := by
  obtain ⟨h1, h2, -⟩ := enc_dec (s := s) (x := (decR s).1) (Prod.ext rfl h)
  rw [encR, if_pos h2, h1]
theorem same_is {a a' : Option Addr} {cap cap' : Nat} {l l' : List Val} {w : World} (hl : l.length ≤ 9223372036854775807) (hl' : l'.length ≤ 9223372036854775807) (ha : Vals w a l) (ha' : Vals w a' l') (r : Bool) (hr : r = true ↔ l = l') :
    Calls Try.prog 15 #[.slice a l.length cap, .slice a' l'.length cap'] w fun e w' => e = .returned (.bool r) ∧ Below w.heap.size w w' :=
  (same_any a a' cap cap' l l' w hl hl' ha ha').mono fun e w' ⟨r', he, hr', hb⟩ => ⟨by rw [he, show r' = r by cases r <;> cases r' <;> simp_all], hb⟩

set_option maxRecDepth 100000 in
set_option maxHeartbeats 2000000 in
theorem back_any (a : Option Addr) (cap : Nat) (la : List Val) (b : Option Addr) (capb : Nat) (lb : List Val) (l : List UInt8) (w : World) (hla : la.length ≤ 9223372036854775807) (hlb : lb.length ≤ 9223372036854775807) (ha : Vals w a la) (hb : Vals w b lb) (hs : l.length ≤ 140737488351232) :
    Calls Try.prog 5 #[.slice a la.length cap, .slice b lb.length capb, .string (bz l)] w fun e w' => e = .returned (.bool true) ∧ Below w.heap.size w w' := by
  have hga := fun w' (h : Below w.heap.size w w') => great_any a cap la w' hla (vals_next ha h)
  have hgb := fun w' (h : Below w.heap.size w w') => great_any b capb lb w' hlb (vals_next hb h)
  have hw := works_any
  have hea := fun w' (h : Below w.heap.size w w') => encode_any a cap la w' hla (vals_next ha h)
  have heb := fun w' (h : Below w.heap.size w w') => encode_any b capb lb w' hlb (vals_next hb h)
  have hna := vals_n ha
  have hnb := vals_n hb
  have HVA := Lib.hid ha; have HVB := Lib.hid hb
  have hsz := bz_size l
  clear ha hb
  generalize greatZ la 0 0 = ga at hga
  generalize greatZ lb 0 0 = gb at hgb
  cases ga with
  | true =>
    go_enter Try.func5, Try.ntmps5
    go_wp2_with (first
      | (go_at_call 11; refine (hw _).mono ?_; rintro e w0 ⟨rfl, b0⟩)
      | (go_at_call 7; with_reducible refine (hga _ b0).mono ?_; rintro e w1 ⟨rfl, rfl⟩))
    go_ret
    exact ⟨rfl, b0⟩
  | false =>
  cases gb with
  | true =>
    go_enter Try.func5, Try.ntmps5
    go_wp2_with (first
      | (go_at_call 11; refine (hw _).mono ?_; rintro e w0 ⟨rfl, b0⟩)
      | (go_at_call 7; with_reducible refine (hga _ b0).mono ?_; rintro e w1 ⟨rfl, rfl⟩)
      | (go_at_call 7; with_reducible refine (hgb _ b0).mono ?_; rintro e w1 ⟨rfl, rfl⟩))
    go_ret
    exact ⟨rfl, b0⟩
  | false =>
  by_cases h5 : 5000 < l.length
  · have h5' : (5000 : Int) < (bz l).size := by omega
    clear hsz h5
    go_enter Try.func5, Try.ntmps5
    go_wp2_with (first
      | (go_at_call 11; refine (hw _).mono ?_; rintro e w0 ⟨rfl, b0⟩)
      | (go_at_call 7; with_reducible refine (hga _ b0).mono ?_; rintro e w1 ⟨rfl, rfl⟩)
      | (go_at_call 7; with_reducible refine (hgb _ b0).mono ?_; rintro e w1 ⟨rfl, rfl⟩))
    go_ret
    exact ⟨rfl, b0⟩
  have h5' : ((bz l).size : Int) ≤ 5000 := by omega
  have hda := fun w => decode_any (encR la).1 w (by have := enc_len (l := la); omega)
  have hdb := enc_back (l := la)
  have hds := fun w => decode_any l w hs
  have hdk := dec_back (s := l)
  have hdl := decR_len l
  have hdn := dec_none (s := l)
  have hes := fun a cap w' (h : Vals w' a (decR l).1) => encode_any a cap (decR l).1 w' (by omega) h
  have hsm := enc_same (a := la) (b := lb)
  generalize encR la = EA at *
  generalize encR lb = EB at *
  generalize decR l = D at *
  obtain ⟨pa, ea⟩ := EA
  obtain ⟨pb, eb⟩ := EB
  obtain ⟨x, g⟩ := D
  simp only at hea heb hda hdb hds hdk hdl hdn hes hsm
  rw [show (⟨pa.toArray⟩ : ByteArray) = bz pa from rfl] at hea
  rw [show (⟨pb.toArray⟩ : ByteArray) = bz pb from rfl] at heb
  clear hsz h5
  by_cases h0 : ea = 0
  · have hd0 := hdb h0 hna
    rw [hd0] at hda
    clear hdb hd0
    by_cases h1 : eb = 0
    · have hs2 := hsm h0 h1 hna hnb
      subst h0 h1
      by_cases hab : la = lb
      · have HAB := Lib.hid hab
        have ts : ((bz pa).toList == (bz pb).toList) = true := by rw [str_eq]; exact decide_eq_true (hs2.2 hab)
        clear hab hs2 hsm
        by_cases hg : g = 0
        · rw [hdk hg] at hes
          subst hg
          rw [show (⟨(l, (0 : Int)).1.toArray⟩ : ByteArray) = bz l from rfl] at hes
          simp only at hes
          clear hdk hdn
          go_enter Try.func5, Try.ntmps5
          go_wp2_with (first
              | (go_at_call 11; refine (hw _).mono ?_; rintro e w0 ⟨rfl, b0⟩)
              | (go_at_call 7; with_reducible refine (hga _ b0).mono ?_; rintro e w1 ⟨rfl, rfl⟩)
              | (go_at_call 7; with_reducible refine (hgb _ b0).mono ?_; rintro e w1 ⟨rfl, rfl⟩)
              | (go_at_call 8; with_reducible refine (hea _ b0).mono ?_; rintro e w2 ⟨rfl, b2⟩; replace b0 := nxt b0 b2)
              | (go_at_call 8; with_reducible refine (heb _ b0).mono ?_; rintro e w3 ⟨rfl, b3⟩; replace b0 := nxt b0 b3)
              | (go_at_call 12; with_reducible refine (hda _).mono ?_; rintro e w5 ⟨b5, a5, cap5, rfl, v5⟩; replace b0 := nxt b0 b5)
              | (go_at_call 15; with_reducible refine (same_is (r := true) hla hla v5 (vals_next HVA.out b0) (by simp)).mono ?_; rintro e w6 ⟨rfl, b6⟩; replace b0 := nxt b0 b6)
              | (go_at_call 15; with_reducible refine (same_is (r := true) hla hlb (vals_next HVA.out b0) (vals_next HVB.out b0) (by simpa using HAB.out)).mono ?_; rintro e w7 ⟨rfl, b7⟩; replace b0 := nxt b0 b7)
              | (go_at_call 12; with_reducible refine (hds _).mono ?_; rintro e w4 ⟨b4, a4, cap4, rfl, v4⟩; replace b0 := nxt b0 b4)
              | (go_at_call 8; refine (hes a4 cap4 _ v4).mono ?_; rintro e w8 ⟨rfl, b8⟩; replace b0 := nxt b0 b8))
          go_ret
          exact ⟨rfl, b0⟩
        · obtain rfl := hdn hg
          have tg : (g != 0) = true := by simpa using hg
          clear hdk hdn hes hg
          go_enter Try.func5, Try.ntmps5
          go_wp2_with (first
              | (go_at_call 11; refine (hw _).mono ?_; rintro e w0 ⟨rfl, b0⟩)
              | (go_at_call 7; with_reducible refine (hga _ b0).mono ?_; rintro e w1 ⟨rfl, rfl⟩)
              | (go_at_call 7; with_reducible refine (hgb _ b0).mono ?_; rintro e w1 ⟨rfl, rfl⟩)
              | (go_at_call 8; with_reducible refine (hea _ b0).mono ?_; rintro e w2 ⟨rfl, b2⟩; replace b0 := nxt b0 b2)
              | (go_at_call 8; with_reducible refine (heb _ b0).mono ?_; rintro e w3 ⟨rfl, b3⟩; replace b0 := nxt b0 b3)
              | (go_at_call 12; with_reducible refine (hda _).mono ?_; rintro e w5 ⟨b5, a5, cap5, rfl, v5⟩; replace b0 := nxt b0 b5)
              | (go_at_call 15; with_reducible refine (same_is (r := true) hla hla v5 (vals_next HVA.out b0) (by simp)).mono ?_; rintro e w6 ⟨rfl, b6⟩; replace b0 := nxt b0 b6)
              | (go_at_call 15; with_reducible refine (same_is (r := true) hla hlb (vals_next HVA.out b0) (vals_next HVB.out b0) (by simpa using HAB.out)).mono ?_; rintro e w7 ⟨rfl, b7⟩; replace b0 := nxt b0 b7)
              | (go_at_call 12; with_reducible refine (hds _).mono ?_; rintro e w4 ⟨b4, a4, cap4, rfl, v4⟩; replace b0 := nxt b0 b4))
          go_ret
          exact ⟨rfl, b0⟩
      · have HAB := Lib.hid hab
        have ts : ((bz pa).toList == (bz pb).toList) = false := by rw [str_eq]; exact decide_eq_false (fun e => hab (hs2.1 e))
        clear hab hs2 hsm
        by_cases hg : g = 0
        · rw [hdk hg] at hes
          subst hg
          rw [show (⟨(l, (0 : Int)).1.toArray⟩ : ByteArray) = bz l from rfl] at hes
          simp only at hes
          clear hdk hdn
          go_enter Try.func5, Try.ntmps5
          go_wp2_with (first
              | (go_at_call 11; refine (hw _).mono ?_; rintro e w0 ⟨rfl, b0⟩)
              | (go_at_call 7; with_reducible refine (hga _ b0).mono ?_; rintro e w1 ⟨rfl, rfl⟩)
              | (go_at_call 7; with_reducible refine (hgb _ b0).mono ?_; rintro e w1 ⟨rfl, rfl⟩)
              | (go_at_call 8; with_reducible refine (hea _ b0).mono ?_; rintro e w2 ⟨rfl, b2⟩; replace b0 := nxt b0 b2)
              | (go_at_call 8; with_reducible refine (heb _ b0).mono ?_; rintro e w3 ⟨rfl, b3⟩; replace b0 := nxt b0 b3)
              | (go_at_call 12; with_reducible refine (hda _).mono ?_; rintro e w5 ⟨b5, a5, cap5, rfl, v5⟩; replace b0 := nxt b0 b5)
              | (go_at_call 15; with_reducible refine (same_is (r := true) hla hla v5 (vals_next HVA.out b0) (by simp)).mono ?_; rintro e w6 ⟨rfl, b6⟩; replace b0 := nxt b0 b6)
              | (go_at_call 15; with_reducible refine (same_is (r := false) hla hlb (vals_next HVA.out b0) (vals_next HVB.out b0) (by simpa using HAB.out)).mono ?_; rintro e w7 ⟨rfl, b7⟩; replace b0 := nxt b0 b7)
              | (go_at_call 12; with_reducible refine (hds _).mono ?_; rintro e w4 ⟨b4, a4, cap4, rfl, v4⟩; replace b0 := nxt b0 b4)
              | (go_at_call 8; refine (hes a4 cap4 _ v4).mono ?_; rintro e w8 ⟨rfl, b8⟩; replace b0 := nxt b0 b8))
          go_ret
          exact ⟨rfl, b0⟩
        · obtain rfl := hdn hg
          have tg : (g != 0) = true := by simpa using hg
          clear hdk hdn hes hg
          go_enter Try.func5, Try.ntmps5
          go_wp2_with (first
              | (go_at_call 11; refine (hw _).mono ?_; rintro e w0 ⟨rfl, b0⟩)
              | (go_at_call 7; with_reducible refine (hga _ b0).mono ?_; rintro e w1 ⟨rfl, rfl⟩)
              | (go_at_call 7; with_reducible refine (hgb _ b0).mono ?_; rintro e w1 ⟨rfl, rfl⟩)
              | (go_at_call 8; with_reducible refine (hea _ b0).mono ?_; rintro e w2 ⟨rfl, b2⟩; replace b0 := nxt b0 b2)
              | (go_at_call 8; with_reducible refine (heb _ b0).mono ?_; rintro e w3 ⟨rfl, b3⟩; replace b0 := nxt b0 b3)
              | (go_at_call 12; with_reducible refine (hda _).mono ?_; rintro e w5 ⟨b5, a5, cap5, rfl, v5⟩; replace b0 := nxt b0 b5)
              | (go_at_call 15; with_reducible refine (same_is (r := true) hla hla v5 (vals_next HVA.out b0) (by simp)).mono ?_; rintro e w6 ⟨rfl, b6⟩; replace b0 := nxt b0 b6)
              | (go_at_call 15; with_reducible refine (same_is (r := false) hla hlb (vals_next HVA.out b0) (vals_next HVB.out b0) (by simpa using HAB.out)).mono ?_; rintro e w7 ⟨rfl, b7⟩; replace b0 := nxt b0 b7)
              | (go_at_call 12; with_reducible refine (hds _).mono ?_; rintro e w4 ⟨b4, a4, cap4, rfl, v4⟩; replace b0 := nxt b0 b4))
          go_ret
          exact ⟨rfl, b0⟩
    · subst h0
      have t2 : (eb == 0) = false := by simpa using h1
      clear hsm h1
      by_cases hg : g = 0
      · rw [hdk hg] at hes
        subst hg
        rw [show (⟨(l, (0 : Int)).1.toArray⟩ : ByteArray) = bz l from rfl] at hes
        simp only at hes
        clear hdk hdn
        go_enter Try.func5, Try.ntmps5
        go_wp2_with (first
            | (go_at_call 11; refine (hw _).mono ?_; rintro e w0 ⟨rfl, b0⟩)
            | (go_at_call 7; with_reducible refine (hga _ b0).mono ?_; rintro e w1 ⟨rfl, rfl⟩)
            | (go_at_call 7; with_reducible refine (hgb _ b0).mono ?_; rintro e w1 ⟨rfl, rfl⟩)
            | (go_at_call 8; with_reducible refine (hea _ b0).mono ?_; rintro e w2 ⟨rfl, b2⟩; replace b0 := nxt b0 b2)
            | (go_at_call 8; with_reducible refine (heb _ b0).mono ?_; rintro e w3 ⟨rfl, b3⟩; replace b0 := nxt b0 b3)
            | (go_at_call 12; with_reducible refine (hda _).mono ?_; rintro e w5 ⟨b5, a5, cap5, rfl, v5⟩; replace b0 := nxt b0 b5)
            | (go_at_call 15; with_reducible refine (same_is (r := true) hla hla v5 (vals_next HVA.out b0) (by simp)).mono ?_; rintro e w6 ⟨rfl, b6⟩; replace b0 := nxt b0 b6)
            | (go_at_call 12; with_reducible refine (hds _).mono ?_; rintro e w4 ⟨b4, a4, cap4, rfl, v4⟩; replace b0 := nxt b0 b4)
            | (go_at_call 8; refine (hes a4 cap4 _ v4).mono ?_; rintro e w8 ⟨rfl, b8⟩; replace b0 := nxt b0 b8))
        go_ret
        exact ⟨rfl, b0⟩
      · obtain rfl := hdn hg
        have tg : (g != 0) = true := by simpa using hg
        clear hdk hdn hes hg
        go_enter Try.func5, Try.ntmps5
        go_wp2_with (first
            | (go_at_call 11; refine (hw _).mono ?_; rintro e w0 ⟨rfl, b0⟩)
            | (go_at_call 7; with_reducible refine (hga _ b0).mono ?_; rintro e w1 ⟨rfl, rfl⟩)
            | (go_at_call 7; with_reducible refine (hgb _ b0).mono ?_; rintro e w1 ⟨rfl, rfl⟩)
            | (go_at_call 8; with_reducible refine (hea _ b0).mono ?_; rintro e w2 ⟨rfl, b2⟩; replace b0 := nxt b0 b2)
            | (go_at_call 8; with_reducible refine (heb _ b0).mono ?_; rintro e w3 ⟨rfl, b3⟩; replace b0 := nxt b0 b3)
            | (go_at_call 12; with_reducible refine (hda _).mono ?_; rintro e w5 ⟨b5, a5, cap5, rfl, v5⟩; replace b0 := nxt b0 b5)
            | (go_at_call 15; with_reducible refine (same_is (r := true) hla hla v5 (vals_next HVA.out b0) (by simp)).mono ?_; rintro e w6 ⟨rfl, b6⟩; replace b0 := nxt b0 b6)
            | (go_at_call 12; with_reducible refine (hds _).mono ?_; rintro e w4 ⟨b4, a4, cap4, rfl, v4⟩; replace b0 := nxt b0 b4))
        go_ret
        exact ⟨rfl, b0⟩
  · have t1 : (ea == 0) = false := by simpa using h0
    clear hdb hda hsm h0
    by_cases hg : g = 0
    · rw [hdk hg] at hes
      subst hg
      rw [show (⟨(l, (0 : Int)).1.toArray⟩ : ByteArray) = bz l from rfl] at hes
      simp only at hes
      clear hdk hdn
      go_enter Try.func5, Try.ntmps5
      go_wp2_with (first
          | (go_at_call 11; refine (hw _).mono ?_; rintro e w0 ⟨rfl, b0⟩)
          | (go_at_call 7; with_reducible refine (hga _ b0).mono ?_; rintro e w1 ⟨rfl, rfl⟩)
          | (go_at_call 7; with_reducible refine (hgb _ b0).mono ?_; rintro e w1 ⟨rfl, rfl⟩)
          | (go_at_call 8; with_reducible refine (hea _ b0).mono ?_; rintro e w2 ⟨rfl, b2⟩; replace b0 := nxt b0 b2)
          | (go_at_call 8; with_reducible refine (heb _ b0).mono ?_; rintro e w3 ⟨rfl, b3⟩; replace b0 := nxt b0 b3)
          | (go_at_call 12; with_reducible refine (hds _).mono ?_; rintro e w4 ⟨b4, a4, cap4, rfl, v4⟩; replace b0 := nxt b0 b4)
          | (go_at_call 8; refine (hes a4 cap4 _ v4).mono ?_; rintro e w8 ⟨rfl, b8⟩; replace b0 := nxt b0 b8))
      go_ret
      exact ⟨rfl, b0⟩
    · obtain rfl := hdn hg
      have tg : (g != 0) = true := by simpa using hg
      clear hdk hdn hes hg
      go_enter Try.func5, Try.ntmps5
      go_wp2_with (first
          | (go_at_call 11; refine (hw _).mono ?_; rintro e w0 ⟨rfl, b0⟩)
          | (go_at_call 7; with_reducible refine (hga _ b0).mono ?_; rintro e w1 ⟨rfl, rfl⟩)
          | (go_at_call 7; with_reducible refine (hgb _ b0).mono ?_; rintro e w1 ⟨rfl, rfl⟩)
          | (go_at_call 8; with_reducible refine (hea _ b0).mono ?_; rintro e w2 ⟨rfl, b2⟩; replace b0 := nxt b0 b2)
          | (go_at_call 8; with_reducible refine (heb _ b0).mono ?_; rintro e w3 ⟨rfl, b3⟩; replace b0 := nxt b0 b3)
          | (go_at_call 12; with_reducible refine (hds _).mono ?_; rintro e w4 ⟨b4, a4, cap4, rfl, v4⟩; replace b0 := nxt b0 b4))
      go_ret
      exact ⟨rfl, b0⟩
end Go.Proofs.Ytpkhbafgepdogaa
