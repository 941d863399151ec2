/-
  Layer 16, the document's value (annexeref16): what a leaf's cell has, and where it ends; it changes nothing that was there. Condition: the place is within the string; sizes of at most 100000.
-/
import Derived.Test.YtdpjmijdlheajaaNdText
import Derived.Laws.Rows
namespace Go.Proofs.Ytdpjmijdlheajaa
open Go.RowKit

theorem results_trip {P : Program} {fn : Func} {p u v : Tmp} {ty : TypeId} (h : fn.results = #[.cell p ty, .tmp u, .tmp v]) (tmps : Array Value) (w : World) (g : Nat) (t : TypeId) (cs : Array Value) (d : TypeDesc)
    (hp : tmps.getD p undef = .pointer (some ⟨g, 0, none⟩)) (hg : Blk w g t cs)
    (hu : P.underlying ty = some d) (hd : (match d with | .struct _ | .array _ _ => true | _ => false) = true) (hi : (P.info? ty).map (·.size) = some cs.size) :
    (results fn tmps).run P w = .ok (.tuple #[.agg cs, tmps.getD u undef, tmps.getD v undef]) w := by
  have hp' : tmps[p]?.getD undef = .pointer (some ⟨g, 0, none⟩) := by simpa using hp
  have hl := run_loadVar_row (P := P) w g t ty cs (0, 0) d hg hu hd hi
  simp [results, h, hp', asAddr, hl]
theorem set4 {B : Nat} {w W : World} {g : Nat} (h : Below B w W) (hg : B ≤ g) (a b c d : Value) : Below B w ((((W.setCell ⟨g, 0, none⟩ a).setCell ⟨g, 1, none⟩ b).setCell ⟨g, 2, none⟩ c).setCell ⟨g, 3, none⟩ d) :=
  (((h.setCell hg _).setCell hg _).setCell hg _).setCell hg _
def celV (c : Cel) : Value := .agg #[.string (nb c.key), .int .i64 c.len, .string (nb c.loc), .int .i64 c.ov]
def celZ : Value := .agg #[.string ⟨#[]⟩, .int .i64 0, .string ⟨#[]⟩, .int .i64 0]
def ValQ (o : Option (Nat × Cel)) (a : Nat) (w : World) (e : Ending) (w' : World) : Prop := match o with
  | none => ∃ x : Int, e = .returned (.tuple #[celZ, .int .i64 x, .bool false]) ∧ Below w.heap.size w w'
  | some (k, c) => e = .returned (.tuple #[celV c, .int .i64 ((a + k : Nat) : Int), .bool true]) ∧ Below w.heap.size w w'
set_option maxRecDepth 100000 in
set_option maxHeartbeats 4000000 in
theorem rvalue_any (s kt : ByteArray) (a : Nat) (w : World) (ha : a ≤ s.size) (hs : s.size ≤ 100000) :
    Calls Try.prog 29 #[.string s, .int .i64 (a : Int), .string kt] w (ValQ (valP (s.data.toList.drop a) kt.data.toList) a w) := by
  have hl : s.data.toList.length = s.size := by simp
  have hT := nb_drop s a
  have hts : (s.extract a s.size).size ≤ 9223372036854775807 := by
    have : (s.extract a s.size).data.toList.length = (s.extract a s.size).size := by simp
    rw [← this, hT, List.length_drop]; omega
  have kg := fun W => rget_any (s.extract a s.size) hts W
  rw [hT] at kg
  obtain ⟨G, hG⟩ : ∃ G, G = getR (s.data.toList.drop a) := ⟨_, rfl⟩
  have hx : valP (s.data.toList.drop a) kt.data.toList = if G.2.2 = 0 ∧ G.1 ≤ 268435456 ∧ G.2.1 + min G.1 60 ≤ s.size - a then
      (if 60 < G.1 then (if (numR (s.data.toList.drop (a + G.2.1 + 60))).2 = 0 then some (G.2.1 + 60 + 4, ⟨kt.data.toList, G.1, (s.data.toList.drop (a + G.2.1)).take 60, (numR (s.data.toList.drop (a + G.2.1 + 60))).1⟩) else none)
      else some (G.2.1 + G.1, ⟨kt.data.toList, G.1, (s.data.toList.drop (a + G.2.1)).take G.1, 0⟩)) else none := by
    unfold valP
    rw [← hG, List.length_drop, hl, List.drop_drop, List.drop_drop, ← Nat.add_assoc]
  rw [← hG] at kg
  have hk9 : G.2.1 ≤ 9 := by
    rw [hG]
    have h9 := scan_len (s.data.toList.drop a) 0 0 (by omega)
    unfold getR
    split
    · split
      · exact h9
      · exact Nat.zero_le _
    · exact Nat.zero_le _
  obtain ⟨r, hr⟩ : ∃ r, r = valP (s.data.toList.drop a) kt.data.toList := ⟨_, rfl⟩
  rw [← hr]
  rw [hx] at hr
  obtain ⟨n, k, er⟩ := G
  simp only at kg hr hk9
  have HR := Lib.hid hr
  have hmin : min (a : Int) (s.size : Int) = a := by omega
  have q0 : (a : Int) ≤ s.size := by omega
  have HRB := Lib.hid (fun W (h : Below (w.alloc (.cells #[.string ⟨#[]⟩, .int .i64 0, .string ⟨#[]⟩, .int .i64 0] 45)).heap.size (w.alloc (.cells #[.string ⟨#[]⟩, .int .i64 0, .string ⟨#[]⟩, .int .i64 0] 45)) W) => show Blk W w.heap.size 45 #[.string ⟨#[]⟩, .int .i64 0, .string ⟨#[]⟩, .int .i64 0] ∧ Below w.heap.size w W from ⟨blk_below (blk_new w 45 _) h, (blw1 w _).trans (h.mono (by simp))⟩)
  clear hx hG hT hl hts hr
  by_cases h1 : er = 0
  · subst h1
    by_cases h2 : 268435456 < n
    · obtain rfl : r = none := by rw [HR.out, if_neg (by omega)]
      have h2' : (268435456 : Int) < n := by omega
      unfold ValQ
      clear HR
      go_enter Try.func29, Try.ntmps29
      go_wp2_with (go_at_call 52; (with_reducible refine (kg _).mono ?_); rintro e w2 ⟨rfl, hb⟩; obtain ⟨hr, hw⟩ := HRB.out _ hb; have HW := Lib.hid hw; have HB := Lib.hid hr; have r0 := blk_cell hr 0 rfl; have r1 := blk_cell hr 1 rfl; have r2 := blk_cell hr 2 rfl; have r3 := blk_cell hr 3 rfl; have f0 := blk_frozen hr 0; have f1 := blk_frozen hr 1; have f2 := blk_frozen hr 2; have f3 := blk_frozen hr 3; clear hb hr hw)
      refine bodyPost_ret (results_trip rfl _ _ w.heap.size _ _ _ rfl (blk_set (blk_set (blk_set (blk_set HB.out 0 _) 1 _) 2 _) 3 _) Try.underlying45 rfl (by kernel_rfl)) rfl ?_
      exact ⟨_, rfl, set4 HW.out (Nat.le_refl _) _ _ _ _⟩
    have h2' : ¬ (268435456 : Int) < n := by omega
    obtain ⟨lc, hlc⟩ : ∃ lc, lc = min n 60 := ⟨_, rfl⟩
    obtain ⟨b, hb⟩ : ∃ b, b = a + k := ⟨_, rfl⟩
    have hab : (a : Int) + k = (b : Int) := by omega
    have w4 : IntKind.i64.wrap (b : Int) = (b : Int) := IntWalk.i64_in _ ⟨by omega, by omega⟩
    have w3 : IntKind.i64.wrap (n : Int) = n := IntWalk.i64_in _ ⟨by omega, by omega⟩
    have hm60 : min (n : Int) 60 = (lc : Int) := by omega
    by_cases h3 : s.size - a < k + lc
    · obtain rfl : r = none := by rw [HR.out, if_neg (by rw [← hlc]; omega)]
      have w5 : IntKind.i64.wrap ((s.size : Int) - b) = (s.size : Int) - b := IntWalk.i64_in _ ⟨by omega, by omega⟩
      have h3' : (s.size : Int) - b < lc := by omega
      unfold ValQ
      clear HR hb hlc
      go_enter Try.func29, Try.ntmps29
      go_wp2_with (go_at_call 52; (with_reducible refine (kg _).mono ?_); rintro e w2 ⟨rfl, hb⟩; obtain ⟨hr, hw⟩ := HRB.out _ hb; have HW := Lib.hid hw; have HB := Lib.hid hr; have r0 := blk_cell hr 0 rfl; have r1 := blk_cell hr 1 rfl; have r2 := blk_cell hr 2 rfl; have r3 := blk_cell hr 3 rfl; have f0 := blk_frozen hr 0; have f1 := blk_frozen hr 1; have f2 := blk_frozen hr 2; have f3 := blk_frozen hr 3; clear hb hr hw)
      refine bodyPost_ret (results_trip rfl _ _ w.heap.size _ _ _ rfl (blk_set (blk_set (blk_set (blk_set HB.out 0 _) 1 _) 2 _) 3 _) Try.underlying45 rfl (by kernel_rfl)) rfl ?_
      exact ⟨_, rfl, set4 HW.out (Nat.le_refl _) _ _ _ _⟩
    obtain ⟨c, hc⟩ : ∃ c, c = b + lc := ⟨_, rfl⟩
    have hbc : (b : Int) + lc = (c : Int) := by omega
    have w6 : IntKind.i64.wrap (c : Int) = (c : Int) := IntWalk.i64_in _ ⟨by omega, by omega⟩
    have w5 : IntKind.i64.wrap ((s.size : Int) - b) = (s.size : Int) - b := IntWalk.i64_in _ ⟨by omega, by omega⟩
    have h3' : ¬ (s.size : Int) - b < lc := by omega
    have q1 : (b : Int) ≤ (c : Int) := by omega
    have q2 : (c : Int) ≤ s.size := by omega
    have q3 : b ≤ c := by omega
    have q4 : c ≤ s.size := by omega
    have hmid := nb_mid s b c
    rw [show c - b = lc by omega] at hmid
    by_cases h60 : 60 < n
    · have h60' : (60 : Int) < n := by omega
      obtain rfl : lc = 60 := by omega
      have hbc' : (b : Int) + 60 = (c : Int) := by omega
      have h3'' : ¬ (s.size : Int) - b < 60 := by omega
      have hm60' : min (n : Int) 60 = 60 := by omega
      have hU := nb_drop s c
      have hl : s.data.toList.length = s.size := by simp
      have hus : (s.extract c s.size).size ≤ 9223372036854775807 := by
        have : (s.extract c s.size).data.toList.length = (s.extract c s.size).size := by simp
        rw [← this, hU, List.length_drop]; omega
      have kn := fun W => rnumber_any (s.extract c s.size) hus W
      rw [hU] at kn
      have hr2 : r = if (numR (s.data.toList.drop c)).2 = 0 then some (k + 60 + 4, ⟨kt.data.toList, n, (s.data.toList.drop b).take 60, (numR (s.data.toList.drop c)).1⟩) else none := by
        rw [HR.out, if_pos ⟨rfl, by omega, by omega⟩, if_pos h60, show a + k + 60 = c by omega, hb]
      obtain ⟨o, ho⟩ : ∃ o, o = numR (s.data.toList.drop c) := ⟨_, rfl⟩
      rw [← ho] at hr2 kn
      obtain ⟨o1, o2⟩ := o
      simp only at hr2 kn
      have HR2 := Lib.hid hr2
      have HM := Lib.hid hmid
      obtain ⟨d, hd⟩ : ∃ d, d = c + 4 := ⟨_, rfl⟩
      have hcd : (c : Int) + 4 = (d : Int) := by omega
      have w7 : IntKind.i64.wrap (d : Int) = (d : Int) := IntWalk.i64_in _ ⟨by omega, by omega⟩
      have HAK := Lib.hid (show a + (k + 60 + 4) = d by omega)
      have q5 : (c : Int) ≤ s.size := by omega
      clear HR hb hlc hmid hc hU hl hus hr2 ho hd
      go_enter Try.func29, Try.ntmps29
      go_upto_region 9 with (go_at_call 52; (with_reducible refine (kg _).mono ?_); rintro e w2 ⟨rfl, hb⟩; obtain ⟨hr, hw⟩ := HRB.out _ hb; have HW := Lib.hid hw; have HB := Lib.hid hr; clear hb hr hw)
      have hx := blk_new w2 45 #[.string kt, .int .i64 n, .string (s.extract b c), .int .i64 0]
      have hb3 := blk_alloc HB.out (.cells #[.string kt, .int .i64 n, .string (s.extract b c), .int .i64 0] 45)
      have hw3 := HW.out.alloc HW.out.size (.cells #[.string kt, .int .i64 n, .string (s.extract b c), .int .i64 0] 45)
      have hne : w.heap.size ≠ w2.heap.size := by have := blk_lt HB.out; omega
      have hgw : w.heap.size ≤ w2.heap.size := HW.out.size
      have HW3 := Lib.hid hw3; have HB3 := Lib.hid hb3; have HX := Lib.hid hx
      clear hx hb3 hw3 HW HB
      generalize w2.alloc (.cells #[.string kt, .int .i64 n, .string (s.extract b c), .int .i64 0] 45) = W3 at *
      obtain ⟨gx, hgx⟩ : ∃ g, g = w2.heap.size := ⟨_, rfl⟩
      rw [← hgx] at HX hne hgw ⊢
      have x0 := blk_cell HX.out 0 rfl; have x1 := blk_cell HX.out 1 rfl
      clear hgx
      go_upto_region 12 with (go_at_call 27; (with_reducible refine (kn _).mono ?_); rintro e w4 ⟨rfl, hb⟩; have HW4 := Lib.hid (HW3.out.trans (hb.mono HW3.out.size)); have HB4 := Lib.hid (blk_below HB3.out hb); have HX4 := Lib.hid (blk_below HX.out hb); clear hb)
      clear x0 x1 HB3 HX HW3
      have r0 := blk_cell HB4.out 0 rfl; have r1 := blk_cell HB4.out 1 rfl; have r2 := blk_cell HB4.out 2 rfl; have r3 := blk_cell HB4.out 3 rfl; have f0 := blk_frozen HB4.out 0; have f1 := blk_frozen HB4.out 1; have f2 := blk_frozen HB4.out 2; have f3 := blk_frozen HB4.out 3
      have x0 := blk_cell HX4.out 0 rfl; have x1 := blk_cell HX4.out 1 rfl; have x2 := blk_cell HX4.out 2 rfl; have x3 := blk_cell HX4.out 3 rfl; have xf := blk_frozen HX4.out 3
      by_cases h5 : o2 = 0
      · subst h5
        have HS := Lib.hid (show r = some (k + 60 + 4, ⟨kt.data.toList, n, (s.data.toList.drop b).take 60, o1⟩) by rw [HR2.out, if_pos rfl])
        clear HR2
        go_wp2
        refine bodyPost_ret (results_trip rfl _ _ w.heap.size _ _ _ rfl (blk_set (blk_set (blk_set (blk_set (blk_other HB4.out hne 3 _) 0 _) 1 _) 2 _) 3 _) Try.underlying45 rfl (by kernel_rfl)) rfl ?_
        rw [HS.out]
        refine ⟨?_, set4 (HW4.out.setCell (by exact hgw) _) (Nat.le_refl _) _ _ _ _⟩
        rw [HAK.out]
        unfold celV
        rw [← HM.out]
        rfl
      · obtain rfl : r = none := by rw [HR2.out, if_neg h5]
        go_wp2
        refine bodyPost_ret (results_trip rfl _ _ w.heap.size _ _ _ rfl (blk_set (blk_set (blk_set (blk_set HB4.out 0 _) 1 _) 2 _) 3 _) Try.underlying45 rfl (by kernel_rfl)) rfl ?_
        exact ⟨_, rfl, set4 HW4.out (Nat.le_refl _) _ _ _ _⟩
    · have h60' : ¬ (60 : Int) < n := by omega
      obtain rfl : lc = n := by omega
      have HE := Lib.hid (show r = some (k + lc, ⟨kt.data.toList, lc, (s.data.toList.drop b).take lc, 0⟩) from by
        rw [HR.out, if_pos ⟨rfl, by omega, by omega⟩, if_neg h60, hb])
      have HM := Lib.hid hmid
      have HAK := Lib.hid (show a + (k + lc) = c by omega)
      clear HR hb hlc hmid hc
      go_enter Try.func29, Try.ntmps29
      go_upto_region 9 with (go_at_call 52; (with_reducible refine (kg _).mono ?_); rintro e w2 ⟨rfl, hb⟩; obtain ⟨hr, hw⟩ := HRB.out _ hb; have HW := Lib.hid hw; have HB := Lib.hid hr; clear hb hr hw)
      have hx := blk_new w2 45 #[.string kt, .int .i64 lc, .string (s.extract b c), .int .i64 0]
      have hb3 := blk_alloc HB.out (.cells #[.string kt, .int .i64 lc, .string (s.extract b c), .int .i64 0] 45)
      have hw3 := HW.out.alloc HW.out.size (.cells #[.string kt, .int .i64 lc, .string (s.extract b c), .int .i64 0] 45)
      have HW3 := Lib.hid hw3; have HB3 := Lib.hid hb3; have HX := Lib.hid hx
      clear hx hb3 hw3 HW HB
      generalize w2.alloc (.cells #[.string kt, .int .i64 lc, .string (s.extract b c), .int .i64 0] 45) = W3 at *
      have r0 := blk_cell HB3.out 0 rfl; have r1 := blk_cell HB3.out 1 rfl; have r2 := blk_cell HB3.out 2 rfl; have r3 := blk_cell HB3.out 3 rfl; have f0 := blk_frozen HB3.out 0; have f1 := blk_frozen HB3.out 1; have f2 := blk_frozen HB3.out 2; have f3 := blk_frozen HB3.out 3
      have x0 := blk_cell HX.out 0 rfl; have x1 := blk_cell HX.out 1 rfl; have x2 := blk_cell HX.out 2 rfl; have x3 := blk_cell HX.out 3 rfl
      go_wp2
      refine bodyPost_ret (results_trip rfl _ _ w.heap.size _ _ _ rfl (blk_set (blk_set (blk_set (blk_set HB3.out 0 _) 1 _) 2 _) 3 _) Try.underlying45 rfl (by kernel_rfl)) rfl ?_
      rw [HE.out]
      refine ⟨?_, set4 HW3.out (Nat.le_refl _) _ _ _ _⟩
      rw [HAK.out]
      unfold celV
      rw [← HM.out]
      rfl
  · obtain rfl : r = none := by rw [HR.out, if_neg (fun h => h1 h.1)]
    unfold ValQ
    clear HR
    go_enter Try.func29, Try.ntmps29
    go_wp2_with (go_at_call 52; (with_reducible refine (kg _).mono ?_); rintro e w2 ⟨rfl, hb⟩; obtain ⟨hr, hw⟩ := HRB.out _ hb; have HW := Lib.hid hw; have HB := Lib.hid hr; have r0 := blk_cell hr 0 rfl; have r1 := blk_cell hr 1 rfl; have r2 := blk_cell hr 2 rfl; have r3 := blk_cell hr 3 rfl; have f0 := blk_frozen hr 0; have f1 := blk_frozen hr 1; have f2 := blk_frozen hr 2; have f3 := blk_frozen hr 3; clear hb hr hw)
    refine bodyPost_ret (results_trip rfl _ _ w.heap.size _ _ _ rfl (blk_set (blk_set (blk_set (blk_set HB.out 0 _) 1 _) 2 _) 3 _) Try.underlying45 rfl (by kernel_rfl)) rfl ?_
    exact ⟨_, rfl, set4 HW.out (Nat.le_refl _) _ _ _ _⟩
end Go.Proofs.Ytdpjmijdlheajaa
