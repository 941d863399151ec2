/-
  Layer 13: removeSupers' steps carried out. Condition: the disk is calm, the sizes fit.
  Layer 13, the document's Fresh: it returns its plain function and changes nothing that was there. Condition: paths of at most 30000 bytes, files of at most 1048576.
  Layer 13: Fresh: it returns the document's path, or that there is none. Condition: the disk is calm; at most 1000 files, each of at most 1048576 bytes, paths of at most 30000.
  Layer 13: Super: after which string a super-journal is named: it returns the document's answer, and changes nothing that was there. Condition: at most 30000 bytes; the table of powers of ten lies as laid.
  Layer 13: removable: whether a super-journal can go after a file has been restored: it returns the document's answer. Condition: the disk is calm; files of at most 1048576 bytes, paths of at most 30000.
  Layer 13: removables: the super-journals that can go after a file has been restored, as a new slice. Condition: the disk is calm; at most 1000 files, each of at most 1048576 bytes, paths of at most 30000.
  Layer 13: super-journals removed one by one (mathematics); the row of the steps that delete them. Condition: the paths rise.
  Layer 13: removeSupers: the steps laid: a deletion for each super-journal that can go, and the directory synced. Condition: the disk is calm, the sizes fit.
  Layer 13: removeSupers' walk: the row of steps, and inOrder over it. Condition: the disk is calm, the sizes fit.
-/
import Derived.Lib.ItoaLen
import Derived.Test.YthfebcfdhmihcaaGreatDoorMh20
import Derived.Test.YthfebcfdhmihcaaGreatDoorMh1
import Derived.Test.YthfebcfdhmihcaaGreatDoorMh9
import Derived.Test.YthfebcfdhmihcaaGreatDoorMh10
import Derived.Test.YthfebcfdhmihcaaGreatDoorMh16
import Derived.Test.YthfebcfdhmihcaaGreatDoorMh7
namespace Go.Proofs.YthfebcfdhmihcaaGreatDoor
open Go.RowKit

theorem freB_at (l : List F13) (s : List UInt8) : freB l s = (decide (fndI l s < 0) && (l.drop 0).all (nonF s)) := by
  unfold freB
  rw [List.drop_zero]
  congr 1
  rw [Bool.eq_iff_iff, decide_eq_true_iff, fnd_lt, Option.isNone_iff_eq_none]
theorem fre_step {l : List F13} {s : List UInt8} {q : Nat} (hq : q < l.length) : (l.drop q).all (nonF s) = (nonF s l[q] && (l.drop (q + 1)).all (nonF s)) := by
  rw [List.drop_eq_getElem_cons hq, List.all_cons]
theorem non_short {s : List UInt8} {f : F13} (h : f.1.length < 3) : nonF s f = true := by unfold nonF; rw [decide_eq_true h]; rfl
theorem non_end {s : List UInt8} {f : F13} (h : ¬ f.1.length < 3) (h2 : f.1.drop (f.1.length - 2) ≠ jx) : nonF s f = true := by
  unfold nonF; rw [decide_eq_false h, show (f.1.drop (f.1.length - 2) == jx) = false by simpa using h2]; rfl
theorem non_is {s : List UInt8} {f : F13} (h : ¬ f.1.length < 3) (h2 : f.1.drop (f.1.length - 2) = jx) : nonF s f = !((rdJ f.2).s == s) := by
  unfold nonF; rw [decide_eq_false h, show (f.1.drop (f.1.length - 2) == jx) = true by simpa using h2]; rfl
theorem freS_ba (p : List UInt8) (n : Nat) : ba p ++ (⟨#[45, 115]⟩ : ByteArray) ++ ⟨(Lib.itoa (n : Int)).toArray⟩ = ba (freS p n) := by
  apply ByteArray.ext
  simp [ba, freS, sx]
theorem freA_hit {l : List F13} {p : List UInt8} {k n : Nat} (h : freB l (freS p n) = true) : freA l p (k + 1) n = freS p n := by rw [freA, if_pos h]
theorem freA_miss {l : List F13} {p : List UInt8} {k n : Nat} (h : freB l (freS p n) = false) : freA l p (k + 1) n = freA l p k (n + 1) := by rw [freA, if_neg (by rw [h]; decide)]

set_option maxRecDepth 100000 in
set_option maxHeartbeats 2000000 in
theorem fresh13_any (a : Option Addr) (cap : Nat) (l : List F13) (p : List UInt8) (w : World) (hl : l.length ≤ 4294967296) (hp : p.length ≤ 30000) (hm : SmlF l) (hn : NamF l) (ha : Fls w a l) :
    Calls Tryz.prog 13 #[.slice a l.length cap, .string (ba p)] w fun e w' => e = .returned (.string (ba (freF l p))) ∧ Below w.heap.size w w' := by
  obtain ⟨r, hr⟩ : ∃ r, r = freF l p := ⟨_, rfl⟩
  rw [← hr]
  have HR := Lib.hid (show r = freA l p 1000 1 from hr)
  have kf := fun q W (h : Fls W a l) => find13_any a cap l q W (by omega) h
  have HA := Lib.hid ha; have HM := Lib.hid hm; have HNM := Lib.hid hn
  obtain ⟨len, hlen⟩ : ∃ len, len = l.length := ⟨_, rfl⟩
  rw [← hlen] at kf hl ⊢
  have HL := Lib.hid hlen
  have hps : (ba p).size ≤ 30000 := by rw [ba_size]; exact hp
  clear hlen hr ha hm hn
  go_enter Tryz.func13, Tryz.ntmps13
  go_wp2
  go_loopw [5] (fun i wr => ∃ j : Nat, j ≤ 1000 ∧ i = .int .i64 ((j + 1 : Nat) : Int) ∧ Hid (r = freA l p (1000 - j) (j + 1)) ∧ Hid (Below w.heap.size w wr)) (fun i _ => 1001 - (intOf i).toNat)
  case atStart => exact ⟨0, by omega, rfl, HR, Lib.hid (Below.refl _ _)⟩
  case round =>
    obtain ⟨j, hj, rfl, hI, hB⟩ := hrel
    clear HR
    by_cases hlt : j < 1000
    · have t1 : ((j + 1 : Nat) : Int) ≤ 1000 := by omega
      have kt := fun W => rtext_any ((j + 1 : Nat) : Int) (by omega) (by omega) W
      obtain ⟨S, hS⟩ : ∃ S, S = ba (freS p (j + 1)) := ⟨_, rfl⟩
      have he : ba p ++ (⟨#[45, 115]⟩ : ByteArray) ++ ⟨(Lib.itoa ((j + 1 : Nat) : Int)).toArray⟩ = S := by rw [hS, freS_ba]
      have kf1 := kf (freS p (j + 1))
      rw [← hS] at kf1
      obtain ⟨s, hs⟩ : ∃ s, s = freS p (j + 1) := ⟨_, rfl⟩
      obtain ⟨x, hx⟩ : ∃ x : Int, x = ((j + 1 : Nat) : Int) := ⟨_, rfl⟩
      obtain ⟨T, hT⟩ : ∃ T : ByteArray, T = ⟨(Lib.itoa x).toArray⟩ := ⟨_, rfl⟩
      have hTs : T.size ≤ 21 := by
        rw [hT]
        have := Lib.itoa_length_le x (by omega) (by omega)
        simpa [ByteArray.size] using this
      have wx : IntKind.i64.wrap (x + 1) = x + 1 := IntWalk.i64_in _ ⟨by omega, by omega⟩
      have hcat : ¬ 9223372036854775807 < (ba p).size + 2 + T.size := by omega
      rw [← hx] at kt t1 he ⊢
      rw [← hT] at kt he
      have HFB := Lib.hid (freB_at l (freS p (j + 1)))
      have HHIT := Lib.hid (fun h : freB l (freS p (j + 1)) = true => show r = freS p (j + 1) by
        rw [hI.out, show 1000 - j = (1000 - (j + 1)) + 1 by omega, freA_hit h])
      have HMISS := Lib.hid (fun h : freB l (freS p (j + 1)) = false => show r = freA l p (1000 - (j + 1)) (j + 1 + 1) by
        rw [hI.out, show 1000 - j = (1000 - (j + 1)) + 1 by omega, freA_miss h])
      have HSB := Lib.hid hS
      rw [← hs] at kf1 HFB HHIT HMISS HSB
      have HX := Lib.hid hx
      clear hS hI hx hT hs
      go_wp2_with (first
        | (go_at_call 40; (with_reducible refine (kt _).mono ?_); rintro e w1 ⟨rfl, b1⟩; have HB1 := Lib.hid (hB.out.trans (b1.mono hB.out.size)); clear b1)
        | (go_at_call 41; (with_reducible refine (kf1 _ (fls_next HA.out HB1.out)).mono ?_); rintro e w2 ⟨rfl, rfl⟩))
      go_loopw [7, 8] (fun b i wr2 => ∃ (q : Nat) (z : Bool), q ≤ len ∧ i = .int .i64 q ∧ b = .bool z ∧ Hid (freB l s = (z && (l.drop q).all (nonF s))) ∧ Hid (Below w.heap.size w wr2)) (fun _ i _ => len - (intOf i).toNat)
      case atStart => exact ⟨0, _, by omega, rfl, rfl, HFB, HB1⟩
      case round =>
        obtain ⟨q, z, hq, rfl, rfl, hZ, hB2⟩ := hrel
        clear HB1
        by_cases hql : q < len
        · have hql' : q < l.length := by have := HL.out; omega
          have t2 : (q : Int) < len := by omega
          cases z with
          | false =>
            have HNB := Lib.hid (HMISS.out (by rw [hZ.out]; rfl))
            clear hZ HFB HHIT HMISS
            go_wp2
            go_roundw
            case rel => exact ⟨j + 1, by omega, by have := HX.out; go_num, HNB, hB2⟩
            case measure => have := HX.out; simp [intOf]; omega
          | true =>
            obtain ⟨b, off, rfl, hbw, c0, c1⟩ := (fls_next HA.out hB2.out) q hql'
            have hzn := hZ.out
            rw [fre_step hql', Bool.true_and] at hzn
            have hy1 := HNM.out _ (List.getElem_mem hql')
            have hy2 := HM.out _ (List.getElem_mem hql')
            obtain ⟨y, hy⟩ : ∃ y, y = l[q] := ⟨_, rfl⟩
            rw [← hy] at c0 c1 hzn hy1 hy2
            have HZN := Lib.hid hzn
            have kr := fun W => qread11_any y.2 hy2 W
            unfold ReadQ at kr
            have hsz := ba_size y.1
            have hdr := fun kk (h : kk = y.1.length - 2) => show ((ba y.1).extract kk (ba y.1).size).toList = y.1.drop (y.1.length - 2) by rw [h, hsext_drop, ByteArray.toList_eq, ba_list]
            obtain ⟨Y, hY⟩ : ∃ Y, Y = ba y.1 := ⟨_, rfl⟩
            rw [← hY] at c0 hsz hdr
            have w0 : IntKind.i64.wrap ((Y.size : Int) - 2) = (Y.size : Int) - 2 := IntWalk.i64_in _ ⟨by omega, by omega⟩
            have kfl := fld_super
            clear hy hZ hzn hql' hY
            by_cases h3 : y.1.length < 3
            · have g1 : (Y.size : Int) - 2 < 1 := by omega
              have HZ2 := Lib.hid (show freB l s = (true && (l.drop (q + 1)).all (nonF s)) by rw [HZN.out, non_short h3])
              clear h3 hsz hdr HZN kr
              go_wp2
              go_roundw
              case rel => exact ⟨q + 1, true, by omega, by go_num, rfl, HZ2, hB2⟩
              case measure => simp [intOf]; omega
            · obtain ⟨kk, hkk⟩ : ∃ kk : Nat, kk = Y.size - 2 := ⟨_, rfl⟩
              have hK : (Y.size : Int) - 2 = (kk : Int) := by omega
              rw [hK] at w0
              have g1 : ¬ (kk : Int) < 1 := by omega
              have g2 : (kk : Int) ≤ Y.size := by omega
              have g3 : kk ≤ Y.size := by omega
              have hd2 := hdr kk (by omega)
              clear hdr hkk
              by_cases hj2 : y.1.drop (y.1.length - 2) = jx
              · have e2 : ((Y.extract kk Y.size).toList == [45, 106]) = true := by rw [hd2, hj2]; rfl
                have HZ2 := Lib.hid (show freB l s = ((!((rdJ y.2).s == s)) && (l.drop (q + 1)).all (nonF s)) by rw [HZN.out, non_is h3 hj2])
                have e5 := ba_eq (rdJ y.2).s s
                rw [← HSB.out] at e5
                clear hd2 hj2 h3 HZN hsz
                go_wp2_with (go_at_call 42; (with_reducible refine (kr _).mono ?_); rintro e w3 ⟨hB3, a3, cap3, rfl, -⟩)
                have HB4 := Lib.hid (hB2.out.trans (hB3.mono hB2.out.size))
                have HZ4 := Lib.hid (show freB l s = ((!decide ((rdJ y.2).s = s)) && (l.drop (q + 1)).all (nonF s)) by rw [HZ2.out]; by_cases hh : (rdJ y.2).s = s <;> simp [hh])
                go_roundw
                case rel => exact ⟨q + 1, _, by omega, by go_num, rfl, HZ4, HB4⟩
                case measure => simp [intOf]; omega
              · have e2 : ((Y.extract kk Y.size).toList == [45, 106]) = false := by
                  rw [hd2]
                  simpa [jx] using hj2
                have HZ2 := Lib.hid (show freB l s = (true && (l.drop (q + 1)).all (nonF s)) by rw [HZN.out, non_end h3 hj2])
                clear hd2 hj2 h3 HZN kr hsz
                go_wp2
                go_roundw
                case rel => exact ⟨q + 1, true, by omega, by go_num, rfl, HZ2, hB2⟩
                case measure => simp [intOf]; omega
        · have t2 : ¬ (q : Int) < len := by omega
          have hdn : l.drop q = [] := List.drop_eq_nil_of_le (by have := HL.out; omega)
          have hZ3 := hZ.out
          rw [hdn, List.all_nil, Bool.and_true] at hZ3
          cases z with
          | false =>
            have HNB := Lib.hid (HMISS.out hZ3)
            clear hZ hZ3 hdn HFB HHIT HMISS
            go_wp2
            go_roundw
            case rel => exact ⟨j + 1, by omega, by have := HX.out; go_num, HNB, hB2⟩
            case measure => have := HX.out; simp [intOf]; omega
          | true =>
            obtain rfl := HHIT.out hZ3
            clear hZ hZ3 hdn HFB HHIT HMISS
            have HSB2 := Lib.hid HSB.out.symm
            go_wp2
            go_ret
            exact ⟨by rw [HSB2.out]; rfl, hB2.out⟩
    · have t1 : ¬ ((j + 1 : Nat) : Int) ≤ 1000 := by omega
      obtain rfl : r = [] := by rw [hI.out, show 1000 - j = 0 by omega]; rfl
      clear hI
      go_wp2
      go_ret
      exact ⟨rfl, hB.out⟩
end Go.Proofs.YthfebcfdhmihcaaGreatDoor

namespace Go.Proofs.YthfebcfdhmihcaaGreatDoor
open Go.RowKit
variable {P : Nat → Prop} {ea : Addr} {b n m : Nat} {l : List F13} {Q : PQ} {w : World}

theorem suffix_jx (c : List UInt8) : Lib.hasSuffix c jx = (decide (2 ≤ c.length) && (c.drop (c.length - 2) == jx)) := (Lib.hasSuffix_of_drop c jx).symm
theorem jn1_not {s : List UInt8} {f : F13} (h : jn1 f.1 = none) : nonF s f = true := by
  unfold jn1 at h
  by_cases h3 : f.1.length < 3
  · exact non_short h3
  · by_cases h2 : f.1.drop (f.1.length - 2) = jx
    · exfalso
      have hs : Lib.hasSuffix f.1 jx = true := by rw [suffix_jx, decide_eq_true (by omega), h2]; rfl
      have ht : Lib.trimSuffix f.1 jx ≠ [] := by
        unfold Lib.trimSuffix
        rw [if_pos hs]
        intro e
        have := congrArg List.length e
        rw [List.length_take] at this
        have hj : jx.length = 2 := rfl
        simp only [List.length_nil] at this
        omega
      rw [if_pos ⟨hs, ht⟩] at h
      cases h
    · exact non_end h3 h2
theorem jn1_is {s c : List UInt8} {f : F13} (h : jn1 f.1 = some c) : c ++ jx = f.1 ∧ nonF s f = !((rdJ f.2).s == s) := by
  unfold jn1 at h
  split at h
  · rename_i hc
    obtain ⟨hs, ht⟩ := hc
    have hs2 := hs
    rw [suffix_jx, Bool.and_eq_true, decide_eq_true_iff, beq_iff_eq] at hs2
    obtain ⟨h2, hd⟩ := hs2
    have hc : c = f.1.take (f.1.length - 2) := by
      have := Option.some.inj h
      unfold Lib.trimSuffix at this
      rw [if_pos hs] at this
      exact this.symm
    have hne : c ≠ [] := by rw [← Option.some.inj h]; exact ht
    refine ⟨by rw [hc, ← hd, List.take_append_drop], ?_⟩
    have h3 : ¬ f.1.length < 3 := by
      intro h3
      have : f.1.length - 2 = 0 := by omega
      rw [this, List.take_zero] at hc
      exact hne hc
    exact non_is h3 hd
  · cases h
theorem named_is {l : List F13} (h : SrtF l) (s : List UInt8) : namB l (jnL (l.map (·.1))) s = !(l.all (nonF s)) := by
  have key : ∀ r : List F13, (∀ f, f ∈ r → f ∈ l) → (jnL (r.map (·.1))).any (nam1 l s) = !(r.all (nonF s)) := by
    intro r
    induction r with
    | nil => intro _; rfl
    | cons f r ih =>
      intro hr
      have ih' := ih (fun g hg => hr g (List.mem_cons_of_mem _ hg))
      unfold jnL at ih' ⊢
      rw [List.map_cons, List.all_cons, Bool.not_and]
      cases hj : jn1 f.1 with
      | none =>
        rw [List.filterMap_cons_none hj, ih', jn1_not hj]; rfl
      | some c =>
        obtain ⟨h1, h2⟩ := jn1_is (s := s) hj
        rw [List.filterMap_cons_some hj, List.any_cons, ih', h2, Bool.not_not]
        congr 1
        unfold nam1
        rw [h1, mem_look h (hr f (List.mem_cons_self ..))]
  exact key l (fun _ h => h)
theorem freB_look {l : List F13} {s : List UInt8} {z : Bool} (h : SrtF l) (hz : namB l (jnL (l.map (·.1))) s = z) : freB l s = (!(lookF l s).isSome && !z) := by
  unfold freB
  rw [← hz, named_is h, Bool.not_not]
  cases lookF l s <;> rfl
theorem freS_ne (p : List UInt8) (n : Nat) : freS p n ≠ [] := by unfold freS sx; simp
/-- What Fresh returns. -/
def freV (l : List F13) (p : List UInt8) : Value := .tuple #[.string (ba (freF l p)), .int .i64 (if freF l p = [] then 6 else 0)]
set_option maxRecDepth 100000 in
set_option maxHeartbeats 2000000 in
theorem hfresh_any (h : Dk P ea b n m l Q w) (p : List UInt8) (hp : p.length ≤ 30000) (hl : l.length ≤ 1000) (hm : SmlF l) (hz : ∀ f, f ∈ l → f.1.length ≤ 900000) (hn : n + l.length ≤ 100000) :
    Calls Tryz.prog 10 #[.pointer (some ⟨b, 0, none⟩), .string (ba p)] w (LookQ P ea b (n + l.length) m l Q (freV l p) w) := by
  unfold LookQ freV
  obtain ⟨r, hr⟩ : ∃ r, r = freF l p := ⟨_, rfl⟩
  rw [← hr]
  have HR := Lib.hid (show r = freA l p 1000 1 from hr)
  have HJ := Lib.hid (hjournals_any h hl hz)
  have hsrt := dk_srt h
  have hjl : (jnL (l.map (·.1))).length ≤ l.length := Nat.le_trans (jn_len _) (by rw [List.length_map]; exact Nat.le_refl _)
  have hjz : ∀ c, c ∈ jnL (l.map (·.1)) → c.length ≤ 900000 := fun c hc => by
    obtain ⟨q, hq, e⟩ := List.mem_filterMap.1 hc
    obtain ⟨f, hf, rfl⟩ := List.mem_map.1 hq
    unfold jn1 at e
    split at e
    · rw [← Option.some.inj e]; exact Nat.le_trans (trim_len _ _) (hz f hf)
    · cases e
  have kb := fun (s : List UInt8) (z : Bool) (e : namB l (jnL (l.map (·.1))) s = z) => freB_look hsrt e
  obtain ⟨FL, hFL⟩ : ∃ FL, FL = jnL (l.map (·.1)) := ⟨_, rfl⟩
  rw [← hFL] at HJ hjl hjz kb
  have kn := fun W a cap P' (hD : Dk P' ea b n m l Q W) (hS : Strs W a FL) (hP : ∀ g o, a = some ⟨g, o, none⟩ → g < W.heap.size → P' g) => hnamed_any a cap FL hD hS hP (by omega) hjz hm (by omega)
  have HD := Lib.hid h
  have KB := Lib.hid kb
  have hps : (ba p).size ≤ 30000 := by rw [ba_size]; exact hp
  clear hr hFL h kb hsrt
  go_enter Tryz.func10, Tryz.ntmps10
  go_wp2_with (first
    | (go_at_call 32; (with_reducible refine HJ.out.mono ?_); rintro e w1 ⟨v, rfl, hR, hB⟩; obtain ⟨a, cap, rfl, hST, hnew⟩ := srow_strs hR; have HST := Lib.hid hST; have HG := Lib.hid (dk_grab HD.out hB); have HB := Lib.hid hB; have HNW := Lib.hid hnew; clear hR hB hST hnew)
    | (go_at_call 31; (with_reducible refine (kn _ _ _ _ HG.out HST.out (fun g o e hg => .inr ⟨(HNW.out g o e).1, hg⟩)).mono ?_); rintro e w2 ⟨g, rfl, hD2, hF2, q, hS2⟩; have HD2 := Lib.hid hD2; have HF2 := Lib.hid hF2; have HS2 := Lib.hid hS2; clear hD2 hF2 hS2))
  have HDP := Lib.hid (show Dk P ea b (n + l.length) m l Q w2 from dk_up (dk_less HD2.out (fun k hk => .inl (.inl hk)) HD.out.gn) (by omega) hn)
  have HFP := Lib.hid (show Fr P w w2 from (fr_below HB.out HD.out.lt).trans (HF2.out.mono fun k hk => .inl hk))
  have HPS := Lib.hid (pset_lt HS2.out)
  clear HJ kn HST HG HB HNW HF2 hjz hjl
  go_loopw [8] (fun i wr => ∃ j : Nat, j ≤ 1000 ∧ i = .int .i64 ((j + 1 : Nat) : Int) ∧ Hid (r = freA l p (1000 - j) (j + 1)) ∧ Hid (Below w2.heap.size w2 wr)) (fun i _ => 1001 - (intOf i).toNat)
  case atStart => exact ⟨0, by omega, rfl, HR, Lib.hid (Below.refl _ _)⟩
  case round =>
    obtain ⟨j, hj, rfl, hI, hB⟩ := hrel
    clear HR
    by_cases hlt : j < 1000
    · have t1 : ((j + 1 : Nat) : Int) ≤ 1000 := by omega
      have kt := fun W hT => text_any ((j + 1 : Nat) : Int) (by omega) (by omega) W hT
      obtain ⟨S, hS⟩ : ∃ S, S = ba (freS p (j + 1)) := ⟨_, rfl⟩
      have he : ba p ++ (⟨#[45, 115]⟩ : ByteArray) ++ ⟨(Lib.itoa ((j + 1 : Nat) : Int)).toArray⟩ = S := by rw [hS, freS_ba]
      obtain ⟨s, hs⟩ : ∃ s, s = freS p (j + 1) := ⟨_, rfl⟩
      have hsne : s ≠ [] := by rw [hs]; exact freS_ne _ _
      obtain ⟨x, hx⟩ : ∃ x : Int, x = ((j + 1 : Nat) : Int) := ⟨_, rfl⟩
      obtain ⟨T, hT⟩ : ∃ T : ByteArray, T = ⟨(Lib.itoa x).toArray⟩ := ⟨_, rfl⟩
      have hTs : T.size ≤ 21 := by
        rw [hT]
        have := Lib.itoa_length_le x (by omega) (by omega)
        simpa [ByteArray.size] using this
      have wx : IntKind.i64.wrap (x + 1) = x + 1 := IntWalk.i64_in _ ⟨by omega, by omega⟩
      have hcat : ¬ 9223372036854775807 < (ba p).size + 2 + T.size := by omega
      rw [← hx] at kt t1 he ⊢
      rw [← hT] at kt he
      have hsl : s.length ≤ 1000000 := by
        have h1 := congrArg ByteArray.size he
        rw [hS, ← hs, ba_size] at h1
        have h2 : (ba p ++ (⟨#[45, 115]⟩ : ByteArray) ++ T).size = (ba p).size + 2 + T.size := by simp [ByteArray.size_append]; rfl
        omega
      have HHIT := Lib.hid (fun h : freB l (freS p (j + 1)) = true => show r = freS p (j + 1) by
        rw [hI.out, show 1000 - j = (1000 - (j + 1)) + 1 by omega, freA_hit h])
      have HMISS := Lib.hid (fun h : freB l (freS p (j + 1)) = false => show r = freA l p (1000 - (j + 1)) (j + 1 + 1) by
        rw [hI.out, show 1000 - j = (1000 - (j + 1)) + 1 by omega, freA_miss h])
      have HSB := Lib.hid hS
      rw [← hs] at HHIT HMISS HSB
      have HX := Lib.hid hx
      have kv := fun W (hb : Below w2.heap.size w2 W) => hvisible_any (dk_below HDP.out hb) s hsl
      have kh := fun W (hb : Below w2.heap.size w2 W) => hhas_any (pset_keep HS2.out (hb.block g HPS.out)) s hsl
      have HKB := Lib.hid (KB.out s _ rfl)
      obtain ⟨z, hz⟩ : ∃ z, z = namB l FL s := ⟨_, rfl⟩
      obtain ⟨y, hy⟩ : ∃ y, y = (lookF l s).isSome := ⟨_, rfl⟩
      rw [← hz] at kh HKB
      rw [← hy] at kv HKB
      rw [← HSB.out] at kv kh
      clear hS hI hx hT hs hz hy
      cases y with
      | true =>
        have HNB := Lib.hid (HMISS.out (by rw [HKB.out]; rfl))
        clear HHIT HMISS HKB
        go_wp2_with (first
          | (go_at_call 33; (with_reducible refine (kt _ (dk_below HDP.out hB.out).gl.tab).mono ?_); rintro e w3 ⟨rfl, b1⟩; have HB1 := Lib.hid (hB.out.trans (b1.mono hB.out.size)); clear b1)
          | (go_at_call 34; (with_reducible refine (kv _ HB1.out).mono ?_); rintro e w4 ⟨rfl, rfl⟩)
          | (go_at_call 35; (with_reducible refine (kh _ HB1.out).mono ?_); rintro e w5 ⟨rfl, b2⟩; have HB2 := Lib.hid (HB1.out.trans (b2.mono HB1.out.size)); clear b2))
        go_roundw
        case rel => exact ⟨j + 1, by omega, by have := HX.out; go_num, HNB, HB1⟩
        case measure => have := HX.out; simp [intOf]; omega
      | false =>
        cases z with
        | true =>
          have HNB := Lib.hid (HMISS.out (by rw [HKB.out]; rfl))
          clear HHIT HMISS HKB
          go_wp2_with (first
            | (go_at_call 33; (with_reducible refine (kt _ (dk_below HDP.out hB.out).gl.tab).mono ?_); rintro e w3 ⟨rfl, b1⟩; have HB1 := Lib.hid (hB.out.trans (b1.mono hB.out.size)); clear b1)
            | (go_at_call 34; (with_reducible refine (kv _ HB1.out).mono ?_); rintro e w4 ⟨rfl, rfl⟩)
            | (go_at_call 35; (with_reducible refine (kh _ HB1.out).mono ?_); rintro e w5 ⟨rfl, b2⟩; have HB2 := Lib.hid (HB1.out.trans (b2.mono HB1.out.size)); clear b2))
          go_roundw
          case rel => exact ⟨j + 1, by omega, by have := HX.out; go_num, HNB, HB2⟩
          case measure => have := HX.out; simp [intOf]; omega
        | false =>
          obtain rfl := HHIT.out (by rw [HKB.out]; rfl)
          have HSB2 := Lib.hid HSB.out.symm
          clear HHIT HMISS HKB
          go_wp2_with (first
            | (go_at_call 33; (with_reducible refine (kt _ (dk_below HDP.out hB.out).gl.tab).mono ?_); rintro e w3 ⟨rfl, b1⟩; have HB1 := Lib.hid (hB.out.trans (b1.mono hB.out.size)); clear b1)
            | (go_at_call 34; (with_reducible refine (kv _ HB1.out).mono ?_); rintro e w4 ⟨rfl, rfl⟩)
            | (go_at_call 35; (with_reducible refine (kh _ HB1.out).mono ?_); rintro e w5 ⟨rfl, b2⟩; have HB2 := Lib.hid (HB1.out.trans (b2.mono HB1.out.size)); clear b2))
          go_ret2
          exact ⟨by rw [HSB2.out]; first | rfl | (rw [if_neg hsne]; rfl), dk_below HDP.out HB2.out, HFP.out.trans (dk_fr HDP.out HB2.out)⟩
    · have t1 : ¬ ((j + 1 : Nat) : Int) ≤ 1000 := by omega
      obtain rfl : r = [] := by rw [hI.out, show 1000 - j = 0 by omega]; rfl
      clear hI
      go_wp2
      go_ret2
      exact ⟨rfl, dk_below HDP.out hB.out, HFP.out.trans (dk_fr HDP.out hB.out)⟩
end Go.Proofs.YthfebcfdhmihcaaGreatDoor

namespace Go.Proofs.YthfebcfdhmihcaaGreatDoor
open Go.RowKit

theorem sup_at (p : List UInt8) : ∀ i : Nat, supA p i = if Lib.lastOcc p sx (i + 1) < 1 then ([], false) else if numOk (p.drop ((Lib.lastOcc p sx (i + 1)).toNat + 2)) = true then (p.take (Lib.lastOcc p sx (i + 1)).toNat, true) else ([], false)
  | 0 => by
    have h := Lib.lastOcc_spec p sx 1
    have : Lib.lastOcc p sx 1 < 1 := by
      rcases h with ⟨e, -⟩ | ⟨i, hi, e, -⟩
      · rw [e]; decide
      · rw [e]; omega
    rw [if_pos this]; rfl
  | i + 1 => by
    have hoc : Lib.occAt p sx (i + 1) = decide ((p.drop (i + 1)).take 2 = sx) := by
      unfold Lib.occAt
      rw [Bool.eq_iff_iff, decide_eq_true_iff, List.isPrefixOf_iff_prefix, List.prefix_iff_eq_take]
      exact eq_comm
    rw [supA]
    by_cases hq : (p.drop (i + 1)).take 2 = sx
    · rw [if_pos hq, Lib.lastOcc_hit p sx (i + 1) (by rw [hoc]; exact decide_eq_true hq), if_neg (show ¬ (((i + 1 : Nat) : Int) < 1) by omega)]
      rfl
    · rw [if_neg hq, Lib.lastOcc_miss p sx (i + 1) (by rw [hoc]; exact decide_eq_false hq)]
      exact sup_at p i
theorem sup_last (p : List UInt8) : supD p = if Lib.lastIndex p sx < 1 then ([], false) else if numOk (p.drop ((Lib.lastIndex p sx).toNat + 2)) = true then (p.take (Lib.lastIndex p sx).toNat, true) else ([], false) := by
  unfold supD
  rw [sup_at]
  unfold Lib.lastIndex
  by_cases h : sx.length ≤ p.length
  · have h2 : 2 ≤ p.length := h
    rw [if_pos h]
    show (if Lib.lastOcc p sx (p.length - 2 + 1) < 1 then _ else _) = (if Lib.lastOcc p sx (p.length - 2 + 1) < 1 then _ else _)
    rfl
  · have h2 : p.length - 2 = 0 := by have : ¬ 2 ≤ p.length := h; omega
    rw [if_neg h, h2]
    have hs := Lib.lastOcc_spec p sx 1
    have : Lib.lastOcc p sx (0 + 1) < 1 := by
      rcases hs with ⟨e, -⟩ | ⟨i, hi, e, -⟩
      · rw [e]; decide
      · rw [e]; omega
    rw [if_pos this, if_pos (by decide)]
theorem last_bd (p : List UInt8) : Lib.lastIndex p sx = -1 ∨ ∃ i : Nat, Lib.lastIndex p sx = i ∧ i + 2 ≤ p.length := by
  unfold Lib.lastIndex
  split
  · rename_i h
    have h2 : 2 ≤ p.length := h
    rcases Lib.lastOcc_spec p sx (p.length - sx.length + 1) with ⟨e, -⟩ | ⟨i, hi, e, -⟩
    · exact .inl e
    · have h3 : sx.length = 2 := rfl
      exact .inr ⟨i, e, by omega⟩
  · exact .inl rfl

set_option maxRecDepth 100000 in
theorem hsuper_any (p : List UInt8) (hp : p.length ≤ 30000) (w : World) (ht : Tab w) :
    Calls Tryz.prog 11 #[.string (ba p)] w fun e w' => e = .returned (.tuple #[.string (ba (supD p).1), .bool (supD p).2]) ∧ Below w.heap.size w w' := by
  have hsz := ba_size p
  have kl := fun W => Tryz.strings_LastIndex (ba p) ⟨#[45, 115]⟩ (by omega) W
  rw [ba_list, show (⟨#[45, 115]⟩ : ByteArray).data.toList = sx from rfl] at kl
  rw [sup_last]
  rcases last_bd p with he | ⟨i, he, hi⟩
  · rw [he] at kl ⊢
    rw [if_pos (by decide)]
    clear he
    go_enter Tryz.func11, Tryz.ntmps11
    go_wp2_with (go_at_call 36; (with_reducible refine (kl _).mono ?_); rintro e w1 ⟨rfl, rfl⟩)
    go_ret2
    exact ⟨rfl, Below.refl _ _⟩
  · rw [he] at kl ⊢
    clear he
    by_cases h1 : (i : Int) < 1
    · rw [if_pos h1]
      go_enter Tryz.func11, Tryz.ntmps11
      go_wp2_with (go_at_call 36; (with_reducible refine (kl _).mono ?_); rintro e w1 ⟨rfl, rfl⟩)
      go_ret2
      exact ⟨rfl, Below.refl _ _⟩
    · rw [if_neg h1]
      obtain ⟨T, hT⟩ : ∃ T, T = p.drop (i + 2) := ⟨_, rfl⟩
      rw [Int.toNat_natCast, ← hT]
      have hTl : T.length ≤ 30000 := by rw [hT, List.length_drop]; omega
      have i1 : i + 2 ≤ (ba p).size := by omega
      have i2 : (i : Int) + 2 ≤ (ba p).size := by omega
      have i3 : (0 : Int) ≤ (i : Int) + 2 := by omega
      have i4 : ((i : Int) + 2).toNat = i + 2 := by omega
      have i5 : (i : Int) ≤ (ba p).size := by omega
      have w1 : IntKind.i64.wrap ((i : Int) + 2) = (i : Int) + 2 := IntWalk.i64_in _ ⟨by omega, by omega⟩
      have sl2 : (ba p).extract (i + 2) (ba p).size = ba T := by rw [hsext_drop, hT]
      have sl3 : (ba p).extract 0 i = ba (p.take i) := by rw [hsext_take]
      have hbd := readR_bd T
      have kr := fun W => fread_any (ba T) W (by rw [ba_size]; omega)
      rw [ba_list] at kr
      have kt := fun W hT => text_any (readR T).1 (by omega) (by omega) W hT
      have HNO := Lib.hid (show numOk T = decide ((readR T).2 = 0 ∧ 1 ≤ (readR T).1 ∧ Lib.itoa (readR T).1 = T) from rfl)
      obtain ⟨⟨n, er⟩, hre⟩ : ∃ x, x = readR T := ⟨_, rfl⟩
      rw [← hre] at hbd kr kt HNO
      simp only at hbd kr kt HNO
      have HT := Lib.hid ht
      have kc := fun W => spclone_any (ba (p.take i)) W (by rw [ba_size, List.length_take]; omega)
      obtain ⟨z, hz⟩ : ∃ z, z = numOk T := ⟨_, rfl⟩
      rw [← hz] at HNO ⊢
      clear hre hT ht hz hsz hi
      by_cases hok : er = 0 ∧ 1 ≤ n
      · obtain ⟨rfl, hn⟩ := hok
        have g1 : decide (n < 1) = false := decide_eq_false (by omega)
        by_cases he : Lib.itoa n = T
        · obtain rfl : z = true := by rw [HNO.out]; exact decide_eq_true ⟨rfl, hn, he⟩
          have e3 : (Lib.itoa n == (ba T).toList) = true := by rw [ByteArray.toList_eq, ba_list, he]; simp
          clear HNO he
          rw [if_pos rfl]
          go_enter Tryz.func11, Tryz.ntmps11
          go_wp2_with (first
            | (go_at_call 36; (with_reducible refine (kl _).mono ?_); rintro e w1 ⟨rfl, rfl⟩)
            | (go_at_call 37; (with_reducible refine (kr _).mono ?_); rintro e w2 ⟨rfl, hB2⟩; have HB2 := Lib.hid hB2; clear hB2)
            | (go_at_call 33; (with_reducible refine (kt _ (tab_below HT.out HB2.out)).mono ?_); rintro e w3 ⟨rfl, hB3⟩; have HB3 := Lib.hid (HB2.out.trans (hB3.mono HB2.out.size)); clear hB3)
            | (go_at_call 38; (with_reducible refine (kc _).mono ?_); rintro e w4 ⟨rfl, hB4⟩; have HB4 := Lib.hid (HB3.out.trans (hB4.mono HB3.out.size)); clear hB4))
          go_ret2
          exact ⟨rfl, HB4.out⟩
        · obtain rfl : z = false := by rw [HNO.out]; exact decide_eq_false (fun h => he h.2.2)
          have e3 : (Lib.itoa n == (ba T).toList) = false := by rw [ByteArray.toList_eq, ba_list]; simpa using he
          clear HNO he
          rw [if_neg (by decide)]
          go_enter Tryz.func11, Tryz.ntmps11
          go_wp2_with (first
            | (go_at_call 36; (with_reducible refine (kl _).mono ?_); rintro e w1 ⟨rfl, rfl⟩)
            | (go_at_call 37; (with_reducible refine (kr _).mono ?_); rintro e w2 ⟨rfl, hB2⟩; have HB2 := Lib.hid hB2; clear hB2)
            | (go_at_call 33; (with_reducible refine (kt _ (tab_below HT.out HB2.out)).mono ?_); rintro e w3 ⟨rfl, hB3⟩; have HB3 := Lib.hid (HB2.out.trans (hB3.mono HB2.out.size)); clear hB3))
          go_ret2
          exact ⟨rfl, HB3.out⟩
      · obtain rfl : z = false := by rw [HNO.out]; exact decide_eq_false (fun h => hok ⟨h.1, h.2.1⟩)
        clear HNO
        rw [if_neg (by decide)]
        by_cases he : er = 0
        · subst he
          have g1 : decide (n < 1) = true := decide_eq_true (by omega)
          go_enter Tryz.func11, Tryz.ntmps11
          go_wp2_with (first
            | (go_at_call 36; (with_reducible refine (kl _).mono ?_); rintro e w1 ⟨rfl, rfl⟩)
            | (go_at_call 37; (with_reducible refine (kr _).mono ?_); rintro e w2 ⟨rfl, hB2⟩; have HB2 := Lib.hid hB2; clear hB2))
          go_ret2
          exact ⟨rfl, HB2.out⟩
        · have g0 : (er != 0) = true := by simpa using he
          go_enter Tryz.func11, Tryz.ntmps11
          go_wp2_with (first
            | (go_at_call 36; (with_reducible refine (kl _).mono ?_); rintro e w1 ⟨rfl, rfl⟩)
            | (go_at_call 37; (with_reducible refine (kr _).mono ?_); rintro e w2 ⟨rfl, hB2⟩; have HB2 := Lib.hid hB2; clear hB2))
          go_ret2
          exact ⟨rfl, HB2.out⟩
end Go.Proofs.YthfebcfdhmihcaaGreatDoor

namespace Go.Proofs.YthfebcfdhmihcaaGreatDoor
open Go.RowKit
variable {P : Nat → Prop} {ea : Addr} {b n m : Nat} {l : List F13} {Q : PQ} {w : World}

theorem cont_any (L : List (List UInt8)) (p : List UInt8) : Lib.containsS (L.map ba) (ba p) = L.any (fun c => c == p) := by
  rw [Bool.eq_iff_iff, Lib.containsS_iff, List.any_eq_true]
  constructor
  · intro h
    obtain ⟨c, hc, e⟩ := List.mem_map.1 h
    refine ⟨c, hc, ?_⟩
    have := congrArg (fun x : ByteArray => x.data.toList) e
    simp only [ba_list] at this
    simp [this]
  · rintro ⟨c, hc, e⟩
    rw [← (beq_iff_eq.1 e)]
    exact List.mem_map_of_mem hc
theorem hcontains_any (a : Option Addr) (cap : Nat) (L : List (List UInt8)) (p : List UInt8) (hl : L.length ≤ 1000) (h : Strs w a L) :
    Calls Tryz.prog 155 #[.slice a L.length cap, .string (ba p)] w fun e w' => e = .returned (.bool (L.any (fun c => c == p))) ∧ w' = w := by
  cases hL : L with
  | nil => exact Tryz.slices_Contains_string_empty a cap (ba p) w
  | cons c0 r =>
    rw [← hL]
    obtain ⟨g, off, rfl, -, -⟩ := h 0 (by rw [hL]; simp)
    have := Tryz.slices_Contains_string g off L.length cap (L.map ba) (ba p) w (by simp) (by omega) (fun j hj => by
      rw [List.length_map] at hj
      obtain ⟨g', o', e, -, hc⟩ := h j hj
      cases e
      rw [hc]
      simp [List.getD, List.getElem?_eq_getElem hj])
    rw [List.take_of_length_le (by simp), cont_any] at this
    exact this
theorem goe_named {l : List F13} {path x p : List UInt8} (h1 : (supD path).2 = true) (h2 : (decS x).2 = 0) : goeF l (path, x) p = ((decS x).1.any (fun c => c == p) && !(namB l (decS x).1 path)) := by
  have hne : path ≠ [] := fun e => by subst e; cases h1
  unfold goeF
  simp only
  rw [if_neg (by rw [h1]; decide), if_neg (by rw [h2]; decide), Bool.and_comm]
  congr 1
  unfold namB
  induction (decS x).1 with
  | nil => rfl
  | cons c r ih =>
    rw [List.all_cons, List.any_cons, Bool.not_or, ih]
    congr 1
    unfold namF nam1
    cases lookF l (c ++ jx) with
    | none => simpa using hne.symm
    | some d => rfl
theorem hgoe_bad {l : List F13} {path x p : List UInt8} (h1 : (supD path).2 = true) (h2 : (decS x).2 ≠ 0) : goeF l (path, x) p = ((supD path).1 == p) := by
  unfold goeF
  simp only
  rw [if_neg (by rw [h1]; decide), if_pos h2]
theorem hgoe_no {l : List F13} {path x p : List UInt8} (h1 : (supD path).2 = false) : goeF l (path, x) p = false := by
  unfold goeF
  simp only
  rw [if_pos h1]
theorem decS_len (x : List UInt8) : (decS x).1.length ≤ 12 := by
  unfold decS
  split
  · have := flP_len x; omega
  · simp
theorem decS_name (x : List UInt8) : ∀ c, c ∈ (decS x).1 → c.length ≤ 40 := by
  unfold decS
  split
  · rename_i h
    intro c hc
    simp only at hc
    unfold encS at h
    split at h
    · rename_i hk
      unfold ckS at hk
      split at hk
      · cases hk
      · split at hk
        · cases hk
        · rename_i hz
          have hz2 : (flP x).all okS = true := by simpa using hz
          have := List.all_eq_true.1 hz2 c hc
          unfold okS at this
          exact (of_decide_eq_true this).2
    · rename_i hk
      exact absurd (congrArg (·.2) h) hk
  · intro c hc
    simp at hc

set_option maxRecDepth 100000 in
set_option maxHeartbeats 1000000 in
theorem hremovable_any (h : Dk P ea b n m l Q w) (p path x : List UInt8) (hpath : path.length ≤ 30000) (hx : lookF l path = some x) (hm : SmlF l) (hn : n + 14 ≤ 100000) :
    Calls Tryz.prog 127 #[.pointer (some ⟨b, 0, none⟩), .string (ba p), .string (ba path)] w (LookQ P ea b (n + 14) m l Q (.tuple #[.bool (goeF l (path, x) p), .nilIface]) w) := by
  unfold LookQ
  obtain ⟨f, hf, -, hfd⟩ := look_mem hx
  have hxl : x.length ≤ 1048576 := by rw [← hfd]; exact hm f hf
  have ks := fun W hT => hsuper_any path hpath W hT
  have HD := Lib.hid h
  have HUP := Lib.hid (fun W (hb : Below w.heap.size w W) => (⟨dk_up (dk_below h hb) (by omega) hn, dk_fr h hb⟩ : Dk P ea b (n + 14) m l Q W ∧ Fr P w W))
  cases hs : (supD path).2 with
  | false =>
    rw [hgoe_no hs]
    rw [hs] at ks
    clear h hs hx hm hf hfd hxl
    go_enter Tryz.func127, Tryz.ntmps127
    go_wp2_with (go_at_call 11; (with_reducible refine (ks _ HD.out.gl.tab).mono ?_); rintro e w1 ⟨rfl, hB⟩; have HB := Lib.hid hB; clear hB)
    go_ret2
    exact ⟨rfl, HUP.out _ HB.out⟩
  | true =>
    have kr := fun W (hD : Dk P ea b n m l Q W) => hread_some hD path x (by omega) hx (by omega)
    have kd := fun W => spdecode_new (ba x) (by rw [ba_size]; exact hxl) W
    rw [ba_list] at kd
    by_cases hd : (decS x).2 = 0
    · rw [goe_named hs hd]
      have hdl := decS_len x
      have hdn := decS_name x
      rw [hs] at ks
      rw [hd] at kd
      obtain ⟨FL, hFL⟩ : ∃ FL, FL = (decS x).1 := ⟨_, rfl⟩
      rw [← hFL] at kd hdl hdn ⊢
      have kn := fun W a cap P' (hD : Dk P' ea b (n + 1) m l Q W) (hS : Strs W a FL) (hP : ∀ g o, a = some ⟨g, o, none⟩ → g < W.heap.size → P' g) => hnamed_any a cap FL hD hS hP (by omega) (fun c hc => Nat.le_trans (hdn c hc) (by decide)) hm (by omega)
      have kc := fun W a cap (hS : Strs W a FL) => hcontains_any a cap FL p (by omega) hS
      have kh := fun W g q (hS : PSet W g q (namB l FL)) => hhas_any hS path (by omega)
      obtain ⟨z, hz⟩ : ∃ z, z = FL.any (fun c => c == p) := ⟨_, rfl⟩
      obtain ⟨y, hy⟩ : ∃ y, y = namB l FL path := ⟨_, rfl⟩
      rw [← hz] at kc ⊢
      rw [← hy] at kh ⊢
      clear h hs hx hf hfd hxl hd hFL hdn hz hy
      cases z with
      | false =>
        clear kn kh
        go_enter Tryz.func127, Tryz.ntmps127
        go_wp2_with (first
          | (go_at_call 11; (with_reducible refine (ks _ HD.out.gl.tab).mono ?_); rintro e w1 ⟨rfl, hB⟩; have HB := Lib.hid hB; clear hB)
          | (go_at_call 71; (with_reducible refine (kr _ (dk_below HD.out HB.out)).mono ?_); rintro e w2 ⟨rfl, hD2, hF2⟩; have HD2 := Lib.hid hD2; have HF2 := Lib.hid hF2; clear hD2 hF2)
          | (go_at_call 154; (with_reducible refine (kd _).mono ?_); rintro e w3 ⟨a, cap, rfl, hST, hB3, hNW⟩; have HB3 := Lib.hid hB3; have HST := Lib.hid hST; have HNW := Lib.hid hNW; have HG := Lib.hid (dk_grab HD2.out hB3); clear hB3 hST hNW)
          | (go_at_call 155; (with_reducible refine (kc _ _ _ HST.out).mono ?_); rintro e w4 ⟨rfl, rfl⟩))
        go_ret2
        exact ⟨rfl, dk_up (dk_below HD2.out HB3.out) (by omega) hn, ((dk_fr HD.out HB.out).trans HF2.out).trans (dk_fr HD2.out HB3.out)⟩
      | true =>
        go_enter Tryz.func127, Tryz.ntmps127
        go_wp2_with (first
          | (go_at_call 11; (with_reducible refine (ks _ HD.out.gl.tab).mono ?_); rintro e w1 ⟨rfl, hB⟩; have HB := Lib.hid hB; clear hB)
          | (go_at_call 71; (with_reducible refine (kr _ (dk_below HD.out HB.out)).mono ?_); rintro e w2 ⟨rfl, hD2, hF2⟩; have HD2 := Lib.hid hD2; have HF2 := Lib.hid hF2; clear hD2 hF2)
          | (go_at_call 154; (with_reducible refine (kd _).mono ?_); rintro e w3 ⟨a, cap, rfl, hST, hB3, hNW⟩; have HB3 := Lib.hid hB3; have HST := Lib.hid hST; have HNW := Lib.hid hNW; have HG := Lib.hid (dk_grab HD2.out hB3); clear hB3 hST hNW)
          | (go_at_call 155; (with_reducible refine (kc _ _ _ HST.out).mono ?_); rintro e w4 ⟨rfl, rfl⟩)
          | (go_at_call 31; (with_reducible refine (kn _ _ _ _ HG.out HST.out (fun g o e hg => .inr ⟨HNW.out g o e, hg⟩)).mono ?_); rintro e w5 ⟨g, rfl, hD5, hF5, q, hS5⟩; have HD5 := Lib.hid hD5; have HF5 := Lib.hid hF5; have HS5 := Lib.hid hS5; clear hD5 hF5 hS5)
          | (go_at_call 35; (with_reducible refine (kh _ _ _ HS5.out).mono ?_); rintro e w6 ⟨rfl, hB6⟩; have HB6 := Lib.hid hB6; clear hB6))
        go_ret2
        exact ⟨rfl, dk_up (dk_less (dk_below HD5.out HB6.out) (fun k hk => .inl (.inl hk)) HD.out.gn) (by omega) hn, ((((dk_fr HD.out HB.out).trans HF2.out).trans (dk_fr HD2.out HB3.out)).trans (HF5.out.mono fun k hk => .inl hk)).trans (dk_fr (dk_less HD5.out (fun k hk => .inl (.inl hk)) HD.out.gn) HB6.out)⟩
    · rw [hgoe_bad hs hd]
      rw [hs] at ks
      have hq : (((decS x).2) != 0) = true := by simpa using hd
      have he : ((ba (supD path).1).toList == (ba p).toList) = ((supD path).1 == p) := by rw [ByteArray.toList_eq, ByteArray.toList_eq, ba_list, ba_list]
      generalize (supD path).1 = T at *
      generalize (decS x).2 = er at *
      generalize (T == p) = z at *
      clear h hs hx hf hfd hxl hd
      go_enter Tryz.func127, Tryz.ntmps127
      go_wp2_with (first
        | (go_at_call 11; (with_reducible refine (ks _ HD.out.gl.tab).mono ?_); rintro e w1 ⟨rfl, hB⟩; have HB := Lib.hid hB; clear hB)
        | (go_at_call 71; (with_reducible refine (kr _ (dk_below HD.out HB.out)).mono ?_); rintro e w2 ⟨rfl, hD2, hF2⟩; have HD2 := Lib.hid hD2; have HF2 := Lib.hid hF2; clear hD2 hF2)
        | (go_at_call 154; (with_reducible refine (kd _).mono ?_); rintro e w3 ⟨a, cap, rfl, -, hB3, -⟩; have HB3 := Lib.hid hB3; clear hB3))
      go_ret2
      exact ⟨rfl, dk_up (dk_below HD2.out HB3.out) (by omega) hn, ((dk_fr HD.out HB.out).trans HF2.out).trans (dk_fr HD2.out HB3.out)⟩
end Go.Proofs.YthfebcfdhmihcaaGreatDoor

namespace Go.Proofs.YthfebcfdhmihcaaGreatDoor
open Go.RowKit
variable {P : Nat → Prop} {ea : Addr} {b n m : Nat} {l : List F13} {Q : PQ} {w : World}

theorem dk_grown {w' : World} {row : Option Nat} (h : Dk P ea b n m l Q w) (hg : w.grownBy w' row) (hr : ∀ g, row = some g → P g ∧ 6 ≤ g) : Dk (fun k => P k ∨ (w.heap.size ≤ k ∧ k < w'.heap.size)) ea b n m l Q w' := by
  obtain ⟨S, L, ρ, h1, h2, h3, h4, h5, h6, h7⟩ := h.ex
  refine ⟨⟨S, L, ρ, h1, h2, h3, h4, h5.heap (fun k hk => hg.block k (h5.lt hk) (fun e => hk (h7 k (hr k e.symm).1))) hg.size, h6, fun k hk => ?_⟩, gl_keep h.gl (fun k hk => hg.block k (h.lt k (h.gn k hk)) (fun e => by have := (hr k e.symm).2; omega)), fun k hk => ?_, fun k hk => .inl (h.gn k hk)⟩
  · rcases hk with hk | hk
    · exact h7 k hk
    · exact h5.old _ hk.1
  · rcases hk with hk | hk
    · exact Nat.lt_of_lt_of_le (h.lt k hk) hg.size
    · exact hk.2
theorem srow_fr {w' : World} {N : Nat} {v : Value} {L : List (List UInt8)} (h : SRow w N v L) (hP : ∀ g, v.ownBlock = some g → P g) (hF : Fr P w w') : SRow w' N v L := by
  refine ⟨h.1, ?_⟩
  rcases h.2 with h | ⟨g, cap, cur, rfl, h2, h3, h4⟩
  · exact .inl h
  · exact .inr ⟨g, cap, cur, rfl, h2, (hF.blk g (hP g rfl)).trans h3, h4⟩
def goP (l : List F13) (p c : List UInt8) : Bool := goeF l (c, (lookF l c).getD []) p
def rmF (l : List F13) (p : List UInt8) : List (List UInt8) := (l.map (·.1)).filter (goP l p)
theorem rm_no {q : List UInt8 → Bool} {L : List (List UInt8)} {j : Nat} (hj : j < L.length) (h : q L[j] = false) : (L.take (j + 1)).filter q = (L.take j).filter q := by
  rw [take_snoc L j hj, List.filter_append]
  simp [h]
theorem rm_yes {q : List UInt8 → Bool} {L : List (List UInt8)} {j : Nat} (hj : j < L.length) (h : q L[j] = true) : (L.take (j + 1)).filter q = (L.take j).filter q ++ [L[j]] := by
  rw [take_snoc L j hj, List.filter_append]
  simp [h]
/-- A disk beside an own row. -/
def DkR (P : Nat → Prop) (ea : Addr) (b n m : Nat) (l : List F13) (Q : PQ) (v : Value) (w : World) : Prop := ∃ PP : Nat → Prop, (∀ k, P k → PP k) ∧ (∀ g, v.ownBlock = some g → PP g) ∧ Dk PP ea b n m l Q w
theorem dkr_app {w3 : World} {PP P1 : Nat → Prop} {N : Nat} {o : Obj} {v v3 : Value} {M M3 : List (List UInt8)} (hP1 : ∀ k, P1 k → PP k) (hP2 : ∀ g, v.ownBlock = some g → PP g) (hD : Dk PP ea b n m l Q w) (hN : 6 ≤ N) (hR : SRow w N v M) (hg : (w.alloc o).grownBy w3 v.ownBlock) (hb : v3.ownBlock = v.ownBlock ∨ v3.ownBlock = some (w.alloc o).heap.size) (hR3 : SRow w3 N v3 M3) : DkR P1 ea b n m l Q v3 w3 := by
  have hD3 := dk_grown (dk_alloc hD o) hg (fun g e => ⟨hP2 g e, Nat.le_trans hN (World.ownsRow.lt hR g e).1⟩)
  refine ⟨_, fun k hk => .inl (hP1 k hk), fun g e => ?_, hD3⟩
  rcases hb with hb | hb
  · exact .inl (hP2 g (hb.symm.trans e))
  · have e2 := Option.some.inj (hb.symm.trans e)
    exact .inr ⟨Nat.le_of_eq e2, (World.ownsRow.lt hR3 g e).2⟩
theorem fr_app {w3 : World} {P1 : Nat → Prop} {N : Nat} {o : Obj} {v : Value} {M : List (List UInt8)} (hl : ∀ k, P1 k → k < N) (hs : N ≤ w.heap.size) (hR : SRow w N v M) (hg : (w.alloc o).grownBy w3 v.ownBlock) : Fr P1 w w3 :=
  ⟨hg.os, hg.tape, hg.output, Nat.le_trans (by simp) hg.size, fun k hk => (hg.block k (by have := hl k hk; simp; omega) (fun e => by have := (World.ownsRow.lt hR k e.symm).1; have := hl k hk; omega)).trans (heap_alloc_old _ _ (by have := hl k hk; omega))⟩

set_option maxRecDepth 100000 in
set_option maxHeartbeats 2000000 in
theorem hremovables_any (h : Dk P ea b n m l Q w) (p : List UInt8) (hl : l.length ≤ 1000) (hz : ∀ f, f ∈ l → f.1.length ≤ 30000) (hm : SmlF l) (hn : n + 14 * l.length ≤ 100000) :
    Calls Tryz.prog 92 #[.pointer (some ⟨b, 0, none⟩), .string (ba p)] w fun e w' => ∃ v, e = .returned (.tuple #[v, .nilIface]) ∧ SRow w' w.heap.size v (rmF l p) ∧ DkR P ea b (n + 14 * l.length) m l Q v w' ∧ Fr P w w' := by
  have HN := Lib.hid (dk_names h)
  have hz2 : ∀ c, c ∈ l.map (·.1) → c.length ≤ 30000 := fun c hc => by
    obtain ⟨f, hf, rfl⟩ := List.mem_map.1 hc
    exact hz f hf
  have hsrt := dk_srt h
  have hlk : ∀ c, c ∈ l.map (·.1) → lookF l c = some ((lookF l c).getD []) := fun c hc => by
    obtain ⟨f, hf, rfl⟩ := List.mem_map.1 hc
    rw [mem_look hsrt hf]; rfl
  unfold rmF
  have hll : (l.map (·.1)).length = l.length := List.length_map _
  obtain ⟨L, hL⟩ : ∃ L, L = l.map (·.1) := ⟨_, rfl⟩
  rw [← hL] at hz2 hlk hll HN ⊢
  have HZ := Lib.hid hz2
  have HK := Lib.hid hlk
  obtain ⟨len, hlen⟩ : ∃ len, len = L.length := ⟨_, rfl⟩
  rw [← hll, ← hlen] at hl hn
  rw [← hll, ← hlen]
  have HL := Lib.hid hlen
  obtain ⟨i1, hi1, hz1, hs1, hb1⟩ := infoS
  have HD := Lib.hid h
  have HM := Lib.hid hm
  have HNN := Lib.hid hn
  have HGE := Lib.hid (show 6 ≤ w.heap.size by have := h.lt (6 - 1) (h.gn _ (by decide)); omega)
  clear h hz hz2 hlk hll hL hlen hsrt hm hn
  go_enter Tryz.func92, Tryz.ntmps92
  go_wp2_with (go_at_call 20; (with_reducible refine HN.out.mono ?_); rintro e w1 ⟨x, rfl, hNR, hB, hNV⟩; obtain ⟨a, cap, hxe, hST⟩ := name_strs hNR; rw [← HL.out] at hxe; subst hxe; have HB := Lib.hid hB; have HST := Lib.hid hST; have HG := Lib.hid (dk_grab HD.out hB); have HNV := Lib.hid (fun g o (e : a = some ⟨g, o, none⟩) => hNV g o none len cap (by rw [e])); clear hNR hB hST hNV)
  have HW1 := Lib.hid (Nat.le_trans HGE.out HB.out.size)
  go_loopw [6, 14] (fun v i wr => ∃ j : Nat, j ≤ len ∧ i = .int .i64 j ∧ Hid (SRow wr w1.heap.size v ((L.take j).filter (goP l p))) ∧ Hid (DkR (fun k => P k ∨ (w.heap.size ≤ k ∧ k < w1.heap.size)) ea b (n + 14 * j) m l Q v wr) ∧ Hid (Fr (fun k => P k ∨ (w.heap.size ≤ k ∧ k < w1.heap.size)) w1 wr)) (fun _ i _ => len - (intOf i).toNat)
  case atStart => exact ⟨0, by omega, rfl, Lib.hid (srow_nil _ _), Lib.hid ⟨_, fun _ h => h, fun g e => (nomatch e), HG.out⟩, Lib.hid (Fr.refl _ _)⟩
  case round =>
    obtain ⟨j, hj, rfl, hR, hDR, hF⟩ := hrel
    by_cases hlt : j < len
    · have hjl : j < L.length := by have := HL.out; omega
      have t1 : (j : Int) < len := by omega
      have hst2 := strs_fr HST.out hF.out (fun g o e hg => .inr ⟨HNV.out g o e, hg⟩)
      obtain ⟨bg, off, rfl, hbw, c0⟩ := hst2 j hjl
      have hcl := HZ.out _ (List.getElem_mem hjl)
      have hlc := HK.out _ (List.getElem_mem hjl)
      have HJ1 := Lib.hid (fun h => rm_no (q := goP l p) (L := L) hjl h)
      have HJ2 := Lib.hid (fun h => rm_yes (q := goP l p) (L := L) hjl h)
      obtain ⟨PP, hP1, hP2, hD⟩ := hDR.out
      have HR1 := Lib.hid (hremovable_any hD p L[j] _ hcl hlc HM.out (by have := HNN.out; omega))
      have HP1 := Lib.hid hP1; have HP2 := Lib.hid hP2; have HDP := Lib.hid hD
      have hgp : goeF l (L[j], (lookF l L[j]).getD []) p = goP l p L[j] := rfl
      rw [hgp] at HR1
      obtain ⟨c, hc⟩ : ∃ c, c = L[j] := ⟨_, rfl⟩
      rw [← hc] at c0 HR1 HJ1 HJ2
      obtain ⟨z, hzz⟩ : ∃ z, z = goP l p c := ⟨_, rfl⟩
      rw [← hzz] at HR1 HJ1 HJ2
      unfold LookQ at HR1
      clear hc hcl hlc hst2 hD hP1 hP2 hgp hzz
      cases z with
      | false =>
        have HJ3 := Lib.hid (HJ1.out rfl)
        clear HJ1 HJ2
        go_wp2_with (go_at_call 127; (with_reducible refine HR1.out.mono ?_); rintro e w2 ⟨rfl, hD2, hF2⟩; have HD2 := Lib.hid hD2; have HF2 := Lib.hid hF2; clear hD2 hF2)
        go_roundw
        case rel => exact ⟨j + 1, by omega, by go_num, Lib.hid (by rw [HJ3.out]; exact srow_fr hR.out HP2.out HF2.out), Lib.hid ⟨PP, HP1.out, HP2.out, HD2.out⟩, Lib.hid (hF.out.trans (HF2.out.mono HP1.out))⟩
        case measure => simp [intOf]; omega
      | true =>
        have HJ3 := Lib.hid (HJ2.out rfl)
        have hcnt : ((L.take j).filter (goP l p)).length ≤ 1000 := by
          have := List.length_filter_le (goP l p) (L.take j)
          rw [List.length_take] at this
          omega
        clear HJ1 HJ2
        generalize (L.take j).filter (goP l p) = M at *
        go_wp2_with (first
          | (go_at_call 127; (with_reducible refine HR1.out.mono ?_); rintro e w2 ⟨rfl, hD2, hF2⟩; have HD2 := Lib.hid hD2; have HF2 := Lib.hid hF2; have HR2 := Lib.hid (srow_fr hR.out HP2.out hF2); clear hD2 hF2)
          | (at_builtin; refine wpList_append_row _ rfl _ _ 43 rfl w1.heap.size 9 i1 _ 1 16 Tryz.underlying43 hi1 hz1 hs1 hb1 rfl (by decide) _ _ _ rfl (srow_below HR2.out (blw1 _ _)) _ 1 [strC13 c] rfl (row_one _ 9 1 [strC13 c] rfl) (one_s c) (by unfold maxLen; omega) (by omega) (Nat.le_trans (hF.out.trans (HF2.out.mono HP1.out)).size (by simp)) ?_; intro v3 w3 hown3 hgrow3 hbk3))
        go_roundw
        case rel =>
          have hF12 := hF.out.trans (HF2.out.mono HP1.out)
          exact ⟨j + 1, by omega, by go_num, Lib.hid (by rw [HJ3.out]; exact srow_app hown3), Lib.hid (dkr_app HP1.out HP2.out HD2.out HW1.out HR2.out hgrow3 hbk3 (srow_app hown3)), Lib.hid (hF12.trans (fr_app HG.out.lt hF12.size HR2.out hgrow3))⟩
        case measure => simp [intOf]; omega
    · obtain rfl : j = len := by omega
      have t1 : ¬ (j : Int) < j := by omega
      have HE := Lib.hid (show L.take j = L by rw [HL.out]; exact List.take_length)
      go_wp2
      go_ret2
      have hr := srow_mono hR.out HB.out.size
      rw [HE.out] at hr
      obtain ⟨PP, hP1, hP2, hD⟩ := hDR.out
      exact ⟨_, rfl, hr, ⟨PP, fun k hk => hP1 k (.inl hk), hP2, hD⟩, (dk_fr HD.out HB.out).trans (hF.out.mono fun k hk => .inl hk)⟩
end Go.Proofs.YthfebcfdhmihcaaGreatDoor

namespace Go.Proofs.YthfebcfdhmihcaaGreatDoor
open Go.RowKit

def dlF (l : List F13) (L : List (List UInt8)) (j : Nat) : List F13 := (L.take j).foldl wtoF l
theorem dl_step {l : List F13} {L : List (List UInt8)} {j : Nat} (hj : j < L.length) : dlF l L (j + 1) = wtoF (dlF l L j) L[j] := by
  unfold dlF
  rw [take_snoc L j hj, List.foldl_append]
  rfl
theorem wto_look {l : List F13} {q c : List UInt8} (h : c ≠ q) : lookF (wtoF l q) c = lookF l c := by
  unfold lookF wtoF
  induction l with
  | nil => rfl
  | cons y r ih =>
    by_cases e : y.1 = q
    · rw [List.filter_cons_of_neg (by simp [e]), ih, List.find?_cons_of_neg (by rw [e]; simpa using Ne.symm h)]
    · rw [List.filter_cons_of_pos (by simpa using e)]
      by_cases e2 : y.1 = c
      · rw [List.find?_cons_of_pos (by simpa using e2), List.find?_cons_of_pos (by simpa using e2)]
      · rw [List.find?_cons_of_neg (by simpa using e2), List.find?_cons_of_neg (by simpa using e2)]; exact ih
theorem dl_look {c : List UInt8} : ∀ {M : List (List UInt8)}, c ∉ M → ∀ l : List F13, lookF (M.foldl wtoF l) c = lookF l c
  | [], _, _ => rfl
  | q :: M, h, l => by
    rw [List.foldl_cons, dl_look (fun h2 => h (List.mem_cons_of_mem _ h2)), wto_look (fun e => h (by rw [e]; exact List.mem_cons_self ..))]
theorem rm_nodup {l : List F13} (h : SrtF l) (p : List UInt8) : (rmF l p).Nodup := by
  unfold rmF
  refine List.Nodup.sublist List.filter_sublist ?_
  unfold List.Nodup
  rw [List.pairwise_map]
  exact h.imp fun {a b} hab e => by rw [e] at hab; exact List.lt_irrefl _ hab
theorem rm_mem {l : List F13} (h : SrtF l) {p c : List UInt8} (hc : c ∈ rmF l p) : ∃ x, lookF l c = some x := by
  unfold rmF at hc
  obtain ⟨f, hf, rfl⟩ := List.mem_map.1 (List.mem_filter.1 hc).1
  exact ⟨_, mem_look h hf⟩
theorem dl_at {l : List F13} (h : SrtF l) {p : List UInt8} {j : Nat} (hj : j < (rmF l p).length) : ∃ x, lookF (dlF l (rmF l p) j) (rmF l p)[j] = some x := by
  have hn := rm_nodup h p
  obtain ⟨x, hx⟩ := rm_mem h (List.getElem_mem hj)
  refine ⟨x, ?_⟩
  unfold dlF
  rw [dl_look (fun hm => ?_) l]
  · exact hx
  · obtain ⟨i, hi, e⟩ := List.getElem_of_mem hm
    rw [List.length_take] at hi
    rw [List.getElem_take] at e
    exact (List.pairwise_iff_getElem.1 hn) i j (by omega) hj (by omega) e
theorem gon_is {l : List F13} (h : SrtF l) (p : List UInt8) : gonF l p = dlF l (rmF l p) (rmF l p).length := by
  unfold dlF
  rw [List.take_length]
  unfold gonF rmF
  have key : ∀ (r : List F13) (out : List F13), (∀ f, f ∈ r → f ∈ l) → r.foldl (gstF l p) out = ((r.map (·.1)).filter (goP l p)).foldl wtoF out := by
    intro r
    induction r with
    | nil => intro out _; rfl
    | cons f r ih =>
      intro out hr
      have hf := hr f (List.mem_cons_self ..)
      have hg : goP l p f.1 = goeF l f p := by
        unfold goP
        rw [mem_look h hf]
        rfl
      rw [List.foldl_cons, ih _ (fun g hg => hr g (List.mem_cons_of_mem _ hg)), List.map_cons]
      unfold gstF
      by_cases e : goeF l f p = true
      · rw [if_pos e, List.filter_cons_of_pos (by rw [hg]; exact e), List.foldl_cons]
      · rw [if_neg e, List.filter_cons_of_neg (by rw [hg]; exact e)]
  exact key l l fun _ h => h
theorem rm_len (l : List F13) (p : List UInt8) : (rmF l p).length ≤ l.length := by
  unfold rmF
  refine Nat.le_trans (List.length_filter_le _ _) ?_
  rw [List.length_map]; exact Nat.le_refl _
theorem rm_names {l : List F13} {p c : List UInt8} (hz : ∀ f, f ∈ l → f.1.length ≤ 30000) (hc : c ∈ rmF l p) : c.length ≤ 30000 := by
  unfold rmF at hc
  obtain ⟨f, hf, rfl⟩ := List.mem_map.1 (List.mem_filter.1 hc).1
  exact hz f hf

def stepE (L : List (List UInt8)) (G1 G2 : Nat → Nat) (i : Nat) : List Value := [.string (delS (L.getD i [])), .func (.func 125) #[] #[.pointer (some ⟨G1 i, 0, none⟩), .pointer (some ⟨G2 i, 0, none⟩)]]
def stepC (L : List (List UInt8)) (G1 G2 : Nat → Nat) (j : Nat) : List Value := (List.range j).flatMap (stepE L G1 G2)
theorem stepC_succ (L : List (List UInt8)) (G1 G2 : Nat → Nat) (j : Nat) : stepC L G1 G2 (j + 1) = stepC L G1 G2 j ++ stepE L G1 G2 j := by
  unfold stepC
  rw [List.range_succ, List.flatMap_append]
  simp
theorem stepC_congr {L : List (List UInt8)} {G1 G2 K1 K2 : Nat → Nat} : ∀ {j : Nat}, (∀ i, i < j → K1 i = G1 i) → (∀ i, i < j → K2 i = G2 i) → stepC L K1 K2 j = stepC L G1 G2 j
  | 0, _, _ => rfl
  | j + 1, h1, h2 => by
    rw [stepC_succ, stepC_succ, stepC_congr (fun i hi => h1 i (by omega)) (fun i hi => h2 i (by omega))]
    unfold stepE
    rw [h1 j (by omega), h2 j (by omega)]
theorem stepC_len (L : List (List UInt8)) (G1 G2 : Nat → Nat) : ∀ j, (stepC L G1 G2 j).length = j * 2
  | 0 => rfl
  | j + 1 => by rw [stepC_succ, List.length_append, stepC_len L G1 G2 j]; simp [stepE]; omega
theorem stepC_at (L : List (List UInt8)) (G1 G2 : Nat → Nat) : ∀ (j i : Nat), i < j → (stepC L G1 G2 j)[i * 2]? = some (.string (delS (L.getD i []))) ∧ (stepC L G1 G2 j)[i * 2 + 1]? = some (.func (.func 125) #[] #[.pointer (some ⟨G1 i, 0, none⟩), .pointer (some ⟨G2 i, 0, none⟩)])
  | 0, _, h => absurd h (Nat.not_lt_zero _)
  | j + 1, i, h => by
    rw [stepC_succ]
    have hl := stepC_len L G1 G2 j
    by_cases e : i = j
    · subst e
      rw [List.getElem?_append_right (by omega), List.getElem?_append_right (by omega), hl]
      simp [stepE]
    · have := stepC_at L G1 G2 j i (by omega)
      rw [List.getElem?_append_left (by omega), List.getElem?_append_left (by omega)]
      exact this
theorem infoSt : ∃ i, Tryz.prog.info? 83 = some i ∧ i.zero = some (.agg #[.string ByteArray.empty, .nilFunc]) ∧ i.size = 2 ∧ i.bytes = 24 := by
  obtain ⟨i, hi, hz⟩ := Option.map_eq_some_iff.1 (show (Tryz.prog.info? 83).map (fun i => (i.zero, i.size, i.bytes)) = some (some (.agg #[.string ByteArray.empty, .nilFunc]), 2, 24) by kernel_rfl)
  simp only [Prod.mk.injEq] at hz
  exact ⟨i, hi, hz⟩
end Go.Proofs.YthfebcfdhmihcaaGreatDoor

namespace Go.Proofs.YthfebcfdhmihcaaGreatDoor
open Go.RowKit
variable {P : Nat → Prop} {ea : Addr} {b n m : Nat} {l : List F13} {Q : PQ} {w : World}

theorem delb_grown {rb g1 g2 : Nat} {q : List UInt8} {w w' : World} {row : Option Nat} (h : DelB rb g1 g2 q w) (hg : w.grownBy w' row) (h1 : some g1 ≠ row) (h2 : some g2 ≠ row) : DelB rb g1 g2 q w' :=
  ⟨(World.cell?_of_block (a := ⟨g1, 0, none⟩) (hg.block g1 h.2.2.1 h1)).trans h.1, (World.cell?_of_block (a := ⟨g2, 0, none⟩) (hg.block g2 h.2.2.2 h2)).trans h.2.1, Nat.lt_of_lt_of_le h.2.2.1 hg.size, Nat.lt_of_lt_of_le h.2.2.2 hg.size⟩

set_option maxRecDepth 100000 in
set_option maxHeartbeats 2000000 in
theorem remsup_none {rb : Nat} {p : List UInt8} {j0 j1 j2 j3 : Value} {hot cr : Bool} (h : Dk P ea b n m l Q w) (hr : Blk w rb 79 (rcC b p j0 j1 j2 j3 hot cr)) (hl : l.length ≤ 1000) (hz : ∀ f, f ∈ l → f.1.length ≤ 30000) (hm : SmlF l) (hn : n + 14 * l.length ≤ 100000) (he : rmF l p = []) :
    Calls Tryz.prog 47 #[.pointer (some ⟨rb, 0, none⟩)] w (NilQ P ea b (n + 14 * l.length) m l Q w) := by
  unfold NilQ
  have c0 := blk_cell hr 0 (v := .pointer (some ⟨b, 0, none⟩)) rfl
  have c1 := blk_cell hr 1 (v := .string (ba p)) rfl
  have HR := Lib.hid (hremovables_any (dk_drew h) p hl hz hm hn)
  have HGN := Lib.hid h.gn
  have HUD := Lib.hid (fun W (hF : Fr P w.drew W) => fr_undrew hF)
  rw [he] at HR
  clear h hr he
  go_enter Tryz.func47, Tryz.ntmps47
  go_upto_region 1 with (fail)
  go_cut [3, 4] from 5 (fun u t wx => t = .nilIface ∧ ∃ (a : Option Addr) (cap : Nat), u = .slice a 0 cap ∧ Hid (Dk P ea b (n + 14 * l.length) m l Q wx) ∧ Hid (Fr P w wx))
  case first =>
    go_region_with ((go_at_call 92; (with_reducible refine HR.out.mono ?_); rintro e w2 ⟨v, rfl, hS, ⟨PP, hP1, -, hD⟩, hF⟩; obtain ⟨a, cap, rfl, -, -⟩ := srow_strs hS; have HD := Lib.hid (dk_less hD hP1 HGN.out); have HF := Lib.hid (HUD.out _ hF); clear hD hF hS))
    all_goals go_wp2
    all_goals go_meet
    all_goals exact ⟨rfl, a, cap, rfl, HD, HF⟩
  case rest =>
    obtain ⟨rfl, a, cap, rfl, hD, hF⟩ := hcut
    go_wp2
    go_ret
    exact ⟨rfl, hD.out, hF.out⟩
end Go.Proofs.YthfebcfdhmihcaaGreatDoor

namespace Go.Proofs.YthfebcfdhmihcaaGreatDoor
open Go.RowKit
variable {P : Nat → Prop} {ea : Addr} {b n m : Nat} {l : List F13} {Q : PQ} {w : World}

/-- The steps that have been laid, their boxes beside their row. -/
def StK (rb : Nat) (L : List (List UInt8)) (wc wr : World) (s : Value) (j : Nat) : Prop :=
  Below wc.heap.size wc wr ∧ ∃ G1 G2 : Nat → Nat, wr.ownsRow wc.heap.size 83 2 s j (stepC L G1 G2 j) ∧ ∀ i, i < j → DelB rb (G1 i) (G2 i) (L.getD i []) wr ∧ wc.heap.size ≤ G1 i ∧ wc.heap.size ≤ G2 i ∧ s.ownBlock ≠ some (G1 i) ∧ s.ownBlock ≠ some (G2 i)
theorem stk_start (rb : Nat) (L : List (List UInt8)) (wc : World) : StK rb L wc wc (.slice none 0 0) 0 := ⟨Below.refl _ _, fun _ => 0, fun _ => 0, World.ownsRow_nil _ _ _ _, fun i hi => absurd hi (Nat.not_lt_zero i)⟩
theorem stk_step {rb j N1 N2 : Nat} {L : List (List UInt8)} {wc wr W1 w3 : World} {s v3 : Value} {o : Obj} {G1 G2 : Nat → Nat} (hBw : Below wc.heap.size wc wr) (hrow : wr.ownsRow wc.heap.size 83 2 s j (stepC L G1 G2 j)) (hdel : ∀ i, i < j → DelB rb (G1 i) (G2 i) (L.getD i []) wr ∧ wc.heap.size ≤ G1 i ∧ wc.heap.size ≤ G2 i ∧ s.ownBlock ≠ some (G1 i) ∧ s.ownBlock ≠ some (G2 i))
    (hB : Below wr.heap.size wr W1) (h1 : wr.heap.size ≤ N1) (h2 : wr.heap.size ≤ N2) (hDB : DelB rb N1 N2 (L.getD j []) W1)
    (hg : (W1.alloc o).grownBy w3 s.ownBlock) (hb : v3.ownBlock = s.ownBlock ∨ v3.ownBlock = some (W1.alloc o).heap.size)
    (ho : w3.ownsRow wc.heap.size 83 2 v3 (j + 1) (stepC L G1 G2 j ++ [.string (delS (L.getD j [])), .func (.func 125) #[] #[.pointer (some ⟨N1, 0, none⟩), .pointer (some ⟨N2, 0, none⟩)]])) : StK rb L wc w3 v3 (j + 1) := by
  have hw2 := hB.alloc hB.size o
  have hs2 : (W1.alloc o).heap.size = W1.heap.size + 1 := by simp
  have hn1 := hDB.2.2.1
  have hn2 := hDB.2.2.2
  have hrow2 : (W1.alloc o).ownsRow wc.heap.size 83 2 s j (stepC L G1 G2 j) := rown_below hrow hw2
  have hB2 := hBw.trans (hw2.mono hBw.size)
  refine ⟨hB2.grown hg hB2.size (fun k e => (hrow2.lt k e).1), fun i => if i = j then N1 else G1 i, fun i => if i = j then N2 else G2 i, ?_, fun i hi => ?_⟩
  · rw [stepC_succ, stepC_congr (K1 := fun i => if i = j then N1 else G1 i) (G1 := G1) (K2 := fun i => if i = j then N2 else G2 i) (G2 := G2) (fun i hi => if_neg (by omega)) (fun i hi => if_neg (by omega))]
    unfold stepE
    dsimp only
    rw [if_pos rfl, if_pos rfl]
    exact ho
  · by_cases e : i = j
    · subst e
      dsimp only
      rw [if_pos rfl, if_pos rfl]
      have ho1 : s.ownBlock ≠ some N1 := fun e => by have := (hrow.lt _ e).2; omega
      have ho2 : s.ownBlock ≠ some N2 := fun e => by have := (hrow.lt _ e).2; omega
      refine ⟨delb_grown (delb_below hDB (blw1 W1 o)) hg (fun e => ho1 e.symm) (fun e => ho2 e.symm), by have := hBw.size; omega, by have := hBw.size; omega, fun e => ?_, fun e => ?_⟩
      · rcases hb with hb | hb
        · exact ho1 (hb.symm.trans e)
        · have := Option.some.inj (hb.symm.trans e); omega
      · rcases hb with hb | hb
        · exact ho2 (hb.symm.trans e)
        · have := Option.some.inj (hb.symm.trans e); omega
    · dsimp only
      rw [if_neg e, if_neg e]
      obtain ⟨d1, d2, d3, d4, d5⟩ := hdel i (by omega)
      have hl1 := d1.2.2.1
      have hl2 := d1.2.2.2
      have hbs := hB.size
      refine ⟨delb_grown (delb_below d1 hw2) hg (fun e => d4 e.symm) (fun e => d5 e.symm), d2, d3, fun e => ?_, fun e => ?_⟩
      · rcases hb with hb | hb
        · exact d4 (hb.symm.trans e)
        · have := Option.some.inj (hb.symm.trans e); omega
      · rcases hb with hb | hb
        · exact d5 (hb.symm.trans e)
        · have := Option.some.inj (hb.symm.trans e); omega
def dirS : ByteArray := ⟨#[115, 121, 110, 99, 32, 116, 104, 101, 32, 100, 105, 114, 101, 99, 116, 111, 114, 121]⟩
/-- The whole row of steps. -/
structure FinI (rb : Nat) (L : List (List UInt8)) (wc w4 : World) (gb : Nat) (G1 G2 : Nat → Nat) : Prop where
  below : Below wc.heap.size wc w4
  lt : gb < w4.heap.size
  ge : wc.heap.size ≤ gb
  del : ∀ i, i < L.length → w4.cell? ⟨gb, 0 + i * 2, none⟩ = some (.string (delS (L.getD i []))) ∧ w4.cell? ⟨gb, 0 + i * 2 + 1, none⟩ = some (.func (.func 125) #[] #[.pointer (some ⟨G1 i, 0, none⟩), .pointer (some ⟨G2 i, 0, none⟩)])
  dir : w4.cell? ⟨gb, 0 + L.length * 2, none⟩ = some (.string dirS) ∧ w4.cell? ⟨gb, 0 + L.length * 2 + 1, none⟩ = some (.func (.func 45) #[.pointer (some ⟨rb, 0, none⟩)] #[])
  box : ∀ i, i < L.length → DelB rb (G1 i) (G2 i) (L.getD i []) w4 ∧ wc.heap.size ≤ G1 i ∧ wc.heap.size ≤ G2 i
theorem fin_of {rb : Nat} {L : List (List UInt8)} {wc wr w4 : World} {s v4 : Value} {o : Obj} {G1 G2 : Nat → Nat} (hBw : Below wc.heap.size wc wr) (hrow : wr.ownsRow wc.heap.size 83 2 s L.length (stepC L G1 G2 L.length)) (hdel : ∀ i, i < L.length → DelB rb (G1 i) (G2 i) (L.getD i []) wr ∧ wc.heap.size ≤ G1 i ∧ wc.heap.size ≤ G2 i ∧ s.ownBlock ≠ some (G1 i) ∧ s.ownBlock ≠ some (G2 i))
    (hg : (wr.alloc o).grownBy w4 s.ownBlock) (hrow4 : w4.ownsRow wc.heap.size 83 2 v4 (L.length + 1) (stepC L G1 G2 L.length ++ [.string dirS, .func (.func 45) #[.pointer (some ⟨rb, 0, none⟩)] #[]])) :
    ∃ gb cap, v4 = .slice (some ⟨gb, 0, none⟩) (L.length + 1) cap ∧ FinI rb L wc w4 gb G1 G2 := by
  rcases hrow4.2 with ⟨-, h0⟩ | ⟨gb, cap, cur, rfl, hb, hgb, -⟩
  · omega
  · have hw2 := blw1 wr o
    have hB2 := hBw.trans (hw2.mono hBw.size)
    have hrow2 : (wr.alloc o).ownsRow wc.heap.size 83 2 s L.length (stepC L G1 G2 L.length) := rown_below hrow hw2
    have hcl := stepC_len L G1 G2 L.length
    have hcell : ∀ k u, (stepC L G1 G2 L.length ++ [Value.string dirS, .func (.func 45) #[.pointer (some ⟨rb, 0, none⟩)] #[]])[k]? = some u → w4.cell? ⟨gb, 0 + k, none⟩ = some u := fun k u hk => by
      have := hrow4.cells (g := gb) rfl k u hk
      rw [Addr.add_lit] at this
      exact this
    refine ⟨gb, cap, rfl, hB2.grown hg hB2.size (fun k e => (hrow2.lt k e).1), (Array.getElem?_eq_some_iff.1 hgb).1, hb, fun i hi => ?_, ?_, fun i hi => ?_⟩
    · obtain ⟨e1, e2⟩ := stepC_at L G1 G2 L.length i hi
      refine ⟨hcell _ _ ?_, ?_⟩
      · rw [List.getElem?_append_left (by omega)]; exact e1
      · have := hcell (i * 2 + 1) _ (by rw [List.getElem?_append_left (by omega)]; exact e2)
        rw [Nat.add_assoc]
        exact this
    · refine ⟨hcell _ _ ?_, ?_⟩
      · rw [List.getElem?_append_right (by omega), hcl]; simp
      · have := hcell (L.length * 2 + 1) (.func (.func 45) #[.pointer (some ⟨rb, 0, none⟩)] #[]) (by rw [List.getElem?_append_right (by omega), hcl]; simp)
        rw [Nat.add_assoc]
        exact this
    · obtain ⟨d1, d2, d3, d4, d5⟩ := hdel i hi
      exact ⟨delb_grown (delb_below d1 hw2) hg (fun e => d4 e.symm) (fun e => d5 e.symm), d2, d3⟩
end Go.Proofs.YthfebcfdhmihcaaGreatDoor

namespace Go.Proofs.YthfebcfdhmihcaaGreatDoor
open Go.RowKit
variable {P : Nat → Prop} {ea : Addr} {b n m : Nat} {l : List F13} {Q : PQ} {w : World}

/-- The invariant of the steps. -/
def RmJ (P : Nat → Prop) (ea : Addr) (b n rb : Nat) (l : List F13) (L : List (List UInt8)) (p : List UInt8) (w : World) (j : Nat) (v : World) : Prop :=
  if j ≤ L.length then RsE P ea b (n + 3 * j) j rb (dlF l L j) QD p w v else RsE P ea b (n + 4 * L.length + 1) 0 rb (dlF l L L.length) QN p w v
theorem rmj_fr {rb : Nat} {p : List UInt8} {L : List (List UInt8)} {v : World} {j : Nat} (h : RmJ P ea b n rb l L p w j v) : Fr (Bt P rb) w v := by
  unfold RmJ at h
  split at h
  · exact rse_fr h
  · exact rse_fr h
def nmV (L : List (List UInt8)) (j : Nat) : ByteArray := if j < L.length then delS (L.getD j []) else dirS
def kfV (L : List (List UInt8)) (j : Nat) : Nat := if j < L.length then 125 else 45
def raV (rb : Nat) (L : List (List UInt8)) (j : Nat) : Array Value := if j < L.length then #[] else #[.pointer (some ⟨rb, 0, none⟩)]
def caV (G1 G2 : Nat → Nat) (L : List (List UInt8)) (j : Nat) : Array Value := if j < L.length then #[.pointer (some ⟨G1 j, 0, none⟩), .pointer (some ⟨G2 j, 0, none⟩)] else #[]
theorem enters_V (L : List (List UInt8)) (j : Nat) : ∀ args v, (callFunc (kfV L j) args).run Tryz.prog v = .ok (.enter (kfV L j) args) v := by
  unfold kfV
  split
  · exact enters_of Tryz.func125 (by kernel_rfl) rfl
  · exact enters_of Tryz.func45 (by kernel_rfl) rfl
theorem rem_steps {PP : Nat → Prop} {rb gb cap : Nat} {p : List UInt8} {L : List (List UInt8)} {wc w4 : World} {j0 j1 j2 j3 : Value} {hot cr : Bool} {G1 G2 : Nat → Nat}
    (hlk : ∀ j (hj : j < L.length), ∃ x, lookF (dlF l L j) L[j] = some x) (hnm : ∀ c, c ∈ L → c.length ≤ 30000) (hD : Dk PP ea b n 0 l QN wc) (hPP : ∀ k, P k → PP k) (hP : P rb) (hgn : ∀ k, k < 6 → P k) (hF : Fr (Bt P rb) w wc) (hr : Blk wc rb 79 (rcC b p j0 j1 j2 j3 hot cr))
    (hI : FinI rb L wc w4 gb G1 G2) (hn : n + 4 * L.length + 10 ≤ 100000) :
    Calls Tryz.prog 44 #[.slice (some ⟨gb, 0, none⟩) (L.length + 1) cap] w4 fun e w' => e = .returned .nilIface ∧ RsE P ea b (n + 4 * L.length + 1) 0 rb (dlF l L L.length) QN p w w' := by
  have hA := dk_grab hD hI.below
  obtain ⟨P2, hP2⟩ : ∃ P2 : Nat → Prop, P2 = fun k => PP k ∨ (wc.heap.size ≤ k ∧ k < w4.heap.size) := ⟨_, rfl⟩
  rw [← hP2] at hA
  have hPn : ∀ k, wc.heap.size ≤ k → k < w4.heap.size → P2 k := fun k h1 h2 => by rw [hP2]; exact .inr ⟨h1, h2⟩
  have hP1 : ∀ k, P k → P2 k := fun k hk => by rw [hP2]; exact .inl (hPP k hk)
  have hrlt : rb < wc.heap.size := hD.lt rb (hPP rb hP)
  have hF0 : Fr (Bt P rb) w w4 := hF.trans (fr_below hI.below fun k hk => hD.lt k (hPP k hk.1))
  have h0 : RmJ P2 ea b n rb l L p w4 0 w4 := by
    unfold RmJ
    rw [if_pos (Nat.zero_le _)]
    exact ⟨j0, j1, j2, j3, hot, cr, dk_mono hA (by omega) (by omega) (by omega) (fun d q h c hc => by have h2 : q = [] := h; rw [h2] at hc; cases hc), Fr.refl _ _, blk_below hr hI.below⟩
  refine (inorder_any gb 0 cap (L.length + 1) (by omega) (nmV L) (kfV L) (raV rb L) (caV G1 G2 L) (RmJ P2 ea b n rb l L p w4) (fun _ _ _ => False) ?_ (fun j _ => enters_V L j) ?_ _ h0).mono ?_
  · intro j v hj hI2
    have hfr := rmj_fr hI2
    have hgb : Bt P2 rb gb := ⟨hPn _ hI.ge hI.lt, by have := hI.ge; omega⟩
    unfold nmV kfV raV caV
    by_cases e : j < L.length
    · simp only [if_pos e]
      exact ⟨(hfr.cell (a := ⟨gb, _, none⟩) hgb).trans (hI.del j e).1, (hfr.cell (a := ⟨gb, _, none⟩) hgb).trans (hI.del j e).2⟩
    · simp only [if_neg e]
      have e2 : j = L.length := by omega
      rw [e2]
      exact ⟨(hfr.cell (a := ⟨gb, _, none⟩) hgb).trans hI.dir.1, (hfr.cell (a := ⟨gb, _, none⟩) hgb).trans hI.dir.2⟩
  · intro j v t0 cs hj hI2
    unfold kfV raV caV RmJ at *
    by_cases e : j < L.length
    · obtain ⟨d1, d2, d3⟩ := hI.box j e
      obtain ⟨x, hx⟩ := hlk j e
      have hg : L.getD j [] = L[j] := by rw [List.getD_eq_getElem?_getD, List.getElem?_eq_getElem e]; rfl
      rw [hg] at d1
      simp only [if_pos e, if_pos (show j + 1 ≤ L.length from e)]
      rw [if_pos (by omega)] at hI2
      rw [dl_step e, show n + 3 * (j + 1) = n + 3 * j + 3 by omega]
      exact ss_del (n := n + 3 * j) (hP1 rb hP) (hPn _ d2 d1.2.2.1) (hPn _ d3 d1.2.2.2) (by omega) (by omega) d1 hI2 (Nat.le_trans (hnm _ (List.getElem_mem e)) (by decide)) hx (by omega)
    · have e2 : j = L.length := by omega
      subst e2
      simp only [if_neg e, if_neg (show ¬ L.length + 1 ≤ L.length by omega)]
      rw [if_pos (Nat.le_refl _)] at hI2
      rw [show n + 4 * L.length + 1 = n + 3 * L.length + 1 + L.length by omega]
      exact ss_dir (hP1 rb hP) hI2 (by omega)
  · intro e w' hq
    rcases hq with ⟨he, hI2⟩ | ⟨j, x, v, -, hF, -⟩
    · unfold RmJ at hI2
      rw [if_neg (by omega)] at hI2
      exact ⟨he, rse_base hI2 hP1 hgn hF0⟩
    · exact hF.elim
end Go.Proofs.YthfebcfdhmihcaaGreatDoor
