/-
  Layer 12: enter: an element becomes the last one of its list, and the first clean one goes where there is one too many. Condition: the lists have at most a million elements, and at most one clean element more than there is room for.
-/
import Derived.Test.YtkpgekfejfbpjaaCchLeave
namespace Go.Proofs.Ytkpgekfejfbpjaa
open Go.RowKit
variable {L : CL} {ρ ρ' : Nat → Option CRole} {S : CS} {w w' : World}

/-- The first clean element goes. -/
def popS (S : CS) : CS := match S.li false with
  | [] => S
  | e :: r => dropS S false [] e r
def trimS (S : CS) : CS := if S.room < ((S.li false).length : Int) then popS S else S
/-- The third cell of a list: its length. -/
def lenAt (w : World) (g : Nat) : Nat := match w.cell? ⟨g, 2, none⟩ with
  | some (.int _ n) => n.toNat
  | _ => 0
theorem lenAt_is {g : Nat} {l : List Nat} (h : Blk w g 48 (liC l)) : lenAt w g = l.length := by
  unfold lenAt
  rw [(li_cells h).2.2]
  simp
/-- Each element is in the list of its kind, and its number is an int. -/
structure Kinds (S : CS) : Prop where
  dd : ∀ t e, e ∈ S.li t → (S.pg e).d = t
  ii : ∀ t e, e ∈ S.li t → IsI (S.pg e).n
theorem drop_li (S : CS) {e : Nat} {r : List Nat} : (dropS S false [] e r).li = updB S.li false r := rfl

set_option maxHeartbeats 2000000 in
theorem enter_any (h : CInv L ρ S w) {d : Bool} {e : Nat} (hf : S.fr = some e) (hd : (S.pg e).d = d) (hlen : ∀ t, (S.li t).length ≤ 999999) (hk : Kinds (addS S d e)) (hr : (((addS S d e).li false).length : Int) ≤ S.room + 1) (hr1 : 1 ≤ S.room ∧ S.room ≤ 9223372036854775807) :
    Calls Try.prog 24 #[.pointer (some ⟨L.c, 0, none⟩), .pointer (some ⟨e, 0, none⟩)] w fun ev w' => ev = .returned (.tuple #[]) ∧ CInv L ρ (trimS (addS S d e)) w' ∧ CStep ρ w ρ w' := by
  have k1 := listOf_any h e (h.fre e hf).2
  rw [hd] at k1
  have k2 := add_any h d hf (by have := hlen d; omega)
  obtain ⟨S1, hS1⟩ : ∃ S1, S1 = addS S d e := ⟨_, rfl⟩
  have hl1 : (S1.li false).length ≤ 1000000 := by
    rw [hS1]
    show (updB S.li d (S.li d ++ [e]) false).length ≤ 1000000
    have h1 := hlen d
    have h2 := hlen false
    unfold updB
    split
    · rw [List.length_append, List.length_singleton]; omega
    · omega
  have hrm : S1.room = S.room := by rw [hS1]; rfl
  rw [← hS1] at k2 hk hr ⊢
  rw [← hrm] at hr hr1
  have K1 := Lib.hid k1; have K2 := Lib.hid k2; have HK := Lib.hid hk
  clear h hf hd hlen k1 k2 hk hS1 hrm
  obtain ⟨p, hp⟩ : ∃ p, p = ptr (some (L.lb d)) := ⟨_, rfl⟩
  rw [← hp] at K1 K2
  clear hp
  have HR := Lib.hid hr; have HR1 := Lib.hid hr1; have HL1 := Lib.hid hl1
  clear hr hr1 hl1
  go_enter Try.func24, Try.ntmps24
  go_wp2_with (first
    | (go_at_call 29; refine K1.out.mono ?_; rintro e1 w1 ⟨rfl, hw⟩; rw [hw]; clear hw)
    | (go_at_call 31; refine K2.out.mono ?_; rintro e1 w1 ⟨rfl, q1, q2⟩; have Q1 := Lib.hid q1; have Q2 := Lib.hid q2.step; clear q1 q2))
  clear K1 K2
  go_loopw [] (fun wr => ∃ S2, Hid ((S2 = S1) ∨ (S2 = popS S1 ∧ S1.room < ((S1.li false).length : Int))) ∧ Hid (CInv L ρ S2 wr) ∧ Hid (CStep ρ w ρ wr)) (fun wr => lenAt wr (L.lb false))
  case atStart => exact ⟨S1, Lib.hid (.inl rfl), Q1, Q2⟩
  case round =>
    obtain ⟨S2, HS, HI, HT⟩ := hrel
    by_cases hgt : S2.room < ((S2.li false).length : Int)
    · have e2 : S2 = S1 := by
        rcases HS.out with e | ⟨e, hg⟩
        · exact e
        · rw [e] at hgt
          cases hq : S1.li false with
          | nil => have := HR1.out; rw [hq] at hg; simp at hg; omega
          | cons x r =>
            have hp : popS S1 = dropS S1 false [] x r := by unfold popS; rw [hq]
            rw [hp] at hgt
            have h1 : ((dropS S1 false [] x r).li false).length = r.length := rfl
            have h2 : (dropS S1 false [] x r).room = S1.room := rfl
            have h3 := HR.out
            rw [hq, List.length_cons] at h3
            rw [h1, h2] at hgt
            omega
      subst e2
      cases hq : S2.li false with
      | nil => have := HR1.out; rw [hq] at hgt; simp at hgt; omega
      | cons x r =>
        have hxm : x ∈ S2.li false := by rw [hq]; exact List.mem_cons_self ..
        have hp : popS S2 = dropS S2 false [] x r := by unfold popS; rw [hq]
        have KR := Lib.hid (fun q => remove_any (HI.out.drewN q) (s := false) (a := []) (e := x) (b := r) hq (HK.out.dd _ _ hxm) HL1.out (HK.out.ii _ _ hxm))
        have HG := Lib.hid hgt
        obtain ⟨c0, -, c2, -⟩ := ca_cells HI.out.blk
        obtain ⟨l0, -, l2⟩ := li_cells (HI.out.lst false)
        have hml := lenAt_is (HI.out.lst false)
        have HML := Lib.hid hml
        obtain ⟨n, hn⟩ : ∃ n, n = (S2.li false).length := ⟨_, rfl⟩
        rw [← hn] at l2 hgt
        rw [hq] at l0
        simp only [List.head?_cons, ptr, Option.map_some] at l0 c2
        obtain ⟨hr1, hr2⟩ := HR1.out
        have hn2 : n ≤ 1000000 := by rw [hn]; exact HL1.out
        have HN := Lib.hid hn; have HQ := Lib.hid hq; have HP := Lib.hid hp
        clear hn hq hxm hp hml HS
        go_wp2
        go_quiet (fail)
        go_wp2_with (first
          | (go_at_call 27; refine (KR.out _).mono ?_; rintro e1 w2 ⟨rfl, q1, q2, -⟩; have Q3 := Lib.hid q1; have Q4 := Lib.hid q2; clear q1 q2))
        go_roundw
        case rel => exact ⟨dropS S2 false [] x r, Lib.hid (.inr ⟨HP.out.symm, by have := HG.out; rw [HQ.out] at this; exact this⟩), Q3, Lib.hid ((HT.out.trans (CStep.drewN _)).trans Q4.out)⟩
        case measure =>
          rw [lenAt_is (Q3.out.lst false), HML.out, HQ.out]
          show r.length < (x :: r).length
          simp
    · have HI2 := Lib.hid (show CInv L ρ (trimS S1) wr by
        rcases HS.out with e | ⟨e, hg⟩
        · rw [e] at hgt
          have : trimS S1 = S1 := by unfold trimS; rw [if_neg hgt]
          rw [this, ← e]
          exact HI.out
        · have : trimS S1 = popS S1 := by unfold trimS; rw [if_pos hg]
          rw [this, ← e]
          exact HI.out)
      have hrm : S2.room = S1.room := by
        rcases HS.out with e | ⟨e, hg⟩
        · rw [e]
        · rw [e]; unfold popS; split <;> rfl
      have hln : (S2.li false).length ≤ 1000000 := by
        have := HL1.out
        rcases HS.out with e | ⟨e, hg⟩
        · rw [e]; exact this
        · have h9 : ((S2.li false).length : Int) ≤ S2.room := by omega
          rw [e]
          unfold popS
          split
          · exact this
          · rename_i x r hq
            rw [drop_li]
            show (updB S1.li false r false).length ≤ 1000000
            rw [updB_same]
            rw [hq, List.length_cons] at this
            omega
      obtain ⟨c0, -, c2, -⟩ := ca_cells HI.out.blk
      obtain ⟨-, -, l2⟩ := li_cells (HI.out.lst false)
      obtain ⟨n, hn⟩ : ∃ n, n = (S2.li false).length := ⟨_, rfl⟩
      rw [← hn] at l2 hgt hln
      simp only [ptr, Option.map_some] at c2
      obtain ⟨hr1, hr2⟩ := HR1.out
      rw [hrm] at c0 hgt
      clear hn HS HI hrm
      go_wp2
      go_quiet (fail)
      go_wp2
      go_returns
      exact ⟨rfl, HI2.out.drewN _, HT.out.trans (CStep.drewN _)⟩
end Go.Proofs.Ytkpgekfejfbpjaa
