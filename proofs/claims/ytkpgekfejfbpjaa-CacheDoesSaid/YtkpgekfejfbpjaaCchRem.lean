/-
  Layer 12: a list's remove: the element is in no list behind it, the others are in their order. Condition: the list has at most a million elements.
-/
import Derived.Test.YtkpgekfejfbpjaaCchRem00
import Derived.Test.YtkpgekfejfbpjaaCchRem01
import Derived.Test.YtkpgekfejfbpjaaCchRem10
import Derived.Test.YtkpgekfejfbpjaaCchRem11
namespace Go.Proofs.Ytkpgekfejfbpjaa
open Go.RowKit
variable {L : CL} {ρ ρ' : Nat → Option CRole} {S : CS} {w w' : World}

theorem rem_any (h : CInv L ρ S w) (s : Bool) {e : Nat} {a b : List Nat} (hl : S.li s = a ++ e :: b) (hlen : (S.li s).length ≤ 1000000) :
    Calls Try.prog 30 #[ptr (some (L.lb s)), .pointer (some ⟨e, 0, none⟩)] w (AddQ L ρ (remS S s a e b) w) := by
  rcases List.eq_nil_or_concat a with rfl | ⟨a', x, ha⟩
  · cases b with
    | nil => exact rem_00 h s hl hlen
    | cons y b' => exact rem_01 h s hl hlen
  · rw [List.concat_eq_append] at ha
    subst ha
    cases b with
    | nil => exact rem_10 h s hl hlen
    | cons y b' => exact rem_11 h s hl hlen
end Go.Proofs.Ytkpgekfejfbpjaa
