/-
  Layer 12: New, Get and Clean of the program. Condition: numbers are ints; the lists have at most 999998 elements.
-/
import Derived.Test.YtkpgekfejfbpjaaCchGood
import Derived.Lib.MinMax
namespace Go.Proofs.Ytkpgekfejfbpjaa
open Go.RowKit
variable {L : CL} {ρ ρ' : Nat → Option CRole} {S : CS} {A : AP} {w w' : World}

/-- A cache lies in memory. -/
structure CacheI (L : CL) (ρ : Nat → Option CRole) (A : AP) (w : World) : Prop where
  ex : ∃ S, CInv L ρ S w ∧ CGood S ∧ abs S = A
  ok : AOk A
  hi : A.room ≤ 9223372036854775807
theorem CacheI.heap (h : CacheI L ρ A w) (hk : ∀ g, ρ g ≠ none → w'.heap[g]? = w.heap[g]?) (hs : w.heap.size ≤ w'.heap.size) : CacheI L ρ A w' := by
  obtain ⟨⟨S, h1, h2, h3⟩, h4, h5⟩ := h
  exact ⟨⟨S, h1.heap hk hs, h2, h3⟩, h4, h5⟩
theorem CacheI.lt (h : CacheI L ρ A w) {g : Nat} (hg : ρ g ≠ none) : g < w.heap.size := by
  obtain ⟨⟨S, h1, h2, h3⟩, h4, h5⟩ := h
  exact h1.lt hg

theorem blk_al {g : Nat} {t : TypeId} {cs : Array Value} (h : Blk w g t cs) (o : Obj) : Blk (w.alloc o) g t cs := (heap_alloc_old w o (blk_lt h)).trans h
def newR (n : Nat) : Nat → Option CRole := fun k => if k = n then some .map else if k = n + 1 then some (.list false) else if k = n + 2 then some (.list true) else if k = n + 3 then some .cache else none
def newL (n : Nat) : CL := ⟨n + 3, n, fun t => if t then n + 2 else n + 1⟩
theorem new_any (room : Int) (hr : IsI room) (w : World) : Calls Try.prog 7 #[.int .i64 room] w fun e w' => e = .returned (.pointer (some ⟨(newL w.heap.size).c, 0, none⟩)) ∧ CacheI (newL w.heap.size) (newR w.heap.size) (newA room) w' ∧ Below w.heap.size w w' := by
  obtain ⟨hr1, hr2⟩ := hr
  have hmm := @run_makeMap Try.prog
  go_enter Try.func7, Try.ntmps7
  go_wp2
  have hM : ((((w.alloc (.map #[] 0)).alloc (.cells #[.pointer none, .pointer none, .int .i64 0] 48)).alloc (.cells #[.pointer none, .pointer none, .int .i64 0] 48)).alloc (.cells #[.int .i64 (max 1 room), .map (some w.heap.size), .pointer (some ⟨w.heap.size + 1, 0, none⟩), .pointer (some ⟨w.heap.size + 1 + 1, 0, none⟩)] 50)).ownsMap Try.prog 3 elR w.heap.size 0 (keyD []) :=
    (((World.ownsMap_made w Try.prog 3 elR).alloc _).alloc _).alloc _
  have hB1 := blk_al (blk_al (blk_at (w := w.alloc (.map #[] 0)) (t := 48) (cs := #[.pointer none, .pointer none, .int .i64 0]) (g := w.heap.size + 1) (by simp)) (.cells #[.pointer none, .pointer none, .int .i64 0] 48)) (.cells #[.int .i64 (max 1 room), .map (some w.heap.size), .pointer (some ⟨w.heap.size + 1, 0, none⟩), .pointer (some ⟨w.heap.size + 1 + 1, 0, none⟩)] 50)
  have hB2 := blk_al (blk_at (w := (w.alloc (.map #[] 0)).alloc (.cells #[.pointer none, .pointer none, .int .i64 0] 48)) (t := 48) (cs := #[.pointer none, .pointer none, .int .i64 0]) (g := w.heap.size + 2) (by simp)) (.cells #[.int .i64 (max 1 room), .map (some w.heap.size), .pointer (some ⟨w.heap.size + 1, 0, none⟩), .pointer (some ⟨w.heap.size + 1 + 1, 0, none⟩)] 50)
  have hB3 := blk_at (w := ((w.alloc (.map #[] 0)).alloc (.cells #[.pointer none, .pointer none, .int .i64 0] 48)).alloc (.cells #[.pointer none, .pointer none, .int .i64 0] 48)) (t := 50) (cs := #[.int .i64 (max 1 room), .map (some w.heap.size), .pointer (some ⟨w.heap.size + 1, 0, none⟩), .pointer (some ⟨w.heap.size + 1 + 1, 0, none⟩)]) (g := w.heap.size + 3) (by simp)
  have hbl : Below w.heap.size w ((((w.alloc (.map #[] 0)).alloc (.cells #[.pointer none, .pointer none, .int .i64 0] 48)).alloc (.cells #[.pointer none, .pointer none, .int .i64 0] 48)).alloc (.cells #[.int .i64 (max 1 room), .map (some w.heap.size), .pointer (some ⟨w.heap.size + 1, 0, none⟩), .pointer (some ⟨w.heap.size + 1 + 1, 0, none⟩)] 50)) :=
    ((((Below.refl _ _).alloc (Nat.le_refl _) _).alloc (by simp) _).alloc (by simp; omega) _).alloc (by simp; omega) _
  first | go_ret | go_returns
  refine ⟨rfl, ⟨⟨⟨max 1 room, [], fun _ => [], fun _ => ⟨0, ⟨#[]⟩, false⟩, none⟩, ?_, ?_, rfl⟩, ?_, ?_⟩, hbl⟩
  · refine ⟨?_, ?_, ?_, hB3, hM, ?_, ?_, ?_, ?_, ?_, ?_, ?_⟩
    · simp [newR, newL]
    · simp [newR, newL]
    · intro s; cases s <;> simp [newR, newL]
    · intro s; cases s
      · exact hB1
      · exact hB2
    · intro s a e b he
      have h9 : ([] : List Nat) = a ++ e :: b := he
      simp at h9
    · intro e he; cases he
    · intro s; exact List.nodup_nil
    · intro e he; cases he
    · intro e s he; cases he
    · intro k hk
      simp at hk
      unfold newR
      rw [if_neg (by omega), if_neg (by omega), if_neg (by omega), if_neg (by omega)]
  · refine ⟨⟨fun t e he => (by cases he), fun t e he => (by cases he)⟩, fun k e => ⟨fun h => (by cases h), fun h => ?_⟩, List.nodup_nil, rfl⟩
    obtain ⟨⟨t, h⟩, -⟩ := h
    cases h
  · exact ⟨List.nodup_nil, by show ((0 : Nat) : Int) ≤ max 1 room; omega, by show 1 ≤ max 1 room; omega⟩
  · show max 1 room ≤ _; omega
theorem getnil_any (k : Int) (w : World) : Calls Try.prog 9 #[.pointer none, .int .i64 k] w fun e w' => e = .returned (.tuple #[.string ⟨#[]⟩, .bool false]) ∧ w' = w := by
  go_enter Try.func9, Try.ntmps9
  go_wp2_with (first
    | (go_at_call 22; refine (find_nil _ _).mono ?_; rintro e1 w1 ⟨rfl, hw⟩; rw [hw]; clear hw))
  first | go_ret | go_returns
  exact ⟨rfl, rfl⟩
theorem cleannil_any (k : Int) (w : World) : Calls Try.prog 13 #[.pointer none, .int .i64 k] w fun e w' => e = .returned (.tuple #[]) ∧ w' = w := by
  go_enter Try.func13, Try.ntmps13
  go_wp2_with (first
    | (go_at_call 22; refine (find_nil _ _).mono ?_; rintro e1 w1 ⟨rfl, hw⟩; rw [hw]; clear hw))
  go_returns
  exact ⟨rfl, rfl⟩
theorem putnil_any (k : Int) (x : ByteArray) (d : Bool) (w : World) : Calls Try.prog 11 #[.pointer none, .int .i64 k, .string x, .bool d] w fun e w' => e = .returned (.tuple #[]) ∧ w' = w := by
  go_enter Try.func11, Try.ntmps11
  go_wp2
  go_returns
  exact ⟨rfl, rfl⟩
theorem dropnil_any (k : Int) (w : World) : Calls Try.prog 15 #[.pointer none, .int .i64 k] w fun e w' => e = .returned (.tuple #[]) ∧ w' = w := by
  go_enter Try.func15, Try.ntmps15
  go_wp2
  go_returns
  exact ⟨rfl, rfl⟩
theorem dirtynil_any (w : World) : Calls Try.prog 19 #[.pointer none] w fun e w' => e = .returned (.slice none 0 0) ∧ w' = w := by
  go_enter Try.func19, Try.ntmps19
  go_wp2_with (first
    | (go_at_call 17; refine (len_nil _).mono ?_; rintro e1 w1 ⟨rfl, hw⟩; rw [hw]; clear hw))
  first | go_ret | go_returns
  exact ⟨rfl, rfl⟩
/-- The contract of a call: the cache is as A' behind it. -/
abbrev CallQ (L : CL) (ρ : Nat → Option CRole) (A' : AP) (w : World) (v : Value) (e : Ending) (w' : World) : Prop :=
  e = .returned v ∧ ∃ ρ', CacheI L ρ' A' w' ∧ CStep ρ w ρ' w'
def resG (o : Option (Bool × ByteArray)) : Value := match o with
  | none => .tuple #[.string ⟨#[]⟩, .bool false]
  | some (_, x) => .tuple #[.string x, .bool true]
/-- Behind leave: the element is in no list. -/
theorem rem_li (h : CInv L ρ S w) {s : Bool} {e : Nat} {a b : List Nat} (hl : S.li s = a ++ e :: b) : (remS S s a e b).li = fun t => wo (S.li t) e := by
  funext t
  show updB S.li s (a ++ b) t = _
  rcases updB_cases S.li s (a ++ b) t with ⟨rfl, h5⟩ | ⟨rfl, h5⟩
  · rw [h5, wo_mid (h.nd _) hl]
  · rw [h5, wo_none (h.ap2 (by rw [hl]; simp))]
theorem wo_len (l : List Nat) (e : Nat) : (wo l e).length ≤ l.length := List.length_filter_le _ _
/-- An element that was there is put in again: what enter leaves. -/
theorem again_good (h : CInv L ρ S w) (g : CGood S) {e : Nat} {t : Bool} {k : Int} (he : e ∈ S.li t) (hk : (S.pg e).n = k) (x : ByteArray) (d : Bool) :
    CGood (entS S S.keys e ⟨k, x, d⟩) ∧ abs (entS S S.keys e ⟨k, x, d⟩) = rawA (abs S) k x d := by
  have hf := (g.kk k e).2 ⟨⟨t, he⟩, hk⟩
  refine good_ent g (hk ▸ g.ii t e he) (fun k' => ?_) g.kn ?_ (fun t' h' => by rw [hk]) (fun t' e' h' hn => g.uniq h' he (hn.trans hk.symm))
  · by_cases hkk : k' = k
    · rw [if_pos hkk, hkk, hf]
    · rw [if_neg hkk]
  · obtain ⟨a, b, hab⟩ := List.append_of_mem he
    have h1 : (wo (S.li t) e).length + 1 = (S.li t).length := by rw [wo_mid (h.nd t) hab, hab]; simp; omega
    have h2 : wo (S.li (!t)) e = S.li (!t) := wo_none (h.ap2 he)
    rw [g.kl]
    cases t
    · simp only [Bool.not_false] at h2; rw [h2]; omega
    · simp only [Bool.not_true] at h2; rw [h2]; omega
end Go.Proofs.Ytkpgekfejfbpjaa
