/-
  Layer 12, CacheTrue: each call of the cache beside the row. Condition: numbers are ints; few pages.
-/
import Derived.Test.YtkpgekfejfbpjaaCtInv
namespace Go.Proofs.Ytkpgekfejfbpjaa
open Go.RowKit
variable {L : CL} {ρ ρ' : Nat → Option CRole} {A A' : AP} {w0 w w' : World} {v v' : Value} {M M' : List OpC} {pb : Nat} {o : OpC}

theorem jt_put (h : JTB w0 L ρ A v M pb o w) {k : Int} (hk : IsI k) (x : ByteArray) (d : Bool) (hl : ∀ t, (A.li t).length ≤ 499999) :
    Calls Try.prog 11 #[CP L, .int .i64 k, .string x, .bool d] w fun e w' => e = .returned (.tuple #[]) ∧ ∃ ρ', JTB w0 L ρ' (entA A k x d) v M pb o w' :=
  (put_any h.c hk x d hl).mono fun e w' hq => by obtain ⟨rfl, ρ', h1, h2⟩ := hq; exact ⟨rfl, ρ', h.cache h1 h2⟩
theorem jt_get (h : JTB w0 L ρ A v M pb o w) {k : Int} (hk : IsI k) (hl : ∀ t, (A.li t).length ≤ 499999) :
    Calls Try.prog 9 #[CP L, .int .i64 k] w fun e w' => e = .returned (resG (lookA A k)) ∧ ∃ ρ', JTB w0 L ρ' (getA A k) v M pb o w' :=
  (get_any h.c hk (fun t => by have := hl t; omega)).mono fun e w' hq => by obtain ⟨rfl, ρ', h1, h2⟩ := hq; exact ⟨rfl, ρ', h.cache h1 h2⟩
theorem jt_clean (h : JTB w0 L ρ A v M pb o w) {k : Int} (hk : IsI k) (hl : ∀ t, (A.li t).length ≤ 499999) :
    Calls Try.prog 13 #[CP L, .int .i64 k] w fun e w' => e = .returned (.tuple #[]) ∧ ∃ ρ', JTB w0 L ρ' (cleanA A k) v M pb o w' :=
  (clean_any h.c hk (fun t => by have := hl t; omega)).mono fun e w' hq => by obtain ⟨rfl, ρ', h1, h2⟩ := hq; exact ⟨rfl, ρ', h.cache h1 h2⟩
theorem jt_drop (h : JTB w0 L ρ A v M pb o w) {k : Int} (hk : IsI k) (hl : ∀ t, (A.li t).length ≤ 499999) :
    Calls Try.prog 15 #[CP L, .int .i64 k] w fun e w' => e = .returned (.tuple #[]) ∧ ∃ ρ', JTB w0 L ρ' (dropA A k) v M pb o w' :=
  (drop_any h.c hk hl).mono fun e w' hq => by obtain ⟨rfl, ρ', h1, h2⟩ := hq; exact ⟨rfl, ρ', h.cache h1 h2⟩
theorem getA_room (A : AP) (k : Int) : (getA A k).room = A.room := by unfold getA; split <;> rfl
theorem cleanA_room (A : AP) (k : Int) : (cleanA A k).room = A.room := by unfold cleanA; split <;> rfl
/-- What holds at the head of each round. -/
structure TB (r : Int) (n : Nat) (A : AP) (M : List OpC) : Prop extends TR A M where
  ok : AOk A
  len : M.length ≤ n
  room : A.room = r
  ii : ∀ o ∈ M, IsI o.n
theorem TB.li {r : Int} {n : Nat} (h : TB r n A M) (hn : n ≤ 10000) : ∀ t, (A.li t).length ≤ 499999 := fun t => by
  have := tr_li h.toTR h.ok t; have := h.len; omega
theorem tb_put {r : Int} {n : Nat} (h : TB r n A M) {k : Int} (hi : IsI k) (x : ByteArray) (d : Bool) {kd : Int} (hk : kd = if d then 2 else 1) (hok : AOk (entA A k x d)) : TB r (n + 1) (entA A k x d) (withoutL M k k ++ [⟨kd, k, x⟩]) := by
  refine ⟨tr_put h.toTR k x d hk, hok, ?_, h.room, fun o ho => ?_⟩
  · rw [List.length_append, List.length_singleton]; have := without_len M k k; have := h.len; omega
  · rcases List.mem_append.1 ho with ho | ho
    · exact h.ii o ((without_one M k).1 ho).1
    · rw [List.mem_singleton] at ho; subst ho; exact hi
theorem tb_clean {r : Int} {n : Nat} (h : TB r n A M) (k : Int) (hok : AOk (cleanA A k)) : TB r (n + 1) (cleanA A k) (M.map (clnO k)) := by
  refine ⟨tr_clean h.toTR h.ok k, hok, by rw [List.length_map]; have := h.len; omega, (cleanA_room A k).trans h.room, fun o ho => ?_⟩
  obtain ⟨o', h1, rfl⟩ := List.mem_map.1 ho
  rw [(clnO_n k o').1]
  exact h.ii o' h1
theorem tb_drop {r : Int} {n : Nat} (h : TB r n A M) (f : Int) (hok : AOk (dropA A f)) : TB r (n + 1) (dropA A f) (withoutL M f 9223372036854775807) :=
  ⟨tr_drop h.toTR f (fun o ho => (h.ii o ho).2), hok, by have := without_len M f 9223372036854775807; have := h.len; omega, h.room, fun o ho => h.ii o (List.mem_filter.1 ho).1⟩
theorem tb_get {r : Int} {n : Nat} (h : TB r n A M) (k : Int) (hok : AOk (getA A k)) : TB r n (getA A k) M :=
  ⟨tr_get h.toTR h.ok k, hok, h.len, (getA_room A k).trans h.room, h.ii⟩
theorem TB.more {r : Int} {n : Nat} (h : TB r n A M) : TB r (n + 1) A M := ⟨h.toTR, h.ok, Nat.le_succ_of_le h.len, h.room, h.ii⟩
theorem tb_new (room : Int) : TB (max 1 room) 0 (newA room) [] :=
  ⟨tr_new room, ⟨List.nodup_nil, by show ((0 : Nat) : Int) ≤ max 1 room; omega, by show 1 ≤ max 1 room; omega⟩, Nat.le_refl _, rfl, fun o h => (by cases h)⟩
theorem jt_new {room : Int} (h : JC w0 L ρ (newA room) w) : JT w0 L ρ (newA room) (.slice none 0 0) [] w := ⟨h, World.ownsRow_nil _ _ _ _, fun g hg => (by cases hg)⟩
theorem part_new {w : World} {B : Nat} {cs : List Value} {t : TypeId} {size : Nat} (hb : Blk w B t cs.toArray) (hl : cs.length = 1 * size) : PartOf w size (.slice (some ⟨B, 0, none⟩) 1 1) 1 cs :=
  ⟨some ⟨B, 0, none⟩, 1, rfl, hl, fun e => (by cases e), fun ad e j u hu => by
    injection e with e
    subst e
    exact World.news_of_block hb j u (by simpa using hu)⟩
end Go.Proofs.Ytkpgekfejfbpjaa
