/-
  Layer 16, the document's Join (annexeref16): two nodes as one, over new memory; it changes nothing that was there. Condition: sizes of at most 2^30; a slice that is nil has no room.
-/
import Derived.Test.YtdpjmijdlheajaaNdLeft
import Derived.Test.YtdpjmijdlheajaaNdRows
import Derived.OwnWalk
import Derived.Deep.DeepMust
namespace Go.Proofs.Ytdpjmijdlheajaa
open Go.RowKit

def joinN (a : Nod) (key : List UInt8) (b : Nod) : Nod := ⟨a.leaf, a.cells ++ (if a.leaf = true then [] else [⟨key, 0, [], 0⟩]) ++ b.cells, a.kids ++ b.kids⟩
theorem infoC16 : (Try.prog.info? 45).map (fun i => (i.zero, i.size, i.bytes)) = some (some (.agg #[.string ⟨#[]⟩, .int .i64 0, .string ⟨#[]⟩, .int .i64 0]), 4, 48) := by kernel_rfl
theorem infoI64 : (Try.prog.info? 3).map (fun i => (i.zero, i.size, i.bytes)) = some (some (.int .i64 0), 1, 8) := by kernel_rfl
theorem ninfo_parts {t : TypeId} {z : Value} {size bytes : Nat} (h : (Try.prog.info? t).map (fun i => (i.zero, i.size, i.bytes)) = some (some z, size, bytes)) : ∃ i, Try.prog.info? t = some i ∧ i.zero = some z ∧ i.size = size ∧ i.bytes = bytes := by
  cases hi : Try.prog.info? t with
  | none => rw [hi] at h; cases h
  | some i =>
    rw [hi] at h
    simp only [Option.map_some, Option.some.injEq, Prod.mk.injEq] at h
    exact ⟨i, rfl, h.1, h.2.1, h.2.2⟩
theorem nj_cv {w0 W : World} {gx gr base : Nat} {tn tc : TypeId} {leaf : Bool} {cv kv : Value} {L : List Cel} {K : List Int} (h : NJ w0 gx gr base tn tc leaf cv kv L K W) : ∃ a m c, cv = .slice a m c := by
  obtain ⟨a, c, e, -⟩ := cls_row h.cr
  exact ⟨a, _, c, e⟩
theorem nj_kv {w0 W : World} {gx gr base : Nat} {tn tc : TypeId} {leaf : Bool} {cv kv : Value} {L : List Cel} {K : List Int} (h : NJ w0 gx gr base tn tc leaf cv kv L K W) : ∃ a m c, kv = .slice a m c := by
  obtain ⟨a, c, e, -⟩ := kds_row h.kr
  exact ⟨a, _, c, e⟩
/-- A literal of one cell. -/
theorem src_one (W : World) (tc : TypeId) (c : Cel) : SrcL (W.alloc (.cells #[.string (nb c.key), .int .i64 c.len, .string (nb c.loc), .int .i64 c.ov] tc)) 4 (.slice (some ⟨W.heap.size, 0, none⟩) 1 1) 1 (celsC [c]) := by
  refine .inr ⟨_, _, rfl, rfl, fun j u hj => ?_⟩
  have hb := blk_new W tc #[.string (nb c.key), .int .i64 c.len, .string (nb c.loc), .int .i64 c.ov]
  rw [nadd_plain, Nat.zero_add]
  match j, hj with
  | 0, hj => rw [← Option.some.inj hj]; exact blk_cell hb 0 (by simp)
  | 1, hj => rw [← Option.some.inj hj]; exact blk_cell hb 1 (by simp)
  | 2, hj => rw [← Option.some.inj hj]; exact blk_cell hb 2 (by simp)
  | 3, hj => rw [← Option.some.inj hj]; exact blk_cell hb 3 (by simp)
theorem src_key (W : World) (tc : TypeId) (key : List UInt8) : SrcL (W.alloc (.cells #[.string (nb key), .int .i64 0, .string ⟨#[]⟩, .int .i64 0] tc)) 4 (.slice (some ⟨W.heap.size, 0, none⟩) 1 1) 1 (celsC [⟨key, 0, [], 0⟩]) := by
  have h := src_one W tc ⟨key, 0, [], 0⟩
  rw [show nb (⟨key, 0, [], 0⟩ : Cel).loc = ⟨#[]⟩ from rfl] at h
  exact h
end Go.Proofs.Ytdpjmijdlheajaa
