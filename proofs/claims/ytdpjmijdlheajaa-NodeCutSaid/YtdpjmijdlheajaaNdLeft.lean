/-
  Layer 16, the document's left (annexeref16): the first cells of a node, over the same memory; it changes nothing that was there. Condition: sizes of at most 2^60; k at most the number of cells, and of an inner node's numbers less than one.
-/
import Derived.Test.YtdpjmijdlheajaaNdGreat
import Derived.StillTailTactics
import Derived.Deep.RegionWith
namespace Go.Proofs.Ytdpjmijdlheajaa
open Go.RowKit

theorem nblk_drew {v : World} {g : Nat} {t : TypeId} {cs : Array Value} (h : Blk v g t cs) : Blk v.drew g t cs := h
end Go.Proofs.Ytdpjmijdlheajaa
