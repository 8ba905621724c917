/-
  What crc.seal and Seal answer, for every text in memory.
-/
import Derived.Test.YthpbiccgjpocaaaCrcCode
import Derived.Test.YthpbiccgjpocaaaTwinBytes
import Derived.OwnWalk
import Derived.Deep.AppendLies
import Derived.Maps.AppendAt
namespace Go.Proofs.Ythpbiccgjpocaaa
open Go.RowKit

/-- A new block of numbers is held. -/
theorem holds_new (kd : IntKind) (w : World) (zs : List Int) (cap : Nat) (t : TypeId) (fr : Nat × Nat) : Holds kd (w.alloc (.cells (zs.map (Value.int kd)).toArray t fr)).heap.size (w.alloc (.cells (zs.map (Value.int kd)).toArray t fr)) (.slice (some ⟨w.heap.size, 0, none⟩) zs.length cap) zs := by
  refine .inr ⟨w.heap.size, 0, cap, rfl, by simp, fun j hj => ?_⟩
  have := World.news_of_block (World.alloc_heap_new w (.cells (zs.map (Value.int kd)).toArray t fr)) j (.int kd (zs[j]?.getD 0)) (by simp [hj])
  rwa [Addr.add_lit] at this

end Go.Proofs.Ythpbiccgjpocaaa
