/- Token by All, and the page's examples: contracts. -/
import Derived.Test.YtnnhlkbjdfgcaaaOctD
namespace Go.Proofs.Ytnnhlkbjdfgcaaa
open Go.RowKit

theorem tokS_all (s : ByteArray) (h : 0 < s.size) : (asks (fun _ c => B.tok (c.toNat : Int)) [] (flat [s])).1 = tokS s := by
  rw [asks_pure]; unfold tokS flat; simp [h]
end Go.Proofs.Ytnnhlkbjdfgcaaa
