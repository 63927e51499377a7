/- Same, few, the document's Token, and All over any function value: contracts. -/
import Derived.Test.YtnnhlkbjdfgcaaaOctB
namespace Go.Proofs.Ytnnhlkbjdfgcaaa
open Go.RowKit

def sameS (a b : ByteArray) : Bool := decide (B.fold a.data.toList = B.fold b.data.toList)
theorem sameS_eq (a b : ByteArray) : ((B.foldS a).toList == (B.foldS b).toList) = sameS a b := by
  unfold sameS
  rw [ByteArray.toList_eq, ByteArray.toList_eq]
  show (B.fold a.data.toList == B.fold b.data.toList) = _
  rw [Bool.eq_iff_iff]; simp
theorem ret_str {a b : ByteArray} (h : a = b) : Ending.returned (.string a) = .returned (.string b) := by rw [h]
def fewS (s : ByteArray) : ByteArray := s.extract 0 (min s.size 300)
theorem fewS_size (s : ByteArray) : (fewS s).size ≤ 300 := by unfold fewS; simp [ByteArray.size_extract]; omega

def tokS (s : ByteArray) : Bool := decide (0 < s.size) && s.data.toList.all fun c => B.tok (c.toNat : Int)
end Go.Proofs.Ytnnhlkbjdfgcaaa
