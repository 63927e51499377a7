/- Folding of texts by the document's answer and by the program: contracts. -/
import Derived.Test.YtchhjmdbjndckaaDoorOctA
import Derived.Deep.QuietTactic
import Derived.BigQuiet
import Derived.Deep.OwnRows
namespace Go.Proofs.YtchhjmdbjndckaaDoor
open Go.RowKit

/-- The row of bytes that is being folded: the first k are folded, the others still nought. -/
def foldRow (s : ByteArray) (k j : Nat) : Value := .int .u8 (if j < k then B.low ((s.data.toList.getD j 0).toNat : Int) else 0)
theorem foldRow_step {w : World} {b t n : Nat} {s : ByteArray} {k : Nat} (h : w.rowIs b t n (foldRow s k)) (hk : k < s.size) :
    (w.setCell ⟨b, k, none⟩ (.int .u8 (B.low ((s[k]).toNat : Int)))).rowIs b t n (foldRow s (k + 1)) := by
  refine (h.set k _).congr fun i _ => ?_
  unfold foldRow
  by_cases e : i = k
  · subst e
    have : s.data.toList.getD i 0 = s[i] := by simp [List.getD, hk]; rfl
    rw [if_pos rfl, if_pos (by omega), this]
  · rw [if_neg e]
    by_cases g : i < k
    · rw [if_pos g, if_pos (by omega)]
    · rw [if_neg g, if_neg (by omega)]
def foldInts (s : ByteArray) : List Int := s.data.toList.map fun c => B.low (c.toNat : Int)
theorem strOf_foldInts (s : ByteArray) : strOfNums (foldInts s) = B.foldS s := by
  unfold strOfNums foldInts B.foldS B.fold
  congr 2
  rw [List.map_map]
  refine List.map_congr_left fun c _ => ?_
  show UInt8.ofNat (B.low (c.toNat : Int)).toNat = B.lowU c
  rw [← B.lowU_toNat]; simp
theorem foldInts_getD (s : ByteArray) (i : Nat) (h : i < s.size) : (foldInts s).getD i 0 = B.low ((s.data.toList.getD i 0).toNat : Int) := by
  have h' : i < s.data.size := h
  have e : s.data[i]? = some s.data[i] := Array.getElem?_eq_getElem h'
  simp [foldInts, List.getD, e]
theorem info_u8 : (Tryd.prog.info? 5).map (fun i => (i.zero, i.size, i.bytes)) = some (some (.int .u8 0), 1, 1) := by kernel_rfl

end Go.Proofs.YtchhjmdbjndckaaDoor
