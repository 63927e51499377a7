/- The scanner's Back; the document's Take, Classes and While: contracts. -/
import Derived.Test.YtchhjmdbjndckaaDoorScanB
namespace Go.Proofs.YtchhjmdbjndckaaDoor
open Go.RowKit

def backOk (j : Int) (k : Nat) : Bool := decide (0 ≤ j ∧ j ≤ (k : Int))
/-- The document's scanner, by value. -/
def scanV (s : ByteArray) (k : Nat) : Value := .agg #[.string s, .int .i64 k]
/-- Which bytes the document's While takes. -/
def clsB (c : Int) (n : Int) : Bool := if c = 0 then B.tok n else if c = 1 then B.bla n else if c = 2 then B.dig n else false
/-- How many bytes from k on are so. -/
def runLen (q : Int → Bool) (s : ByteArray) (k : Nat) : Nat := ((s.data.toList.drop k).takeWhile fun c => q (c.toNat : Int)).length
theorem runLen_le (q : Int → Bool) (s : ByteArray) (k : Nat) (hk : k ≤ s.size) : k + runLen q s k ≤ s.size := by
  unfold runLen
  have h := (List.takeWhile_prefix (l := s.data.toList.drop k) (fun c : UInt8 => q (c.toNat : Int))).length_le
  simp at h
  omega
theorem runLen_end (q : Int → Bool) (s : ByteArray) (k : Nat) (hk : ¬ k < s.size) : runLen q s k = 0 := by
  unfold runLen
  rw [List.drop_eq_nil_of_le (by simp; omega)]; rfl
theorem runLen_no (q : Int → Bool) (s : ByteArray) (k : Nat) (hk : k < s.size) (h : q (s[k].toNat : Int) = false) : runLen q s k = 0 := by
  unfold runLen
  rw [List.drop_eq_getElem_cons (by simpa using hk)]
  have e : s.data.toList[k]'(by simpa using hk) = s[k] := rfl
  rw [e, List.takeWhile_cons_of_neg (by simp [h])]; rfl
theorem runLen_yes (q : Int → Bool) (s : ByteArray) (k : Nat) (hk : k < s.size) (h : q (s[k].toNat : Int) = true) : runLen q s k = runLen q s (k + 1) + 1 := by
  unfold runLen
  rw [List.drop_eq_getElem_cons (by simpa using hk)]
  have e : s.data.toList[k]'(by simpa using hk) = s[k] := rfl
  rw [e, List.takeWhile_cons_of_pos (by simp [h])]; rfl

end Go.Proofs.YtchhjmdbjndckaaDoor
