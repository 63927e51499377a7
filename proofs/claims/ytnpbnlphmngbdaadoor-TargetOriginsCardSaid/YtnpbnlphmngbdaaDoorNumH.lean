/- Sums of numbers, and the page's examples: contracts. -/
import Derived.Test.YtnpbnlphmngbdaaDoorNumG
namespace Go.Proofs.YtnpbnlphmngbdaaDoor
open Go.RowKit

/-- Numbers, added from the left: the sum and the error. -/
def sumS (most : Int) : Int → List Int → Int × Int
  | a, [] => (a, 0)
  | a, n :: l => if n < 0 then (0, 1) else if most - a < n then (0, 7) else sumS most (a + n) l
/-- A slice of ints in a world: its numbers. -/
def IsInts (w : World) (a : Option Addr) (len : Nat) (zs : List Int) : Prop :=
  zs.length = len ∧ (∀ i, i < len → -9223372036854775808 ≤ zs.getD i 0 ∧ zs.getD i 0 < 9223372036854775808) ∧ ((a = none ∧ len = 0) ∨ ∃ x, a = some x ∧ len ≤ 9223372036854775807 ∧ ∀ i, i < len → w.cell? (x.add i) = some (.int .i64 (zs.getD i 0)))
theorem IsInts.take {w : World} {a : Option Addr} {len : Nat} {zs : List Int} (h : IsInts w a len zs) (n : Nat) (hn : n ≤ len) : IsInts w a n (zs.take n) := by
  obtain ⟨h1, h2, h3⟩ := h
  have hg : ∀ i, i < n → (zs.take n).getD i 0 = zs.getD i 0 := fun i hi => by simp [List.getD, hi]
  refine ⟨by rw [List.length_take]; omega, fun i hi => by rw [hg i hi]; exact h2 i (by omega), ?_⟩
  rcases h3 with ⟨h, h'⟩ | ⟨x, h, h', hc⟩
  · exact .inl ⟨h, by omega⟩
  · exact .inr ⟨x, h, by omega, fun i hi => by rw [hg i hi]; exact hc i (by omega)⟩
theorem IsInts.below {w w' : World} {a : Option Addr} {len : Nat} {zs : List Int} (h : IsInts w a len zs) (hb : Below w.heap.size w w') : IsInts w' a len zs := by
  obtain ⟨h1, h2, h3⟩ := h
  refine ⟨h1, h2, ?_⟩
  rcases h3 with h | ⟨x, h, h', hc⟩
  · exact .inl h
  · exact .inr ⟨x, h, h', fun i hi => (hb.cell (lt_of_cell (hc i hi))).trans (hc i hi)⟩
theorem drop_step (zs : List Int) (k : Nat) (h : k < zs.length) : zs.drop k = zs.getD k 0 :: zs.drop (k + 1) := by
  rw [List.drop_eq_getElem_cons h]; simp [List.getD, h]
theorem sum_none (most a : Int) (zs : List Int) (k : Nat) (h : ¬ k < zs.length) : sumS most a (zs.drop k) = (a, 0) := by
  rw [List.drop_eq_nil_of_le (by omega)]; rfl
theorem sum_arg (most a : Int) (zs : List Int) (k : Nat) (h : k < zs.length) (hn : zs.getD k 0 < 0) : sumS most a (zs.drop k) = (0, 1) := by
  rw [drop_step zs k h, sumS, if_pos hn]
theorem sum_much (most a : Int) (zs : List Int) (k : Nat) (h : k < zs.length) (hn : 0 ≤ zs.getD k 0) (hm : most - a < zs.getD k 0) : sumS most a (zs.drop k) = (0, 7) := by
  rw [drop_step zs k h, sumS, if_neg (by omega), if_pos hm]
theorem sum_on (most a : Int) (zs : List Int) (k : Nat) (h : k < zs.length) (hn : 0 ≤ zs.getD k 0) (hm : zs.getD k 0 ≤ most - a) : sumS most a (zs.drop k) = sumS most (a + zs.getD k 0) (zs.drop (k + 1)) := by
  conv => lhs; rw [drop_step zs k h, sumS, if_neg (by omega), if_neg (by omega)]
/-- What stands of a sum on its way. -/
def OnWay (most a : Int) : Prop := 0 ≤ a ∧ (a ≤ most ∨ a = 0) ∧ -9223372036854775808 ≤ most ∧ most < 9223372036854775808
theorem onway_sub {most a : Int} (h : OnWay most a) : wrap64 (most - a) = most - a := by
  unfold OnWay at h; unfold wrap64; omega
theorem onway_add {most a n : Int} (h : OnWay most a) (h0 : 0 ≤ n) (hm : n ≤ most - a) : wrap64 (a + n) = a + n ∧ OnWay most (a + n) := by
  unfold OnWay at *; unfold wrap64; omega

end Go.Proofs.YtnpbnlphmngbdaaDoor
