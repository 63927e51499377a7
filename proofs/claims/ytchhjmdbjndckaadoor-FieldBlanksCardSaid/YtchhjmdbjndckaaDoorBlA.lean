/- Blanks and tabs cut off at both ends, as plain functions on lists of bytes. Nothing here speaks of the program. -/
import Derived.Lib.SlTrimSet
namespace Go.Proofs.YtchhjmdbjndckaaDoor
namespace Cm

/-- Bytes of the class p cut off at the right end. -/
def R (p : UInt8 → Bool) (l : List UInt8) : List UInt8 := (l.reverse.dropWhile p).reverse
theorem R_nil (p : UInt8 → Bool) : R p [] = [] := rfl
theorem R_cons (p : UInt8 → Bool) (c : UInt8) (r : List UInt8) : R p (c :: r) = if R p r = [] ∧ p c = true then [] else c :: R p r := by
  unfold R
  rw [List.reverse_cons, List.dropWhile_append]
  by_cases h : r.reverse.dropWhile p = []
  · rw [h]
    cases hc : p c
    · simp [hc]
    · simp [hc]
  · simp [h]
theorem R_snoc (p : UInt8 → Bool) (l : List UInt8) (c : UInt8) (h : p c = true) : R p (l ++ [c]) = R p l := by
  unfold R
  rw [List.reverse_append]
  show (List.dropWhile p (c :: l.reverse)).reverse = _
  rw [List.dropWhile_cons_of_pos h]
theorem LR (p : UInt8 → Bool) : ∀ l : List UInt8, R p (l.dropWhile p) = (R p l).dropWhile p
  | [] => rfl
  | c :: r => by
    rw [R_cons]
    cases hc : p c
    · rw [List.dropWhile_cons_of_neg (by simp [hc]), if_neg (by simp), List.dropWhile_cons_of_neg (by simp [hc]), R_cons, if_neg (by simp [hc])]
    · rw [List.dropWhile_cons_of_pos hc, LR p r]
      by_cases h : R p r = []
      · rw [if_pos ⟨h, rfl⟩, h]
      · rw [if_neg (fun x => h x.1), List.dropWhile_cons_of_pos hc]
theorem LL (p : UInt8 → Bool) : ∀ l : List UInt8, (l.dropWhile p).dropWhile p = l.dropWhile p
  | [] => rfl
  | c :: r => by
    cases hc : p c
    · rw [List.dropWhile_cons_of_neg (by simp [hc]), List.dropWhile_cons_of_neg (by simp [hc])]
    · rw [List.dropWhile_cons_of_pos hc, LL p r]
theorem RR (p : UInt8 → Bool) (l : List UInt8) : R p (R p l) = R p l := by
  unfold R
  rw [List.reverse_reverse, LL]
theorem R_le (p : UInt8 → Bool) (l : List UInt8) : (R p l).length ≤ l.length := by
  unfold R
  rw [List.length_reverse]
  have := (List.dropWhile_suffix p (l := l.reverse)).length_le
  simpa using this
/-- A blank or a tab. -/
def bl (c : UInt8) : Bool := ([32, 9] : List UInt8).contains c
/-- A text without blanks and tabs at both ends. -/
def trim (l : List UInt8) : List UInt8 := Lib.trimS l [32, 9]
theorem trim_eq (l : List UInt8) : trim l = (R bl l).dropWhile bl := rfl
theorem trim_eq' (l : List UInt8) : trim l = R bl (l.dropWhile bl) := by rw [trim_eq, LR]
theorem trim_left (c : UInt8) (r : List UInt8) (h : bl c = true) : trim (c :: r) = trim r := by rw [trim_eq', trim_eq', List.dropWhile_cons_of_pos h]
theorem trim_right (l : List UInt8) (c : UInt8) (h : bl c = true) : trim (l ++ [c]) = trim l := by rw [trim_eq, trim_eq, R_snoc _ _ _ h]
theorem trim_trim (l : List UInt8) : trim (trim l) = trim l := by
  rw [trim_eq (trim l), trim_eq' l, RR, LR, LL]
theorem trim_le (l : List UInt8) : (trim l).length ≤ l.length := by
  have h1 := (List.dropWhile_suffix bl (l := R bl l)).length_le
  have h2 := R_le bl l
  rw [trim_eq]
  omega
theorem bl_not {c : UInt8} {n : Int} (h : (c.toNat : Int) = n) (h1 : n ≠ 32) (h2 : n ≠ 9) : bl c = false := by
  cases hb : bl c
  · rfl
  · unfold bl at hb
    simp at hb
    rcases hb with rfl | rfl
    · exact absurd h.symm h1
    · exact absurd h.symm h2
end Cm
end Go.Proofs.YtchhjmdbjndckaaDoor
