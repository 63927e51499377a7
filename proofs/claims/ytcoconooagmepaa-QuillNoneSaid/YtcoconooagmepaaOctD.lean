/- All, over any function value that answers a byte and keeps what All keeps: its contract. -/
import Derived.Test.YtcoconooagmepaaOctC
import Derived.Shelf.Abstract
namespace Go.Proofs.Ytcoconooagmepaa
open Go.RowKit

/-- The bytes that are asked, one behind the other, until one is not so: the answer, and what was asked. -/
def asks (p : List UInt8 → UInt8 → Bool) (pre : List UInt8) : List UInt8 → Bool × List UInt8
  | [] => (true, pre)
  | c :: r => if p pre c then asks p (pre ++ [c]) r else (false, pre ++ [c])
theorem asks_append (p : List UInt8 → UInt8 → Bool) : ∀ (l m : List UInt8) (pre : List UInt8), (asks p pre l).1 = true → asks p pre (l ++ m) = asks p (pre ++ l) m
  | [], m, pre, _ => by simp
  | c :: l, m, pre, h => by
    simp only [asks, List.cons_append] at h ⊢
    by_cases hp : p pre c = true
    · rw [if_pos hp] at h ⊢; rw [asks_append p l m _ h]; simp
    · rw [if_neg hp] at h; simp at h
theorem asks_pre (p : List UInt8 → UInt8 → Bool) : ∀ (l pre : List UInt8), (asks p pre l).1 = true → (asks p pre l).2 = pre ++ l
  | [], pre, _ => by simp [asks]
  | c :: l, pre, h => by
    simp only [asks] at h ⊢
    by_cases hp : p pre c = true
    · rw [if_pos hp] at h ⊢; rw [asks_pre p l _ h]; simp
    · rw [if_neg hp] at h; simp at h

theorem asks_go (p : List UInt8 → UInt8 → Bool) (q : List UInt8) (c : UInt8) (h : (asks p [] q).1 = true) (hc : p q c = true) : (asks p [] (q ++ [c])).1 = true := by
  rw [asks_append p q [c] [] h]; simp [asks, hc]
theorem asks_stop (p : List UInt8 → UInt8 → Bool) (q : List UInt8) (c : UInt8) (r : List UInt8) (h : (asks p [] q).1 = true) (hc : p q c = false) : asks p [] (q ++ c :: r) = (false, q ++ [c]) := by
  rw [asks_append p q (c :: r) [] h]; simp [asks, hc]
/-- The bytes of texts, one behind the other. -/
def flat (ss : List ByteArray) : List UInt8 := ss.flatMap (·.data.toList)
theorem flat_cut (ss : List ByteArray) (k : Nat) (h : k < ss.length) : flat ss = flat (ss.take k) ++ (ss[k].data.toList ++ flat (ss.drop (k + 1))) := by
  have e : ss = ss.take k ++ (ss[k] :: ss.drop (k + 1)) := by rw [← List.drop_eq_getElem_cons h, List.take_append_drop]
  unfold flat
  conv => lhs; rw [e]
  rw [List.flatMap_append, List.flatMap_cons]
theorem flat_snoc (ss : List ByteArray) (k : Nat) (h : k < ss.length) : flat (ss.take (k + 1)) = flat (ss.take k) ++ ss[k].data.toList := by
  unfold flat
  rw [List.take_succ_eq_append_getElem h, List.flatMap_append, List.flatMap_cons, List.flatMap_nil, List.append_nil]
theorem asks_end {p : List UInt8 → UInt8 → Bool} {f pre sl rest t d : List UInt8} {c : UInt8} (hf : f = pre ++ (sl ++ rest)) (hs : sl = t ++ c :: d) (hy : (asks p [] (pre ++ t)).1 = true) (hc : p (pre ++ t) c = false) : asks p [] f = (false, pre ++ t ++ [c]) := by
  rw [← asks_stop p (pre ++ t) c (d ++ rest) hy hc, hf, hs]
  congr 1
  simp

theorem cut_at {f pre sl rest t d : List UInt8} {c : UInt8} (hf : f = pre ++ (sl ++ rest)) (hs : sl = t ++ c :: d) : f = (pre ++ t) ++ c :: (d ++ rest) := by rw [hf, hs]; simp
/-! Token: All of IsToken. -/
theorem asks_pure (q : UInt8 → Bool) : ∀ (l pre : List UInt8), (asks (fun _ c => q c) pre l).1 = l.all q
  | [], _ => rfl
  | c :: l, pre => by
    simp only [asks, List.all_cons]
    by_cases h : q c = true
    · rw [if_pos h, h, asks_pure q l]; rfl
    · rw [if_neg h]; simp at h; simp [h]
theorem alloc2_cell (w : World) (o : Value) (v : Value) (t u : TypeId) : ((w.alloc (.cells #[o] t)).alloc (.cells #[v] u)).cell? ⟨w.heap.size, 0, none⟩ = some o := by
  simp [go_sem]
end Go.Proofs.Ytcoconooagmepaa
