/- Rows of pairs of texts in a world: what they hold. -/
import Derived.Test.YtnnhlkbjdfgcaaaQuilI
import Derived.Test.YtnnhlkbjdfgcaaaRowA
namespace Go.Proofs.Ytnnhlkbjdfgcaaa
open Go.RowKit

/-- A name and its value. -/
abbrev Pair := ByteArray × ByteArray
/-- A row's cells. -/
def cellsP : List Pair → List Value
  | [] => []
  | p :: r => .string p.1 :: .string p.2 :: cellsP r
theorem cellsP_len : ∀ l : List Pair, (cellsP l).length = l.length * 2
  | [] => rfl
  | p :: r => by
    show (cellsP r).length + 1 + 1 = (r.length + 1) * 2
    rw [cellsP_len r]; omega
theorem cellsP_app : ∀ l m : List Pair, cellsP (l ++ m) = cellsP l ++ cellsP m
  | [], _ => rfl
  | p :: r, m => by
    show _ :: _ :: cellsP (r ++ m) = _
    rw [cellsP_app r m]; rfl
/-- The pair at k. -/
def at_ (l : List Pair) (k : Nat) : Pair := l.getD k (ByteArray.empty, ByteArray.empty)
theorem at_get (l : List Pair) (k : Nat) (h : k < l.length) : at_ l k = l[k] := by unfold at_; simp [List.getD, h]
theorem at_mem (l : List Pair) (k : Nat) (h : k < l.length) : at_ l k ∈ l := by rw [at_get l k h]; exact List.getElem_mem h
theorem at_take (l : List Pair) (k : Nat) (h : k < l.length) : l.take k ++ [at_ l k] = l.take (k + 1) := by rw [at_get l k h, List.take_succ_eq_append_getElem h]
theorem at_drop (l : List Pair) (k : Nat) (h : k < l.length) : l.drop k = at_ l k :: l.drop (k + 1) := by rw [at_get l k h]; exact List.drop_eq_getElem_cons h
theorem cellsP_at : ∀ (l : List Pair) (i : Nat), i < l.length → (cellsP l)[i * 2]? = some (.string (at_ l i).1) ∧ (cellsP l)[i * 2 + 1]? = some (.string (at_ l i).2)
  | [], i, h => by simp at h
  | p :: r, 0, _ => ⟨rfl, rfl⟩
  | p :: r, i + 1, h => by
    have := cellsP_at r i (by simpa using h)
    rw [show (i + 1) * 2 = i * 2 + 1 + 1 by omega]
    exact this

/-- A row of params in a world. -/
def IsParams (w : World) (a : Option Addr) (len : Nat) (l : List Pair) : Prop :=
  l.length = len ∧ ((a = none ∧ len = 0) ∨ ∃ x, a = some x ∧ len ≤ 9223372036854775807 ∧ ∀ i, i < len → w.cell? (x.add (i * 2)) = some (.string (at_ l i).1) ∧ w.cell? ⟨(x.add (i * 2)).block, (x.add (i * 2)).off + 1, none⟩ = some (.string (at_ l i).2))
theorem add_block (x : Addr) (j : Nat) : (x.add j).block = x.block := by unfold Addr.add; split <;> rfl
theorem IsParams.small {w : World} {a : Option Addr} {len : Nat} {l : List Pair} (h : IsParams w a len l) : len ≤ 9223372036854775807 := by
  rcases h.2 with ⟨_, rfl⟩ | ⟨x, _, hl, _⟩
  · omega
  · exact hl
theorem IsParams.kept {P : Nat → Prop} {w w' : World} {a : Option Addr} {len : Nat} {l : List Pair} (h : IsParams w a len l) (hk : Kept P w w') (hn : ∀ x, a = some x → ¬ P x.block) : IsParams w' a len l := by
  obtain ⟨h1, h3⟩ := h
  refine ⟨h1, ?_⟩
  rcases h3 with h | ⟨x, h, h', hc⟩
  · exact .inl h
  · refine .inr ⟨x, h, h', fun i hi => ?_⟩
    obtain ⟨c0, c1⟩ := hc i hi
    have hb := add_block x (i * 2)
    refine ⟨(hk.cell (p := x.add (i * 2)) (lt_of_cell c0) (by rw [hb]; exact hn x h)).trans c0, ?_⟩
    exact (hk.cell (p := ⟨(x.add (i * 2)).block, (x.add (i * 2)).off + 1, none⟩) (lt_of_cell c1) (by show ¬ P (x.add (i * 2)).block; rw [hb]; exact hn x h)).trans c1
theorem IsParams.below {w w' : World} {a : Option Addr} {len : Nat} {l : List Pair} (h : IsParams w a len l) (hb : Below w.heap.size w w') : IsParams w' a len l :=
  h.kept (P := fun _ => False) (Kept.of_below hb) (fun _ _ h => h)
theorem IsParams.none (w : World) : IsParams w none 0 [] := ⟨rfl, .inl ⟨rfl, rfl⟩⟩
theorem IsParams.lt {w : World} {x : Addr} {len : Nat} {l : List Pair} (h : IsParams w (some x) len l) (hp : 0 < len) : x.block < w.heap.size := by
  rcases h.2 with ⟨h, _⟩ | ⟨y, hy, _, hc⟩
  · cases h
  · cases hy
    have := lt_of_cell (hc 0 hp).1
    rwa [add_block] at this
end Go.Proofs.Ytnnhlkbjdfgcaaa
