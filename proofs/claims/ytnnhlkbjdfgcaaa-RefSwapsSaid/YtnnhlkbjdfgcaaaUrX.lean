/- Rows of swaps: what they hold; the law's own look at them. -/
import Derived.Test.YtnnhlkbjdfgcaaaUrU
import Derived.Test.YtnnhlkbjdfgcaaaUrT
import Derived.Test.YtnnhlkbjdfgcaaaQuilG
import Derived.Deep.RegionHeldLaw
import Derived.Deep.AppendLies
namespace Go.Proofs.Ytnnhlkbjdfgcaaa
open Go.RowKit
/-- A row of swaps that a call has made. -/
def OwnS (w : World) (base : Nat) (v : Value) (n : Nat) (l : List Pair) : Prop := w.ownsRow base 40 2 v n (cellsP l)
theorem OwnS.nil (w : World) (base : Nat) : OwnS w base (.slice none 0 0) 0 [] := World.ownsRow_nil _ _ _ _
theorem OwnS.len {w : World} {base : Nat} {v : Value} {n : Nat} {l : List Pair} (h : OwnS w base v n l) : l.length = n := by
  have := h.1
  rw [cellsP_len] at this
  omega
theorem OwnS.small {w : World} {base : Nat} {v : Value} {n : Nat} {l : List Pair} (h : OwnS w base v n l) : n ≤ 9223372036854775807 := own_small h
theorem OwnS.params {w : World} {base : Nat} {a : Option Addr} {n c : Nat} {l : List Pair} (h : OwnS w base (.slice a n c) n l) : IsParams w a n l := by
  have hl := h.len
  refine ⟨hl, ?_⟩
  cases a with
  | none =>
    rcases h.2 with ⟨h1, rfl⟩ | ⟨g, c', cur, h1, _⟩
    · exact .inl ⟨rfl, rfl⟩
    · cases h1
  | some x =>
    refine .inr ⟨x, rfl, h.small, fun i hi => ?_⟩
    have hx : x = ⟨x.block, 0, Option.none⟩ := by
      rcases h.2 with ⟨h1, _⟩ | ⟨g, c', cur, h1, _⟩
      · cases h1
      · cases h1; rfl
    obtain ⟨c0, c1⟩ := cellsP_at l i (by omega)
    have d0 := h.cells (g := x.block) rfl _ _ c0
    have d1 := h.cells (g := x.block) rfl _ _ c1
    rw [add_none] at d0 d1
    rw [hx, add_none]
    exact ⟨d0, d1⟩
theorem info_swap : (Try.prog.info? 40).map (fun i => (i.zero, i.size, i.bytes)) = some (some (.agg #[.string ⟨#[]⟩, .string ⟨#[]⟩]), 2, 32) := by kernel_rfl
namespace Ur
def cutS (p : Pair) : Pair := (few11 p.1, few11 p.2)
/-- Swaps, not more and not longer than the law looks. -/
def fewS11 (l : List Pair) : List Pair := (l.take 8).map cutS
theorem fewS11_size (l : List Pair) : ∀ p ∈ fewS11 l, p.1.size ≤ 1000 ∧ p.2.size ≤ 1000 := by
  intro p hp
  obtain ⟨q, _, rfl⟩ := List.mem_map.1 hp
  exact ⟨Nat.le_trans (few11_size _) (by omega), Nat.le_trans (few11_size _) (by omega)⟩
theorem cutS_next (l : List Pair) (k : Nat) (h : k < l.length) : (l.take k).map cutS ++ [cutS (at_ l k)] = (l.take (k + 1)).map cutS := by
  rw [← at_take l k h, List.map_append]; rfl
end Ur
end Go.Proofs.Ytnnhlkbjdfgcaaa
