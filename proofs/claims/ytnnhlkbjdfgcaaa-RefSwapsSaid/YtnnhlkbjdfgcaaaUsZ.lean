/- A row of swaps that came in, opened at its cells. -/
import Derived.Test.YtnnhlkbjdfgcaaaUrX
import Derived.Test.YtnnhlkbjdfgcaaaLift
import Derived.Test.YtnnhlkbjdfgcaaaMaxK
import Derived.ProofKit
import Derived.OpenShut
import Derived.Deep.Slices
import Derived.Lib.SmallJoins
namespace Go.Proofs.Ytnnhlkbjdfgcaaa
open Go.ChangeShapes Go.WideShapes Go.ChangeAt Go.RowKit Go.Joins Go.Deep
/-- The text that a cell holds. -/
def cellTextU (w : World) (a : Addr) : ByteArray := match w.cell? a with
  | some (.string t) => t
  | _ => ByteArray.empty
theorem swaps_open {H : Type} {enc : TypeId × Value → H} {w : World} {base : Nat} {spare : Nat → Bool} {held : Bool} {a : Option Addr} {len cap : Nat} {d : DataW H} {p : List MemPlace}
    (h : DataW.Trod enc Try.prog w base spare held 38 (.slice a len cap) d p) : ∃ l, IsParams w a len l ∧ ∀ q ∈ l, q.1.size ≤ maxLen ∧ q.2.size ≤ maxLen := by
  obtain ⟨fuel, hf⟩ := h
  rcases open_slice Try.underlying38 hf with ⟨hcs, _⟩ | ⟨x, l, c, m, n, D, Pl, hcs, _, hl, hm, hmm, _, hi⟩
  · simp [Value.cells] at hcs
    obtain ⟨rfl, rfl, _⟩ := hcs
    exact ⟨[], IsParams.none w, fun q hq => by cases hq⟩
  · simp [Value.cells] at hcs
    obtain ⟨rfl, rfl, rfl⟩ := hcs
    have key : ∀ i, i < len → ∃ s0 s1 : ByteArray, w.cell? (x.add (i * 2)) = some (.string s0) ∧ w.cell? ⟨(x.add (i * 2)).block, (x.add (i * 2)).off + 1, none⟩ = some (.string s1) ∧ s0.size ≤ maxLen ∧ s1.size ≤ maxLen := by
      intro i hil
      have him : i < m := by rw [hmm]; split <;> omega
      obtain ⟨cs, hc, ht⟩ := hi i him
      have e2 : Try.prog.cellsOf 40 = 2 := by kernel_rfl
      rw [e2] at hc
      obtain ⟨_, hlen, hat⟩ := World.cells?_some hc
      obtain ⟨ys, n', _, _, _, hyl, hfld⟩ := DataW.trod_struct Try.underlying40 ht
      obtain ⟨y0, t0⟩ := field_cell (by kernel_rfl) (by rw [hlen]; decide) (by rw [hyl]; decide) (hfld 0 _ rfl)
      obtain ⟨y1, t1⟩ := field_cell (by kernel_rfl) (by rw [hlen]; decide) (by rw [hyl]; decide) (hfld 1 _ rfl)
      obtain ⟨s0, q0, _, z0⟩ := DataW.trod_string Try.underlying9 t0
      obtain ⟨s1, q1, _, z1⟩ := DataW.trod_string Try.underlying9 t1
      simp only [List.cons.injEq, and_true] at q0 q1
      refine ⟨s0, s1, ?_, ?_, z0, z1⟩
      · have := hat 0 (by decide)
        have e : cs[0]'(by rw [hlen]; decide) = .string s0 := q0
        rw [List.getElem?_eq_getElem (by rw [hlen]; decide), e] at this
        simpa [Addr.add] using this
      · have := hat 1 (by decide)
        have e : cs[1]'(by rw [hlen]; decide) = .string s1 := q1
        rw [List.getElem?_eq_getElem (by rw [hlen]; decide), e] at this
        simpa [Addr.add] using this
    refine ⟨(List.range len).map fun i => (cellTextU w (x.add (i * 2)), cellTextU w ⟨(x.add (i * 2)).block, (x.add (i * 2)).off + 1, none⟩), ⟨by simp, .inr ⟨x, rfl, by unfold maxLen at hm; omega, fun i hil => ?_⟩⟩, ?_⟩
    · obtain ⟨s0, s1, c0, c1, _, _⟩ := key i hil
      have hg : at_ ((List.range len).map fun i => (cellTextU w (x.add (i * 2)), cellTextU w ⟨(x.add (i * 2)).block, (x.add (i * 2)).off + 1, none⟩)) i = (s0, s1) := by
        rw [at_get _ i (by simpa using hil)]
        simp only [List.getElem_map, List.getElem_range]
        unfold cellTextU
        rw [c0, c1]
      rw [hg]
      exact ⟨c0, c1⟩
    · intro q hq
      obtain ⟨i, hi2, rfl⟩ := List.mem_map.1 hq
      obtain ⟨s0, s1, c0, c1, z0, z1⟩ := key i (List.mem_range.1 hi2)
      simp only
      unfold cellTextU
      rw [c0, c1]
      exact ⟨z0, z1⟩
end Go.Proofs.Ytnnhlkbjdfgcaaa
