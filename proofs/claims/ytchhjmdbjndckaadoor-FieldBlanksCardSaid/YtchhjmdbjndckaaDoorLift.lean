/- Small lemmas for the step from a law's walk to its row. -/
import Derived.Test.YtchhjmdbjndckaaDoorRows
import Derived.Test.YtchhjmdbjndckaaDoorWorld
import Derived.ProofKit
import Derived.OpenShut
import Derived.Deep.Slices
namespace Go.Proofs.YtchhjmdbjndckaaDoor
open Go.ChangeShapes Go.WideShapes Go.ChangeAt Go.RowKit Go.Deep

/-- A field of one cell, read at its own cell. -/
theorem field_cell {H : Type} {enc : TypeId × Value → H} {P : Program} {w : World} {base n o i : Nat} {spare : Nat → Bool} {held : Bool} {t : TypeId} {cs : List Value} {ys : List (DataW H × List MemPlace)}
    (h1 : P.cellsOf t = 1) (ho : o < cs.length) (hi : i < ys.length) (h : DataW.trod enc P w base spare held n t ((cs.drop o).take (P.cellsOf t)) = ys[i]?) : ∃ y, DataW.trod enc P w base spare held n t [cs[o]] = some y := by
  rw [h1, List.drop_eq_getElem_cons ho, List.take_succ_cons, List.take_zero, List.getElem?_eq_getElem hi] at h
  exact ⟨_, h⟩
theorem own : ownKnob Tryd.prog.godebug = none := by kernel_rfl
theorem laidOut : laidOutB Tryd.prog = true := by kernel_rfl
end Go.Proofs.YtchhjmdbjndckaaDoor
