/- A reference that came in, opened at its cells. -/
import Derived.Test.YtnnhlkbjdfgcaaaUrF
import Derived.Test.YtnnhlkbjdfgcaaaLift
import Derived.Test.YtnnhlkbjdfgcaaaMaxK
import Derived.ProofKit
import Derived.OpenShut
import Derived.Deep.Slices
import Derived.Lib.SmallJoins
namespace Go.Proofs.Ytnnhlkbjdfgcaaa
open Go.ChangeShapes Go.WideShapes Go.ChangeAt Go.RowKit Go.Joins Go.Deep
theorem array8u {α : Type} {cs : Array α} (h : cs.size = 8) : ∃ c0 c1 c2 c3 c4 c5 c6 c7, cs = #[c0, c1, c2, c3, c4, c5, c6, c7] := by
  obtain ⟨l⟩ := cs
  match l, h with
  | [c0, c1, c2, c3, c4, c5, c6, c7], _ => exact ⟨c0, c1, c2, c3, c4, c5, c6, c7, rfl⟩
set_option maxRecDepth 100000 in
theorem open_ref {H : Type} {enc : TypeId × Value → H} {w : World} {base : Nat} {spare : Nat → Bool} {held : Bool} {r : Reach} {b0 : Nat} {v : Value} {d : DataW H} {ps : List MemPlace}
    (hv : Value.okWide Try.prog w r b0 25 v) (h : DataW.Trod enc Try.prog w base spare held 25 v d ps) :
    ∃ (A B C D E : ByteArray) (x y z : Bool), v = rF A B C D E x y z ∧ A.size ≤ maxLen ∧ B.size ≤ maxLen ∧ C.size ≤ maxLen ∧ D.size ≤ maxLen ∧ E.size ≤ maxLen := by
  obtain ⟨cs, rfl, hsz⟩ := okWide_struct Try.underlying25 hv
  obtain ⟨c0, c1, c2, c3, c4, c5, c6, c7, rfl⟩ := array8u (hsz.trans (by kernel_rfl))
  obtain ⟨fuel, hf⟩ := h
  obtain ⟨xs, n, _, _, _, hlen, hg⟩ := DataW.trod_struct Try.underlying25 hf
  clear hf hv hsz
  have e9 : Try.prog.cellsOf 9 = 1 := by kernel_rfl
  have e4 : Try.prog.cellsOf 4 = 1 := by kernel_rfl
  match xs, hlen with
  | [y0, y1, y2, y3, y4, y5, y6, y7], _ =>
    have g0 : DataW.trod enc Try.prog w base spare held n 9 [c0] = some y0 := by simpa [Value.cells, e9] using hg 0 _ rfl
    have g1 : DataW.trod enc Try.prog w base spare held n 9 [c1] = some y1 := by simpa [Value.cells, e9] using hg 1 _ rfl
    have g2 : DataW.trod enc Try.prog w base spare held n 9 [c2] = some y2 := by simpa [Value.cells, e9] using hg 2 _ rfl
    have g3 : DataW.trod enc Try.prog w base spare held n 9 [c3] = some y3 := by simpa [Value.cells, e9] using hg 3 _ rfl
    have g4 : DataW.trod enc Try.prog w base spare held n 9 [c4] = some y4 := by simpa [Value.cells, e9] using hg 4 _ rfl
    have g5 : DataW.trod enc Try.prog w base spare held n 4 [c5] = some y5 := by simpa [Value.cells, e4] using hg 5 _ rfl
    have g6 : DataW.trod enc Try.prog w base spare held n 4 [c6] = some y6 := by simpa [Value.cells, e4] using hg 6 _ rfl
    have g7 : DataW.trod enc Try.prog w base spare held n 4 [c7] = some y7 := by simpa [Value.cells, e4] using hg 7 _ rfl
    obtain ⟨A, h0, _, s0⟩ := DataW.trod_string Try.underlying9 g0
    obtain ⟨B, h1, _, s1⟩ := DataW.trod_string Try.underlying9 g1
    obtain ⟨C, h2, _, s2⟩ := DataW.trod_string Try.underlying9 g2
    obtain ⟨D, h3, _, s3⟩ := DataW.trod_string Try.underlying9 g3
    obtain ⟨E, h4, _, s4⟩ := DataW.trod_string Try.underlying9 g4
    obtain ⟨x, h5, _⟩ := DataW.trod_bool Try.underlying4 g5
    obtain ⟨y, h6, _⟩ := DataW.trod_bool Try.underlying4 g6
    obtain ⟨z, h7, _⟩ := DataW.trod_bool Try.underlying4 g7
    simp only [List.cons.injEq, and_true] at h0 h1 h2 h3 h4 h5 h6 h7
    subst h0 h1 h2 h3 h4 h5 h6 h7
    exact ⟨A, B, C, D, E, x, y, z, rfl, s0, s1, s2, s3, s4⟩
end Go.Proofs.Ytnnhlkbjdfgcaaa
