/- Contracts and lemmas that the claim rests on: TgV. -/
import Derived.Test.YtnpbnlphmngbdaaGreatDoorGTgB
import Derived.Lib.SmallJoins
/- A target as an argument, opened at its cells. -/
namespace Go.Proofs.YtnpbnlphmngbdaaGreatDoor
open Go.ChangeShapes Go.WideShapes Go.ChangeAt Go.RowKit Go.Joins

theorem array8 {α : Type} {cs : Array α} (h : cs.size = 8) : ∃ c0 c1 c2 c3 c4 c5 c6 c7, cs = #[c0, c1, c2, c3, c4, c5, c6, c7] := by
  obtain ⟨l⟩ := cs
  match l, h with
  | [c0, c1, c2, c3, c4, c5, c6, c7], _ => exact ⟨c0, c1, c2, c3, c4, c5, c6, c7, rfl⟩
set_option maxRecDepth 100000 in
theorem open_target {H : Type} {enc : TypeId × Value → H} {w : World} {base : Nat} {spare : Nat → Bool} {held : Bool} {r : Reach} {b0 : Nat} {v : Value} {d : DataW H} {ps : List MemPlace}
    (hv : Value.okWide Tryz.prog w r b0 29 v) (h : DataW.Trod enc Tryz.prog w base spare held 29 v d ps) :
    ∃ (k : Int) (S : ByteArray) (hk : Int) (N : ByteArray) (p : Int) (PA QU : ByteArray) (ha : Bool), v = tv k S hk N p PA QU ha ∧ S.size ≤ maxLen ∧ N.size ≤ maxLen ∧ PA.size ≤ maxLen ∧ QU.size ≤ maxLen ∧ p < 9223372036854775808 := by
  obtain ⟨cs, rfl, hsz⟩ := okWide_struct Tryz.underlying29 hv
  obtain ⟨c0, c1, c2, c3, c4, c5, c6, c7, rfl⟩ := array8 (hsz.trans (by kernel_rfl))
  obtain ⟨fuel, hf⟩ := h
  obtain ⟨xs, n, _, _, _, hlen, hg⟩ := DataW.trod_struct Tryz.underlying29 hf
  clear hf hv hsz
  have e8 : Tryz.prog.cellsOf 24 = 1 := by kernel_rfl
  have e9 : Tryz.prog.cellsOf 9 = 1 := by kernel_rfl
  have e3 : Tryz.prog.cellsOf 27 = 3 := by kernel_rfl
  have e4 : Tryz.prog.cellsOf 4 = 1 := by kernel_rfl
  have e5 : Tryz.prog.cellsOf 25 = 1 := by kernel_rfl
  have e6 : Tryz.prog.cellsOf 3 = 1 := by kernel_rfl
  match xs, hlen with
  | [y0, y1, y2, y3, y4, y5], _ =>
    have g0 : DataW.trod enc Tryz.prog w base spare held n 24 [c0] = some y0 := by simpa [Value.cells, e8] using hg 0 _ rfl
    have g1 : DataW.trod enc Tryz.prog w base spare held n 9 [c1] = some y1 := by simpa [Value.cells, e9] using hg 1 _ rfl
    have g2 : DataW.trod enc Tryz.prog w base spare held n 27 [c2, c3, c4] = some y2 := by simpa [Value.cells, e3] using hg 2 _ rfl
    have g3 : DataW.trod enc Tryz.prog w base spare held n 9 [c5] = some y3 := by simpa [Value.cells, e9] using hg 3 _ rfl
    have g4 : DataW.trod enc Tryz.prog w base spare held n 9 [c6] = some y4 := by simpa [Value.cells, e9] using hg 4 _ rfl
    have g5 : DataW.trod enc Tryz.prog w base spare held n 4 [c7] = some y5 := by simpa [Value.cells, e4] using hg 5 _ rfl
    obtain ⟨zs, n2, _, _, _, hlen2, hg2⟩ := DataW.trod_struct Tryz.underlying27 g2
    match zs, hlen2 with
    | [z0, z1, z2], _ =>
      have q0 : DataW.trod enc Tryz.prog w base spare held n2 25 [c2] = some z0 := by simpa [e5] using hg2 0 _ rfl
      have q1 : DataW.trod enc Tryz.prog w base spare held n2 9 [c3] = some z1 := by simpa [e9] using hg2 1 _ rfl
      have q2 : DataW.trod enc Tryz.prog w base spare held n2 3 [c4] = some z2 := by simpa [e6] using hg2 2 _ rfl
      obtain ⟨k, h0, _, _⟩ := DataW.trod_int Tryz.underlying24 g0
      obtain ⟨S, h1, _, s1⟩ := DataW.trod_string Tryz.underlying9 g1
      obtain ⟨PA, h3, _, s3⟩ := DataW.trod_string Tryz.underlying9 g3
      obtain ⟨QU, h4, _, s4⟩ := DataW.trod_string Tryz.underlying9 g4
      obtain ⟨ha, h5, _⟩ := DataW.trod_bool Tryz.underlying4 g5
      obtain ⟨hk, i0, _, _⟩ := DataW.trod_int Tryz.underlying25 q0
      obtain ⟨N, i1, _, s2⟩ := DataW.trod_string Tryz.underlying9 q1
      obtain ⟨p, i2, _, wp⟩ := DataW.trod_int Tryz.underlying3 q2
      have bp := bounds_i64 wp
      simp only [List.cons.injEq, and_true] at h0 h1 h3 h4 h5 i0 i1 i2
      subst h0 h1 h3 h4 h5 i0 i1 i2
      exact ⟨k, S, hk, N, p, PA, QU, ha, rfl, s1, s2, s3, s4, by omega⟩
end Go.Proofs.YtnpbnlphmngbdaaGreatDoor
