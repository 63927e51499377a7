/- A row of deeds that came in, opened at its cells. -/
import Derived.Test.YtahbcaafdnbcfaaScanN
import Derived.ProofKit
import Derived.OpenShut
import Derived.Deep.Slices
import Derived.Test.YtahbcaafdnbcfaaLift
namespace Go.Proofs.Ytahbcaafdnbcfaa
open Go.ChangeShapes Go.WideShapes Go.ChangeAt Go.RowKit Go.Deep

theorem deeds_open {H : Type} {enc : TypeId × Value → H} {w : World} {base : Nat} {spare : Nat → Bool} {held : Bool} {a : Option Addr} {len cap : Nat} {d : DataW H} {p : List MemPlace}
    (h : DataW.Trod enc Try.prog w base spare held 22 (.slice a len cap) d p) : IsDeeds w a len cap := by
  obtain ⟨fuel, hf⟩ := h
  rcases open_slice Try.underlying22 hf with ⟨hcs, _⟩ | ⟨x, l, c, m, n, D, Pl, hcs, _, hl, hm, hmm, _, hi⟩
  · simp [Value.cells] at hcs
    exact .inl ⟨hcs.1, hcs.2.1⟩
  · simp [Value.cells] at hcs
    obtain ⟨rfl, rfl, rfl⟩ := hcs
    refine .inr ⟨x, rfl, by unfold maxLen at hm; omega, fun i hil => ?_⟩
    have him : i < m := by rw [hmm]; split <;> omega
    obtain ⟨cs, hc, ht⟩ := hi i him
    have e3 : Try.prog.cellsOf 31 = 3 := by kernel_rfl
    rw [e3] at hc
    obtain ⟨_, hlen, hat⟩ := World.cells?_some hc
    obtain ⟨ys, n', _, _, _, hyl, hfld⟩ := DataW.trod_struct Try.underlying31 ht
    obtain ⟨y0, t0⟩ := field_cell (by kernel_rfl) (by rw [hlen]; decide) (by rw [hyl]; decide) (hfld 0 _ rfl)
    obtain ⟨y1, t1⟩ := field_cell (by kernel_rfl) (by rw [hlen]; decide) (by rw [hyl]; decide) (hfld 1 _ rfl)
    obtain ⟨y2, t2⟩ := field_cell (by kernel_rfl) (by rw [hlen]; decide) (by rw [hyl]; decide) (hfld 2 _ rfl)
    obtain ⟨kd, q0, _, w0⟩ := DataW.trod_int Try.underlying5 t0
    obtain ⟨t, q1, _, w1⟩ := DataW.trod_string Try.underlying9 t1
    obtain ⟨nn, q2, _, w2⟩ := DataW.trod_int Try.underlying3 t2
    have hb := bounds_u8 w0
    simp only [List.cons.injEq, and_true] at q0 q1 q2
    refine ⟨kd, t, nn, hb.1, hb.2, w1, ?_, ?_, ?_⟩
    · have := hat 0 (by decide)
      have e : cs[0]'(by rw [hlen]; decide) = .int .u8 kd := q0
      rw [List.getElem?_eq_getElem (by rw [hlen]; decide), e] at this
      simpa [Addr.add] using this
    · have := hat 1 (by decide)
      have e : cs[1]'(by rw [hlen]; decide) = .string t := q1
      rw [List.getElem?_eq_getElem (by rw [hlen]; decide), e] at this
      simpa [Addr.add] using this
    · have := hat 2 (by decide)
      have e : cs[2]'(by rw [hlen]; decide) = .int .i64 nn := q2
      rw [List.getElem?_eq_getElem (by rw [hlen]; decide), e] at this
      simpa [Addr.add] using this
end Go.Proofs.Ytahbcaafdnbcfaa
