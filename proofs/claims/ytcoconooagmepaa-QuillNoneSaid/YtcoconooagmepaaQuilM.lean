/- A row of texts, and a row of deeds, that came in, opened at their cells. -/
import Derived.Test.YtcoconooagmepaaQuilL
import Derived.ProofKit
import Derived.OpenShut
import Derived.Deep.Slices
import Derived.Test.YtcoconooagmepaaLift
namespace Go.Proofs.Ytcoconooagmepaa
open Go.ChangeShapes Go.WideShapes Go.ChangeAt Go.RowKit Go.Deep

/-- The text that a value is. -/
def textOf : Value → ByteArray
  | .string t => t
  | _ => ByteArray.empty
theorem texts_trod {H : Type} {enc : TypeId × Value → H} {w : World} {base : Nat} {spare : Nat → Bool} {held : Bool} {fuel : Nat} {v : Value} {x : DataW H × List MemPlace}
    (hf : DataW.trod enc Try.prog w base spare held fuel 26 [v] = some x) : ∃ a len cap ss, v = .slice a len cap ∧ IsTexts w a len ss := by
  rcases open_slice1 Try.underlying26 (by kernel_rfl) hf with ⟨hcs, _⟩ | ⟨y, l, c, m, n, V, D, Pl, hcs, _, hl, hm, hmm, _, hi⟩
  · simp at hcs
    exact ⟨none, 0, 0, [], hcs, IsTexts.none w⟩
  · simp at hcs
    refine ⟨some y, l, c, (List.range l).map fun i => textOf (V i), hcs, by simp, .inr ⟨y, rfl, by unfold maxLen at hm; omega, fun i hil => ?_⟩⟩
    have him : i < m := by rw [hmm]; split <;> omega
    obtain ⟨hc, ht⟩ := hi i him
    obtain ⟨t, q, _, _⟩ := DataW.trod_string Try.underlying9 ht
    simp only [List.cons.injEq, and_true] at q
    rw [hc, getD_at _ i (by simpa using hil)]
    simp [q, textOf]
theorem texts_open {H : Type} {enc : TypeId × Value → H} {w : World} {base : Nat} {spare : Nat → Bool} {held : Bool} {a : Option Addr} {len cap : Nat} {d : DataW H} {p : List MemPlace}
    (h : DataW.Trod enc Try.prog w base spare held 26 (.slice a len cap) d p) : ∃ ss, IsTexts w a len ss := by
  obtain ⟨fuel, hf⟩ := h
  have e : (Value.slice a len cap).cells.toList = [.slice a len cap] := rfl
  obtain ⟨a', len', cap', ss, hv, ht⟩ := texts_trod (v := .slice a len cap) hf
  injection hv with h1 h2 h3
  subst h1 h2 h3
  exact ⟨ss, ht⟩
theorem deeds4_open {H : Type} {enc : TypeId × Value → H} {w : World} {base : Nat} {spare : Nat → Bool} {held : Bool} {a : Option Addr} {len cap : Nat} {d : DataW H} {p : List MemPlace}
    (h : DataW.Trod enc Try.prog w base spare held 22 (.slice a len cap) d p) : IsDeeds4 w a len := by
  obtain ⟨fuel, hf⟩ := h
  rcases open_slice Try.underlying22 hf with ⟨hcs, _⟩ | ⟨x, l, c, m, n, D, Pl, hcs, _, hl, hm, hmm, _, hi⟩
  · simp [Value.cells] at hcs
    exact .inl ⟨hcs.1, hcs.2.1⟩
  · simp [Value.cells] at hcs
    obtain ⟨rfl, rfl, rfl⟩ := hcs
    refine .inr ⟨x, rfl, by unfold maxLen at hm; omega, fun i hil => ?_⟩
    have him : i < m := by rw [hmm]; split <;> omega
    obtain ⟨cs, hc, ht⟩ := hi i him
    have e3 : Try.prog.cellsOf 28 = 3 := by kernel_rfl
    rw [e3] at hc
    obtain ⟨_, hlen, hat⟩ := World.cells?_some hc
    obtain ⟨ys, n', _, _, _, hyl, hfld⟩ := DataW.trod_struct Try.underlying28 ht
    obtain ⟨y0, t0⟩ := field_cell (by kernel_rfl) (by rw [hlen]; decide) (by rw [hyl]; decide) (hfld 0 _ rfl)
    obtain ⟨y1, t1⟩ := field_cell (by kernel_rfl) (by rw [hlen]; decide) (by rw [hyl]; decide) (hfld 1 _ rfl)
    obtain ⟨y2, t2⟩ := field_cell (by kernel_rfl) (by rw [hlen]; decide) (by rw [hyl]; decide) (hfld 2 _ rfl)
    obtain ⟨ln, q0, _⟩ := DataW.trod_bool Try.underlying4 t0
    obtain ⟨tk, q1, _⟩ := DataW.trod_bool Try.underlying4 t1
    obtain ⟨a2, len2, cp2, ss, q2, hx2⟩ := texts_trod t2
    simp only [List.cons.injEq, and_true] at q0 q1
    refine ⟨ln, tk, a2, len2, cp2, ss, hx2, ?_, ?_, ?_⟩
    · have := hat 0 (by decide)
      have e : cs[0]'(by rw [hlen]; decide) = .bool ln := q0
      rw [List.getElem?_eq_getElem (by rw [hlen]; decide), e] at this
      simpa [Addr.add] using this
    · have := hat 1 (by decide)
      have e : cs[1]'(by rw [hlen]; decide) = .bool tk := q1
      rw [List.getElem?_eq_getElem (by rw [hlen]; decide), e] at this
      simpa [Addr.add] using this
    · have := hat 2 (by decide)
      have e : cs[2]'(by rw [hlen]; decide) = .slice a2 len2 cp2 := q2
      rw [List.getElem?_eq_getElem (by rw [hlen]; decide), e] at this
      simpa [Addr.add] using this
/-- The walks, from what a row gives. -/
theorem qnone_row (most : Int) (h0 : -9223372036854775808 ≤ most) (h1 : most < 9223372036854775808) (a : Option Addr) (len cp : Nat) (w : World) (h : ∃ ss, IsTexts w a len ss) :
    Calls Try.prog 5 #[.int .i64 most, .slice a len cp] w fun e w' => e = .returned (.bool true) ∧ Below w.heap.size w w' := by
  obtain ⟨ss, hz⟩ := h
  exact qnone_core most h0 h1 a len cp ss w hz
theorem qjoins_row (sep : ByteArray) (a : Option Addr) (len cp : Nat) (w : World) (hs : sep.size ≤ maxLen) (h : ∃ ss, IsTexts w a len ss) :
    Calls Try.prog 4 #[.string sep, .slice a len cp] w fun e w' => e = .returned (.bool true) ∧ Below w.heap.size w w' := by
  obtain ⟨ss, hz⟩ := h
  exact qjoins_core sep a len cp ss w hs hz
end Go.Proofs.Ytcoconooagmepaa
