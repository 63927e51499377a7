/- Contracts and lemmas that the claim rests on: CmQ. -/
import Derived.Test.YtjchcknmolffiaaDoorGCmN
import Derived.Test.YtjchcknmolffiaaDoorGCmO
import Derived.Test.YtjchcknmolffiaaDoorGCmP
import Derived.Test.YtjchcknmolffiaaDoorGQuil
/- The laws of layer 6 at a row of texts that came in. -/
namespace Go.Proofs.YtjchcknmolffiaaDoor
open Go.RowKit

theorem joins6_row (s : ByteArray) (a : Option Addr) (len cp : Nat) (w : World) (hs : s.size ≤ maxLen) (h : ∃ ss, IsTexts w a len ss) :
    Calls Tryd.prog 4 #[.string s, .slice a len cp] w fun e w' => e = .returned (.bool true) ∧ Below w.heap.size w w' := by
  obtain ⟨ss, hz⟩ := h
  exact joins6_core s a len cp ss w hs hz
theorem splits6_row (t : ByteArray) (a : Option Addr) (len cp : Nat) (w : World) (ht : t.size ≤ maxLen) (h : ∃ ss, IsTexts w a len ss) :
    Calls Tryd.prog 3 #[.slice a len cp, .string t] w fun e w' => e = .returned (.bool true) ∧ Below w.heap.size w w' := by
  obtain ⟨ss, hz⟩ := h
  exact splits6_core t a len cp ss w ht hz
end Go.Proofs.YtjchcknmolffiaaDoor
