/- The document's Join; Join by the shelf's contract; the page's example: contracts. -/
import Derived.Test.YtfjklhfmecjjkaaDoorQuilH
namespace Go.Proofs.YtfjklhfmecjjkaaDoor
open Go.RowKit

theorem add_none (b j : Nat) : (⟨b, 0, none⟩ : Addr).add j = ⟨b, j, none⟩ := by unfold Addr.add; split <;> simp_all
def tAb : ByteArray := ⟨#[97, 98]⟩
def tC : ByteArray := ⟨#[99]⟩
def tDef : ByteArray := ⟨#[100, 101, 102]⟩
def tAbc : ByteArray := ⟨#[97, 98, 99]⟩
def tEnd : ByteArray := ⟨#[97, 98, 99, 13, 10]⟩
theorem one_text (w : World) (t : ByteArray) (y : TypeId) : IsTexts (w.alloc (.cells #[.string t] y)) (some ⟨w.heap.size, 0, none⟩) 1 [t] :=
  ⟨rfl, .inr ⟨_, rfl, by omega, fun i hi => by rcases i with _ | i <;> first | omega | simp [go_sem]⟩⟩
theorem two_texts (w : World) (t u : ByteArray) (y : TypeId) : IsTexts (w.alloc (.cells #[.string t, .string u] y)) (some ⟨w.heap.size, 0, none⟩) 2 [t, u] :=
  ⟨rfl, .inr ⟨_, rfl, by omega, fun i hi => by rcases i with _ | _ | i <;> first | omega | simp [go_sem]⟩⟩
end Go.Proofs.YtfjklhfmecjjkaaDoor
