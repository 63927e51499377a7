/- The document's Join; Join by the shelf's contract; the page's example: contracts. -/
import Derived.Test.YtnnhlkbjdfgcaaaQuilH
namespace Go.Proofs.Ytnnhlkbjdfgcaaa
open Go.RowKit

theorem add_none (b j : Nat) : (⟨b, 0, none⟩ : Addr).add j = ⟨b, j, none⟩ := by unfold Addr.add; split <;> simp_all
theorem SJoin_any (sep : ByteArray) (a : Option Addr) (len cp : Nat) (ss : List ByteArray) (w : World) (hz : IsTexts w a len ss) (hx : ∀ x, a = some x → x = ⟨x.block, 0, none⟩ ∧ x.block < w.heap.size) (hcp : len ≤ cp) (hlen : len ≤ 1000000)
    (hb : sep.size * ss.length + (flat ss).length ≤ 100000000) :
    Calls Try.prog 56 #[.slice a len cp, .string sep] w fun e w' => e = .returned (.string (joinB sep ss)) ∧ Below w.heap.size w w' := by
  obtain ⟨hl, hz⟩ := hz
  rcases hz with ⟨rfl, rfl⟩ | ⟨x, rfl, hxl, hc⟩
  · obtain rfl := List.eq_nil_of_length_eq_zero hl
    exact (Any.strings_Join_none join_lays join_extra none cp sep w).mono fun e w' ⟨he, hw⟩ => ⟨he, hw ▸ Below.refl _ _⟩
  · obtain ⟨hx1, hx2⟩ := hx x rfl
    subst hl
    rw [hx1]
    refine Any.strings_Join join_lays join_extra x.block 0 cp ss sep w ?_ hx2 (by omega) hcp ?_
    · intro j y hj
      obtain ⟨hjl, rfl⟩ := List.getElem?_eq_some_iff.1 hj
      have := hc j hjl
      rw [getD_at ss j hjl, hx1] at this
      rw [add_none] at this
      rw [Nat.zero_add]
      exact this
    · rw [← joinB_size]
      have := joinB_le sep ss
      omega
theorem QJoin_any (sep : ByteArray) (a : Option Addr) (len cp : Nat) (ss : List ByteArray) (w : World) (hz : IsTexts w a len ss) (hx : ∀ x, a = some x → x = ⟨x.block, 0, none⟩ ∧ x.block < w.heap.size) (hcp : len ≤ cp) (hlen : len ≤ 1000000)
    (hb : sep.size * ss.length + (flat ss).length ≤ 100000000) :
    Calls Try.prog 40 #[.string sep, .slice a len cp] w fun e w' => e = .returned (.string (joinB sep ss)) ∧ Below w.heap.size w w' := by
  have hJ := Lib.hid (SJoin_any sep a len cp ss w hz hx hcp hlen hb)
  clear hz hx hcp hlen hb
  go_enter Try.func40, Try.ntmps40
  go_wp2_with fail
  refine hJ.out.mono ?_
  rintro e w1 ⟨rfl, hb1⟩
  go_wp2_with fail
  go_ret
  exact ⟨rfl, hb1⟩

def tAb : ByteArray := ⟨#[97, 98]⟩
def tC : ByteArray := ⟨#[99]⟩
def tDef : ByteArray := ⟨#[100, 101, 102]⟩
def tAbc : ByteArray := ⟨#[97, 98, 99]⟩
def tEnd : ByteArray := ⟨#[97, 98, 99, 13, 10]⟩
theorem one_text (w : World) (t : ByteArray) (y : TypeId) : IsTexts (w.alloc (.cells #[.string t] y)) (some ⟨w.heap.size, 0, none⟩) 1 [t] :=
  ⟨rfl, .inr ⟨_, rfl, by omega, fun i hi => by rcases i with _ | i <;> first | omega | simp [go_sem]⟩⟩
theorem two_texts (w : World) (t u : ByteArray) (y : TypeId) : IsTexts (w.alloc (.cells #[.string t, .string u] y)) (some ⟨w.heap.size, 0, none⟩) 2 [t, u] :=
  ⟨rfl, .inr ⟨_, rfl, by omega, fun i hi => by rcases i with _ | _ | i <;> first | omega | simp [go_sem]⟩⟩
end Go.Proofs.Ytnnhlkbjdfgcaaa
