/- Contracts and lemmas that the claim rests on: TgP. -/
import Derived.Test.YtnpbnlphmngbdaaGreatDoorGTgM
import Derived.Test.YtnpbnlphmngbdaaGreatDoorGTgJ
import Derived.Test.YtnpbnlphmngbdaaGreatDoorGHoU
/- The document's Origin and Text: contracts. -/
namespace Go.Proofs.YtnpbnlphmngbdaaGreatDoor
open Go.RowKit

theorem empty_list (s : ByteArray) : (s.toList == []) = decide (s.data.toList = []) := eq_list s []
set_option maxHeartbeats 1600000 in
theorem ROrig_any (k : Int) (S : ByteArray) (hk : Int) (N : ByteArray) (p : Int) (PA QU : ByteArray) (ha : Bool) (w : World) (hp : PA.size ≤ 900) (hq : QU.size ≤ 900) :
    Calls Tryz.prog 11 #[tv k S hk N p PA QU ha] w fun e w' => e = .returned (.string ⟨(Tg.og ⟨k, S.data.toList, (hk, N.data.toList, p), PA.data.toList, QU.data.toList, ha⟩).toArray⟩) ∧ Below w.heap.size w w' := by
  unfold Tg.og tv
  simp only
  by_cases h4 : k = 4
  · subst h4
    rw [if_pos rfl]
    go_enter Tryz.func11, Tryz.ntmps11
    go_wp2_with fail
    go_ret
    exact ⟨rfl, (Below.refl _ _).alloc (Nat.le_refl _) _⟩
  · have b4 : (k == 4) = false := by rw [beq_eq_false_iff_ne]; exact h4
    rw [if_neg h4]
    by_cases h3 : k = 3
    · subst h3
      rw [if_pos rfl]
      go_enter Tryz.func11, Tryz.ntmps11
      go_wp2_with fail
      go_ret
      exact ⟨rfl, (Below.refl _ _).alloc (Nat.le_refl _) _⟩
    · have b3 : (k == 3) = false := by rw [beq_eq_false_iff_ne]; exact h3
      rw [if_neg h3, ← Tg.or_bytes, ← Tg.join_bytes]
      have hz : (if PA.toList.isEmpty then (⟨#[47]⟩ : ByteArray) else PA).size ≤ 1000 := by
        split
        · decide
        · omega
      cases hpe : PA.toList.isEmpty
      · rw [show (if false = true then (⟨#[47]⟩ : ByteArray) else PA) = PA from rfl]
        clear hz h3 h4
        cases ha
        · rw [if_neg (by simp)]
          go_enter Tryz.func11, Tryz.ntmps11
          go_wp2_with fail
          go_ret
          exact ⟨rfl, (Below.refl _ _).alloc (Nat.le_refl _) _⟩
        · rw [if_pos rfl]
          go_enter Tryz.func11, Tryz.ntmps11
          go_wp2_with fail
          go_ret
          exact ⟨rfl, (Below.refl _ _).alloc (Nat.le_refl _) _⟩
      · rw [show (if true = true then (⟨#[47]⟩ : ByteArray) else PA) = ⟨#[47]⟩ from rfl]
        clear hz h3 h4
        cases ha
        · rw [if_neg (by simp)]
          go_enter Tryz.func11, Tryz.ntmps11
          go_wp2_with fail
          go_ret
          exact ⟨rfl, (Below.refl _ _).alloc (Nat.le_refl _) _⟩
        · rw [if_pos rfl]
          go_enter Tryz.func11, Tryz.ntmps11
          go_wp2_with fail
          go_ret
          exact ⟨rfl, (Below.refl _ _).alloc (Nat.le_refl _) _⟩
end Go.Proofs.YtnpbnlphmngbdaaGreatDoor
