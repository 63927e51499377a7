/- The page's examples, and the walks of the laws NumeralReads and NumeralTexts. -/
import Derived.Test.YtfjklhfmecjjkaaDoorNumH
namespace Go.Proofs.YtfjklhfmecjjkaaDoor
open Go.RowKit

theorem drewB (B : Nat) (w : World) (n : Nat) : Below B w (w.drewN n) := ⟨rfl, rfl, rfl, Nat.le_refl _, fun _ _ => rfl⟩
namespace Nu
theorem tx_size (b : Nat) (hb : 2 ≤ b) (n : Int) (h : n < 9223372036854775808) : (tx b n).size ≤ 64 := by
  unfold tx
  split
  · exact Nat.zero_le _
  · exact text_size b hb _ (by omega)
theorem rd_tx (b : Nat) (hb : 2 ≤ b) (hb' : b ≤ 16) (n most : Int) : rd b most (tx b n).data.toList = if n < 0 then (0, 2) else if most < n then (0, 7) else (n, 0) := by
  unfold tx
  by_cases h : n < 0
  · rw [if_pos h, if_pos h]; rfl
  · rw [if_neg h, if_neg h]
    obtain ⟨k, rfl⟩ := Int.eq_ofNat_of_zero_le (by omega : 0 ≤ n)
    rw [text_list]
    unfold rd
    have e1 : (textL b (k : Int).toNat).isEmpty = false := by
      have := textL_ne b hb (k : Int).toNat
      simpa using this
    rw [e1, textL_isD b hb hb', textL_val b hb hb', if_neg (by simp)]
    simp
end Nu
end Go.Proofs.YtfjklhfmecjjkaaDoor
