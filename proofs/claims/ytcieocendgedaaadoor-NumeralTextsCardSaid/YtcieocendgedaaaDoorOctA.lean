/- What each class function of the program and of the document's answer hands back, at every byte: contracts, nothing of the world turned. -/
import Derived.Test.YtcieocendgedaaaDoorRows
import Derived.Test.YtcieocendgedaaaDoorMath
import Derived.WalkKit
import Derived.WalkSpells
import Derived.WalkLawsBesides
import Derived.BigGuardPart
import Derived.Lib.Hide
namespace Go.Proofs.YtcieocendgedaaaDoor
open Go.RowKit
theorem ret_u8 {a b : Int} (h : a = b) : Ending.returned (.int .u8 a) = .returned (.int .u8 b) := by rw [h]
theorem ret_bool {a b : Bool} (h : a = b) : Ending.returned (.bool a) = .returned (.bool b) := by rw [h]

/-! Plain tests: two comparisons, parted by the walk. -/
theorem IsDigit_any (n : Int) (w : World) :
    Calls Tryd.prog 15 #[.int .u8 n] w fun e w' => e = .returned (.bool (B.dig n)) ∧ w = w' := by
  go_enter Tryd.func15, Tryd.ntmps15
  go_wp2
  all_goals
    go_ret
    exact ⟨ret_bool (by rw [Bool.eq_iff_iff]; simp [B.dig]; try omega), rfl⟩
theorem isCapital_any (n : Int) (w : World) :
    Calls Tryd.prog 28 #[.int .u8 n] w fun e w' => e = .returned (.bool (B.cap n)) ∧ w = w' := by
  go_enter Tryd.func28, Tryd.ntmps28
  go_wp2
  all_goals
    go_ret
    exact ⟨ret_bool (by rw [Bool.eq_iff_iff]; simp [B.cap]; try omega), rfl⟩
/-! The document's classes: one look into a text. -/
/-! Classes out of classes. -/
/-- How such a walk ends. -/
theorem b_or {a b c : Bool} (h : (a = true → c = true) ∧ (a = false → c = b)) : (a || b) = c := by cases a <;> simp_all
theorem IsHex_any (n : Int) (w : World) (h0 : 0 ≤ n) (h1 : n ≤ 255) :
    Calls Tryd.prog 20 #[.int .u8 n] w fun e w' => e = .returned (.bool (B.hex n)) ∧ w = w' := by
  go_enter Tryd.func20, Tryd.ntmps20
  go_wp2_with (go_at_call 15; refine (IsDigit_any _ _).mono ?_; rintro e w' ⟨rfl, rfl⟩)
  all_goals
    go_ret
    exact ⟨ret_bool (by rw [Bool.eq_iff_iff]; simp_all [B.hex, B.dig]; try omega), rfl⟩
theorem Lower_any (n : Int) (w : World) (h0 : 0 ≤ n) (h1 : n ≤ 255) :
    Calls Tryd.prog 26 #[.int .u8 n] w fun e w' => e = .returned (.int .u8 (B.low n)) ∧ w = w' := by
  by_cases hc : B.cap n = true
  · have hl := Lib.hid (show B.low n = n + 32 by simp [B.low, hc])
    have b0 : 65 ≤ n := by simp [B.cap] at hc; omega
    have b1 : n ≤ 90 := by simp [B.cap] at hc; omega
    go_enter Tryd.func26, Tryd.ntmps26
    go_wp2_with (go_at_call 28; refine (isCapital_any _ _).mono ?_; rintro e w' ⟨rfl, rfl⟩)
    go_ret
    exact ⟨ret_u8 (by rw [hl.out]; omega), rfl⟩
  · have hc' : B.cap n = false := by simpa using hc
    have hl := Lib.hid (show B.low n = n by simp [B.low, hc'])
    go_enter Tryd.func26, Tryd.ntmps26
    go_wp2_with (go_at_call 28; refine (isCapital_any _ _).mono ?_; rintro e w' ⟨rfl, rfl⟩)
    go_ret
    exact ⟨ret_u8 hl.out.symm, rfl⟩
end Go.Proofs.YtcieocendgedaaaDoor
