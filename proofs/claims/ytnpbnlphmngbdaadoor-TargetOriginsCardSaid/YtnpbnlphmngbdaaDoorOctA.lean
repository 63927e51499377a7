/- What each class function of the program and of the document's answer hands back, at every byte: contracts, nothing of the world turned. -/
import Derived.Test.YtnpbnlphmngbdaaDoorRows
import Derived.Test.YtnpbnlphmngbdaaDoorMath
import Derived.WalkKit
import Derived.WalkSpells
import Derived.WalkLawsBesides
import Derived.BigGuardPart
import Derived.Lib.Hide
namespace Go.Proofs.YtnpbnlphmngbdaaDoor
open Go.RowKit
theorem ret_u8 {a b : Int} (h : a = b) : Ending.returned (.int .u8 a) = .returned (.int .u8 b) := by rw [h]
theorem ret_bool {a b : Bool} (h : a = b) : Ending.returned (.bool a) = .returned (.bool b) := by rw [h]

set_option maxHeartbeats 400000 in
theorem has_any (s : ByteArray) (n : Int) (w : World) (hs : s.size ≤ maxLen) :
    Calls Tryd.prog 75 #[.string s, .int .u8 n] w fun e w' => e = .returned (.bool (B.inS s n)) ∧ w = w' := by
  unfold maxLen at hs
  go_enter Tryd.func75, Tryd.ntmps75
  go_wp2
  go_loop [5, 8] (fun _ i => ∃ k : Nat, k ≤ s.size ∧ i = .int .i64 k ∧ B.inL (s.data.toList.take k) n = false) (fun _ i => s.size - (intOf i).toNat)
  case atStart => exact ⟨0, Nat.zero_le _, rfl, rfl⟩
  case round =>
    obtain ⟨k, hk, rfl, hno⟩ := hrel
    by_cases hlt : k < s.size
    · have HS : Hid (B.inL (s.data.toList.take (k + 1)) n = decide ((s[k].toNat : Int) = n)) := by
        show _ = _
        rw [B.take_snoc _ _ (by simpa using hlt), B.inL_append, hno]; simp [B.inL]; rfl
      have HA : Hid (B.inL (s.data.toList.take (k + 1)) n = true → B.inL s.data.toList n = true) := by
        intro h
        rw [← List.take_append_drop (k + 1) s.data.toList, B.inL_append, h]; rfl
      clear hno
      go_wp2
      · have h1 : ((s[k].toNat : Int) == n) = true := by assumption
        go_ret
        exact ⟨ret_bool (HA.out (by rw [HS.out]; simpa using h1)).symm, rfl⟩
      · have h1 : ((s[k].toNat : Int) == n) = false := by assumption
        go_round
        case rel => exact ⟨k + 1, by omega, by go_num, by rw [HS.out]; simpa using h1⟩
        case measure => simp [intOf]; omega
    · have hno' : B.inL s.data.toList n = false := by rwa [List.take_of_length_le (by simp; omega)] at hno
      have HN := Lib.hid hno'
      clear hno hno'
      go_wp2
      go_ret
      exact ⟨ret_bool HN.out.symm, rfl⟩

/-! Plain tests: two comparisons, parted by the walk. -/
theorem IsDigit_any (n : Int) (w : World) :
    Calls Tryd.prog 73 #[.int .u8 n] w fun e w' => e = .returned (.bool (B.dig n)) ∧ w = w' := by
  go_enter Tryd.func73, Tryd.ntmps73
  go_wp2
  all_goals
    go_ret
    exact ⟨ret_bool (by rw [Bool.eq_iff_iff]; simp [B.dig]; try omega), rfl⟩
theorem isCapital_any (n : Int) (w : World) :
    Calls Tryd.prog 39 #[.int .u8 n] w fun e w' => e = .returned (.bool (B.cap n)) ∧ w = w' := by
  go_enter Tryd.func39, Tryd.ntmps39
  go_wp2
  all_goals
    go_ret
    exact ⟨ret_bool (by rw [Bool.eq_iff_iff]; simp [B.cap]; try omega), rfl⟩
/-! The document's classes: one look into a text. -/
/-! Classes out of classes. -/
/-- How such a walk ends. -/
theorem b_or {a b c : Bool} (h : (a = true → c = true) ∧ (a = false → c = b)) : (a || b) = c := by cases a <;> simp_all
theorem IsHex_any (n : Int) (w : World) (h0 : 0 ≤ n) (h1 : n ≤ 255) :
    Calls Tryd.prog 71 #[.int .u8 n] w fun e w' => e = .returned (.bool (B.hex n)) ∧ w = w' := by
  go_enter Tryd.func71, Tryd.ntmps71
  go_wp2_with (go_at_call 73; refine (IsDigit_any _ _).mono ?_; rintro e w' ⟨rfl, rfl⟩)
  all_goals
    go_ret
    exact ⟨ret_bool (by rw [Bool.eq_iff_iff]; simp_all [B.hex, B.dig]; try omega), rfl⟩
theorem IsAlpha_any (n : Int) (w : World) :
    Calls Tryd.prog 84 #[.int .u8 n] w fun e w' => e = .returned (.bool (B.alp n)) ∧ w = w' := by
  go_enter Tryd.func84, Tryd.ntmps84
  go_wp2_with (go_at_call 39; refine (isCapital_any _ _).mono ?_; rintro e w' ⟨rfl, rfl⟩)
  all_goals
    go_ret
    exact ⟨ret_bool (by rw [Bool.eq_iff_iff]; simp_all [B.alp, B.sml, B.cap]; try omega), rfl⟩
theorem isLetterOrDigit_any (n : Int) (w : World) :
    Calls Tryd.prog 80 #[.int .u8 n] w fun e w' => e = .returned (.bool (B.lod n)) ∧ w = w' := by
  go_enter Tryd.func80, Tryd.ntmps80
  go_wp2_with (first | (go_at_call 84; refine (IsAlpha_any _ _).mono ?_; rintro e w' ⟨rfl, rfl⟩) | (go_at_call 73; refine (IsDigit_any _ _).mono ?_; rintro e w' ⟨rfl, rfl⟩))
  all_goals
    go_ret
    exact ⟨ret_bool (by simp_all [B.lod]), rfl⟩
theorem IsUnreserved_any (n : Int) (w : World) :
    Calls Tryd.prog 68 #[.int .u8 n] w fun e w' => e = .returned (.bool (B.unr n)) ∧ w = w' := by
  go_enter Tryd.func68, Tryd.ntmps68
  go_wp2_with (first | (go_at_call 80; refine (isLetterOrDigit_any _ _).mono ?_; rintro e w' ⟨rfl, rfl⟩) | (go_at_call 75; refine (has_any _ _ _ (by decide)).mono ?_; rintro e w' ⟨rfl, rfl⟩))
  all_goals
    go_ret
    exact ⟨ret_bool (by simp_all [B.unr, B.inS]), rfl⟩
theorem IsSub_any (n : Int) (w : World) :
    Calls Tryd.prog 69 #[.int .u8 n] w fun e w' => e = .returned (.bool (B.sub n)) ∧ w = w' := by
  go_enter Tryd.func69, Tryd.ntmps69
  go_wp2_with (go_at_call 75; refine (has_any _ _ _ (by decide)).mono ?_; rintro e w' ⟨rfl, rfl⟩)
  all_goals
    go_ret
    exact ⟨ret_bool (by simp_all [B.sub, B.inS]), rfl⟩
theorem IsPath_any (n : Int) (w : World) :
    Calls Tryd.prog 53 #[.int .u8 n] w fun e w' => e = .returned (.bool (B.pat n)) ∧ w = w' := by
  go_enter Tryd.func53, Tryd.ntmps53
  go_wp2_with (first | (go_at_call 68; refine (IsUnreserved_any _ _).mono ?_; rintro e w' ⟨rfl, rfl⟩) | (go_at_call 69; refine (IsSub_any _ _).mono ?_; rintro e w' ⟨rfl, rfl⟩) | (go_at_call 75; refine (has_any _ _ _ (by decide)).mono ?_; rintro e w' ⟨rfl, rfl⟩))
  all_goals
    go_ret
    exact ⟨ret_bool (by simp_all [B.pat, B.inS]), rfl⟩
theorem Lower_any (n : Int) (w : World) (h0 : 0 ≤ n) (h1 : n ≤ 255) :
    Calls Tryd.prog 28 #[.int .u8 n] w fun e w' => e = .returned (.int .u8 (B.low n)) ∧ w = w' := by
  by_cases hc : B.cap n = true
  · have hl := Lib.hid (show B.low n = n + 32 by simp [B.low, hc])
    have b0 : 65 ≤ n := by simp [B.cap] at hc; omega
    have b1 : n ≤ 90 := by simp [B.cap] at hc; omega
    go_enter Tryd.func28, Tryd.ntmps28
    go_wp2_with (go_at_call 39; refine (isCapital_any _ _).mono ?_; rintro e w' ⟨rfl, rfl⟩)
    go_ret
    exact ⟨ret_u8 (by rw [hl.out]; omega), rfl⟩
  · have hc' : B.cap n = false := by simpa using hc
    have hl := Lib.hid (show B.low n = n by simp [B.low, hc'])
    go_enter Tryd.func28, Tryd.ntmps28
    go_wp2_with (go_at_call 39; refine (isCapital_any _ _).mono ?_; rintro e w' ⟨rfl, rfl⟩)
    go_ret
    exact ⟨ret_u8 hl.out.symm, rfl⟩
end Go.Proofs.YtnpbnlphmngbdaaDoor
