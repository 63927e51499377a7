/- What each class function of the program and of the document's answer hands back, at every byte: contracts, nothing of the world turned. -/
import Derived.Test.YtchhjmdbjndckaaDoorRows
import Derived.Test.YtchhjmdbjndckaaDoorMath
import Derived.WalkKit
import Derived.WalkSpells
import Derived.WalkLawsBesides
import Derived.BigGuardPart
import Derived.Lib.Hide
namespace Go.Proofs.YtchhjmdbjndckaaDoor
open Go.RowKit
theorem ret_u8 {a b : Int} (h : a = b) : Ending.returned (.int .u8 a) = .returned (.int .u8 b) := by rw [h]
theorem ret_bool {a b : Bool} (h : a = b) : Ending.returned (.bool a) = .returned (.bool b) := by rw [h]

set_option maxHeartbeats 400000 in
theorem In_any (s : ByteArray) (n : Int) (w : World) (hs : s.size ≤ maxLen) :
    Calls Tryd.prog 52 #[.int .u8 n, .string s] w fun e w' => e = .returned (.bool (B.inS s n)) ∧ w = w' := by
  unfold maxLen at hs
  go_enter Tryd.func52, Tryd.ntmps52
  go_wp2
  go_loop [5] (fun i => ∃ k : Nat, k ≤ s.size ∧ i = .int .i64 k ∧ B.inL (s.data.toList.take k) n = false) (fun i => s.size - (intOf i).toNat)
  case atStart => exact ⟨0, Nat.zero_le _, rfl, rfl⟩
  case round =>
    obtain ⟨k, hk, rfl, hno⟩ := hrel
    by_cases hlt : k < s.size
    · have HS : Hid (B.inL (s.data.toList.take (k + 1)) n = decide ((s[k].toNat : Int) = n)) := by
        show _ = _
        rw [B.take_snoc _ _ (by simpa using hlt), B.inL_append, hno]; simp [B.inL]; rfl
      have HA : Hid (B.inL (s.data.toList.take (k + 1)) n = true → B.inL s.data.toList n = true) := by
        intro h
        rw [← List.take_append_drop (k + 1) s.data.toList, B.inL_append, h]; rfl
      clear hno
      go_wp2
      · have h1 : ((s[k].toNat : Int) == n) = true := by assumption
        go_ret
        exact ⟨ret_bool (HA.out (by rw [HS.out]; simpa using h1)).symm, rfl⟩
      · have h1 : ((s[k].toNat : Int) == n) = false := by assumption
        go_round
        case rel => exact ⟨k + 1, by omega, by go_num, by rw [HS.out]; simpa using h1⟩
        case measure => simp [intOf]; omega
    · have hno' : B.inL s.data.toList n = false := by rwa [List.take_of_length_le (by simp; omega)] at hno
      have HN := Lib.hid hno'
      clear hno hno'
      go_wp2
      go_ret
      exact ⟨ret_bool HN.out.symm, rfl⟩

set_option maxHeartbeats 400000 in
theorem has_any (s : ByteArray) (n : Int) (w : World) (hs : s.size ≤ maxLen) :
    Calls Tryd.prog 54 #[.string s, .int .u8 n] w fun e w' => e = .returned (.bool (B.inS s n)) ∧ w = w' := by
  unfold maxLen at hs
  go_enter Tryd.func54, Tryd.ntmps54
  go_wp2
  go_loop [5, 8] (fun _ i => ∃ k : Nat, k ≤ s.size ∧ i = .int .i64 k ∧ B.inL (s.data.toList.take k) n = false) (fun _ i => s.size - (intOf i).toNat)
  case atStart => exact ⟨0, Nat.zero_le _, rfl, rfl⟩
  case round =>
    obtain ⟨k, hk, rfl, hno⟩ := hrel
    by_cases hlt : k < s.size
    · have HS : Hid (B.inL (s.data.toList.take (k + 1)) n = decide ((s[k].toNat : Int) = n)) := by
        show _ = _
        rw [B.take_snoc _ _ (by simpa using hlt), B.inL_append, hno]; simp [B.inL]; rfl
      have HA : Hid (B.inL (s.data.toList.take (k + 1)) n = true → B.inL s.data.toList n = true) := by
        intro h
        rw [← List.take_append_drop (k + 1) s.data.toList, B.inL_append, h]; rfl
      clear hno
      go_wp2
      · have h1 : ((s[k].toNat : Int) == n) = true := by assumption
        go_ret
        exact ⟨ret_bool (HA.out (by rw [HS.out]; simpa using h1)).symm, rfl⟩
      · have h1 : ((s[k].toNat : Int) == n) = false := by assumption
        go_round
        case rel => exact ⟨k + 1, by omega, by go_num, by rw [HS.out]; simpa using h1⟩
        case measure => simp [intOf]; omega
    · have hno' : B.inL s.data.toList n = false := by rwa [List.take_of_length_le (by simp; omega)] at hno
      have HN := Lib.hid hno'
      clear hno hno'
      go_wp2
      go_ret
      exact ⟨ret_bool HN.out.symm, rfl⟩

/-! Plain tests: two comparisons, parted by the walk. -/
theorem IsDigit_any (n : Int) (w : World) :
    Calls Tryd.prog 63 #[.int .u8 n] w fun e w' => e = .returned (.bool (B.dig n)) ∧ w = w' := by
  go_enter Tryd.func63, Tryd.ntmps63
  go_wp2
  all_goals
    go_ret
    exact ⟨ret_bool (by rw [Bool.eq_iff_iff]; simp [B.dig]; try omega), rfl⟩
theorem isCapital_any (n : Int) (w : World) :
    Calls Tryd.prog 65 #[.int .u8 n] w fun e w' => e = .returned (.bool (B.cap n)) ∧ w = w' := by
  go_enter Tryd.func65, Tryd.ntmps65
  go_wp2
  all_goals
    go_ret
    exact ⟨ret_bool (by rw [Bool.eq_iff_iff]; simp [B.cap]; try omega), rfl⟩
theorem IsVisible_any (n : Int) (w : World) :
    Calls Tryd.prog 32 #[.int .u8 n] w fun e w' => e = .returned (.bool (B.vis n)) ∧ w = w' := by
  go_enter Tryd.func32, Tryd.ntmps32
  go_wp2
  all_goals
    go_ret
    exact ⟨ret_bool (by rw [Bool.eq_iff_iff]; simp [B.vis]; try omega), rfl⟩
theorem IsBlank_any (n : Int) (w : World) :
    Calls Tryd.prog 33 #[.int .u8 n] w fun e w' => e = .returned (.bool (B.bla n)) ∧ w = w' := by
  go_enter Tryd.func33, Tryd.ntmps33
  go_wp2
  all_goals
    go_ret
    exact ⟨ret_bool (by rw [Bool.eq_iff_iff]; simp [B.bla]; try omega), rfl⟩
theorem RBlank_any (n : Int) (w : World) :
    Calls Tryd.prog 21 #[.int .u8 n] w fun e w' => e = .returned (.bool (B.bla n)) ∧ w = w' := by
  go_enter Tryd.func21, Tryd.ntmps21
  go_wp2
  all_goals
    go_ret
    exact ⟨ret_bool (by rw [Bool.eq_iff_iff]; simp [B.bla]; try omega), rfl⟩
/-! The document's classes: one look into a text. -/
theorem RTok_any (n : Int) (w : World) (h0 : 0 ≤ n) (h1 : n ≤ 255) :
    Calls Tryd.prog 41 #[.int .u8 n] w fun e w' => e = .returned (.bool (B.tok n)) ∧ w = w' := by
  go_enter Tryd.func41, Tryd.ntmps41
  go_wp2_with fail
  refine (In_any _ _ _ (by decide)).mono ?_
  rintro e w' ⟨rfl, rfl⟩
  go_wp2_with fail
  go_ret
  exact ⟨ret_bool (B.byte_eq (by decide +kernel) n h0 h1), rfl⟩
/-! Classes out of classes. -/
/-- How such a walk ends. -/
theorem b_or {a b c : Bool} (h : (a = true → c = true) ∧ (a = false → c = b)) : (a || b) = c := by cases a <;> simp_all
theorem RValue_any (n : Int) (w : World) (h0 : 0 ≤ n) (h1 : n ≤ 255) :
    Calls Tryd.prog 42 #[.int .u8 n] w fun e w' => e = .returned (.bool (B.val n)) ∧ w = w' := by
  go_enter Tryd.func42, Tryd.ntmps42
  go_wp2
  all_goals
    go_ret
    exact ⟨ret_bool (by rw [Bool.eq_iff_iff]; simp_all [B.val, B.vis, B.bla]; try omega), rfl⟩
theorem IsAlpha_any (n : Int) (w : World) :
    Calls Tryd.prog 62 #[.int .u8 n] w fun e w' => e = .returned (.bool (B.alp n)) ∧ w = w' := by
  go_enter Tryd.func62, Tryd.ntmps62
  go_wp2_with (go_at_call 65; refine (isCapital_any _ _).mono ?_; rintro e w' ⟨rfl, rfl⟩)
  all_goals
    go_ret
    exact ⟨ret_bool (by rw [Bool.eq_iff_iff]; simp_all [B.alp, B.sml, B.cap]; try omega), rfl⟩
theorem isLetterOrDigit_any (n : Int) (w : World) :
    Calls Tryd.prog 53 #[.int .u8 n] w fun e w' => e = .returned (.bool (B.lod n)) ∧ w = w' := by
  go_enter Tryd.func53, Tryd.ntmps53
  go_wp2_with (first | (go_at_call 62; refine (IsAlpha_any _ _).mono ?_; rintro e w' ⟨rfl, rfl⟩) | (go_at_call 63; refine (IsDigit_any _ _).mono ?_; rintro e w' ⟨rfl, rfl⟩))
  all_goals
    go_ret
    exact ⟨ret_bool (by simp_all [B.lod]), rfl⟩
theorem IsToken_any (n : Int) (w : World) :
    Calls Tryd.prog 43 #[.int .u8 n] w fun e w' => e = .returned (.bool (B.tok n)) ∧ w = w' := by
  go_enter Tryd.func43, Tryd.ntmps43
  go_wp2_with (first | (go_at_call 53; refine (isLetterOrDigit_any _ _).mono ?_; rintro e w' ⟨rfl, rfl⟩) | (go_at_call 54; refine (has_any _ _ _ (by decide)).mono ?_; rintro e w' ⟨rfl, rfl⟩))
  all_goals
    go_ret
    exact ⟨ret_bool (by simp_all [B.tok, B.inS]), rfl⟩
theorem IsValue_any (n : Int) (w : World) :
    Calls Tryd.prog 19 #[.int .u8 n] w fun e w' => e = .returned (.bool (B.val n)) ∧ w = w' := by
  go_enter Tryd.func19, Tryd.ntmps19
  go_wp2_with (first | (go_at_call 32; refine (IsVisible_any _ _).mono ?_; rintro e w' ⟨rfl, rfl⟩) | (go_at_call 33; refine (IsBlank_any _ _).mono ?_; rintro e w' ⟨rfl, rfl⟩))
  all_goals
    go_ret
    exact ⟨ret_bool (by simp_all [B.val]), rfl⟩
end Go.Proofs.YtchhjmdbjndckaaDoor
