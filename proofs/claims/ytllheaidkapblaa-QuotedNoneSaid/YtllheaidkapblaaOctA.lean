/- What each class function of the program and of the document's answer hands back, at every byte: contracts, nothing of the world turned. -/
import Derived.Test.YtllheaidkapblaaRows
import Derived.Test.YtllheaidkapblaaMath
import Derived.WalkKit
import Derived.WalkSpells
import Derived.WalkLawsBesides
import Derived.BigGuardPart
import Derived.Lib.Hide
namespace Go.Proofs.Ytllheaidkapblaa
open Go.RowKit
theorem ret_u8 {a b : Int} (h : a = b) : Ending.returned (.int .u8 a) = .returned (.int .u8 b) := by rw [h]
theorem ret_bool {a b : Bool} (h : a = b) : Ending.returned (.bool a) = .returned (.bool b) := by rw [h]

set_option maxHeartbeats 400000 in
theorem In_any (s : ByteArray) (n : Int) (w : World) (hs : s.size ≤ maxLen) :
    Calls Try.prog 45 #[.int .u8 n, .string s] w fun e w' => e = .returned (.bool (B.inS s n)) ∧ w = w' := by
  unfold maxLen at hs
  go_enter Try.func45, Try.ntmps45
  go_wp2
  go_loop [5] (fun i => ∃ k : Nat, k ≤ s.size ∧ i = .int .i64 k ∧ B.inL (s.data.toList.take k) n = false) (fun i => s.size - (intOf i).toNat)
  case atStart => exact ⟨0, Nat.zero_le _, rfl, rfl⟩
  case round =>
    obtain ⟨k, hk, rfl, hno⟩ := hrel
    by_cases hlt : k < s.size
    · have HS : Hid (B.inL (s.data.toList.take (k + 1)) n = decide ((s[k].toNat : Int) = n)) := by
        show _ = _
        rw [B.take_snoc _ _ (by simpa using hlt), B.inL_append, hno]; simp [B.inL]; rfl
      have HA : Hid (B.inL (s.data.toList.take (k + 1)) n = true → B.inL s.data.toList n = true) := by
        intro h
        rw [← List.take_append_drop (k + 1) s.data.toList, B.inL_append, h]; rfl
      clear hno
      go_wp2
      · have h1 : ((s[k].toNat : Int) == n) = true := by assumption
        go_ret
        exact ⟨ret_bool (HA.out (by rw [HS.out]; simpa using h1)).symm, rfl⟩
      · have h1 : ((s[k].toNat : Int) == n) = false := by assumption
        go_round
        case rel => exact ⟨k + 1, by omega, by go_num, by rw [HS.out]; simpa using h1⟩
        case measure => simp [intOf]; omega
    · have hno' : B.inL s.data.toList n = false := by rwa [List.take_of_length_le (by simp; omega)] at hno
      have HN := Lib.hid hno'
      clear hno hno'
      go_wp2
      go_ret
      exact ⟨ret_bool HN.out.symm, rfl⟩

set_option maxHeartbeats 400000 in
theorem has_any (s : ByteArray) (n : Int) (w : World) (hs : s.size ≤ maxLen) :
    Calls Try.prog 48 #[.string s, .int .u8 n] w fun e w' => e = .returned (.bool (B.inS s n)) ∧ w = w' := by
  unfold maxLen at hs
  go_enter Try.func48, Try.ntmps48
  go_wp2
  go_loop [5, 8] (fun _ i => ∃ k : Nat, k ≤ s.size ∧ i = .int .i64 k ∧ B.inL (s.data.toList.take k) n = false) (fun _ i => s.size - (intOf i).toNat)
  case atStart => exact ⟨0, Nat.zero_le _, rfl, rfl⟩
  case round =>
    obtain ⟨k, hk, rfl, hno⟩ := hrel
    by_cases hlt : k < s.size
    · have HS : Hid (B.inL (s.data.toList.take (k + 1)) n = decide ((s[k].toNat : Int) = n)) := by
        show _ = _
        rw [B.take_snoc _ _ (by simpa using hlt), B.inL_append, hno]; simp [B.inL]; rfl
      have HA : Hid (B.inL (s.data.toList.take (k + 1)) n = true → B.inL s.data.toList n = true) := by
        intro h
        rw [← List.take_append_drop (k + 1) s.data.toList, B.inL_append, h]; rfl
      clear hno
      go_wp2
      · have h1 : ((s[k].toNat : Int) == n) = true := by assumption
        go_ret
        exact ⟨ret_bool (HA.out (by rw [HS.out]; simpa using h1)).symm, rfl⟩
      · have h1 : ((s[k].toNat : Int) == n) = false := by assumption
        go_round
        case rel => exact ⟨k + 1, by omega, by go_num, by rw [HS.out]; simpa using h1⟩
        case measure => simp [intOf]; omega
    · have hno' : B.inL s.data.toList n = false := by rwa [List.take_of_length_le (by simp; omega)] at hno
      have HN := Lib.hid hno'
      clear hno hno'
      go_wp2
      go_ret
      exact ⟨ret_bool HN.out.symm, rfl⟩

/-! Plain tests: two comparisons, parted by the walk. -/
theorem IsDigit_any (n : Int) (w : World) :
    Calls Try.prog 52 #[.int .u8 n] w fun e w' => e = .returned (.bool (B.dig n)) ∧ w = w' := by
  go_enter Try.func52, Try.ntmps52
  go_wp2
  all_goals
    go_ret
    exact ⟨ret_bool (by rw [Bool.eq_iff_iff]; simp [B.dig]; try omega), rfl⟩
theorem isCapital_any (n : Int) (w : World) :
    Calls Try.prog 53 #[.int .u8 n] w fun e w' => e = .returned (.bool (B.cap n)) ∧ w = w' := by
  go_enter Try.func53, Try.ntmps53
  go_wp2
  all_goals
    go_ret
    exact ⟨ret_bool (by rw [Bool.eq_iff_iff]; simp [B.cap]; try omega), rfl⟩
theorem IsVisible_any (n : Int) (w : World) :
    Calls Try.prog 36 #[.int .u8 n] w fun e w' => e = .returned (.bool (B.vis n)) ∧ w = w' := by
  go_enter Try.func36, Try.ntmps36
  go_wp2
  all_goals
    go_ret
    exact ⟨ret_bool (by rw [Bool.eq_iff_iff]; simp [B.vis]; try omega), rfl⟩
theorem IsBlank_any (n : Int) (w : World) :
    Calls Try.prog 37 #[.int .u8 n] w fun e w' => e = .returned (.bool (B.bla n)) ∧ w = w' := by
  go_enter Try.func37, Try.ntmps37
  go_wp2
  all_goals
    go_ret
    exact ⟨ret_bool (by rw [Bool.eq_iff_iff]; simp [B.bla]; try omega), rfl⟩
/-! The document's classes: one look into a text. -/
theorem RTok_any (n : Int) (w : World) (h0 : 0 ≤ n) (h1 : n ≤ 255) :
    Calls Try.prog 34 #[.int .u8 n] w fun e w' => e = .returned (.bool (B.tok n)) ∧ w = w' := by
  go_enter Try.func34, Try.ntmps34
  go_wp2_with fail
  refine (In_any _ _ _ (by decide)).mono ?_
  rintro e w' ⟨rfl, rfl⟩
  go_wp2_with fail
  go_ret
  exact ⟨ret_bool (B.byte_eq (by decide +kernel) n h0 h1), rfl⟩
/-! Classes out of classes. -/
/-- How such a walk ends. -/
theorem b_or {a b c : Bool} (h : (a = true → c = true) ∧ (a = false → c = b)) : (a || b) = c := by cases a <;> simp_all
theorem RValue_any (n : Int) (w : World) (h0 : 0 ≤ n) (h1 : n ≤ 255) :
    Calls Try.prog 26 #[.int .u8 n] w fun e w' => e = .returned (.bool (B.val n)) ∧ w = w' := by
  go_enter Try.func26, Try.ntmps26
  go_wp2
  all_goals
    go_ret
    exact ⟨ret_bool (by rw [Bool.eq_iff_iff]; simp_all [B.val, B.vis, B.bla]; try omega), rfl⟩
theorem IsAlpha_any (n : Int) (w : World) :
    Calls Try.prog 51 #[.int .u8 n] w fun e w' => e = .returned (.bool (B.alp n)) ∧ w = w' := by
  go_enter Try.func51, Try.ntmps51
  go_wp2_with (go_at_call 53; refine (isCapital_any _ _).mono ?_; rintro e w' ⟨rfl, rfl⟩)
  all_goals
    go_ret
    exact ⟨ret_bool (by rw [Bool.eq_iff_iff]; simp_all [B.alp, B.sml, B.cap]; try omega), rfl⟩
theorem isLetterOrDigit_any (n : Int) (w : World) :
    Calls Try.prog 47 #[.int .u8 n] w fun e w' => e = .returned (.bool (B.lod n)) ∧ w = w' := by
  go_enter Try.func47, Try.ntmps47
  go_wp2_with (first | (go_at_call 51; refine (IsAlpha_any _ _).mono ?_; rintro e w' ⟨rfl, rfl⟩) | (go_at_call 52; refine (IsDigit_any _ _).mono ?_; rintro e w' ⟨rfl, rfl⟩))
  all_goals
    go_ret
    exact ⟨ret_bool (by simp_all [B.lod]), rfl⟩
theorem IsToken_any (n : Int) (w : World) :
    Calls Try.prog 39 #[.int .u8 n] w fun e w' => e = .returned (.bool (B.tok n)) ∧ w = w' := by
  go_enter Try.func39, Try.ntmps39
  go_wp2_with (first | (go_at_call 47; refine (isLetterOrDigit_any _ _).mono ?_; rintro e w' ⟨rfl, rfl⟩) | (go_at_call 48; refine (has_any _ _ _ (by decide)).mono ?_; rintro e w' ⟨rfl, rfl⟩))
  all_goals
    go_ret
    exact ⟨ret_bool (by simp_all [B.tok, B.inS]), rfl⟩
theorem IsValue_any (n : Int) (w : World) :
    Calls Try.prog 22 #[.int .u8 n] w fun e w' => e = .returned (.bool (B.val n)) ∧ w = w' := by
  go_enter Try.func22, Try.ntmps22
  go_wp2_with (first | (go_at_call 36; refine (IsVisible_any _ _).mono ?_; rintro e w' ⟨rfl, rfl⟩) | (go_at_call 37; refine (IsBlank_any _ _).mono ?_; rintro e w' ⟨rfl, rfl⟩))
  all_goals
    go_ret
    exact ⟨ret_bool (by simp_all [B.val]), rfl⟩
end Go.Proofs.Ytllheaidkapblaa
