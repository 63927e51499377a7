/- What each class function of the program and of the document's answer hands back, at every byte: contracts, nothing of the world turned. -/
import Derived.Test.YtnnhlkbjdfgcaaaRows
import Derived.Test.YtnnhlkbjdfgcaaaMath
import Derived.WalkKit
import Derived.WalkSpells
import Derived.WalkLawsBesides
import Derived.BigGuardPart
import Derived.Lib.Hide
namespace Go.Proofs.Ytnnhlkbjdfgcaaa
open Go.RowKit
theorem ret_u8 {a b : Int} (h : a = b) : Ending.returned (.int .u8 a) = .returned (.int .u8 b) := by rw [h]
theorem ret_bool {a b : Bool} (h : a = b) : Ending.returned (.bool a) = .returned (.bool b) := by rw [h]

set_option maxHeartbeats 400000 in
theorem In_any (s : ByteArray) (n : Int) (w : World) (hs : s.size ≤ maxLen) :
    Calls Try.prog 27 #[.int .u8 n, .string s] w fun e w' => e = .returned (.bool (B.inS s n)) ∧ w = w' := by
  unfold maxLen at hs
  go_enter Try.func27, Try.ntmps27
  go_wp2
  go_loop [5] (fun i => ∃ k : Nat, k ≤ s.size ∧ i = .int .i64 k ∧ B.inL (s.data.toList.take k) n = false) (fun i => s.size - (intOf i).toNat)
  case atStart => exact ⟨0, Nat.zero_le _, rfl, rfl⟩
  case round =>
    obtain ⟨k, hk, rfl, hno⟩ := hrel
    by_cases hlt : k < s.size
    · have HS : Hid (B.inL (s.data.toList.take (k + 1)) n = decide ((s[k].toNat : Int) = n)) := by
        show _ = _
        rw [B.take_snoc _ _ (by simpa using hlt), B.inL_append, hno]; simp [B.inL]; rfl
      have HA : Hid (B.inL (s.data.toList.take (k + 1)) n = true → B.inL s.data.toList n = true) := by
        intro h
        rw [← List.take_append_drop (k + 1) s.data.toList, B.inL_append, h]; rfl
      clear hno
      go_wp2
      · have h1 : ((s[k].toNat : Int) == n) = true := by assumption
        go_ret
        exact ⟨ret_bool (HA.out (by rw [HS.out]; simpa using h1)).symm, rfl⟩
      · have h1 : ((s[k].toNat : Int) == n) = false := by assumption
        go_round
        case rel => exact ⟨k + 1, by omega, by go_num, by rw [HS.out]; simpa using h1⟩
        case measure => simp [intOf]; omega
    · have hno' : B.inL s.data.toList n = false := by rwa [List.take_of_length_le (by simp; omega)] at hno
      have HN := Lib.hid hno'
      clear hno hno'
      go_wp2
      go_ret
      exact ⟨ret_bool HN.out.symm, rfl⟩

set_option maxHeartbeats 400000 in
theorem has_any (s : ByteArray) (n : Int) (w : World) (hs : s.size ≤ maxLen) :
    Calls Try.prog 65 #[.string s, .int .u8 n] w fun e w' => e = .returned (.bool (B.inS s n)) ∧ w = w' := by
  unfold maxLen at hs
  go_enter Try.func65, Try.ntmps65
  go_wp2
  go_loop [5, 8] (fun _ i => ∃ k : Nat, k ≤ s.size ∧ i = .int .i64 k ∧ B.inL (s.data.toList.take k) n = false) (fun _ i => s.size - (intOf i).toNat)
  case atStart => exact ⟨0, Nat.zero_le _, rfl, rfl⟩
  case round =>
    obtain ⟨k, hk, rfl, hno⟩ := hrel
    by_cases hlt : k < s.size
    · have HS : Hid (B.inL (s.data.toList.take (k + 1)) n = decide ((s[k].toNat : Int) = n)) := by
        show _ = _
        rw [B.take_snoc _ _ (by simpa using hlt), B.inL_append, hno]; simp [B.inL]; rfl
      have HA : Hid (B.inL (s.data.toList.take (k + 1)) n = true → B.inL s.data.toList n = true) := by
        intro h
        rw [← List.take_append_drop (k + 1) s.data.toList, B.inL_append, h]; rfl
      clear hno
      go_wp2
      · have h1 : ((s[k].toNat : Int) == n) = true := by assumption
        go_ret
        exact ⟨ret_bool (HA.out (by rw [HS.out]; simpa using h1)).symm, rfl⟩
      · have h1 : ((s[k].toNat : Int) == n) = false := by assumption
        go_round
        case rel => exact ⟨k + 1, by omega, by go_num, by rw [HS.out]; simpa using h1⟩
        case measure => simp [intOf]; omega
    · have hno' : B.inL s.data.toList n = false := by rwa [List.take_of_length_le (by simp; omega)] at hno
      have HN := Lib.hid hno'
      clear hno hno'
      go_wp2
      go_ret
      exact ⟨ret_bool HN.out.symm, rfl⟩

/-! Plain tests: two comparisons, parted by the walk. -/
theorem IsDigit_any (n : Int) (w : World) :
    Calls Try.prog 46 #[.int .u8 n] w fun e w' => e = .returned (.bool (B.dig n)) ∧ w = w' := by
  go_enter Try.func46, Try.ntmps46
  go_wp2
  all_goals
    go_ret
    exact ⟨ret_bool (by rw [Bool.eq_iff_iff]; simp [B.dig]; try omega), rfl⟩
theorem isCapital_any (n : Int) (w : World) :
    Calls Try.prog 57 #[.int .u8 n] w fun e w' => e = .returned (.bool (B.cap n)) ∧ w = w' := by
  go_enter Try.func57, Try.ntmps57
  go_wp2
  all_goals
    go_ret
    exact ⟨ret_bool (by rw [Bool.eq_iff_iff]; simp [B.cap]; try omega), rfl⟩
/-! The document's classes: one look into a text. -/
theorem RDigit_any (n : Int) (w : World) (h0 : 0 ≤ n) (h1 : n ≤ 255) :
    Calls Try.prog 37 #[.int .u8 n] w fun e w' => e = .returned (.bool (B.dig n)) ∧ w = w' := by
  go_enter Try.func37, Try.ntmps37
  go_wp2_with fail
  refine (In_any _ _ _ (by decide)).mono ?_
  rintro e w' ⟨rfl, rfl⟩
  go_wp2_with fail
  go_ret
  exact ⟨ret_bool (B.byte_eq (by decide +kernel) n h0 h1), rfl⟩
theorem RHex_any (n : Int) (w : World) (h0 : 0 ≤ n) (h1 : n ≤ 255) :
    Calls Try.prog 54 #[.int .u8 n] w fun e w' => e = .returned (.bool (B.hex n)) ∧ w = w' := by
  go_enter Try.func54, Try.ntmps54
  go_wp2_with fail
  refine (In_any _ _ _ (by decide)).mono ?_
  rintro e w' ⟨rfl, rfl⟩
  go_wp2_with fail
  go_ret
  exact ⟨ret_bool (B.byte_eq (by decide +kernel) n h0 h1), rfl⟩
theorem RAlpha_any (n : Int) (w : World) (h0 : 0 ≤ n) (h1 : n ≤ 255) :
    Calls Try.prog 36 #[.int .u8 n] w fun e w' => e = .returned (.bool (B.alp n)) ∧ w = w' := by
  go_enter Try.func36, Try.ntmps36
  go_wp2_with fail
  refine (In_any _ _ _ (by decide)).mono ?_
  rintro e w' ⟨rfl, rfl⟩
  go_wp2_with fail
  go_ret
  exact ⟨ret_bool (B.byte_eq (by decide +kernel) n h0 h1), rfl⟩
theorem RUnreserved_any (n : Int) (w : World) (h0 : 0 ≤ n) (h1 : n ≤ 255) :
    Calls Try.prog 67 #[.int .u8 n] w fun e w' => e = .returned (.bool (B.unr n)) ∧ w = w' := by
  go_enter Try.func67, Try.ntmps67
  go_wp2_with fail
  refine (In_any _ _ _ (by decide)).mono ?_
  rintro e w' ⟨rfl, rfl⟩
  go_wp2_with fail
  go_ret
  exact ⟨ret_bool (B.byte_eq (by decide +kernel) n h0 h1), rfl⟩
theorem RSub_any (n : Int) (w : World) (h0 : 0 ≤ n) (h1 : n ≤ 255) :
    Calls Try.prog 68 #[.int .u8 n] w fun e w' => e = .returned (.bool (B.sub n)) ∧ w = w' := by
  go_enter Try.func68, Try.ntmps68
  go_wp2_with fail
  refine (In_any _ _ _ (by decide)).mono ?_
  rintro e w' ⟨rfl, rfl⟩
  go_wp2_with fail
  go_ret
  exact ⟨ret_bool (B.byte_eq (by decide +kernel) n h0 h1), rfl⟩
/-! Classes out of classes. -/
/-- How such a walk ends. -/
theorem b_or {a b c : Bool} (h : (a = true → c = true) ∧ (a = false → c = b)) : (a || b) = c := by cases a <;> simp_all
theorem IsHex_any (n : Int) (w : World) (h0 : 0 ≤ n) (h1 : n ≤ 255) :
    Calls Try.prog 66 #[.int .u8 n] w fun e w' => e = .returned (.bool (B.hex n)) ∧ w = w' := by
  go_enter Try.func66, Try.ntmps66
  go_wp2_with (go_at_call 46; refine (IsDigit_any _ _).mono ?_; rintro e w' ⟨rfl, rfl⟩)
  all_goals
    go_ret
    exact ⟨ret_bool (by rw [Bool.eq_iff_iff]; simp_all [B.hex, B.dig]; try omega), rfl⟩
theorem IsAlpha_any (n : Int) (w : World) :
    Calls Try.prog 45 #[.int .u8 n] w fun e w' => e = .returned (.bool (B.alp n)) ∧ w = w' := by
  go_enter Try.func45, Try.ntmps45
  go_wp2_with (go_at_call 57; refine (isCapital_any _ _).mono ?_; rintro e w' ⟨rfl, rfl⟩)
  all_goals
    go_ret
    exact ⟨ret_bool (by rw [Bool.eq_iff_iff]; simp_all [B.alp, B.sml, B.cap]; try omega), rfl⟩
theorem isLetterOrDigit_any (n : Int) (w : World) :
    Calls Try.prog 76 #[.int .u8 n] w fun e w' => e = .returned (.bool (B.lod n)) ∧ w = w' := by
  go_enter Try.func76, Try.ntmps76
  go_wp2_with (first | (go_at_call 45; refine (IsAlpha_any _ _).mono ?_; rintro e w' ⟨rfl, rfl⟩) | (go_at_call 46; refine (IsDigit_any _ _).mono ?_; rintro e w' ⟨rfl, rfl⟩))
  all_goals
    go_ret
    exact ⟨ret_bool (by simp_all [B.lod]), rfl⟩
theorem IsUnreserved_any (n : Int) (w : World) :
    Calls Try.prog 63 #[.int .u8 n] w fun e w' => e = .returned (.bool (B.unr n)) ∧ w = w' := by
  go_enter Try.func63, Try.ntmps63
  go_wp2_with (first | (go_at_call 76; refine (isLetterOrDigit_any _ _).mono ?_; rintro e w' ⟨rfl, rfl⟩) | (go_at_call 65; refine (has_any _ _ _ (by decide)).mono ?_; rintro e w' ⟨rfl, rfl⟩))
  all_goals
    go_ret
    exact ⟨ret_bool (by simp_all [B.unr, B.inS]), rfl⟩
theorem IsSub_any (n : Int) (w : World) :
    Calls Try.prog 64 #[.int .u8 n] w fun e w' => e = .returned (.bool (B.sub n)) ∧ w = w' := by
  go_enter Try.func64, Try.ntmps64
  go_wp2_with (go_at_call 65; refine (has_any _ _ _ (by decide)).mono ?_; rintro e w' ⟨rfl, rfl⟩)
  all_goals
    go_ret
    exact ⟨ret_bool (by simp_all [B.sub, B.inS]), rfl⟩
theorem IsPath_any (n : Int) (w : World) :
    Calls Try.prog 52 #[.int .u8 n] w fun e w' => e = .returned (.bool (B.pat n)) ∧ w = w' := by
  go_enter Try.func52, Try.ntmps52
  go_wp2_with (first | (go_at_call 63; refine (IsUnreserved_any _ _).mono ?_; rintro e w' ⟨rfl, rfl⟩) | (go_at_call 64; refine (IsSub_any _ _).mono ?_; rintro e w' ⟨rfl, rfl⟩) | (go_at_call 65; refine (has_any _ _ _ (by decide)).mono ?_; rintro e w' ⟨rfl, rfl⟩))
  all_goals
    go_ret
    exact ⟨ret_bool (by simp_all [B.pat, B.inS]), rfl⟩
theorem RPath_any (n : Int) (w : World) (h0 : 0 ≤ n) (h1 : n ≤ 255) :
    Calls Try.prog 55 #[.int .u8 n] w fun e w' => e = .returned (.bool (B.pat n)) ∧ w = w' := by
  go_enter Try.func55, Try.ntmps55
  go_wp2_with (first | (go_at_call 67; refine (RUnreserved_any _ _ h0 h1).mono ?_; rintro e w' ⟨rfl, rfl⟩) | (go_at_call 68; refine (RSub_any _ _ h0 h1).mono ?_; rintro e w' ⟨rfl, rfl⟩))
  all_goals
    go_ret
    exact ⟨ret_bool (by rw [Bool.eq_iff_iff]; simp_all [B.pat, B.inL]; try omega), rfl⟩
theorem Lower_any (n : Int) (w : World) (h0 : 0 ≤ n) (h1 : n ≤ 255) :
    Calls Try.prog 41 #[.int .u8 n] w fun e w' => e = .returned (.int .u8 (B.low n)) ∧ w = w' := by
  by_cases hc : B.cap n = true
  · have hl := Lib.hid (show B.low n = n + 32 by simp [B.low, hc])
    have b0 : 65 ≤ n := by simp [B.cap] at hc; omega
    have b1 : n ≤ 90 := by simp [B.cap] at hc; omega
    go_enter Try.func41, Try.ntmps41
    go_wp2_with (go_at_call 57; refine (isCapital_any _ _).mono ?_; rintro e w' ⟨rfl, rfl⟩)
    go_ret
    exact ⟨ret_u8 (by rw [hl.out]; omega), rfl⟩
  · have hc' : B.cap n = false := by simpa using hc
    have hl := Lib.hid (show B.low n = n by simp [B.low, hc'])
    go_enter Try.func41, Try.ntmps41
    go_wp2_with (go_at_call 57; refine (isCapital_any _ _).mono ?_; rintro e w' ⟨rfl, rfl⟩)
    go_ret
    exact ⟨ret_u8 hl.out.symm, rfl⟩
end Go.Proofs.Ytnnhlkbjdfgcaaa
