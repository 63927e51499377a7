/- The document's first, scheme: contracts. -/
import Derived.Test.YtnnhlkbjdfgcaaaUrH
import Derived.Test.YtnnhlkbjdfgcaaaPqI
namespace Go.Proofs.Ytnnhlkbjdfgcaaa
open Go.RowKit
namespace Ur
theorem fst_at (m : List UInt8) (s : ByteArray) (k : Nat) (h : k < s.size) : fstN m (s.data.toList.drop k) = if m.contains s[k] then 0 else fstN m (s.data.toList.drop (k + 1)) + 1 := by
  rw [List.drop_eq_getElem_cons (by simpa using h), fstN]
  rfl
theorem sch_app {a : List UInt8} (b : List UInt8) (h : a ≠ []) : schL (a ++ b) = (schL a && b.all schB) := by
  cases a with
  | nil => exact absurd rfl h
  | cons c r => show (B.alp (c.toNat : Int) && (r ++ b).all schB) = _; rw [List.all_append, ← Bool.and_assoc]; rfl
end Ur
theorem RFirst_any (s m : ByteArray) (w : World) (hs : s.size ≤ 100000) (hm : m.size ≤ 1000) :
    Calls Try.prog 20 #[.string s, .string m] w fun e w' => e = .returned (.int .i64 (Ur.fstN m.data.toList s.data.toList : Int)) ∧ w' = w := by
  obtain ⟨Z, hZ⟩ : ∃ Z, Ur.fstN m.data.toList s.data.toList = Z := ⟨_, rfl⟩
  rw [hZ]
  go_enter Try.func20, Try.ntmps20
  go_wp2_with fail
  go_loopw [5] (fun i wr => ∃ k : Nat, k ≤ s.size ∧ i = .int .i64 k ∧ k + Ur.fstN m.data.toList (s.data.toList.drop k) = Z ∧ wr = w) (fun i _ => s.size - (intOf i).toNat)
  case atStart => exact ⟨0, Nat.zero_le _, rfl, by rw [List.drop_zero, hZ, Nat.zero_add], rfl⟩
  case round =>
    clear hZ
    obtain ⟨k, hk, rfl, hv, hwr⟩ := hrel
    rw [hwr]
    by_cases hlt : k < s.size
    · rw [Ur.fst_at _ s k hlt] at hv
      have HI := Lib.hid (fun w1 => In_any m (s[k].toNat : Int) w1 (by unfold maxLen; omega))
      rw [Pq.inS_has] at HI
      generalize m.data.toList.contains s[k] = b at *
      cases b
      · rw [if_neg Bool.false_ne_true] at hv
        have HV := Lib.hid hv
        clear hv
        go_wp2_with (go_at_call 27; refine (HI.out _).mono ?_; rintro e w1 ⟨rfl, hw1⟩; rw [← hw1]; clear hw1)
        go_roundw
        case rel => exact ⟨k + 1, by omega, by go_num, by have := HV.out; omega, by trivial⟩
        case measure => simp [intOf]; omega
      · rw [if_pos rfl] at hv
        have HV := Lib.hid hv
        clear hv
        go_wp2_with (go_at_call 27; refine (HI.out _).mono ?_; rintro e w1 ⟨rfl, hw1⟩; rw [← hw1]; clear hw1)
        go_ret
        exact ⟨by rw [← HV.out]; rfl, rfl⟩
    · obtain rfl : k = s.size := by omega
      rw [List.drop_of_length_le (by simp), Ur.fst_nil, Nat.add_zero] at hv
      have HV := Lib.hid hv
      clear hv
      go_wp2_with fail
      go_ret
      exact ⟨by rw [← HV.out]; rfl, rfl⟩
theorem RScheme_any (s : ByteArray) (w : World) (hs : s.size ≤ 100000) :
    Calls Try.prog 21 #[.string s] w fun e w' => e = .returned (.bool (Ur.schL s.data.toList)) ∧ w' = w := by
  obtain ⟨Z, hZ⟩ : ∃ Z, Ur.schL s.data.toList = Z := ⟨_, rfl⟩
  rw [hZ]
  go_enter Try.func21, Try.ntmps21
  go_wp2_with fail
  go_loopw [3] (fun i wr => ∃ k : Nat, k ≤ s.size ∧ i = .int .i64 k ∧ (k = 0 ∨ Ur.schL (s.data.toList.take k) = true) ∧ wr = w) (fun i _ => s.size - (intOf i).toNat)
  case atStart => exact ⟨0, Nat.zero_le _, rfl, .inl rfl, rfl⟩
  case round =>
    obtain ⟨k, hk, rfl, hv, hwr⟩ := hrel
    rw [hwr]
    by_cases hlt : k < s.size
    · have hby := B.toNat_le s[k]
      have HA := Lib.hid (fun w1 => RAlpha_any (s[k].toNat : Int) w1 (by omega) (by omega))
      have HD := Lib.hid (fun w1 => RDigit_any (s[k].toNat : Int) w1 (by omega) (by omega))
      have HI := Lib.hid (fun w1 => In_any ⟨#[43, 45, 46]⟩ (s[k].toNat : Int) w1 (by decide))
      rw [Pq.inS_has] at HI
      have hT : s.data.toList.take (k + 1) = s.data.toList.take k ++ [s[k]] := by rw [B.take_snocB s k hlt]
      have hC : s.data.toList = s.data.toList.take (k + 1) ++ s.data.toList.drop (k + 1) := (List.take_append_drop _ _).symm
      by_cases h0 : k = 0
      · subst h0
        rw [List.take_zero, List.nil_append] at hT
        have hne : s.data.toList.take (0 + 1) ≠ [] := by rw [hT]; simp
        have hone : Ur.schL (s.data.toList.take (0 + 1)) = B.alp (s[0].toNat : Int) := by
          rw [hT]
          show (B.alp (s[0].toNat : Int) && true) = _
          rw [Bool.and_true]
        cases ha : B.alp (s[0].toNat : Int)
        · have HZ : Hid (Z = false) := by
            show _ = _
            rw [← hZ, hC, Ur.sch_app _ hne, hone, ha]; rfl
          rw [ha] at HA
          clear hv hT hC hne hone hZ ha
          go_wp2_with (first | (go_at_call 36; refine (HA.out _).mono ?_; rintro e w1 ⟨rfl, hw1⟩; rw [← hw1]; clear hw1))
          go_ret
          exact ⟨by rw [HZ.out]; rfl, rfl⟩
        · rw [ha] at HA
          have HV := Lib.hid (hone.trans ha)
          clear hv hT hC hne hone hZ ha
          go_wp2_with (first | (go_at_call 36; refine (HA.out _).mono ?_; rintro e w1 ⟨rfl, hw1⟩; rw [← hw1]; clear hw1) | (go_at_call 37; refine (HD.out _).mono ?_; rintro e w1 ⟨rfl, hw1⟩; rw [← hw1]; clear hw1) | (go_at_call 27; refine (HI.out _).mono ?_; rintro e w1 ⟨rfl, hw1⟩; rw [← hw1]; clear hw1))
          go_roundw
          case rel => exact ⟨0 + 1, by omega, by go_num, .inr HV.out, by trivial⟩
          case measure => simp [intOf]; omega
      · have hz : Ur.schL (s.data.toList.take k) = true := by
          rcases hv with h | h
          · exact absurd h h0
          · exact h
        have hk0 : ((k : Int) == 0) = false := by rw [beq_eq_false_iff_ne]; omega
        have hk1 : ¬ (k : Int) = 0 := by omega
        have hone : Ur.schL (s.data.toList.take (k + 1)) = Ur.schB s[k] := by
          rw [hT, Ur.sch_app _ (Ur.schL_ne hz), hz]
          show (true && (Ur.schB s[k] && true)) = _
          rw [Bool.and_true, Bool.true_and]
        have hne : s.data.toList.take (k + 1) ≠ [] := by rw [hT]; simp
        obtain ⟨b, hb⟩ : ∃ b, Ur.schB s[k] = b := ⟨_, rfl⟩
        rw [hb] at hone
        have hb' := hb
        unfold Ur.schB at hb'
        rw [show (⟨#[43, 45, 46]⟩ : ByteArray).data.toList = [43, 45, 46] from rfl] at HI
        generalize B.alp (s[k].toNat : Int) = b1 at *
        generalize B.dig (s[k].toNat : Int) = b2 at *
        generalize ([43, 45, 46] : List UInt8).contains s[k] = b3 at *
        subst hb'
        cases b1
        · cases b2
          · cases b3
            · have HZ : Hid (Z = false) := by
                show _ = _
                rw [← hZ, hC, Ur.sch_app _ hne, hone]; rfl
              clear hv hT hC hne hone hZ hb hz
              go_wp2_with (first | (go_at_call 36; refine (HA.out _).mono ?_; rintro e w1 ⟨rfl, hw1⟩; rw [← hw1]; clear hw1) | (go_at_call 37; refine (HD.out _).mono ?_; rintro e w1 ⟨rfl, hw1⟩; rw [← hw1]; clear hw1) | (go_at_call 27; refine (HI.out _).mono ?_; rintro e w1 ⟨rfl, hw1⟩; rw [← hw1]; clear hw1))
              go_ret
              exact ⟨by rw [HZ.out]; rfl, rfl⟩
            · have HV := Lib.hid hone
              clear hv hT hC hne hone hZ hb hz
              go_wp2_with (first | (go_at_call 36; refine (HA.out _).mono ?_; rintro e w1 ⟨rfl, hw1⟩; rw [← hw1]; clear hw1) | (go_at_call 37; refine (HD.out _).mono ?_; rintro e w1 ⟨rfl, hw1⟩; rw [← hw1]; clear hw1) | (go_at_call 27; refine (HI.out _).mono ?_; rintro e w1 ⟨rfl, hw1⟩; rw [← hw1]; clear hw1))
              go_roundw
              case rel => exact ⟨k + 1, by omega, by go_num, .inr HV.out, by trivial⟩
              case measure => simp [intOf]; omega
          · have HV := Lib.hid hone
            clear hv hT hC hne hone hZ hb hz
            go_wp2_with (first | (go_at_call 36; refine (HA.out _).mono ?_; rintro e w1 ⟨rfl, hw1⟩; rw [← hw1]; clear hw1) | (go_at_call 37; refine (HD.out _).mono ?_; rintro e w1 ⟨rfl, hw1⟩; rw [← hw1]; clear hw1) | (go_at_call 27; refine (HI.out _).mono ?_; rintro e w1 ⟨rfl, hw1⟩; rw [← hw1]; clear hw1))
            go_roundw
            case rel => exact ⟨k + 1, by omega, by go_num, .inr HV.out, by trivial⟩
            case measure => simp [intOf]; omega
        · have HV := Lib.hid hone
          clear hv hT hC hne hone hZ hb hz
          go_wp2_with (first | (go_at_call 36; refine (HA.out _).mono ?_; rintro e w1 ⟨rfl, hw1⟩; rw [← hw1]; clear hw1) | (go_at_call 37; refine (HD.out _).mono ?_; rintro e w1 ⟨rfl, hw1⟩; rw [← hw1]; clear hw1) | (go_at_call 27; refine (HI.out _).mono ?_; rintro e w1 ⟨rfl, hw1⟩; rw [← hw1]; clear hw1))
          go_roundw
          case rel => exact ⟨k + 1, by omega, by go_num, .inr HV.out, by trivial⟩
          case measure => simp [intOf]; omega
    · obtain rfl : k = s.size := by omega
      rw [List.take_of_length_le (by simp)] at hv
      rw [hZ] at hv
      by_cases h0 : s.size = 0
      · obtain rfl : s = ByteArray.empty := by simpa using h0
        have HZ := Lib.hid (show Z = false by rw [← hZ]; rfl)
        clear hv hZ h0
        go_wp2_with fail
        go_ret
        exact ⟨by rw [HZ.out]; rfl, rfl⟩
      · have HZ : Hid (Z = true) := by
          show _ = _
          rcases hv with h | h
          · exact absurd h h0
          · exact h
        have h1 : (0 : Int) < s.size := by omega
        clear hv hZ
        go_wp2_with fail
        go_ret
        exact ⟨by rw [HZ.out]; exact congrArg (fun b => Ending.returned (.bool b)) (decide_eq_true (Nat.pos_of_ne_zero h0)), rfl⟩
end Go.Proofs.Ytnnhlkbjdfgcaaa
