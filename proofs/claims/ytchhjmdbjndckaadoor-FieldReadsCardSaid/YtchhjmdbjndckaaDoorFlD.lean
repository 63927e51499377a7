/- The document's fieldline: values, Check, Text: contracts. -/
import Derived.Test.YtchhjmdbjndckaaDoorFlC
namespace Go.Proofs.YtchhjmdbjndckaaDoor
open Go.RowKit

set_option maxHeartbeats 400000 in
theorem RValues_any (s : ByteArray) (w : World) (hs : s.size ≤ 100000) :
    Calls Tryd.prog 24 #[.string s] w fun e w' => e = .returned (.bool (s.data.toList.all Fl.vl)) ∧ w = w' := by
  obtain ⟨Z, hZ⟩ : ∃ Z, s.data.toList.all Fl.vl = Z := ⟨_, rfl⟩
  rw [hZ]
  go_enter Tryd.func24, Tryd.ntmps24
  go_wp2_with fail
  go_loop [3] (fun i => ∃ k : Nat, k ≤ s.size ∧ i = .int .i64 k ∧ ((s.data.toList.take k).all Fl.vl) = true) (fun i => s.size - (intOf i).toNat)
  case atStart => exact ⟨0, Nat.zero_le _, rfl, rfl⟩
  case round =>
    obtain ⟨k, hk, rfl, hall⟩ := hrel
    by_cases hlt : k < s.size
    · have HS := Lib.hid hall
      clear hall
      have hby := B.toNat_le s[k]
      by_cases ht : B.val (s[k].toNat : Int) = true
      · go_wp2_with (go_at_call 42; refine (RValue_any _ _ (by omega) (by omega)).mono ?_; rintro e w' ⟨rfl, rfl⟩)
        go_round
        case rel => exact ⟨k + 1, by omega, by go_num, B.all_snoc Fl.vl s k hlt HS.out ht⟩
        case measure => simp [intOf]; omega
      · have ht' : B.val (s[k].toNat : Int) = false := by simpa using ht
        have hno : Hid (Z = false) := by
          show _ = _
          rw [← hZ, B.all_no Fl.vl s k hlt ht']
        go_wp2_with (go_at_call 42; refine (RValue_any _ _ (by omega) (by omega)).mono ?_; rintro e w' ⟨rfl, rfl⟩)
        go_ret
        exact ⟨ret_bool hno.out.symm, rfl⟩
    · have hyes : Hid (Z = true) := by
        show _ = _
        rw [← hZ, B.all_yes Fl.vl s k hlt hall]
      clear hall
      go_wp2_with fail
      go_ret
      exact ⟨ret_bool hyes.out.symm, rfl⟩
theorem RFCheck_any (n v : ByteArray) (w : World) (hn : n.size ≤ 100000) (hv : v.size ≤ 100000) :
    Calls Tryd.prog 11 #[fF n v] w fun e w' => e = .returned (.int .i64 (Fl.checkL n.data.toList v.data.toList)) ∧ Below w.heap.size w w' := by
  have HT := Lib.hid (fun w1 => RToken_any n w1 (by unfold maxLen; omega))
  rw [Fl.tokS_L] at HT
  have HV := Lib.hid (fun w1 => (RValues_any v w1 hv).mono fun _ _ ⟨h, k⟩ => (⟨h, k.symm⟩ : _ ∧ _ = w1))
  have HM := Lib.hid (fun w1 => (RTrim_any v w1 hv).mono fun _ _ ⟨h, k⟩ => (⟨h, k.symm⟩ : _ ∧ _ = w1))
  have HS := Lib.hid (Fl.trim_same v)
  show Calls _ _ _ _ fun e w' => e = .returned (.int .i64 (if Fl.tokL n.data.toList = false then 21 else if (v.data.toList.all Fl.vl && decide (Cm.trim v.data.toList = v.data.toList)) = false then 25 else 0)) ∧ _
  generalize Fl.tokL n.data.toList = a at *
  generalize v.data.toList.all Fl.vl = b at *
  generalize decide (Cm.trim v.data.toList = v.data.toList) = c at *
  generalize trimB [32, 9] v = t at *
  unfold fF
  have hb0 : Below w.heap.size w (w.alloc (.cells #[.string n, .string v] 25)) := (by repeat (first | with_reducible exact Below.refl _ _ | with_reducible assumption | (with_reducible refine Below.setCell ?_ ?_ _; rotate_left; · (simp <;> omega)) | (with_reducible refine Below.alloc ?_ ?_ _; rotate_left; · (simp <;> omega)) | with_reducible refine Below.drew ?_))
  have HB := Lib.hid hb0
  clear hb0
  cases a
  · go_enter Tryd.func11, Tryd.ntmps11
    go_wp2_with (first | (go_at_call 23; refine (HT.out _).mono ?_; rintro e w1 ⟨rfl, rfl⟩))
    go_ret
    exact ⟨rfl, HB.out⟩
  · cases b
    all_goals cases c
    all_goals
      have hs1 := HS.out
      go_enter Tryd.func11, Tryd.ntmps11
      go_wp2_with (first | (go_at_call 23; refine (HT.out _).mono ?_; rintro e w1 ⟨rfl, rfl⟩))
      go_quiet (first | (go_at_call 24; exact Calls.quiet_of_same (HV.out _)) | (go_at_call 22; exact Calls.quiet_of_same (HM.out _)))
      go_wp2_with fail
      go_ret
      exact ⟨rfl, HB.out.trans (below_drewN _ _ _)⟩
theorem RFText_any (n v : ByteArray) (w : World) (hn : n.size ≤ 100000) (hv : v.size ≤ 100000) :
    Calls Tryd.prog 13 #[fF n v] w fun e w' => e = .returned (.string (lineB n v)) ∧ Below w.heap.size w w' := by
  have hb0 : Below w.heap.size w (w.alloc (.cells #[.string n, .string v] 25)) := (by repeat (first | with_reducible exact Below.refl _ _ | with_reducible assumption | (with_reducible refine Below.setCell ?_ ?_ _; rotate_left; · (simp <;> omega)) | (with_reducible refine Below.alloc ?_ ?_ _; rotate_left; · (simp <;> omega)) | with_reducible refine Below.drew ?_))
  have HB := Lib.hid hb0
  clear hb0
  cases he : v.toList.isEmpty
  · have h1 : n ++ ⟨#[58, 32]⟩ ++ v = lineB n v := by
      rw [← line_some n v he]
      apply bytes_eq
      rw [list_append, list_append, list_append, list_append, list_append, List.append_assoc, List.append_assoc]
      rfl
    generalize lineB n v = l at *
    unfold fF
    go_enter Tryd.func13, Tryd.ntmps13
    go_wp2_with fail
    go_ret
    exact ⟨rfl, HB.out⟩
  · have h1 := line_none n v he
    generalize lineB n v = l at *
    unfold fF
    go_enter Tryd.func13, Tryd.ntmps13
    go_wp2_with fail
    go_ret
    exact ⟨rfl, HB.out⟩
end Go.Proofs.YtchhjmdbjndckaaDoor
