/- The program's readers of numerals: contracts. -/
import Derived.Test.YtnpbnlphmngbdaaDoorNumC
namespace Go.Proofs.YtnpbnlphmngbdaaDoor
open Go.RowKit

namespace Nu
theorem hexv_dig (n : Int) (h0 : 0 ≤ n) (h1 : n ≤ 255) : B.dig n = decide (0 ≤ wor 10 n) := B.byte_eq (q := fun n => decide (0 ≤ wor 10 n)) (by decide +kernel) n h0 h1
theorem hexv_hex (n : Int) (h0 : 0 ≤ n) (h1 : n ≤ 255) : B.hex n = decide (0 ≤ wor 16 n) := B.byte_eq (q := fun n => decide (0 ≤ wor 16 n)) (by decide +kernel) n h0 h1
theorem digit_dig (n : Int) (_h0 : 0 ≤ n) (_h1 : n ≤ 255) (h : B.dig n = true) : hexv n = n - 48 := by
  unfold B.dig at h
  simp at h
  unfold hexv; rw [if_pos h]
theorem digit_low (n : Int) (h0 : 0 ≤ n) (h1 : n ≤ 255) (h : B.dig n = false) (hx : 0 ≤ hexv n) : B.low n - 97 + 10 = hexv n ∧ 97 ≤ B.low n ∧ B.low n ≤ 102 := by
  have g := B.byte_all (p := fun n => B.dig n || !decide (0 ≤ hexv n) || (decide (B.low n - 97 + 10 = hexv n) && decide (97 ≤ B.low n) && decide (B.low n ≤ 102))) (by decide +kernel) n h0 h1
  rw [h] at g
  simp at g
  rcases g with g | g
  · omega
  · exact ⟨g.1.1, g.1.2, g.2⟩
end Nu

theorem digit_any (n : Int) (w : World) (h0 : 0 ≤ n) (h1 : n ≤ 255) (hx : 0 ≤ Nu.hexv n) :
    Calls Tryd.prog 82 #[.int .u8 n] w fun e w' => e = .returned (.int .i64 (Nu.hexv n)) ∧ w = w' := by
  cases hd : B.dig n with
  | true =>
    have hv := Lib.hid (Nu.digit_dig n h0 h1 hd)
    have hn : 48 ≤ n := by unfold B.dig at hd; simp at hd; exact hd.1
    have HD := Lib.hid hd
    clear hd hx
    go_enter Tryd.func82, Tryd.ntmps82
    go_wp2_with fail
    refine (IsDigit_any _ _).mono ?_
    rintro e w' ⟨rfl, rfl⟩
    rw [HD.out]
    go_wp2_with fail
    go_ret
    exact ⟨ret_int hv.out.symm, rfl⟩
  | false =>
    obtain ⟨hv, hl1, hl2⟩ := Nu.digit_low n h0 h1 hd hx
    have HV := Lib.hid hv
    have HD := Lib.hid hd
    clear hd hx hv
    go_enter Tryd.func82, Tryd.ntmps82
    go_wp2_with fail
    refine (IsDigit_any _ _).mono ?_
    rintro e w' ⟨rfl, rfl⟩
    rw [HD.out]
    go_wp2_with fail
    refine (Lower_any _ _ h0 h1).mono ?_
    rintro e w' ⟨rfl, rfl⟩
    generalize B.low n = x at *
    go_wp2_with fail
    go_ret
    exact ⟨ret_int HV.out, rfl⟩

namespace Nu
/-- Where the number may not be below 0, and is too great behind one more digit. -/
theorem rd_over (b : Nat) (hb : 1 ≤ b) (most : Int) (s : ByteArray) (k : Nat) (h : s.toList.isEmpty = false) (h' : s.data.toList.all (isD b) = true) (hv : most < (val b (s.data.toList.take k) : Int)) : rd b most s.data.toList = (0, 7) := by
  rw [rd_yes b most s h h', if_pos]
  have := val_le b hb (s.data.toList.take k) (s.data.toList.drop k)
  rw [List.take_append_drop] at this
  omega
theorem neg_stop (b d : Nat) (hb : 2 ≤ b) (hb' : b ≤ 16) (hd : d < b) (most : Int) (h0 : -9223372036854775808 ≤ most) (h1 : most < 0) : wrap64 (most.tdiv b) < 0 ∨ wrap64 (most - d) < 0 := by
  obtain ⟨m, hm⟩ := Int.eq_ofNat_of_zero_le (by omega : 0 ≤ -most)
  obtain rfl : most = -(m : Int) := by omega
  by_cases hmb : m < b
  · right; unfold wrap64; omega
  · left
    rw [Int.neg_tdiv]
    have e : (m : Int).tdiv b = ((m / b : Nat) : Int) := rfl
    rw [e]
    have h2 : 1 ≤ m / b := Nat.div_pos (by omega) (by omega)
    have h3 := Nat.div_le_self m b
    generalize m / b = x at *
    unfold wrap64; omega
end Nu
theorem div_wrap (q b : Nat) (h : SmallN q) : wrap64 ((q : Int) / (b : Int)) = ((q / b : Nat) : Int) := by
  have e : (q : Int) / (b : Int) = ((q / b : Nat) : Int) := rfl
  rw [e]
  unfold SmallN at h
  have := Nat.div_le_self q b
  generalize q / b = x at *
  unfold wrap64; omega
theorem mul_wrap (a b : Nat) (h : SmallN (a * b)) : wrap64 ((a : Int) * (b : Int)) = ((a * b : Nat) : Int) := by
  have e : (a : Int) * (b : Int) = ((a * b : Nat) : Int) := rfl
  rw [e]
  unfold SmallN at h
  generalize a * b = x at *
  unfold wrap64; omega
theorem sub_wrap (q d : Nat) (h : SmallN q) (hd : d ≤ 16) : wrap64 ((q : Int) - (d : Int)) = (q : Int) - (d : Int) := by
  unfold SmallN at h
  unfold wrap64; omega

theorem over1 (b q a d : Nat) (hb : 0 < b) (h : q / b < a) : q < a * b + d := by
  have := (Nat.div_lt_iff_lt_mul hb).1 h
  omega
theorem le1 (b q a : Nat) (hb : 0 < b) (h : a ≤ q / b) : a * b ≤ q := (Nat.le_div_iff_mul_le hb).1 h

set_option maxHeartbeats 800000 in
theorem read_any (g b : Nat) (hb : 2 ≤ b) (hb' : b ≤ 16) (eg : ∀ args w, (callFunc g args).run Tryd.prog w = .ok (.enter g args) w)
    (hg : ∀ n w, 0 ≤ n → n ≤ 255 → Calls Tryd.prog g #[.int .u8 n] w fun e w' => e = .returned (.bool (decide (0 ≤ Nu.wor b n))) ∧ w = w')
    (most : Int) (h0 : -9223372036854775808 ≤ most) (h1 : most < 9223372036854775808) (s : ByteArray) (w : World) (hs : s.size ≤ 90000) :
    Calls Tryd.prog 72 #[.string s, .int .i64 b, .func (.func g) #[] #[], .int .i64 most] w fun e w' => e = .returned (.tuple #[.int .i64 (Nu.rd b most s.data.toList).1, .int .i64 (Nu.rd b most s.data.toList).2]) ∧ Below w.heap.size w w' := by
  cases hne : s.toList.isEmpty with
  | true =>
    have hR := Lib.hid (Nu.rd_no b most s (Or.inl hne))
    clear h0 h1
    go_enter Tryd.func72, Tryd.ntmps72
    go_wp2_with fail
    go_ret2
    rw [hR.out]
    exact ⟨rfl, Below.refl _ _⟩
  | false =>
    have hfl : (asks (fun _ c => Nu.isD b c) [] (flat [s])).1 = s.data.toList.all (Nu.isD b) := by rw [asks_pure]; unfold flat; simp
    have hA := All_any g #[] #[] (fun _ c => Nu.isD b c) (fun _ W => W = (w.alloc (.cells #[.string s] 9)).alloc (.cells #[.bool false] 4)) ⟨w.heap.size, 0, none⟩ 1 1 [s] rfl (by omega) (by simpa using (by omega : s.size ≤ 100000)) (w.alloc (.cells #[.string s] 9)) eg rfl
      (by
        rintro pre W rfl
        refine ⟨by simp [go_sem], by simp [go_sem], fun i hi => ?_⟩
        obtain rfl : i = 0 := by omega
        exact alloc2_cell _ _ _ _ _)
      (by
        rintro pre c r W - - rfl
        have := B.toNat_le c
        refine (hg (c.toNat : Int) _ (by omega) (by omega)).mono ?_
        rintro e w' ⟨rfl, rfl⟩
        exact ⟨rfl, rfl⟩)
    rw [hfl] at hA
    have HA := Lib.hid hA
    clear hA hfl hg
    cases hall : s.data.toList.all (Nu.isD b) with
    | false =>
      have hR := Lib.hid (Nu.rd_no b most s (Or.inr hall))
      rw [hall] at HA
      clear h0 h1 hall
      go_enter Tryd.func72, Tryd.ntmps72
      go_wp2_with fail
      refine HA.out.mono ?_
      rintro e w' ⟨W, rfl, rfl, rfl⟩
      go_wp2_with fail
      go_ret2
      rw [hR.out]
      exact ⟨rfl, (by repeat (first | with_reducible exact Below.refl _ _ | with_reducible assumption | (with_reducible refine Below.setCell ?_ ?_ _; rotate_left; · (simp <;> omega)) | (with_reducible refine Below.alloc ?_ ?_ _; rotate_left; · (simp <;> omega)) | with_reducible refine Below.drew ?_))⟩
    | true =>
      rw [hall] at HA
      have hAt : Hid (∀ k (h : k < s.size), Nu.isD b s[k] = true) := fun k h => List.all_eq_true.1 hall _ (by
        have : s[k] = s.data.toList[k]'(by rw [Array.length_toList]; exact h) := by rfl
        rw [this]; exact List.getElem_mem _)
      have hpos : 0 < s.size := by
        rcases Nat.eq_zero_or_pos s.size with h | h
        · obtain rfl : s = ByteArray.empty := by simpa using h
          simp [ByteArray.toList_eq] at hne
        · exact h
      have hOver := Lib.hid (fun k => Nu.rd_over b (by omega) most s k hne hall)
      have hR := Nu.rd_yes b most s hne hall
      by_cases hm : most < 0
      · have HR : Hid (Nu.rd b most s.data.toList = (0, 7)) := by show _ = _; rw [hR, if_pos (by omega)]
        have hst := Lib.hid (fun d (hd : d < b) => Nu.neg_stop b d hb hb' hd most h0 hm)
        clear h0 h1 hall hR hOver
        go_enter Tryd.func72, Tryd.ntmps72
        go_wp2_with fail
        refine HA.out.mono ?_
        rintro e w' ⟨W, rfl, rfl, rfl⟩
        go_wp2_with fail
        go_loop [10, 24] (fun a i => a = .int .i64 0 ∧ i = .int .i64 0) (fun _ i => s.size - (intOf i).toNat)
        case atStart => exact ⟨rfl, rfl⟩
        case round =>
          obtain ⟨rfl, rfl⟩ := hrel
          obtain ⟨-, hx, hd⟩ := Nu.dv_of b s[0] (hAt.out 0 hpos)
          have hby := B.toNat_le s[0]
          have HX := Lib.hid hx
          have hs2 := hst.out _ hd
          clear hx hd
          generalize Nu.dv s[0] = d at *
          go_wp2_with fail
          refine (digit_any _ _ (by omega) (by omega) (by rw [HX.out]; omega)).mono ?_
          rintro e w' ⟨rfl, rfl⟩
          rw [HX.out]
          go_wp2_with fail
          all_goals
            go_ret2
            rw [HR.out]
            exact ⟨rfl, (by repeat (first | with_reducible exact Below.refl _ _ | with_reducible assumption | (with_reducible refine Below.setCell ?_ ?_ _; rotate_left; · (simp <;> omega)) | (with_reducible refine Below.alloc ?_ ?_ _; rotate_left; · (simp <;> omega)) | with_reducible refine Below.drew ?_))⟩
      · obtain ⟨q, rfl⟩ := Int.eq_ofNat_of_zero_le (by omega : 0 ≤ most)
        have hq : SmallN q := by unfold SmallN; omega
        have HR : Hid (Nu.val b s.data.toList ≤ q → Nu.rd b (q : Int) s.data.toList = ((Nu.val b s.data.toList : Int), 0)) := fun h => by rw [hR, if_neg (by omega)]
        have e1 := Lib.hid (div_wrap q b hq)
        clear h0 h1 hall hR
        go_enter Tryd.func72, Tryd.ntmps72
        go_wp2_with fail
        refine HA.out.mono ?_
        rintro e w' ⟨W, rfl, rfl, rfl⟩
        go_wp2_with fail
        go_loop [10, 24] (fun a i => ∃ k : Nat, k ≤ s.size ∧ i = .int .i64 k ∧ a = .int .i64 (Nu.val b (s.data.toList.take k) : Nat) ∧ Nu.val b (s.data.toList.take k) ≤ q) (fun _ i => s.size - (intOf i).toNat)
        case atStart => exact ⟨0, Nat.zero_le _, rfl, rfl, Nat.zero_le _⟩
        case round =>
          obtain ⟨k, hk, rfl, rfl, hle⟩ := hrel
          by_cases hlt : k < s.size
          · have hV := Nu.val_take b s k hlt
            obtain ⟨-, hx, hd⟩ := Nu.dv_of b s[k] (hAt.out k hlt)
            have hby := B.toNat_le s[k]
            have HX := Lib.hid hx
            have hov := hOver.out (k + 1)
            generalize Nu.val b (s.data.toList.take k) = a at *
            have HV := Lib.hid hV
            have HO : Hid (q < a * b + Nu.dv s[k] → Nu.rd b (q : Int) s.data.toList = (0, 7)) := fun h => hov (by rw [hV]; omega)
            clear hx hV hov
            generalize Nu.dv s[k] = d at *
            have hsw := Lib.hid (sub_wrap q d hq (by omega))
            go_wp2_with fail
            refine (digit_any _ _ (by omega) (by omega) (by rw [HX.out]; omega)).mono ?_
            rintro e w' ⟨rfl, rfl⟩
            rw [HX.out]
            go_wp2_with fail
            · rename_i h
              rw [e1.out] at h
              have hR := Lib.hid (HO.out (over1 b q a d (by omega) (by omega)))
              go_ret2
              rw [hR.out]
              exact ⟨rfl, (by repeat (first | with_reducible exact Below.refl _ _ | with_reducible assumption | (with_reducible refine Below.setCell ?_ ?_ _; rotate_left; · (simp <;> omega)) | (with_reducible refine Below.alloc ?_ ?_ _; rotate_left; · (simp <;> omega)) | with_reducible refine Below.drew ?_))⟩
            · rename_i h2 h
              rw [e1.out] at h
              have h3 := le1 b q a (by omega) (by omega)
              rw [hsw.out, mul_wrap a b (by unfold SmallN at *; omega)] at h2
              have hR := Lib.hid (HO.out (by omega))
              go_ret2
              rw [hR.out]
              exact ⟨rfl, (by repeat (first | with_reducible exact Below.refl _ _ | with_reducible assumption | (with_reducible refine Below.setCell ?_ ?_ _; rotate_left; · (simp <;> omega)) | (with_reducible refine Below.alloc ?_ ?_ _; rotate_left; · (simp <;> omega)) | with_reducible refine Below.drew ?_))⟩
            · rename_i h h2
              rw [e1.out] at h
              have h3 := le1 b q a (by omega) (by omega)
              rw [hsw.out, mul_wrap a b (by unfold SmallN at *; omega)] at h2
              have h4 : a * b + d ≤ q := by omega
              refine ⟨⟨k + 1, by omega, by go_num, ?_, ?_⟩, ?_⟩
              · rw [HV.out, wrap_step a b d (by unfold SmallN at *; omega)]
              · rw [HV.out]; exact h4
              · simp [intOf]; omega
          · obtain rfl : k = s.size := by omega
            rw [Nu.take_all] at *
            have HR' := Lib.hid (HR.out hle)
            go_wp2_with fail
            go_ret2
            rw [HR'.out]
            exact ⟨rfl, (by repeat (first | with_reducible exact Below.refl _ _ | with_reducible assumption | (with_reducible refine Below.setCell ?_ ?_ _; rotate_left; · (simp <;> omega)) | (with_reducible refine Below.alloc ?_ ?_ _; rotate_left; · (simp <;> omega)) | with_reducible refine Below.drew ?_))⟩

theorem enters_IsDigit (args : Array Value) (w : World) : (callFunc 73 args).run Tryd.prog w = .ok (.enter 73 args) w := by
  exact enters_of Tryd.func73 (by kernel_rfl) rfl args w
theorem Decimal_any (most : Int) (h0 : -9223372036854775808 ≤ most) (h1 : most < 9223372036854775808) (s : ByteArray) (w : World) (hs : s.size ≤ 90000) :
    Calls Tryd.prog 50 #[.string s, .int .i64 most] w fun e w' => e = .returned (.tuple #[.int .i64 (Nu.rd 10 most s.data.toList).1, .int .i64 (Nu.rd 10 most s.data.toList).2]) ∧ Below w.heap.size w w' := by
  have h := read_any 73 10 (by omega) (by omega) enters_IsDigit (fun n w h0 h1 => by
    refine (IsDigit_any n w).mono ?_
    rintro e w' ⟨rfl, rfl⟩
    exact ⟨ret_bool (Nu.hexv_dig n h0 h1), rfl⟩) most h0 h1 s w hs
  rw [show ((10 : Nat) : Int) = 10 from rfl] at h
  have H := Lib.hid h
  clear h h0 h1
  go_enter Tryd.func50, Tryd.ntmps50
  go_wp2_with fail
  refine H.out.mono ?_
  rintro e w' ⟨rfl, hb⟩
  go_wp2_with fail
  go_ret2
  exact ⟨rfl, hb⟩

theorem enters_IsHex (args : Array Value) (w : World) : (callFunc 71 args).run Tryd.prog w = .ok (.enter 71 args) w := by
  exact enters_of Tryd.func71 (by kernel_rfl) rfl args w
end Go.Proofs.YtnpbnlphmngbdaaDoor
