/- Contracts and lemmas that the claim rests on: PqC. -/
import Derived.Test.YtnpbnlphmngbdaaGreatDoorGPqB
import Derived.Test.YtnpbnlphmngbdaaGreatDoorGSegA
/- pathq: beginsEscape, isOf, Path, Query, Cut, Join: contracts. -/
namespace Go.Proofs.YtnpbnlphmngbdaaGreatDoor
open Go.RowKit

namespace Pq
theorem esc_size {s : ByteArray} (h : ¬ 2 < s.size) : escL s.data.toList = false := by
  have hl : s.data.toList.length = s.size := by simp
  generalize s.data.toList = l at *
  match l, hl with
  | [], _ => rfl
  | [a], _ => rfl
  | [a, b], _ => rfl
  | a :: b :: c :: t, hl => simp only [List.length_cons] at hl; omega
theorem esc_at {s : ByteArray} (h : 2 < s.size) : escL s.data.toList = (decide (s[0].toNat = 37) && (s.extract 1 3).data.toList.all Hp.hx) := by
  have e : s.data.toList = s[0] :: s[1] :: s[2] :: s.data.toList.drop 3 := by
    conv => lhs; rw [← List.drop_zero (l := s.data.toList), List.drop_eq_getElem_cons (by simp; omega), List.drop_eq_getElem_cons (by simp; omega), List.drop_eq_getElem_cons (by simp; omega)]
    rfl
  have e2 : (s.extract 1 3).data.toList = [s[1], s[2]] := by
    rw [Hp.ext_list, e]; rfl
  rw [e2, e]
  show (decide (s[0] = 37) && Hp.hx s[1] && Hp.hx s[2]) = _
  have e3 : decide (s[0] = 37) = decide (s[0].toNat = 37) := by
    rw [decide_eq_decide, ← UInt8.toNat_inj]; rfl
  rw [e3]
  simp [Bool.and_assoc]
theorem esc_first {s : ByteArray} (h : 0 < s.size) (h2 : ¬ s[0].toNat = 37) : escL s.data.toList = false := by
  have e : s.data.toList = s[0] :: s.data.toList.drop 1 := by
    conv => lhs; rw [← List.drop_zero (l := s.data.toList), List.drop_eq_getElem_cons (by simp; omega)]
    rfl
  rw [e]
  exact esc_no _ fun e => h2 (by rw [e]; rfl)
end Pq
set_option maxHeartbeats 800000 in
theorem esc_any (s : ByteArray) (w : World) (h0 : 0 < s.size) (hs : s.size ≤ 1000) :
    Calls Tryz.prog 98 #[.string s] w fun e w' => e = .returned (.bool (Pq.escL s.data.toList)) ∧ Below w.heap.size w w' := by
  by_cases h1 : s[0].toNat = 37
  · by_cases h2 : 2 < s.size
    · have he := Pq.esc_at h2
      rw [decide_eq_true h1, Bool.true_and] at he
      rw [he]
      have HA := Lib.hid (AllHex_any (s.extract 1 3) w (by simp [ByteArray.size_extract]; omega))
      obtain ⟨t, ht⟩ : ∃ t, s.extract 1 3 = t := ⟨_, rfl⟩
      rw [ht] at HA ⊢
      generalize t.data.toList.all Hp.hx = r at *
      have h3 : (2 : Int) < s.size := by omega
      have hb : ((s[0].toNat : Int) == 37) = true := by rw [h1]; rfl
      clear he
      go_enter Tryz.func98, Tryz.ntmps98
      go_wp2_with (go_at_call 116; refine HA.out.mono ?_; rintro e w1 ⟨rfl, hb1⟩)
      all_goals
        go_ret
        exact ⟨rfl, by assumption⟩
    · rw [Pq.esc_size h2]
      have hb : ((s[0].toNat : Int) == 37) = true := by rw [h1]; rfl
      have h3 : ¬ (2 : Int) < s.size := by omega
      go_enter Tryz.func98, Tryz.ntmps98
      go_wp2_with fail
      go_ret
      exact ⟨rfl, Below.refl _ _⟩
  · rw [Pq.esc_first h0 h1]
    have hb : ((s[0].toNat : Int) == 37) = false := by
      rw [beq_eq_false_iff_ne]; omega
    go_enter Tryz.func98, Tryz.ntmps98
    go_wp2_with fail
    go_ret
    exact ⟨rfl, Below.refl _ _⟩
namespace Pq
theorem drop_atQ (s : ByteArray) (k : Nat) (h : k < s.size) : s.data.toList.drop k = s[k] :: s.data.toList.drop (k + 1) := by
  rw [List.drop_eq_getElem_cons (by simpa using h)]; rfl
theorem all_at (m : List UInt8) (s : ByteArray) (k : Nat) (h : k < s.size) : allC m (s.data.toList.drop k) = ((pb s[k] || m.contains s[k] || escL ((s.extract k s.size).data.toList)) && allC m (s.data.toList.drop (k + 1))) := by
  rw [Hp.ext_end]
  conv => lhs; rw [drop_atQ s k h]
  rw [allC, ← drop_atQ s k h]
end Pq
set_option maxHeartbeats 1600000 in
theorem isOf_any (s m : ByteArray) (w : World) (hs : s.size ≤ 1000) :
    Calls Tryz.prog 78 #[.string s, .string m] w fun e w' => e = .returned (.bool (Pq.allC m.data.toList s.data.toList)) ∧ Below w.heap.size w w' := by
  obtain ⟨N, hN⟩ : ∃ N, Pq.allC m.data.toList s.data.toList = N := ⟨_, rfl⟩
  rw [hN]
  go_enter Tryz.func78, Tryz.ntmps78
  go_wp2_with fail
  go_loopw [8] (fun i wr => ∃ k : Nat, k ≤ s.size ∧ i = .int .i64 k ∧ Pq.allC m.data.toList (s.data.toList.drop k) = N ∧ Below w.heap.size w wr) (fun i _ => s.size - (intOf i).toNat)
  case atStart => exact ⟨0, Nat.zero_le _, rfl, hN, Below.refl _ _⟩
  case round =>
    clear hN
    obtain ⟨k, hk, rfl, hno, hb⟩ := hrel
    have HB := Lib.hid hb
    clear hb
    by_cases hlt : k < s.size
    · rw [Pq.all_at _ s k hlt] at hno
      have HP := Lib.hid (fun w1 => IsPath_any (s[k].toNat : Int) w1)
      have HC := Lib.hid (fun w1 => Contains_any m s[k] w1)
      have HE := Lib.hid (fun w1 => esc_any (s.extract k s.size) w1 (by simp [ByteArray.size_extract]; omega) (by simp [ByteArray.size_extract]; omega))
      have e1 : s.extract k (k + 1) = ⟨#[s[k]]⟩ := B.extract_one s k hlt
      obtain ⟨t, ht⟩ : ∃ t, s.extract k s.size = t := ⟨_, rfl⟩
      rw [ht] at HE hno
      change (((B.pat (s[k].toNat : Int)) || m.data.toList.contains s[k] || Pq.escL t.data.toList) && _) = N at hno
      generalize B.pat (s[k].toNat : Int) = b1 at *
      generalize m.data.toList.contains s[k] = b2 at *
      generalize Pq.escL t.data.toList = b3 at *
      have HN := Lib.hid hno
      clear hno
      cases b1
      · cases b2
        · cases b3
          · go_wp2_with (first | (go_at_call 96; refine (HP.out _).mono ?_; rintro e w1 ⟨rfl, rfl⟩) | (go_at_call 97; refine (HC.out _).mono ?_; rintro e w2 ⟨rfl, hw2⟩; subst hw2) | (go_at_call 98; refine (HE.out _).mono ?_; rintro e w3 ⟨rfl, hb3⟩; have HB3 := Lib.hid (HB.out.trans (hb3.mono HB.out.size)); clear hb3))
            go_ret
            exact ⟨ret_bool (by simpa using HN.out.symm), HB3.out⟩
          · go_wp2_with (first | (go_at_call 96; refine (HP.out _).mono ?_; rintro e w1 ⟨rfl, rfl⟩) | (go_at_call 97; refine (HC.out _).mono ?_; rintro e w2 ⟨rfl, hw2⟩; subst hw2) | (go_at_call 98; refine (HE.out _).mono ?_; rintro e w3 ⟨rfl, hb3⟩; have HB3 := Lib.hid (HB.out.trans (hb3.mono HB.out.size)); clear hb3))
            go_roundw
            case rel => exact ⟨k + 1, by omega, by go_num, by simpa using HN.out, HB3.out⟩
            case measure => simp [intOf]; omega
        · go_wp2_with (first | (go_at_call 96; refine (HP.out _).mono ?_; rintro e w1 ⟨rfl, rfl⟩) | (go_at_call 97; refine (HC.out _).mono ?_; rintro e w2 ⟨rfl, hw2⟩; subst hw2) | (go_at_call 98; refine (HE.out _).mono ?_; rintro e w3 ⟨rfl, hb3⟩; have HB3 := Lib.hid (HB.out.trans (hb3.mono HB.out.size)); clear hb3))
          go_roundw
          case rel => exact ⟨k + 1, by omega, by go_num, by simpa using HN.out, HB.out⟩
          case measure => simp [intOf]; omega
      · go_wp2_with (first | (go_at_call 96; refine (HP.out _).mono ?_; rintro e w1 ⟨rfl, rfl⟩) | (go_at_call 97; refine (HC.out _).mono ?_; rintro e w2 ⟨rfl, hw2⟩; subst hw2) | (go_at_call 98; refine (HE.out _).mono ?_; rintro e w3 ⟨rfl, hb3⟩; have HB3 := Lib.hid (HB.out.trans (hb3.mono HB.out.size)); clear hb3))
        go_roundw
        case rel => exact ⟨k + 1, by omega, by go_num, by simpa using HN.out, HB.out⟩
        case measure => simp [intOf]; omega
    · obtain rfl : k = s.size := by omega
      have HN := Lib.hid hno
      clear hno
      go_wp2_with fail
      go_ret
      exact ⟨ret_bool (by rw [← HN.out, List.drop_of_length_le (by simp)]; rfl), HB.out⟩
theorem PPath_any (s : ByteArray) (w : World) (hs : s.size ≤ 1000) :
    Calls Tryz.prog 55 #[.string s] w fun e w' => e = .returned (.bool (Pq.pathL s.data.toList)) ∧ Below w.heap.size w w' := by
  have HH := Lib.hid (HasPrefix_any s ⟨#[47]⟩ w)
  have HO := Lib.hid (isOf_any s ⟨#[47]⟩ w hs)
  rw [show (⟨#[47]⟩ : ByteArray).data.toList = [47] from rfl] at HH HO
  rw [Pq.allC_eq (by decide) _ _ (Nat.le_refl _)] at HO
  unfold Pq.pathL
  generalize Lib.hasPrefix s.data.toList [47] = b1 at *
  generalize Pq.pcL [47] s.data.toList = b2 at *
  go_enter Tryz.func55, Tryz.ntmps55
  cases b1
  · go_wp2_with (go_at_call 24; refine HH.out.mono ?_; rintro e w1 ⟨rfl, rfl⟩)
    go_ret
    exact ⟨rfl, Below.refl _ _⟩
  · go_wp2_with (first | (go_at_call 24; refine HH.out.mono ?_; rintro e w1 ⟨rfl, hw1⟩; subst hw1) | (go_at_call 78; refine HO.out.mono ?_; rintro e w2 ⟨rfl, hb2⟩))
    go_ret
    exact ⟨ret_bool (by simp), hb2⟩
theorem PQuery_any (s : ByteArray) (w : World) (hs : s.size ≤ 1000) :
    Calls Tryz.prog 56 #[.string s] w fun e w' => e = .returned (.bool (Pq.queryL s.data.toList)) ∧ Below w.heap.size w w' := by
  have HO := Lib.hid (isOf_any s ⟨#[47, 63]⟩ w hs)
  rw [show (⟨#[47, 63]⟩ : ByteArray).data.toList = [47, 63] from rfl] at HO
  rw [Pq.allC_eq (by decide) _ _ (Nat.le_refl _)] at HO
  unfold Pq.queryL
  generalize Pq.pcL [47, 63] s.data.toList = b2 at *
  go_enter Tryz.func56, Tryz.ntmps56
  go_wp2_with (go_at_call 78; refine HO.out.mono ?_; rintro e w2 ⟨rfl, hb2⟩)
  go_ret
  exact ⟨rfl, hb2⟩
/-- What Cut answers, as a value. -/
def cutV (l : List UInt8) : Value := .tuple #[.string ⟨(Pq.cutL l).1.toArray⟩, .string ⟨(Pq.cutL l).2.1.toArray⟩, .bool (Pq.cutL l).2.2.1, .int .i64 (Pq.cutL l).2.2.2]
set_option maxHeartbeats 1600000 in
theorem PCut_any (s : ByteArray) (w : World) (hs : s.size ≤ 1000) (hm : MaxL w) :
    Calls Tryz.prog 37 #[.string s] w fun e w' => e = .returned (cutV s.data.toList) ∧ Below w.heap.size w w' := by
  have hl : s.data.toList.length = s.size := by simp
  have HC := Lib.hid (Cut63_any s w (by omega) hm)
  have hsz : (s.data.toList.take (Pq.markN s.data.toList)).length ≤ 1000 ∧ (s.data.toList.drop (Pq.markN s.data.toList + 1)).length ≤ 1000 := by
    rw [List.length_take, List.length_drop]; omega
  unfold cutV Pq.cutL
  generalize decide (Pq.markN s.data.toList < s.data.toList.length) = b at *
  generalize s.data.toList.take (Pq.markN s.data.toList) = p at *
  generalize s.data.toList.drop (Pq.markN s.data.toList + 1) = q at *
  have HP := Lib.hid (fun w1 => PPath_any ⟨p.toArray⟩ w1 (by show p.toArray.size ≤ 1000; simpa using hsz.1))
  have HQ := Lib.hid (fun w1 => PQuery_any ⟨q.toArray⟩ w1 (by show q.toArray.size ≤ 1000; simpa using hsz.2))
  rw [show (⟨p.toArray⟩ : ByteArray).data.toList = p by simp] at HP
  rw [show (⟨q.toArray⟩ : ByteArray).data.toList = q by simp] at HQ
  generalize Pq.pathL p = b1 at *
  generalize Pq.queryL q = b2 at *
  obtain ⟨P, hP⟩ : ∃ P, (⟨p.toArray⟩ : ByteArray) = P := ⟨_, rfl⟩
  obtain ⟨Q, hQ⟩ : ∃ Q, (⟨q.toArray⟩ : ByteArray) = Q := ⟨_, rfl⟩
  rw [hP] at HC HP
  rw [hQ] at HC HQ
  clear hl hsz hm
  go_enter Tryz.func37, Tryz.ntmps37
  cases b1
  · have HR : Hid (Ending.returned (.tuple #[.string ⟨(if (false && b2) = true then (p, q, b, (0 : Int)) else ([], [], false, 2)).1.toArray⟩, .string ⟨(if (false && b2) = true then (p, q, b, (0 : Int)) else ([], [], false, 2)).2.1.toArray⟩, .bool (if (false && b2) = true then (p, q, b, (0 : Int)) else ([], [], false, 2)).2.2.1, .int .i64 (if (false && b2) = true then (p, q, b, (0 : Int)) else ([], [], false, 2)).2.2.2]) = Ending.returned (.tuple #[.string ⟨#[]⟩, .string ⟨#[]⟩, .bool false, .int .i64 2])) := by show _ = _; simp
    rw [HR.out]
    go_wp2_with (first | (go_at_call 38; refine HC.out.mono ?_; rintro e w1 ⟨rfl, n, rfl⟩) | (go_at_call 55; refine (HP.out _).mono ?_; rintro e w2 ⟨rfl, hb2⟩; have HB2 := Lib.hid ((below_drewN _ w n).trans hb2); clear hb2))
    refine bodyPost_ret (v := .tuple #[.string ⟨#[]⟩, .string ⟨#[]⟩, .bool false, .int .i64 2]) (by simp [results, Tryz.f37, go_sem]) rfl ?_
    exact ⟨rfl, HB2.out⟩
  · cases b2
    · have HR : Hid (Ending.returned (.tuple #[.string ⟨(if (true && false) = true then (p, q, b, (0 : Int)) else ([], [], false, 2)).1.toArray⟩, .string ⟨(if (true && false) = true then (p, q, b, (0 : Int)) else ([], [], false, 2)).2.1.toArray⟩, .bool (if (true && false) = true then (p, q, b, (0 : Int)) else ([], [], false, 2)).2.2.1, .int .i64 (if (true && false) = true then (p, q, b, (0 : Int)) else ([], [], false, 2)).2.2.2]) = Ending.returned (.tuple #[.string ⟨#[]⟩, .string ⟨#[]⟩, .bool false, .int .i64 2])) := by show _ = _; simp
      rw [HR.out]
      go_wp2_with (first | (go_at_call 38; refine HC.out.mono ?_; rintro e w1 ⟨rfl, n, rfl⟩) | (go_at_call 55; refine (HP.out _).mono ?_; rintro e w2 ⟨rfl, hb2⟩; have HB2 := Lib.hid ((below_drewN _ w n).trans hb2); clear hb2) | (go_at_call 56; refine (HQ.out _).mono ?_; rintro e w3 ⟨rfl, hb3⟩; have HB3 := Lib.hid (HB2.out.trans (hb3.mono HB2.out.size)); clear hb3))
      refine bodyPost_ret (v := .tuple #[.string ⟨#[]⟩, .string ⟨#[]⟩, .bool false, .int .i64 2]) (by simp [results, Tryz.f37, go_sem]) rfl ?_
      exact ⟨rfl, HB3.out⟩
    · have HR : Hid (Ending.returned (.tuple #[.string ⟨(if (true && true) = true then (p, q, b, (0 : Int)) else ([], [], false, 2)).1.toArray⟩, .string ⟨(if (true && true) = true then (p, q, b, (0 : Int)) else ([], [], false, 2)).2.1.toArray⟩, .bool (if (true && true) = true then (p, q, b, (0 : Int)) else ([], [], false, 2)).2.2.1, .int .i64 (if (true && true) = true then (p, q, b, (0 : Int)) else ([], [], false, 2)).2.2.2]) = Ending.returned (.tuple #[.string P, .string Q, .bool b, .int .i64 0])) := by show _ = _; simp [hP, hQ]
      rw [HR.out]
      go_wp2_with (first | (go_at_call 38; refine HC.out.mono ?_; rintro e w1 ⟨rfl, n, rfl⟩) | (go_at_call 55; refine (HP.out _).mono ?_; rintro e w2 ⟨rfl, hb2⟩; have HB2 := Lib.hid ((below_drewN _ w n).trans hb2); clear hb2) | (go_at_call 56; refine (HQ.out _).mono ?_; rintro e w3 ⟨rfl, hb3⟩; have HB3 := Lib.hid (HB2.out.trans (hb3.mono HB2.out.size)); clear hb3))
      refine bodyPost_ret (v := .tuple #[.string P, .string Q, .bool b, .int .i64 0]) (by simp [results, Tryz.f37, go_sem]) rfl ?_
      exact ⟨rfl, HB3.out⟩
theorem PJoin_any (p q : ByteArray) (b : Bool) (w : World) (hp : p.size ≤ 1000) (hq : q.size ≤ 1000) :
    Calls Tryz.prog 20 #[.string p, .string q, .bool b] w fun e w' => e = .returned (.string (if b then p ++ ⟨#[63]⟩ ++ q else p)) ∧ w' = w := by
  go_enter Tryz.func20, Tryz.ntmps20
  cases b
  · go_wp2_with fail
    go_ret
    exact ⟨rfl, rfl⟩
  · go_wp2_with fail
    go_ret
    exact ⟨rfl, rfl⟩
end Go.Proofs.YtnpbnlphmngbdaaGreatDoor
