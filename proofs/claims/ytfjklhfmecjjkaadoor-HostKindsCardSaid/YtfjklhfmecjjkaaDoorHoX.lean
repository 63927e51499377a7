/- The document's Under: its contract. -/
import Derived.Test.YtfjklhfmecjjkaaDoorHoN
import Derived.Test.YtfjklhfmecjjkaaDoorHoS
import Derived.Test.YtfjklhfmecjjkaaDoorOctC
namespace Go.Proofs.YtfjklhfmecjjkaaDoor
open Go.RowKit

namespace Hp
theorem below_eq {A C : List UInt8} (h : A.length = C.length) : belowN A C = decide (A = C) := by
  rw [Bool.eq_iff_iff, below_iff, decide_eq_true_eq]
  constructor
  · rintro (e | ⟨t, e⟩)
    · exact e
    · have := congrArg List.length e
      simp at this
      omega
  · exact .inl
theorem below_lt {A C : List UInt8} (h : A.length < C.length) : belowN A C = false := by
  cases e : belowN A C
  · rfl
  · rcases (below_iff A C).1 e with e | ⟨t, e⟩
    · rw [e] at h; omega
    · have := congrArg List.length e
      simp at this
      omega
theorem below_gt {A C : List UInt8} {m : Nat} (h : A.length = C.length + (m + 1)) : belowN A C = (decide (A.drop (m + 1) = C) && decide (A.getD m 0 = 46)) := by
  rw [Bool.eq_iff_iff, below_iff, Bool.and_eq_true, decide_eq_true_eq, decide_eq_true_eq]
  constructor
  · rintro (e | ⟨t, e⟩)
    · rw [e] at h; omega
    · have hl := congrArg List.length e
      simp at hl
      have ht : t.length = m := by omega
      subst ht
      refine ⟨?_, by rw [e]; simp⟩
      have e2 : t ++ 46 :: C = (t ++ [46]) ++ C := by simp
      rw [e, e2, List.drop_left' (by simp)]
  · rintro ⟨h1, h2⟩
    right
    refine ⟨A.take m, ?_⟩
    have hm : m < A.length := by omega
    conv => lhs; rw [← List.take_append_drop m A, List.drop_eq_getElem_cons hm, h1]
    rw [List.getD_eq_getElem?_getD, List.getElem?_eq_getElem hm, Option.getD_some] at h2
    rw [h2]
theorem foldS_list (a : ByteArray) : (B.foldS a).data.toList = B.fold a.data.toList := ofL_list _
theorem foldS_size (a : ByteArray) : (B.foldS a).size = a.size := by
  have h := congrArg List.length (foldS_list a)
  rw [B.fold_length] at h
  simpa using h
theorem getD_byte (A : ByteArray) (m : Nat) (h : m < A.size) : A.data.toList.getD m 0 = A[m] := by
  have h' : m < A.data.toList.length := by simpa using h
  rw [List.getD_eq_getElem?_getD, List.getElem?_eq_getElem h', Option.getD_some]; rfl
end Hp
set_option maxHeartbeats 1600000 in
theorem RHUnder_any (a b : ByteArray) (w : World) (ha : a.size ≤ 300) (hb : b.size ≤ 300) :
    Calls Tryd.prog 14 #[.string a, .string b] w fun e w' => e = .returned (.bool (Hp.und a.data.toList b.data.toList)) ∧ Below w.heap.size w w' := by
  have hu : Hp.und a.data.toList b.data.toList = ((Hp.nameL a.data.toList && !Hp.fourL a.data.toList) && (Hp.nameL b.data.toList && !Hp.fourL b.data.toList) && Hp.belowN (B.foldS a).data.toList (B.foldS b).data.toList) := by
    unfold Hp.und
    rw [Hp.isN_eq, Hp.isN_eq, Hp.foldS_list, Hp.foldS_list]
  rw [hu]
  clear hu
  have HA := Lib.hid (fun w1 => RHName_any a w1 (by omega))
  have HC := Lib.hid (fun w1 => RHName_any b w1 (by omega))
  have H4 := Lib.hid (fun w1 => RFour_any a w1 (by omega))
  have H5 := Lib.hid (fun w1 => RFour_any b w1 (by omega))
  have HF := Lib.hid (fun w1 => RFold_any a w1 (by omega))
  have HG := Lib.hid (fun w1 => RFold_any b w1 (by omega))
  have hs1 := Hp.foldS_size a
  have hs2 := Hp.foldS_size b
  generalize B.foldS a = A at *
  generalize B.foldS b = C at *
  generalize Hp.nameL a.data.toList = na at *
  generalize Hp.nameL b.data.toList = nb at *
  generalize Hp.fourL a.data.toList = fa at *
  generalize Hp.fourL b.data.toList = fb at *
  have hAz : A.size ≤ 300 := by omega
  have hCz : C.size ≤ 300 := by omega
  have hAl : A.data.toList.length = A.size := by simp
  have hCl : C.data.toList.length = C.size := by simp
  obtain ⟨r, hr⟩ : ∃ r, Hp.belowN A.data.toList C.data.toList = r := ⟨_, rfl⟩
  rw [hr]
  have HR := Lib.hid hr
  clear hs1 hs2 hr
  go_enter Tryd.func14, Tryd.ntmps14
  go_wp2_with fail
  refine (HA.out _).mono ?_
  rintro e w1 ⟨rfl, rfl⟩
  cases na
  · go_wp2_with fail
    go_ret
    exact ⟨rfl, Below.refl _ _⟩
  go_wp2_with fail
  refine (HC.out _).mono ?_
  rintro e w2 ⟨rfl, rfl⟩
  cases nb
  · go_wp2_with fail
    go_ret
    exact ⟨by cases fa <;> rfl, Below.refl _ _⟩
  go_wp2_with fail
  refine (H4.out _).mono ?_
  rintro e w3 ⟨rfl, hb3⟩
  have HB3 := Lib.hid hb3
  clear hb3
  cases fa
  case true =>
    go_wp2_with fail
    go_ret
    exact ⟨rfl, HB3.out⟩
  go_wp2_with fail
  refine (H5.out _).mono ?_
  rintro e w4 ⟨rfl, hb4⟩
  have HB4 := Lib.hid (HB3.out.trans (hb4.mono HB3.out.size))
  clear hb4
  cases fb
  case true =>
    go_wp2_with fail
    go_ret
    exact ⟨rfl, HB4.out⟩
  go_wp2_with fail
  refine (HF.out _).mono ?_
  rintro e w5 ⟨rfl, m5, rfl⟩
  go_wp2_with fail
  refine (HG.out _).mono ?_
  rintro e w6 ⟨rfl, m6, rfl⟩
  have HB6 := Lib.hid (HB4.out.trans (below_drewN _ _ (m5 + m6)))
  clear HB3 HB4
  rcases Nat.lt_trichotomy A.size C.size with h | h | h
  · have hr : r = false := by rw [← HR.out, Hp.below_lt (by omega)]
    subst hr
    have n1 : ((A.size : Int) - (C.size : Int) == 0) = false := by rw [beq_eq_false_iff_ne]; omega
    have n2 : ¬ (0 : Int) < (A.size : Int) - (C.size : Int) := by omega
    go_wp2_with fail
    go_ret
    exact ⟨rfl, HB6.out⟩
  · have hr : r = (A.toList == C.toList) := by
      rw [← HR.out, Hp.below_eq (by omega), ByteArray.toList_eq, ByteArray.toList_eq, Bool.eq_iff_iff]; simp
    have HRV := Lib.hid hr
    clear HR hr
    have n1 : ((A.size : Int) - (C.size : Int) == 0) = true := by rw [beq_iff_eq]; omega
    have n2 : ¬ (0 : Int) < (A.size : Int) - (C.size : Int) := by omega
    cases hq : (A.toList == C.toList)
    · rw [hq] at HRV
      go_wp2_with fail
      go_ret
      exact ⟨ret_bool (by rw [HRV.out]; rfl), HB6.out⟩
    · rw [hq] at HRV
      go_wp2_with fail
      go_ret
      exact ⟨ret_bool (by rw [HRV.out]; rfl), HB6.out⟩
  · obtain ⟨m, hm⟩ : ∃ m : Nat, A.size = C.size + (m + 1) := ⟨A.size - C.size - 1, by omega⟩
    have hml : m < A.size := by omega
    obtain ⟨X, hX⟩ : ∃ X, A.extract (m + 1) A.size = X := ⟨_, rfl⟩
    have he : decide (A.data.toList.drop (m + 1) = C.data.toList) = (X.toList == C.toList) := by
      rw [ByteArray.toList_eq, ByteArray.toList_eq, ← hX, Hp.ext_end, Bool.eq_iff_iff]; simp
    have he2 : decide (A[m] = 46) = decide ((A[m].toNat : Int) = 46) := by
      rw [decide_eq_decide]
      constructor
      · intro e; rw [e]; rfl
      · intro e; exact UInt8.toNat_inj.1 (by show A[m].toNat = 46; omega)
    have hr : r = (X.toList == C.toList && decide ((A[m].toNat : Int) = 46)) := by rw [← HR.out, Hp.below_gt (m := m) (by omega), Hp.getD_byte A m hml, he, he2]
    have HRV := Lib.hid hr
    clear he he2 hr HR
    have hd : (A.size : Int) - (C.size : Int) = (m : Int) + 1 := by omega
    have n1 : ((m : Int) + 1 == 0) = false := by rw [beq_eq_false_iff_ne]; omega
    have n2 : (0 : Int) < (m : Int) + 1 := by omega
    clear hm h hAl hCl
    by_cases h46 : (A[m].toNat : Int) = 46
    · rw [decide_eq_true h46] at HRV
      cases hq : (X.toList == C.toList)
      all_goals
        rw [hq] at HRV
        go_wp2_with fail
        go_ret
        exact ⟨ret_bool (by rw [HRV.out]; rfl), HB6.out⟩
    · rw [decide_eq_false h46] at HRV
      cases hq : (X.toList == C.toList)
      all_goals
        rw [hq] at HRV
        go_wp2_with fail
        go_ret
        exact ⟨ret_bool (by rw [HRV.out]; first | rfl | simp [h46]), HB6.out⟩
end Go.Proofs.YtfjklhfmecjjkaaDoor
