/- The document's right: contract. -/
import Derived.Test.YtnnhlkbjdfgcaaaUrN
import Derived.Test.YtnnhlkbjdfgcaaaUrO
import Derived.Test.YtnnhlkbjdfgcaaaUrI
import Derived.Test.YtnnhlkbjdfgcaaaRegion
namespace Go.Proofs.Ytnnhlkbjdfgcaaa
open Go.RowKit
namespace Ur
theorem get_at (s : ByteArray) (k : Nat) (h : k < s.size) : s.data.toList[k]? = some s[k] := by
  rw [List.getElem?_eq_getElem (by simpa using h)]; rfl
theorem get_no (s : ByteArray) (k : Nat) (h : ¬ k < s.size) : s.data.toList[k]? = none := by
  rw [List.getElem?_eq_none (by simp; omega)]
theorem at47 (s : ByteArray) (k : Nat) (h : k < s.size) : decide (s.data.toList[k]? = some 47) = decide (s[k] = 47) := by
  rw [get_at s k h, decide_eq_decide, Option.some_inj]
theorem hasA_long {s : ByteArray} (h : 1 < s.size) : hasA s.data.toList = ((s.extract 0 2).toList == [47, 47]) := by
  have e : s.data.toList = s[0] :: s[1] :: s.data.toList.drop 2 := by
    conv => lhs; rw [← List.drop_zero (l := s.data.toList), List.drop_eq_getElem_cons (by simp; omega), List.drop_eq_getElem_cons (by simp; omega)]
    rfl
  have e2 : (s.extract 0 2).toList = [s[0], s[1]] := by
    rw [ByteArray.toList_eq, Hp.ext_start, e]; rfl
  rw [e2, e]
  show ((47 : UInt8) == s[0] && ((47 : UInt8) == s[1] && true)) = (s[0] == 47 && (s[1] == 47 && true))
  rw [Bool.eq_iff_iff]
  simp only [Bool.and_eq_true, beq_iff_eq, and_true]
  exact ⟨fun ⟨a, b⟩ => ⟨a.symm, b.symm⟩, fun ⟨a, b⟩ => ⟨a.symm, b.symm⟩⟩
theorem hasA_short {s : ByteArray} (h : ¬ 1 < s.size) : hasA s.data.toList = false := by
  have hl : s.data.toList.length = s.size := by simp
  generalize s.data.toList = l at *
  match l, hl with
  | [], _ => rfl
  | [x], _ =>
    show ((47 : UInt8) == x && false) = false
    rw [Bool.and_false]
  | x :: y :: t, hl => simp only [List.length_cons] at hl; omega
end Ur
set_option maxHeartbeats 1600000 in
theorem RRight_any (A B C D E : ByteArray) (x y z : Bool) (w : World) (h1 : B.size ≤ 1000) (h2 : C.size ≤ 1000) (h3 : D.size ≤ 1000) (h4 : E.size ≤ 1000) :
    Calls Try.prog 22 #[rF A B C D E x y z] w fun e w' => e = .returned (.bool (Ur.rightR ⟨A.data.toList, B.data.toList, C.data.toList, D.data.toList, E.data.toList, x, y, z⟩)) ∧ Below w.heap.size w w' := by
  have H1 := Lib.hid (fun w1 => ROf_any ⟨#[91, 93]⟩ (by decide) B.size B w1 (Nat.le_refl _) (by omega))
  have H2 := Lib.hid (fun w1 => RFirst_any B ⟨#[64]⟩ w1 (by omega) (by decide))
  have H3 := Lib.hid (fun w1 => ROf_any ⟨#[47]⟩ (by decide) C.size C w1 (Nat.le_refl _) (by omega))
  have H4 := Lib.hid (fun w1 => ROf_any ⟨#[47, 63]⟩ (by decide) D.size D w1 (Nat.le_refl _) (by omega))
  have H5 := Lib.hid (fun w1 => ROf_any ⟨#[47, 63]⟩ (by decide) E.size E w1 (Nat.le_refl _) (by omega))
  have H6 := Lib.hid (fun w1 => RFirst_any C ⟨#[58, 47]⟩ w1 (by omega) (by decide))
  rw [show (⟨#[91, 93]⟩ : ByteArray).data.toList = [91, 93] from rfl] at H1
  rw [show (⟨#[64]⟩ : ByteArray).data.toList = [64] from rfl] at H2
  rw [show (⟨#[47]⟩ : ByteArray).data.toList = [47] from rfl] at H3
  rw [show (⟨#[47, 63]⟩ : ByteArray).data.toList = [47, 63] from rfl] at H4 H5
  rw [show (⟨#[58, 47]⟩ : ByteArray).data.toList = [58, 47] from rfl] at H6
  have hBl : B.data.toList.length = B.size := by simp
  unfold Ur.rightR
  simp only
  rw [hBl]
  generalize Pq.pcL [91, 93] B.data.toList = b1 at *
  generalize Ur.fstN [64] B.data.toList = n64 at *
  generalize Pq.pcL [47] C.data.toList = b3 at *
  generalize Pq.pcL [47, 63] D.data.toList = b4 at *
  generalize Pq.pcL [47, 63] E.data.toList = b5 at *
  obtain ⟨k2, hk2⟩ : ∃ k, decide (n64 < B.size) = k := ⟨_, rfl⟩
  rw [hk2]
  obtain ⟨V, hv0⟩ : ∃ V, (if (!b1 || k2 || !b3 || !b4 || !b5) = true then false else if x = true then C.data.toList.isEmpty || decide (C.data.toList[0]? = some 47) else if Ur.hasA C.data.toList = true then false else !A.data.toList.isEmpty || decide (Ur.fstN [58, 47] C.data.toList = C.data.toList.length) || decide (C.data.toList[Ur.fstN [58, 47] C.data.toList]? = some 47)) = V := ⟨_, rfl⟩
  rw [hv0]
  have HV0 := Lib.hid hv0
  clear hv0
  have HB0 := Lib.hid ((Below.refl w.heap.size w).alloc (Nat.le_refl _) (.cells #[.string A, .string B, .string C, .string D, .string E, .bool x, .bool y, .bool z] 25))
  have hR := refAt_new w A B C D E x y z
  clear hBl
  unfold rF
  go_enter Try.func22, Try.ntmps22
  go_wp2_with fail
  obtain ⟨c0, c1, c2, c3, c4, c5, c6, c7, -, -, -, -, -, -, -, -, l0⟩ := hR
  generalize w.alloc (.cells #[.string A, .string B, .string C, .string D, .string E, .bool x, .bool y, .bool z] 25) = W1 at *
  refine wp_region_specs (by kernel_rfl) [.is (.pointer (some ⟨w.heap.size, 1, none⟩)), .is (.string B), .is (.bool (b1)), .is (.bool (!b1)), .is (.bool (!b1)), .when (b1) (.is (.pointer (some ⟨w.heap.size, 1, none⟩))), .when (b1) (.is (.string B)), .when (b1) (.is (.int .i64 (n64 : Int))), .when (b1) (.is (.pointer (some ⟨w.heap.size, 1, none⟩))), .when (b1) (.is (.string B)), .when (b1) (.is (.int .i64 (B.size : Int))), .when (b1) (.is (.bool (k2))), .is (.bool (!b1 || k2)), .is (.bool (!b1 || k2)), .when (b1 && !k2) (.is (.pointer (some ⟨w.heap.size, 2, none⟩))), .when (b1 && !k2) (.is (.string C)), .when (b1 && !k2) (.is (.bool (b3))), .when (b1 && !k2) (.is (.bool (!b3))), .is (.bool (!b1 || k2 || !b3)), .is (.bool (!b1 || k2 || !b3)), .when (b1 && !k2 && b3) (.is (.pointer (some ⟨w.heap.size, 3, none⟩))), .when (b1 && !k2 && b3) (.is (.string D)), .when (b1 && !k2 && b3) (.is (.bool (b4))), .when (b1 && !k2 && b3) (.is (.bool (!b4))), .is (.bool (!b1 || k2 || !b3 || !b4)), .is (.bool (!b1 || k2 || !b3 || !b4)), .when (b1 && !k2 && b3 && b4) (.is (.pointer (some ⟨w.heap.size, 4, none⟩))), .when (b1 && !k2 && b3 && b4) (.is (.string E)), .when (b1 && !k2 && b3 && b4) (.is (.bool (b5))), .when (b1 && !k2 && b3 && b4) (.is (.bool (!b5))), .is (.bool (!b1 || k2 || !b3 || !b4 || !b5))] (by kernel_rfl) ?_ ?_
  · refine ⟨?_, ?_, ?_, ?_, ?_, ?_, ?_, ?_, ?_, ?_, ?_, ?_, ?_, ?_, ?_, ?_, ?_, ?_, ?_, ?_, ?_, ?_, ?_, ?_, ?_, ?_, ?_, ?_, ?_, ?_, ?_, trivial⟩
    · intro a wq hs hb hold hdep K hK
      have f1 : a.tmps.getD 1 undef = .pointer (some ⟨w.heap.size, 0, none⟩) := hold 1 (by kernel_rfl)
      refine Or.inl ⟨rfl, ?_⟩
      clear hold hdep hs
      go_simp
      exact hK _ _ rfl (Below.refl _ _)
    · intro a wq hs hb hold hdep K hK
      have f4 : a.tmps.getD 4 undef = .pointer (some ⟨w.heap.size, 1, none⟩) := hdep 0 4 (by kernel_rfl) (by kernel_rfl)
      refine Or.inl ⟨rfl, ?_⟩
      clear hold hdep hs
      have e1 := below_cell hb l0 c1
      go_simp
      exact hK _ _ rfl (Below.refl _ _)
    · intro a wq hs hb hold hdep K hK
      have f5 : a.tmps.getD 5 undef = .string B := hdep 1 5 (by kernel_rfl) (by kernel_rfl)
      refine Or.inl ⟨rfl, ?_⟩
      clear hold hdep hs
      go_simp
      refine (H1.out _).mono ?_
      rintro e w9 ⟨rfl, hw9⟩
      rw [← hw9]
      exact hK _ _ rfl (Below.refl _ _)
    · intro a wq hs hb hold hdep K hK
      have f6 : a.tmps.getD 6 undef = .bool (b1) := hdep 2 6 (by kernel_rfl) (by kernel_rfl)
      refine Or.inl ⟨rfl, ?_⟩
      clear hold hdep hs
      go_simp
      exact hK _ _ rfl (Below.refl _ _)
    · intro a wq hs hb hold hdep K hK
      have f7 : a.tmps.getD 7 undef = .bool (!b1) := hdep 3 7 (by kernel_rfl) (by kernel_rfl)
      refine Or.inl ⟨rfl, ?_⟩
      clear hold hdep hs
      go_simp
      exact hK _ _ rfl (Below.refl _ _)
    · intro a wq hs hb hold hdep K hK
      cases b1
      · exact Or.inr ⟨unwant_of (d := 8) rfl (by kernel_rfl) (hdep 4 8 (by kernel_rfl) (by kernel_rfl)), hK _ _ trivial (Below.refl _ _)⟩
      · have f1 : a.tmps.getD 1 undef = .pointer (some ⟨w.heap.size, 0, none⟩) := hold 1 (by kernel_rfl)
        refine Or.inl ⟨want_of (d := 8) rfl (by kernel_rfl) (hdep 4 8 (by kernel_rfl) (by kernel_rfl)), ?_⟩
        clear hold hdep hs
        go_simp
        exact hK _ _ rfl (Below.refl _ _)
    · intro a wq hs hb hold hdep K hK
      cases b1
      · exact Or.inr ⟨unwant_of (d := 8) rfl (by kernel_rfl) (hdep 4 8 (by kernel_rfl) (by kernel_rfl)), hK _ _ trivial (Below.refl _ _)⟩
      · have f9 : a.tmps.getD 9 undef = .pointer (some ⟨w.heap.size, 1, none⟩) := hdep 5 9 (by kernel_rfl) (by kernel_rfl)
        refine Or.inl ⟨want_of (d := 8) rfl (by kernel_rfl) (hdep 4 8 (by kernel_rfl) (by kernel_rfl)), ?_⟩
        clear hold hdep hs
        have e1 := below_cell hb l0 c1
        go_simp
        exact hK _ _ rfl (Below.refl _ _)
    · intro a wq hs hb hold hdep K hK
      cases b1
      · exact Or.inr ⟨unwant_of (d := 8) rfl (by kernel_rfl) (hdep 4 8 (by kernel_rfl) (by kernel_rfl)), hK _ _ trivial (Below.refl _ _)⟩
      · have f10 : a.tmps.getD 10 undef = .string B := hdep 6 10 (by kernel_rfl) (by kernel_rfl)
        refine Or.inl ⟨want_of (d := 8) rfl (by kernel_rfl) (hdep 4 8 (by kernel_rfl) (by kernel_rfl)), ?_⟩
        clear hold hdep hs
        go_simp
        refine (H2.out _).mono ?_
        rintro e w9 ⟨rfl, hw9⟩
        rw [hw9]
        exact hK _ _ rfl (Below.refl _ _)
    · intro a wq hs hb hold hdep K hK
      cases b1
      · exact Or.inr ⟨unwant_of (d := 8) rfl (by kernel_rfl) (hdep 4 8 (by kernel_rfl) (by kernel_rfl)), hK _ _ trivial (Below.refl _ _)⟩
      · have f1 : a.tmps.getD 1 undef = .pointer (some ⟨w.heap.size, 0, none⟩) := hold 1 (by kernel_rfl)
        refine Or.inl ⟨want_of (d := 8) rfl (by kernel_rfl) (hdep 4 8 (by kernel_rfl) (by kernel_rfl)), ?_⟩
        clear hold hdep hs
        go_simp
        exact hK _ _ rfl (Below.refl _ _)
    · intro a wq hs hb hold hdep K hK
      cases b1
      · exact Or.inr ⟨unwant_of (d := 8) rfl (by kernel_rfl) (hdep 4 8 (by kernel_rfl) (by kernel_rfl)), hK _ _ trivial (Below.refl _ _)⟩
      · have f12 : a.tmps.getD 12 undef = .pointer (some ⟨w.heap.size, 1, none⟩) := hdep 8 12 (by kernel_rfl) (by kernel_rfl)
        refine Or.inl ⟨want_of (d := 8) rfl (by kernel_rfl) (hdep 4 8 (by kernel_rfl) (by kernel_rfl)), ?_⟩
        clear hold hdep hs
        have e1 := below_cell hb l0 c1
        go_simp
        exact hK _ _ rfl (Below.refl _ _)
    · intro a wq hs hb hold hdep K hK
      cases b1
      · exact Or.inr ⟨unwant_of (d := 8) rfl (by kernel_rfl) (hdep 4 8 (by kernel_rfl) (by kernel_rfl)), hK _ _ trivial (Below.refl _ _)⟩
      · have f13 : a.tmps.getD 13 undef = .string B := hdep 9 13 (by kernel_rfl) (by kernel_rfl)
        refine Or.inl ⟨want_of (d := 8) rfl (by kernel_rfl) (hdep 4 8 (by kernel_rfl) (by kernel_rfl)), ?_⟩
        clear hold hdep hs
        go_simp
        exact hK _ _ rfl (Below.refl _ _)
    · intro a wq hs hb hold hdep K hK
      cases b1
      · exact Or.inr ⟨unwant_of (d := 8) rfl (by kernel_rfl) (hdep 4 8 (by kernel_rfl) (by kernel_rfl)), hK _ _ trivial (Below.refl _ _)⟩
      · have f11 : a.tmps.getD 11 undef = .int .i64 (n64 : Int) := hdep 7 11 (by kernel_rfl) (by kernel_rfl)
        have f14 : a.tmps.getD 14 undef = .int .i64 (B.size : Int) := hdep 10 14 (by kernel_rfl) (by kernel_rfl)
        refine Or.inl ⟨want_of (d := 8) rfl (by kernel_rfl) (hdep 4 8 (by kernel_rfl) (by kernel_rfl)), ?_⟩
        clear hold hdep hs
        go_simp
        exact hK _ _ rfl (Below.refl _ _)
    · intro a wq hs hb hold hdep K hK
      cases b1
      · have f8 : a.tmps.getD 8 undef = .bool true := hdep 4 8 (by kernel_rfl) (by kernel_rfl)
        refine Or.inl ⟨rfl, ?_⟩
        clear hold hdep hs
        go_simp
        exact hK _ _ rfl (Below.refl _ _)
      · have f8 : a.tmps.getD 8 undef = .bool false := hdep 4 8 (by kernel_rfl) (by kernel_rfl)
        have f15 : a.tmps.getD 15 undef = .bool (k2) := hdep 11 15 (by kernel_rfl) (by kernel_rfl)
        refine Or.inl ⟨rfl, ?_⟩
        clear hold hdep hs
        go_simp
        exact hK _ _ rfl (Below.refl _ _)
    · intro a wq hs hb hold hdep K hK
      have f16 : a.tmps.getD 16 undef = .bool (!b1 || k2) := hdep 12 16 (by kernel_rfl) (by kernel_rfl)
      refine Or.inl ⟨rfl, ?_⟩
      clear hold hdep hs
      go_simp
      exact hK _ _ rfl (Below.refl _ _)
    · intro a wq hs hb hold hdep K hK
      cases b1
      · exact Or.inr ⟨unwant_of (d := 17) rfl (by kernel_rfl) (hdep 13 17 (by kernel_rfl) (by kernel_rfl)), hK _ _ trivial (Below.refl _ _)⟩
      · cases k2
        · have f1 : a.tmps.getD 1 undef = .pointer (some ⟨w.heap.size, 0, none⟩) := hold 1 (by kernel_rfl)
          refine Or.inl ⟨want_of (d := 17) rfl (by kernel_rfl) (hdep 13 17 (by kernel_rfl) (by kernel_rfl)), ?_⟩
          clear hold hdep hs
          go_simp
          exact hK _ _ rfl (Below.refl _ _)
        · exact Or.inr ⟨unwant_of (d := 17) rfl (by kernel_rfl) (hdep 13 17 (by kernel_rfl) (by kernel_rfl)), hK _ _ trivial (Below.refl _ _)⟩
    · intro a wq hs hb hold hdep K hK
      cases b1
      · exact Or.inr ⟨unwant_of (d := 17) rfl (by kernel_rfl) (hdep 13 17 (by kernel_rfl) (by kernel_rfl)), hK _ _ trivial (Below.refl _ _)⟩
      · cases k2
        · have f18 : a.tmps.getD 18 undef = .pointer (some ⟨w.heap.size, 2, none⟩) := hdep 14 18 (by kernel_rfl) (by kernel_rfl)
          refine Or.inl ⟨want_of (d := 17) rfl (by kernel_rfl) (hdep 13 17 (by kernel_rfl) (by kernel_rfl)), ?_⟩
          clear hold hdep hs
          have e2 := below_cell hb l0 c2
          go_simp
          exact hK _ _ rfl (Below.refl _ _)
        · exact Or.inr ⟨unwant_of (d := 17) rfl (by kernel_rfl) (hdep 13 17 (by kernel_rfl) (by kernel_rfl)), hK _ _ trivial (Below.refl _ _)⟩
    · intro a wq hs hb hold hdep K hK
      cases b1
      · exact Or.inr ⟨unwant_of (d := 17) rfl (by kernel_rfl) (hdep 13 17 (by kernel_rfl) (by kernel_rfl)), hK _ _ trivial (Below.refl _ _)⟩
      · cases k2
        · have f19 : a.tmps.getD 19 undef = .string C := hdep 15 19 (by kernel_rfl) (by kernel_rfl)
          refine Or.inl ⟨want_of (d := 17) rfl (by kernel_rfl) (hdep 13 17 (by kernel_rfl) (by kernel_rfl)), ?_⟩
          clear hold hdep hs
          go_simp
          refine (H3.out _).mono ?_
          rintro e w9 ⟨rfl, hw9⟩
          rw [← hw9]
          exact hK _ _ rfl (Below.refl _ _)
        · exact Or.inr ⟨unwant_of (d := 17) rfl (by kernel_rfl) (hdep 13 17 (by kernel_rfl) (by kernel_rfl)), hK _ _ trivial (Below.refl _ _)⟩
    · intro a wq hs hb hold hdep K hK
      cases b1
      · exact Or.inr ⟨unwant_of (d := 17) rfl (by kernel_rfl) (hdep 13 17 (by kernel_rfl) (by kernel_rfl)), hK _ _ trivial (Below.refl _ _)⟩
      · cases k2
        · have f20 : a.tmps.getD 20 undef = .bool (b3) := hdep 16 20 (by kernel_rfl) (by kernel_rfl)
          refine Or.inl ⟨want_of (d := 17) rfl (by kernel_rfl) (hdep 13 17 (by kernel_rfl) (by kernel_rfl)), ?_⟩
          clear hold hdep hs
          go_simp
          exact hK _ _ rfl (Below.refl _ _)
        · exact Or.inr ⟨unwant_of (d := 17) rfl (by kernel_rfl) (hdep 13 17 (by kernel_rfl) (by kernel_rfl)), hK _ _ trivial (Below.refl _ _)⟩
    · intro a wq hs hb hold hdep K hK
      cases b1
      · have f17 : a.tmps.getD 17 undef = .bool true := hdep 13 17 (by kernel_rfl) (by kernel_rfl)
        refine Or.inl ⟨rfl, ?_⟩
        clear hold hdep hs
        go_simp
        exact hK _ _ rfl (Below.refl _ _)
      · cases k2
        · have f17 : a.tmps.getD 17 undef = .bool false := hdep 13 17 (by kernel_rfl) (by kernel_rfl)
          have f21 : a.tmps.getD 21 undef = .bool (!b3) := hdep 17 21 (by kernel_rfl) (by kernel_rfl)
          refine Or.inl ⟨rfl, ?_⟩
          clear hold hdep hs
          go_simp
          exact hK _ _ rfl (Below.refl _ _)
        · have f17 : a.tmps.getD 17 undef = .bool true := hdep 13 17 (by kernel_rfl) (by kernel_rfl)
          refine Or.inl ⟨rfl, ?_⟩
          clear hold hdep hs
          go_simp
          exact hK _ _ rfl (Below.refl _ _)
    · intro a wq hs hb hold hdep K hK
      have f22 : a.tmps.getD 22 undef = .bool (!b1 || k2 || !b3) := hdep 18 22 (by kernel_rfl) (by kernel_rfl)
      refine Or.inl ⟨rfl, ?_⟩
      clear hold hdep hs
      go_simp
      exact hK _ _ rfl (Below.refl _ _)
    · intro a wq hs hb hold hdep K hK
      cases b1
      · exact Or.inr ⟨unwant_of (d := 23) rfl (by kernel_rfl) (hdep 19 23 (by kernel_rfl) (by kernel_rfl)), hK _ _ trivial (Below.refl _ _)⟩
      · cases k2
        · cases b3
          · exact Or.inr ⟨unwant_of (d := 23) rfl (by kernel_rfl) (hdep 19 23 (by kernel_rfl) (by kernel_rfl)), hK _ _ trivial (Below.refl _ _)⟩
          · have f1 : a.tmps.getD 1 undef = .pointer (some ⟨w.heap.size, 0, none⟩) := hold 1 (by kernel_rfl)
            refine Or.inl ⟨want_of (d := 23) rfl (by kernel_rfl) (hdep 19 23 (by kernel_rfl) (by kernel_rfl)), ?_⟩
            clear hold hdep hs
            go_simp
            exact hK _ _ rfl (Below.refl _ _)
        · exact Or.inr ⟨unwant_of (d := 23) rfl (by kernel_rfl) (hdep 19 23 (by kernel_rfl) (by kernel_rfl)), hK _ _ trivial (Below.refl _ _)⟩
    · intro a wq hs hb hold hdep K hK
      cases b1
      · exact Or.inr ⟨unwant_of (d := 23) rfl (by kernel_rfl) (hdep 19 23 (by kernel_rfl) (by kernel_rfl)), hK _ _ trivial (Below.refl _ _)⟩
      · cases k2
        · cases b3
          · exact Or.inr ⟨unwant_of (d := 23) rfl (by kernel_rfl) (hdep 19 23 (by kernel_rfl) (by kernel_rfl)), hK _ _ trivial (Below.refl _ _)⟩
          · have f24 : a.tmps.getD 24 undef = .pointer (some ⟨w.heap.size, 3, none⟩) := hdep 20 24 (by kernel_rfl) (by kernel_rfl)
            refine Or.inl ⟨want_of (d := 23) rfl (by kernel_rfl) (hdep 19 23 (by kernel_rfl) (by kernel_rfl)), ?_⟩
            clear hold hdep hs
            have e3 := below_cell hb l0 c3
            go_simp
            exact hK _ _ rfl (Below.refl _ _)
        · exact Or.inr ⟨unwant_of (d := 23) rfl (by kernel_rfl) (hdep 19 23 (by kernel_rfl) (by kernel_rfl)), hK _ _ trivial (Below.refl _ _)⟩
    · intro a wq hs hb hold hdep K hK
      cases b1
      · exact Or.inr ⟨unwant_of (d := 23) rfl (by kernel_rfl) (hdep 19 23 (by kernel_rfl) (by kernel_rfl)), hK _ _ trivial (Below.refl _ _)⟩
      · cases k2
        · cases b3
          · exact Or.inr ⟨unwant_of (d := 23) rfl (by kernel_rfl) (hdep 19 23 (by kernel_rfl) (by kernel_rfl)), hK _ _ trivial (Below.refl _ _)⟩
          · have f25 : a.tmps.getD 25 undef = .string D := hdep 21 25 (by kernel_rfl) (by kernel_rfl)
            refine Or.inl ⟨want_of (d := 23) rfl (by kernel_rfl) (hdep 19 23 (by kernel_rfl) (by kernel_rfl)), ?_⟩
            clear hold hdep hs
            go_simp
            refine (H4.out _).mono ?_
            rintro e w9 ⟨rfl, hw9⟩
            rw [← hw9]
            exact hK _ _ rfl (Below.refl _ _)
        · exact Or.inr ⟨unwant_of (d := 23) rfl (by kernel_rfl) (hdep 19 23 (by kernel_rfl) (by kernel_rfl)), hK _ _ trivial (Below.refl _ _)⟩
    · intro a wq hs hb hold hdep K hK
      cases b1
      · exact Or.inr ⟨unwant_of (d := 23) rfl (by kernel_rfl) (hdep 19 23 (by kernel_rfl) (by kernel_rfl)), hK _ _ trivial (Below.refl _ _)⟩
      · cases k2
        · cases b3
          · exact Or.inr ⟨unwant_of (d := 23) rfl (by kernel_rfl) (hdep 19 23 (by kernel_rfl) (by kernel_rfl)), hK _ _ trivial (Below.refl _ _)⟩
          · have f26 : a.tmps.getD 26 undef = .bool (b4) := hdep 22 26 (by kernel_rfl) (by kernel_rfl)
            refine Or.inl ⟨want_of (d := 23) rfl (by kernel_rfl) (hdep 19 23 (by kernel_rfl) (by kernel_rfl)), ?_⟩
            clear hold hdep hs
            go_simp
            exact hK _ _ rfl (Below.refl _ _)
        · exact Or.inr ⟨unwant_of (d := 23) rfl (by kernel_rfl) (hdep 19 23 (by kernel_rfl) (by kernel_rfl)), hK _ _ trivial (Below.refl _ _)⟩
    · intro a wq hs hb hold hdep K hK
      cases b1
      · have f23 : a.tmps.getD 23 undef = .bool true := hdep 19 23 (by kernel_rfl) (by kernel_rfl)
        refine Or.inl ⟨rfl, ?_⟩
        clear hold hdep hs
        go_simp
        exact hK _ _ rfl (Below.refl _ _)
      · cases k2
        · cases b3
          · have f23 : a.tmps.getD 23 undef = .bool true := hdep 19 23 (by kernel_rfl) (by kernel_rfl)
            refine Or.inl ⟨rfl, ?_⟩
            clear hold hdep hs
            go_simp
            exact hK _ _ rfl (Below.refl _ _)
          · have f23 : a.tmps.getD 23 undef = .bool false := hdep 19 23 (by kernel_rfl) (by kernel_rfl)
            have f27 : a.tmps.getD 27 undef = .bool (!b4) := hdep 23 27 (by kernel_rfl) (by kernel_rfl)
            refine Or.inl ⟨rfl, ?_⟩
            clear hold hdep hs
            go_simp
            exact hK _ _ rfl (Below.refl _ _)
        · have f23 : a.tmps.getD 23 undef = .bool true := hdep 19 23 (by kernel_rfl) (by kernel_rfl)
          refine Or.inl ⟨rfl, ?_⟩
          clear hold hdep hs
          go_simp
          exact hK _ _ rfl (Below.refl _ _)
    · intro a wq hs hb hold hdep K hK
      have f28 : a.tmps.getD 28 undef = .bool (!b1 || k2 || !b3 || !b4) := hdep 24 28 (by kernel_rfl) (by kernel_rfl)
      refine Or.inl ⟨rfl, ?_⟩
      clear hold hdep hs
      go_simp
      exact hK _ _ rfl (Below.refl _ _)
    · intro a wq hs hb hold hdep K hK
      cases b1
      · exact Or.inr ⟨unwant_of (d := 29) rfl (by kernel_rfl) (hdep 25 29 (by kernel_rfl) (by kernel_rfl)), hK _ _ trivial (Below.refl _ _)⟩
      · cases k2
        · cases b3
          · exact Or.inr ⟨unwant_of (d := 29) rfl (by kernel_rfl) (hdep 25 29 (by kernel_rfl) (by kernel_rfl)), hK _ _ trivial (Below.refl _ _)⟩
          · cases b4
            · exact Or.inr ⟨unwant_of (d := 29) rfl (by kernel_rfl) (hdep 25 29 (by kernel_rfl) (by kernel_rfl)), hK _ _ trivial (Below.refl _ _)⟩
            · have f1 : a.tmps.getD 1 undef = .pointer (some ⟨w.heap.size, 0, none⟩) := hold 1 (by kernel_rfl)
              refine Or.inl ⟨want_of (d := 29) rfl (by kernel_rfl) (hdep 25 29 (by kernel_rfl) (by kernel_rfl)), ?_⟩
              clear hold hdep hs
              go_simp
              exact hK _ _ rfl (Below.refl _ _)
        · exact Or.inr ⟨unwant_of (d := 29) rfl (by kernel_rfl) (hdep 25 29 (by kernel_rfl) (by kernel_rfl)), hK _ _ trivial (Below.refl _ _)⟩
    · intro a wq hs hb hold hdep K hK
      cases b1
      · exact Or.inr ⟨unwant_of (d := 29) rfl (by kernel_rfl) (hdep 25 29 (by kernel_rfl) (by kernel_rfl)), hK _ _ trivial (Below.refl _ _)⟩
      · cases k2
        · cases b3
          · exact Or.inr ⟨unwant_of (d := 29) rfl (by kernel_rfl) (hdep 25 29 (by kernel_rfl) (by kernel_rfl)), hK _ _ trivial (Below.refl _ _)⟩
          · cases b4
            · exact Or.inr ⟨unwant_of (d := 29) rfl (by kernel_rfl) (hdep 25 29 (by kernel_rfl) (by kernel_rfl)), hK _ _ trivial (Below.refl _ _)⟩
            · have f30 : a.tmps.getD 30 undef = .pointer (some ⟨w.heap.size, 4, none⟩) := hdep 26 30 (by kernel_rfl) (by kernel_rfl)
              refine Or.inl ⟨want_of (d := 29) rfl (by kernel_rfl) (hdep 25 29 (by kernel_rfl) (by kernel_rfl)), ?_⟩
              clear hold hdep hs
              have e4 := below_cell hb l0 c4
              go_simp
              exact hK _ _ rfl (Below.refl _ _)
        · exact Or.inr ⟨unwant_of (d := 29) rfl (by kernel_rfl) (hdep 25 29 (by kernel_rfl) (by kernel_rfl)), hK _ _ trivial (Below.refl _ _)⟩
    · intro a wq hs hb hold hdep K hK
      cases b1
      · exact Or.inr ⟨unwant_of (d := 29) rfl (by kernel_rfl) (hdep 25 29 (by kernel_rfl) (by kernel_rfl)), hK _ _ trivial (Below.refl _ _)⟩
      · cases k2
        · cases b3
          · exact Or.inr ⟨unwant_of (d := 29) rfl (by kernel_rfl) (hdep 25 29 (by kernel_rfl) (by kernel_rfl)), hK _ _ trivial (Below.refl _ _)⟩
          · cases b4
            · exact Or.inr ⟨unwant_of (d := 29) rfl (by kernel_rfl) (hdep 25 29 (by kernel_rfl) (by kernel_rfl)), hK _ _ trivial (Below.refl _ _)⟩
            · have f31 : a.tmps.getD 31 undef = .string E := hdep 27 31 (by kernel_rfl) (by kernel_rfl)
              refine Or.inl ⟨want_of (d := 29) rfl (by kernel_rfl) (hdep 25 29 (by kernel_rfl) (by kernel_rfl)), ?_⟩
              clear hold hdep hs
              go_simp
              refine (H5.out _).mono ?_
              rintro e w9 ⟨rfl, hw9⟩
              rw [← hw9]
              exact hK _ _ rfl (Below.refl _ _)
        · exact Or.inr ⟨unwant_of (d := 29) rfl (by kernel_rfl) (hdep 25 29 (by kernel_rfl) (by kernel_rfl)), hK _ _ trivial (Below.refl _ _)⟩
    · intro a wq hs hb hold hdep K hK
      cases b1
      · exact Or.inr ⟨unwant_of (d := 29) rfl (by kernel_rfl) (hdep 25 29 (by kernel_rfl) (by kernel_rfl)), hK _ _ trivial (Below.refl _ _)⟩
      · cases k2
        · cases b3
          · exact Or.inr ⟨unwant_of (d := 29) rfl (by kernel_rfl) (hdep 25 29 (by kernel_rfl) (by kernel_rfl)), hK _ _ trivial (Below.refl _ _)⟩
          · cases b4
            · exact Or.inr ⟨unwant_of (d := 29) rfl (by kernel_rfl) (hdep 25 29 (by kernel_rfl) (by kernel_rfl)), hK _ _ trivial (Below.refl _ _)⟩
            · have f32 : a.tmps.getD 32 undef = .bool (b5) := hdep 28 32 (by kernel_rfl) (by kernel_rfl)
              refine Or.inl ⟨want_of (d := 29) rfl (by kernel_rfl) (hdep 25 29 (by kernel_rfl) (by kernel_rfl)), ?_⟩
              clear hold hdep hs
              go_simp
              exact hK _ _ rfl (Below.refl _ _)
        · exact Or.inr ⟨unwant_of (d := 29) rfl (by kernel_rfl) (hdep 25 29 (by kernel_rfl) (by kernel_rfl)), hK _ _ trivial (Below.refl _ _)⟩
    · intro a wq hs hb hold hdep K hK
      cases b1
      · have f29 : a.tmps.getD 29 undef = .bool true := hdep 25 29 (by kernel_rfl) (by kernel_rfl)
        refine Or.inl ⟨rfl, ?_⟩
        clear hold hdep hs
        go_simp
        exact hK _ _ rfl (Below.refl _ _)
      · cases k2
        · cases b3
          · have f29 : a.tmps.getD 29 undef = .bool true := hdep 25 29 (by kernel_rfl) (by kernel_rfl)
            refine Or.inl ⟨rfl, ?_⟩
            clear hold hdep hs
            go_simp
            exact hK _ _ rfl (Below.refl _ _)
          · cases b4
            · have f29 : a.tmps.getD 29 undef = .bool true := hdep 25 29 (by kernel_rfl) (by kernel_rfl)
              refine Or.inl ⟨rfl, ?_⟩
              clear hold hdep hs
              go_simp
              exact hK _ _ rfl (Below.refl _ _)
            · have f29 : a.tmps.getD 29 undef = .bool false := hdep 25 29 (by kernel_rfl) (by kernel_rfl)
              have f33 : a.tmps.getD 33 undef = .bool (!b5) := hdep 29 33 (by kernel_rfl) (by kernel_rfl)
              refine Or.inl ⟨rfl, ?_⟩
              clear hold hdep hs
              go_simp
              exact hK _ _ rfl (Below.refl _ _)
        · have f29 : a.tmps.getD 29 undef = .bool true := hdep 25 29 (by kernel_rfl) (by kernel_rfl)
          refine Or.inl ⟨rfl, ?_⟩
          clear hold hdep hs
          go_simp
          exact hK _ _ rfl (Below.refl _ _)
  · intro a wq hs hd hb hold hall
    have f34 : a.tmps.getD 34 undef = .bool (!b1 || k2 || !b3 || !b4 || !b5) := hall 30 34 (by kernel_rfl)
    have f1 : a.tmps.getD 1 undef = .pointer (some ⟨w.heap.size, 0, none⟩) := hold 1 (by kernel_rfl)
    have hbz : Below w.heap.size w wq := HB0.out.trans (hb.mono HB0.out.size)
    have d0 := below_cell hb l0 c0
    have d2 := below_cell hb l0 c2
    have d5 := below_cell hb l0 c5
    have HBZ := Lib.hid hbz
    clear hold hall hb hbz c0 c1 c2 c3 c4 c5 c6 c7 l0
    have eA := act_eq a 76 hs hd
    simp only [List.range, List.range.loop, List.map] at eA
    rw [f1, f34] at eA
    clear hs hd f1 f34
    generalize a.tmps.getD 0 undef = u0 at eA
    generalize a.tmps.getD 2 undef = u2 at eA
    generalize a.tmps.getD 3 undef = u3 at eA
    generalize a.tmps.getD 4 undef = u4 at eA
    generalize a.tmps.getD 5 undef = u5 at eA
    generalize a.tmps.getD 6 undef = u6 at eA
    generalize a.tmps.getD 7 undef = u7 at eA
    generalize a.tmps.getD 8 undef = u8 at eA
    generalize a.tmps.getD 9 undef = u9 at eA
    generalize a.tmps.getD 10 undef = u10 at eA
    generalize a.tmps.getD 11 undef = u11 at eA
    generalize a.tmps.getD 12 undef = u12 at eA
    generalize a.tmps.getD 13 undef = u13 at eA
    generalize a.tmps.getD 14 undef = u14 at eA
    generalize a.tmps.getD 15 undef = u15 at eA
    generalize a.tmps.getD 16 undef = u16 at eA
    generalize a.tmps.getD 17 undef = u17 at eA
    generalize a.tmps.getD 18 undef = u18 at eA
    generalize a.tmps.getD 19 undef = u19 at eA
    generalize a.tmps.getD 20 undef = u20 at eA
    generalize a.tmps.getD 21 undef = u21 at eA
    generalize a.tmps.getD 22 undef = u22 at eA
    generalize a.tmps.getD 23 undef = u23 at eA
    generalize a.tmps.getD 24 undef = u24 at eA
    generalize a.tmps.getD 25 undef = u25 at eA
    generalize a.tmps.getD 26 undef = u26 at eA
    generalize a.tmps.getD 27 undef = u27 at eA
    generalize a.tmps.getD 28 undef = u28 at eA
    generalize a.tmps.getD 29 undef = u29 at eA
    generalize a.tmps.getD 30 undef = u30 at eA
    generalize a.tmps.getD 31 undef = u31 at eA
    generalize a.tmps.getD 32 undef = u32 at eA
    generalize a.tmps.getD 33 undef = u33 at eA
    generalize a.tmps.getD 35 undef = u35 at eA
    generalize a.tmps.getD 36 undef = u36 at eA
    generalize a.tmps.getD 37 undef = u37 at eA
    generalize a.tmps.getD 38 undef = u38 at eA
    generalize a.tmps.getD 39 undef = u39 at eA
    generalize a.tmps.getD 40 undef = u40 at eA
    generalize a.tmps.getD 41 undef = u41 at eA
    generalize a.tmps.getD 42 undef = u42 at eA
    generalize a.tmps.getD 43 undef = u43 at eA
    generalize a.tmps.getD 44 undef = u44 at eA
    generalize a.tmps.getD 45 undef = u45 at eA
    generalize a.tmps.getD 46 undef = u46 at eA
    generalize a.tmps.getD 47 undef = u47 at eA
    generalize a.tmps.getD 48 undef = u48 at eA
    generalize a.tmps.getD 49 undef = u49 at eA
    generalize a.tmps.getD 50 undef = u50 at eA
    generalize a.tmps.getD 51 undef = u51 at eA
    generalize a.tmps.getD 52 undef = u52 at eA
    generalize a.tmps.getD 53 undef = u53 at eA
    generalize a.tmps.getD 54 undef = u54 at eA
    generalize a.tmps.getD 55 undef = u55 at eA
    generalize a.tmps.getD 56 undef = u56 at eA
    generalize a.tmps.getD 57 undef = u57 at eA
    generalize a.tmps.getD 58 undef = u58 at eA
    generalize a.tmps.getD 59 undef = u59 at eA
    generalize a.tmps.getD 60 undef = u60 at eA
    generalize a.tmps.getD 61 undef = u61 at eA
    generalize a.tmps.getD 62 undef = u62 at eA
    generalize a.tmps.getD 63 undef = u63 at eA
    generalize a.tmps.getD 64 undef = u64 at eA
    generalize a.tmps.getD 65 undef = u65 at eA
    generalize a.tmps.getD 66 undef = u66 at eA
    generalize a.tmps.getD 67 undef = u67 at eA
    generalize a.tmps.getD 68 undef = u68 at eA
    generalize a.tmps.getD 69 undef = u69 at eA
    generalize a.tmps.getD 70 undef = u70 at eA
    generalize a.tmps.getD 71 undef = u71 at eA
    generalize a.tmps.getD 72 undef = u72 at eA
    generalize a.tmps.getD 73 undef = u73 at eA
    generalize a.tmps.getD 74 undef = u74 at eA
    generalize a.tmps.getD 75 undef = u75 at eA
    subst eA
    have hv := HV0.out
    clear HV0
    generalize (!b1 || k2 || !b3 || !b4 || !b5) = q at *
    clear H1 H2 H3 H4 H5 hk2 HB0 h1 h3 h4
    cases q
    · rw [if_neg Bool.false_ne_true] at hv
      cases x
      · rw [if_neg Bool.false_ne_true] at hv
        have hn := Ur.fst_le [58, 47] C.data.toList
        rw [Array.length_toList] at hn
        have hn' : Ur.fstN [58, 47] C.data.toList ≤ C.size := hn
        have hC1 : C.data.toList.length = C.size := by simp
        rw [hC1, ← ByteArray.toList_eq A] at hv
        clear hn
        generalize Ur.fstN [58, 47] C.data.toList = n at *
        obtain ⟨em, hem⟩ : ∃ b, A.toList.isEmpty = b := ⟨_, rfl⟩
        rw [hem] at hv
        have key : (em = false ∧ (!em || decide (n = C.size) || decide (C.data.toList[n]? = some 47)) = true) ∨ (em = true ∧ n = C.size ∧ (!em || decide (n = C.size) || decide (C.data.toList[n]? = some 47)) = true) ∨ (em = true ∧ ∃ h : n < C.size, C[n] = 47 ∧ (!em || decide (n = C.size) || decide (C.data.toList[n]? = some 47)) = true) ∨ (em = true ∧ ∃ h : n < C.size, ¬ C[n] = 47 ∧ (!em || decide (n = C.size) || decide (C.data.toList[n]? = some 47)) = false) := by
          cases em
          · exact .inl ⟨rfl, rfl⟩
          · by_cases e : n = C.size
            · exact .inr (.inl ⟨rfl, e, by rw [decide_eq_true e]; rfl⟩)
            · have hlt : n < C.size := by omega
              rw [decide_eq_false e, Ur.at47 C n hlt]
              by_cases k : C[n] = 47
              · exact .inr (.inr (.inl ⟨rfl, hlt, k, by rw [decide_eq_true k]; rfl⟩))
              · exact .inr (.inr (.inr ⟨rfl, hlt, k, by rw [decide_eq_false k]; rfl⟩))
        clear hC1
        by_cases h1 : 1 < C.size
        · rw [Ur.hasA_long h1] at hv
          obtain ⟨Y, hY⟩ : ∃ Y, C.extract 0 2 = Y := ⟨_, rfl⟩
          rw [hY] at hv
          obtain ⟨yy, hyy⟩ : ∃ b, (Y.toList == [47, 47]) = b := ⟨_, rfl⟩
          rw [hyy] at hv
          have h2 : (1 : Int) < C.size := by omega
          have h3 : (2 : Int) ≤ C.size := by omega
          cases yy
          · rw [if_neg Bool.false_ne_true] at hv
            rcases key with ⟨rfl, k⟩ | ⟨rfl, rfl, k⟩ | ⟨rfl, hlt, k2, k⟩ | ⟨rfl, hlt, k2, k⟩
            · rw [k] at hv
              have HV := Lib.hid hv
              clear hv k
              go_wp2_with (go_at_call 20; refine (H6.out _).mono ?_; rintro e w9 ⟨rfl, hw9⟩; rw [hw9]; clear hw9)
              go_ret
              exact ⟨ret_bool HV.out, HBZ.out⟩
            · rw [k] at hv
              have HV := Lib.hid hv
              clear hv k
              go_wp2_with (go_at_call 20; refine (H6.out _).mono ?_; rintro e w9 ⟨rfl, hw9⟩; rw [hw9]; clear hw9)
              go_ret
              exact ⟨ret_bool HV.out, HBZ.out⟩
            · have e1 : (C[n].toNat : Int) = 47 := by rw [k2]; rfl
              have e2 : (n : Int) < C.size := by omega
              have e3 : ¬ (n : Int) = C.size := by omega
              clear k2
              rw [k] at hv
              have HV := Lib.hid hv
              clear hv k
              go_wp2_with (go_at_call 20; refine (H6.out _).mono ?_; rintro e w9 ⟨rfl, hw9⟩; rw [hw9]; clear hw9)
              go_ret
              exact ⟨ret_bool HV.out, HBZ.out⟩
            · have e1 : ((C[n].toNat : Int) == 47) = false := by
                rw [beq_eq_false_iff_ne]
                intro k3
                exact k2 (UInt8.toNat_inj.1 (by show C[n].toNat = 47; omega))
              have e2 : (n : Int) < C.size := by omega
              have e3 : ¬ (n : Int) = C.size := by omega
              clear k2
              rw [k] at hv
              have HV := Lib.hid hv
              clear hv k
              go_wp2_with (go_at_call 20; refine (H6.out _).mono ?_; rintro e w9 ⟨rfl, hw9⟩; rw [hw9]; clear hw9)
              go_ret
              exact ⟨ret_bool HV.out, HBZ.out⟩
          · rw [if_pos rfl] at hv
            clear key
            have HV := Lib.hid hv
            clear hv
            go_wp2_with fail
            go_ret
            exact ⟨ret_bool HV.out, HBZ.out⟩
        · rw [Ur.hasA_short h1, if_neg Bool.false_ne_true] at hv
          have h2 : ¬ (1 : Int) < C.size := by omega
          rcases key with ⟨rfl, k⟩ | ⟨rfl, rfl, k⟩ | ⟨rfl, hlt, k2, k⟩ | ⟨rfl, hlt, k2, k⟩
          · rw [k] at hv
            have HV := Lib.hid hv
            clear hv k
            go_wp2_with (go_at_call 20; refine (H6.out _).mono ?_; rintro e w9 ⟨rfl, hw9⟩; rw [hw9]; clear hw9)
            go_ret
            exact ⟨ret_bool HV.out, HBZ.out⟩
          · rw [k] at hv
            have HV := Lib.hid hv
            clear hv k
            go_wp2_with (go_at_call 20; refine (H6.out _).mono ?_; rintro e w9 ⟨rfl, hw9⟩; rw [hw9]; clear hw9)
            go_ret
            exact ⟨ret_bool HV.out, HBZ.out⟩
          · have e1 : (C[n].toNat : Int) = 47 := by rw [k2]; rfl
            have e2 : (n : Int) < C.size := by omega
            have e3 : ¬ (n : Int) = C.size := by omega
            clear k2
            rw [k] at hv
            have HV := Lib.hid hv
            clear hv k
            go_wp2_with (go_at_call 20; refine (H6.out _).mono ?_; rintro e w9 ⟨rfl, hw9⟩; rw [hw9]; clear hw9)
            go_ret
            exact ⟨ret_bool HV.out, HBZ.out⟩
          · have e1 : ((C[n].toNat : Int) == 47) = false := by
              rw [beq_eq_false_iff_ne]
              intro k3
              exact k2 (UInt8.toNat_inj.1 (by show C[n].toNat = 47; omega))
            have e2 : (n : Int) < C.size := by omega
            have e3 : ¬ (n : Int) = C.size := by omega
            clear k2
            rw [k] at hv
            have HV := Lib.hid hv
            clear hv k
            go_wp2_with (go_at_call 20; refine (H6.out _).mono ?_; rintro e w9 ⟨rfl, hw9⟩; rw [hw9]; clear hw9)
            go_ret
            exact ⟨ret_bool HV.out, HBZ.out⟩
      · rw [if_pos rfl] at hv
        by_cases h0 : C.size = 0
        · obtain rfl : C = ByteArray.empty := by simpa using h0
          have HV := Lib.hid hv
          clear hv
          go_wp2_with fail
          go_ret
          exact ⟨ret_bool HV.out, HBZ.out⟩
        · have h0' : 0 < C.size := by omega
          have h1 : (0 : Int) < C.size := by omega
          have hne : C.toList.isEmpty = false := by
            rw [ByteArray.toList_eq]; simp; intro h2; apply h0; show C.data.size = 0; rw [h2]; rfl
          rw [← ByteArray.toList_eq C, hne, ByteArray.toList_eq, Ur.at47 C 0 h0', Bool.false_or] at hv
          by_cases e : C[0] = 47
          · have e1 : (C[0].toNat : Int) = 47 := by rw [e]; rfl
            rw [decide_eq_true e] at hv
            clear e
            have HV := Lib.hid hv
            clear hv
            go_wp2_with fail
            go_ret
            exact ⟨ret_bool HV.out, HBZ.out⟩
          · have e1 : ((C[0].toNat : Int) == 47) = false := by
              rw [beq_eq_false_iff_ne]
              intro k
              exact e (UInt8.toNat_inj.1 (by show C[0].toNat = 47; omega))
            rw [decide_eq_false e] at hv
            clear e
            have HV := Lib.hid hv
            clear hv
            go_wp2_with fail
            go_ret
            exact ⟨ret_bool HV.out, HBZ.out⟩
    · rw [if_pos rfl] at hv
      have HV := Lib.hid hv
      clear hv
      go_wp2_with fail
      go_ret
      exact ⟨ret_bool HV.out, HBZ.out⟩
end Go.Proofs.Ytnnhlkbjdfgcaaa
