/- Contracts and lemmas that the claim rests on: HoU. -/
import Derived.Test.YtnpbnlphmngbdaaGreatDoorGHoN
import Derived.Test.YtnpbnlphmngbdaaGreatDoorGHoT
/- The document's Text: its contract. -/
namespace Go.Proofs.YtnpbnlphmngbdaaGreatDoor
open Go.RowKit

set_option maxHeartbeats 4000000 in
theorem RHText_any (k p : Int) (nm : ByteArray) (w : World) (hs : nm.size ≤ 300) (hp : p < 9223372036854775808) :
    Calls Tryz.prog 22 #[hostV k nm p] w fun e w' => e = .returned (txtV (Hp.textH k nm.data.toList p) 27) ∧ Below w.heap.size w w' := by
  have hb0 : ∀ o, Below w.heap.size w (w.alloc o) := fun o => (Below.refl _ _).alloc (Nat.le_refl _) _
  have HB0 := Lib.hid hb0
  clear hb0
  by_cases hk : k = 3
  · subst hk
    by_cases hq : p = -1
    · subst hq
      obtain ⟨A, hA⟩ : ∃ A, (⟨#[91]⟩ ++ nm ++ ⟨#[93]⟩ : ByteArray) = A := ⟨_, rfl⟩
      have hAl : A.data.toList = 91 :: (nm.data.toList ++ [93]) := by rw [← hA]; simp
      have hAz : A.size ≤ 302 := by
        have h1 := congrArg List.length hAl
        rw [Array.length_toList] at h1
        have h2 : A.data.size = A.size := rfl
        simp at h1
        omega
      have hUl : Hp.writeL 3 nm.data.toList (-1) = A.data.toList := by
        unfold Hp.writeL
        rw [if_pos rfl, ← hAl, if_pos rfl, List.append_nil]
      have hUz : A.size ≤ 900 := by omega
      have HP := Lib.hid (fun w1 => RHParse_any A w1 hUz)
      rw [Hp.prs_eq] at HP
      have hyes := fun h => Hp.textH_yes (k := 3) (p := (-1)) (nm := nm.data.toList) h
      have hno := fun h => Hp.textH_no (k := 3) (p := (-1)) (nm := nm.data.toList) h
      rw [hUl] at hyes hno
      generalize Hp.textH 3 nm.data.toList (-1) = T at *
      clear hUl hAl
      generalize Hp.prs A.data.toList = o at *
      unfold hostV
      cases o with
      | none =>
        have HT := Lib.hid (hno (by simp))
        clear hyes hno
        unfold prsV hostV at HP
        simp only at HP
        go_enter Tryz.func22, Tryz.ntmps22
        go_wp2_with fail
        refine (HP.out _).mono ?_
        rintro e w2 ⟨rfl, hb2⟩
        have d0 := below_cell hb2 (b := w.heap.size) (i := 0) (x := some (.int .i64 3)) (by simp) (by simp [go_sem])
        have d1 := below_cell hb2 (b := w.heap.size) (i := 1) (x := some (.string nm)) (by simp) (by simp [go_sem])
        have d2 := below_cell hb2 (b := w.heap.size) (i := 2) (x := some (.int .i64 (-1))) (by simp) (by simp [go_sem])
        have hl2 : w.heap.size < w2.heap.size := by have := hb2.size; simp at this; omega
        have HB2 := Lib.hid ((HB0.out (.cells #[.int .i64 3, .string nm, .int .i64 (-1)] 27)).trans (hb2.mono (by simp)))
        clear hb2
        go_wp2_with fail
        go_ret2
        rw [HT.out]
        exact ⟨rfl, HB2.out.alloc HB2.out.size _⟩
      | some x =>
        obtain ⟨k2, n2, p2⟩ := x
        unfold prsV hostV at HP
        simp only at HP
        by_cases hq : some (k2, n2, p2) = some (3, nm.data.toList, (-1))
        · have HT := Lib.hid (hyes hq)
          simp only [Option.some.injEq, Prod.mk.injEq] at hq
          obtain ⟨hq1, hq2, hq3⟩ := hq
          rw [hq1, hq2, hq3, Hp.ofL_self] at HP
          clear hyes hno hq1 hq2 hq3
          go_enter Tryz.func22, Tryz.ntmps22
          go_wp2_with fail
          refine (HP.out _).mono ?_
          rintro e w2 ⟨rfl, hb2⟩
          have d0 := below_cell hb2 (b := w.heap.size) (i := 0) (x := some (.int .i64 3)) (by simp) (by simp [go_sem])
          have d1 := below_cell hb2 (b := w.heap.size) (i := 1) (x := some (.string nm)) (by simp) (by simp [go_sem])
          have d2 := below_cell hb2 (b := w.heap.size) (i := 2) (x := some (.int .i64 (-1))) (by simp) (by simp [go_sem])
          have hl2 : w.heap.size < w2.heap.size := by have := hb2.size; simp at this; omega
          have HB2 := Lib.hid ((HB0.out (.cells #[.int .i64 3, .string nm, .int .i64 (-1)] 27)).trans (hb2.mono (by simp)))
          clear hb2
          go_wp2_with fail
          go_ret2
          refine ⟨?_, HB2.out.alloc HB2.out.size _⟩
          rw [HT.out]
          show Ending.returned (.tuple #[.string A, .int .i64 0]) = Ending.returned (.tuple #[.string ⟨A.data.toList.toArray⟩, .int .i64 0])
          rw [Hp.ofL_self]
        · have HT := Lib.hid (hno hq)
          have HQ := Lib.hid hq
          clear hyes hno hq
          go_enter Tryz.func22, Tryz.ntmps22
          go_wp2_with fail
          refine (HP.out _).mono ?_
          rintro e w2 ⟨rfl, hb2⟩
          have d0 := below_cell hb2 (b := w.heap.size) (i := 0) (x := some (.int .i64 3)) (by simp) (by simp [go_sem])
          have d1 := below_cell hb2 (b := w.heap.size) (i := 1) (x := some (.string nm)) (by simp) (by simp [go_sem])
          have d2 := below_cell hb2 (b := w.heap.size) (i := 2) (x := some (.int .i64 (-1))) (by simp) (by simp [go_sem])
          have hl2 : w.heap.size < w2.heap.size := by have := hb2.size; simp at this; omega
          have HB2 := Lib.hid ((HB0.out (.cells #[.int .i64 3, .string nm, .int .i64 (-1)] 27)).trans (hb2.mono (by simp)))
          clear hb2
          go_wp2_with fail
          all_goals
            go_ret2
            refine ⟨?_, HB2.out.alloc HB2.out.size _⟩
            first
              | (rw [HT.out]; rfl)
              | (exfalso; apply HQ.out; simp_all [ByteArray.toList_eq])
    · skip
      obtain ⟨A, hA⟩ : ∃ A, (⟨#[91]⟩ ++ nm ++ ⟨#[93]⟩ : ByteArray) = A := ⟨_, rfl⟩
      have hAl : A.data.toList = 91 :: (nm.data.toList ++ [93]) := by rw [← hA]; simp
      have hAz : A.size ≤ 302 := by
        have h1 := congrArg List.length hAl
        rw [Array.length_toList] at h1
        have h2 : A.data.size = A.size := rfl
        simp at h1
        omega
      have hq' : ¬ p = -1 := hq
      obtain ⟨U, hU⟩ : ∃ U, A ++ (⟨#[58]⟩ : ByteArray) ++ Nu.tx 10 p = U := ⟨_, rfl⟩
      have htz := Nu.tx_size 10 (by omega) p hp
      have hUl : Hp.writeL 3 nm.data.toList p = U.data.toList := by
        unfold Hp.writeL
        rw [if_pos rfl, ← hAl, if_neg hq, ← hU, list_append, list_append]
        simp
      have hUz : U.size ≤ 900 := by
        rw [← hU]
        simp only [ByteArray.size_append, show (⟨#[58]⟩ : ByteArray).size = 1 from rfl]
        omega
      have HTx := fun w => RText_any 10 (by omega) (by omega) p hp w
      rw [show ((10 : Nat) : Int) = 10 from rfl] at HTx
      generalize Nu.tx 10 p = t at *
      have HTx := Lib.hid HTx
      have HP := Lib.hid (fun w1 => RHParse_any U w1 hUz)
      rw [Hp.prs_eq] at HP
      have hyes := fun h => Hp.textH_yes (k := 3) (p := p) (nm := nm.data.toList) h
      have hno := fun h => Hp.textH_no (k := 3) (p := p) (nm := nm.data.toList) h
      rw [hUl] at hyes hno
      generalize Hp.textH 3 nm.data.toList p = T at *
      clear hUl hAl
      generalize Hp.prs U.data.toList = o at *
      unfold hostV
      cases o with
      | none =>
        have HT := Lib.hid (hno (by simp))
        clear hyes hno
        unfold prsV hostV at HP
        simp only at HP
        go_enter Tryz.func22, Tryz.ntmps22
        go_wp2_with fail
        refine (HTx.out _).mono ?_
        rintro e w1 ⟨rfl, m1, rfl⟩
        go_wp2_with fail
        refine (HP.out _).mono ?_
        rintro e w2 ⟨rfl, hb2⟩
        have d0 := below_cell hb2 (b := w.heap.size) (i := 0) (x := some (.int .i64 3)) (by simp) (by simp [go_sem])
        have d1 := below_cell hb2 (b := w.heap.size) (i := 1) (x := some (.string nm)) (by simp) (by simp [go_sem])
        have d2 := below_cell hb2 (b := w.heap.size) (i := 2) (x := some (.int .i64 p)) (by simp) (by simp [go_sem])
        have hl2 : w.heap.size < w2.heap.size := by have := hb2.size; simp at this; omega
        have HB2 := Lib.hid (((HB0.out (.cells #[.int .i64 3, .string nm, .int .i64 p] 27)).trans (below_drewN _ _ m1)).trans (hb2.mono (by simp)))
        clear hb2
        go_wp2_with fail
        go_ret2
        rw [HT.out]
        exact ⟨rfl, HB2.out.alloc HB2.out.size _⟩
      | some x =>
        obtain ⟨k2, n2, p2⟩ := x
        unfold prsV hostV at HP
        simp only at HP
        by_cases hq : some (k2, n2, p2) = some (3, nm.data.toList, p)
        · have HT := Lib.hid (hyes hq)
          simp only [Option.some.injEq, Prod.mk.injEq] at hq
          obtain ⟨hq1, hq2, hq3⟩ := hq
          rw [hq1, hq2, hq3, Hp.ofL_self] at HP
          clear hyes hno hq1 hq2 hq3
          go_enter Tryz.func22, Tryz.ntmps22
          go_wp2_with fail
          refine (HTx.out _).mono ?_
          rintro e w1 ⟨rfl, m1, rfl⟩
          go_wp2_with fail
          refine (HP.out _).mono ?_
          rintro e w2 ⟨rfl, hb2⟩
          have d0 := below_cell hb2 (b := w.heap.size) (i := 0) (x := some (.int .i64 3)) (by simp) (by simp [go_sem])
          have d1 := below_cell hb2 (b := w.heap.size) (i := 1) (x := some (.string nm)) (by simp) (by simp [go_sem])
          have d2 := below_cell hb2 (b := w.heap.size) (i := 2) (x := some (.int .i64 p)) (by simp) (by simp [go_sem])
          have hl2 : w.heap.size < w2.heap.size := by have := hb2.size; simp at this; omega
          have HB2 := Lib.hid (((HB0.out (.cells #[.int .i64 3, .string nm, .int .i64 p] 27)).trans (below_drewN _ _ m1)).trans (hb2.mono (by simp)))
          clear hb2
          go_wp2_with fail
          go_ret2
          refine ⟨?_, HB2.out.alloc HB2.out.size _⟩
          rw [HT.out]
          show Ending.returned (.tuple #[.string U, .int .i64 0]) = Ending.returned (.tuple #[.string ⟨U.data.toList.toArray⟩, .int .i64 0])
          rw [Hp.ofL_self]
        · have HT := Lib.hid (hno hq)
          have HQ := Lib.hid hq
          clear hyes hno hq
          go_enter Tryz.func22, Tryz.ntmps22
          go_wp2_with fail
          refine (HTx.out _).mono ?_
          rintro e w1 ⟨rfl, m1, rfl⟩
          go_wp2_with fail
          refine (HP.out _).mono ?_
          rintro e w2 ⟨rfl, hb2⟩
          have d0 := below_cell hb2 (b := w.heap.size) (i := 0) (x := some (.int .i64 3)) (by simp) (by simp [go_sem])
          have d1 := below_cell hb2 (b := w.heap.size) (i := 1) (x := some (.string nm)) (by simp) (by simp [go_sem])
          have d2 := below_cell hb2 (b := w.heap.size) (i := 2) (x := some (.int .i64 p)) (by simp) (by simp [go_sem])
          have hl2 : w.heap.size < w2.heap.size := by have := hb2.size; simp at this; omega
          have HB2 := Lib.hid (((HB0.out (.cells #[.int .i64 3, .string nm, .int .i64 p] 27)).trans (below_drewN _ _ m1)).trans (hb2.mono (by simp)))
          clear hb2
          go_wp2_with fail
          all_goals
            go_ret2
            refine ⟨?_, HB2.out.alloc HB2.out.size _⟩
            first
              | (rw [HT.out]; rfl)
              | (exfalso; apply HQ.out; simp_all [ByteArray.toList_eq])
  · have hk' : ¬ k = 3 := hk
    by_cases hq : p = -1
    · subst hq
      have hUl : Hp.writeL k nm.data.toList (-1) = nm.data.toList := by
        unfold Hp.writeL
        rw [if_neg hk, if_pos rfl, List.append_nil]
      have hUz : nm.size ≤ 900 := by omega
      have HP := Lib.hid (fun w1 => RHParse_any nm w1 hUz)
      rw [Hp.prs_eq] at HP
      have hyes := fun h => Hp.textH_yes (k := k) (p := (-1)) (nm := nm.data.toList) h
      have hno := fun h => Hp.textH_no (k := k) (p := (-1)) (nm := nm.data.toList) h
      rw [hUl] at hyes hno
      generalize Hp.textH k nm.data.toList (-1) = T at *
      clear hUl
      generalize Hp.prs nm.data.toList = o at *
      unfold hostV
      cases o with
      | none =>
        have HT := Lib.hid (hno (by simp))
        clear hyes hno
        unfold prsV hostV at HP
        simp only at HP
        go_enter Tryz.func22, Tryz.ntmps22
        go_wp2_with fail
        refine (HP.out _).mono ?_
        rintro e w2 ⟨rfl, hb2⟩
        have d0 := below_cell hb2 (b := w.heap.size) (i := 0) (x := some (.int .i64 k)) (by simp) (by simp [go_sem])
        have d1 := below_cell hb2 (b := w.heap.size) (i := 1) (x := some (.string nm)) (by simp) (by simp [go_sem])
        have d2 := below_cell hb2 (b := w.heap.size) (i := 2) (x := some (.int .i64 (-1))) (by simp) (by simp [go_sem])
        have hl2 : w.heap.size < w2.heap.size := by have := hb2.size; simp at this; omega
        have HB2 := Lib.hid ((HB0.out (.cells #[.int .i64 k, .string nm, .int .i64 (-1)] 27)).trans (hb2.mono (by simp)))
        clear hb2
        go_wp2_with fail
        go_ret2
        rw [HT.out]
        exact ⟨rfl, HB2.out.alloc HB2.out.size _⟩
      | some x =>
        obtain ⟨k2, n2, p2⟩ := x
        unfold prsV hostV at HP
        simp only at HP
        by_cases hq : some (k2, n2, p2) = some (k, nm.data.toList, (-1))
        · have HT := Lib.hid (hyes hq)
          simp only [Option.some.injEq, Prod.mk.injEq] at hq
          obtain ⟨hq1, hq2, hq3⟩ := hq
          rw [hq1, hq2, hq3, Hp.ofL_self] at HP
          clear hyes hno hq1 hq2 hq3
          go_enter Tryz.func22, Tryz.ntmps22
          go_wp2_with fail
          refine (HP.out _).mono ?_
          rintro e w2 ⟨rfl, hb2⟩
          have d0 := below_cell hb2 (b := w.heap.size) (i := 0) (x := some (.int .i64 k)) (by simp) (by simp [go_sem])
          have d1 := below_cell hb2 (b := w.heap.size) (i := 1) (x := some (.string nm)) (by simp) (by simp [go_sem])
          have d2 := below_cell hb2 (b := w.heap.size) (i := 2) (x := some (.int .i64 (-1))) (by simp) (by simp [go_sem])
          have hl2 : w.heap.size < w2.heap.size := by have := hb2.size; simp at this; omega
          have HB2 := Lib.hid ((HB0.out (.cells #[.int .i64 k, .string nm, .int .i64 (-1)] 27)).trans (hb2.mono (by simp)))
          clear hb2
          go_wp2_with fail
          go_ret2
          refine ⟨?_, HB2.out.alloc HB2.out.size _⟩
          rw [HT.out]
          show Ending.returned (.tuple #[.string nm, .int .i64 0]) = Ending.returned (.tuple #[.string ⟨nm.data.toList.toArray⟩, .int .i64 0])
          rw [Hp.ofL_self]
        · have HT := Lib.hid (hno hq)
          have HQ := Lib.hid hq
          clear hyes hno hq
          go_enter Tryz.func22, Tryz.ntmps22
          go_wp2_with fail
          refine (HP.out _).mono ?_
          rintro e w2 ⟨rfl, hb2⟩
          have d0 := below_cell hb2 (b := w.heap.size) (i := 0) (x := some (.int .i64 k)) (by simp) (by simp [go_sem])
          have d1 := below_cell hb2 (b := w.heap.size) (i := 1) (x := some (.string nm)) (by simp) (by simp [go_sem])
          have d2 := below_cell hb2 (b := w.heap.size) (i := 2) (x := some (.int .i64 (-1))) (by simp) (by simp [go_sem])
          have hl2 : w.heap.size < w2.heap.size := by have := hb2.size; simp at this; omega
          have HB2 := Lib.hid ((HB0.out (.cells #[.int .i64 k, .string nm, .int .i64 (-1)] 27)).trans (hb2.mono (by simp)))
          clear hb2
          go_wp2_with fail
          all_goals
            go_ret2
            refine ⟨?_, HB2.out.alloc HB2.out.size _⟩
            first
              | (rw [HT.out]; rfl)
              | (exfalso; apply HQ.out; simp_all [ByteArray.toList_eq])
    · skip
      have hq' : ¬ p = -1 := hq
      obtain ⟨U, hU⟩ : ∃ U, nm ++ (⟨#[58]⟩ : ByteArray) ++ Nu.tx 10 p = U := ⟨_, rfl⟩
      have htz := Nu.tx_size 10 (by omega) p hp
      have hUl : Hp.writeL k nm.data.toList p = U.data.toList := by
        unfold Hp.writeL
        rw [if_neg hk, if_neg hq, ← hU, list_append, list_append]
        simp
      have hUz : U.size ≤ 900 := by
        rw [← hU]
        simp only [ByteArray.size_append, show (⟨#[58]⟩ : ByteArray).size = 1 from rfl]
        omega
      have HTx := fun w => RText_any 10 (by omega) (by omega) p hp w
      rw [show ((10 : Nat) : Int) = 10 from rfl] at HTx
      generalize Nu.tx 10 p = t at *
      have HTx := Lib.hid HTx
      have HP := Lib.hid (fun w1 => RHParse_any U w1 hUz)
      rw [Hp.prs_eq] at HP
      have hyes := fun h => Hp.textH_yes (k := k) (p := p) (nm := nm.data.toList) h
      have hno := fun h => Hp.textH_no (k := k) (p := p) (nm := nm.data.toList) h
      rw [hUl] at hyes hno
      generalize Hp.textH k nm.data.toList p = T at *
      clear hUl
      generalize Hp.prs U.data.toList = o at *
      unfold hostV
      cases o with
      | none =>
        have HT := Lib.hid (hno (by simp))
        clear hyes hno
        unfold prsV hostV at HP
        simp only at HP
        go_enter Tryz.func22, Tryz.ntmps22
        go_wp2_with fail
        refine (HTx.out _).mono ?_
        rintro e w1 ⟨rfl, m1, rfl⟩
        go_wp2_with fail
        refine (HP.out _).mono ?_
        rintro e w2 ⟨rfl, hb2⟩
        have d0 := below_cell hb2 (b := w.heap.size) (i := 0) (x := some (.int .i64 k)) (by simp) (by simp [go_sem])
        have d1 := below_cell hb2 (b := w.heap.size) (i := 1) (x := some (.string nm)) (by simp) (by simp [go_sem])
        have d2 := below_cell hb2 (b := w.heap.size) (i := 2) (x := some (.int .i64 p)) (by simp) (by simp [go_sem])
        have hl2 : w.heap.size < w2.heap.size := by have := hb2.size; simp at this; omega
        have HB2 := Lib.hid (((HB0.out (.cells #[.int .i64 k, .string nm, .int .i64 p] 27)).trans (below_drewN _ _ m1)).trans (hb2.mono (by simp)))
        clear hb2
        go_wp2_with fail
        go_ret2
        rw [HT.out]
        exact ⟨rfl, HB2.out.alloc HB2.out.size _⟩
      | some x =>
        obtain ⟨k2, n2, p2⟩ := x
        unfold prsV hostV at HP
        simp only at HP
        by_cases hq : some (k2, n2, p2) = some (k, nm.data.toList, p)
        · have HT := Lib.hid (hyes hq)
          simp only [Option.some.injEq, Prod.mk.injEq] at hq
          obtain ⟨hq1, hq2, hq3⟩ := hq
          rw [hq1, hq2, hq3, Hp.ofL_self] at HP
          clear hyes hno hq1 hq2 hq3
          go_enter Tryz.func22, Tryz.ntmps22
          go_wp2_with fail
          refine (HTx.out _).mono ?_
          rintro e w1 ⟨rfl, m1, rfl⟩
          go_wp2_with fail
          refine (HP.out _).mono ?_
          rintro e w2 ⟨rfl, hb2⟩
          have d0 := below_cell hb2 (b := w.heap.size) (i := 0) (x := some (.int .i64 k)) (by simp) (by simp [go_sem])
          have d1 := below_cell hb2 (b := w.heap.size) (i := 1) (x := some (.string nm)) (by simp) (by simp [go_sem])
          have d2 := below_cell hb2 (b := w.heap.size) (i := 2) (x := some (.int .i64 p)) (by simp) (by simp [go_sem])
          have hl2 : w.heap.size < w2.heap.size := by have := hb2.size; simp at this; omega
          have HB2 := Lib.hid (((HB0.out (.cells #[.int .i64 k, .string nm, .int .i64 p] 27)).trans (below_drewN _ _ m1)).trans (hb2.mono (by simp)))
          clear hb2
          go_wp2_with fail
          go_ret2
          refine ⟨?_, HB2.out.alloc HB2.out.size _⟩
          rw [HT.out]
          show Ending.returned (.tuple #[.string U, .int .i64 0]) = Ending.returned (.tuple #[.string ⟨U.data.toList.toArray⟩, .int .i64 0])
          rw [Hp.ofL_self]
        · have HT := Lib.hid (hno hq)
          have HQ := Lib.hid hq
          clear hyes hno hq
          go_enter Tryz.func22, Tryz.ntmps22
          go_wp2_with fail
          refine (HTx.out _).mono ?_
          rintro e w1 ⟨rfl, m1, rfl⟩
          go_wp2_with fail
          refine (HP.out _).mono ?_
          rintro e w2 ⟨rfl, hb2⟩
          have d0 := below_cell hb2 (b := w.heap.size) (i := 0) (x := some (.int .i64 k)) (by simp) (by simp [go_sem])
          have d1 := below_cell hb2 (b := w.heap.size) (i := 1) (x := some (.string nm)) (by simp) (by simp [go_sem])
          have d2 := below_cell hb2 (b := w.heap.size) (i := 2) (x := some (.int .i64 p)) (by simp) (by simp [go_sem])
          have hl2 : w.heap.size < w2.heap.size := by have := hb2.size; simp at this; omega
          have HB2 := Lib.hid (((HB0.out (.cells #[.int .i64 k, .string nm, .int .i64 p] 27)).trans (below_drewN _ _ m1)).trans (hb2.mono (by simp)))
          clear hb2
          go_wp2_with fail
          all_goals
            go_ret2
            refine ⟨?_, HB2.out.alloc HB2.out.size _⟩
            first
              | (rw [HT.out]; rfl)
              | (exfalso; apply HQ.out; simp_all [ByteArray.toList_eq])
end Go.Proofs.YtnpbnlphmngbdaaGreatDoor
