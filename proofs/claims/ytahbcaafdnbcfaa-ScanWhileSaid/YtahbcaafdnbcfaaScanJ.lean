/- One deed of the law: contracts. -/
import Derived.Test.YtahbcaafdnbcfaaScanG
namespace Go.Proofs.Ytahbcaafdnbcfaa
open Go.RowKit

set_option maxHeartbeats 2000000 in
set_option maxRecDepth 100000 in
theorem do_5 (v : Value) (s : ByteArray) (k : Nat) (x : ByteArray) (n kind : Int) (w : World) (h : IsScan v s k w) (hs : s.size ≤ 100000) (hx : x.size ≤ maxLen) (hn0 : 0 ≤ kind) (hn1 : kind ≤ 255) (hk : kind % 8 = 5) :
    Calls Try.prog 8 #[v, scanV s k, .agg #[.int .u8 kind, .string x, .int .i64 n]] w (Done v s w) := by
  unfold scanV
  unfold maxLen at hx
  have HS := Lib.hid h
  have hle := h.le
  have hnew : ∀ j, w.heap.size ≤ j → ¬ ownScan v j := fun j hj ho => by have := h.own_lt ho; omega
  clear h
  have hcases : n < 0 ∨ (0 ≤ n ∧ (k : Int) < n) ∨ (0 ≤ n ∧ n ≤ k) := by omega
  rcases hcases with hn | ⟨hna, hnb⟩ | ⟨hna, hnb⟩
  · have HB : Hid (backOk n k = false) := by show _ = _; unfold backOk; simp; omega
    have e0 : decide (0 ≤ n) = false := by simpa using hn
    rcases Nat.lt_or_ge 20 x.size with hx20 | hx20
    all_goals
      go_enter Try.func8, Try.ntmps8
      go_wp2_with fail
      refine (Back_v v s k n _ (HS.out.below (by repeat (first | with_reducible exact Below.refl _ _ | with_reducible assumption | (with_reducible refine Below.setCell ?_ ?_ _; rotate_left; · (simp <;> omega)) | (with_reducible refine Below.alloc ?_ ?_ _; rotate_left; · (simp <;> omega)) | with_reducible refine Below.drew ?_)))).mono ?_
      rintro e w2 ⟨rfl, hs2, hk1⟩
      have hz1 : w.heap.size + 1 + 1 + 1 ≤ w2.heap.size := by have := hk1.size; simp at this; omega
      have r0 := hk1.at_cell (b := w.heap.size) (i := 0) (x := some (.string s)) (by simp <;> omega) (hnew _ (by omega)) (by simp [go_sem])
      have r1 := hk1.at_cell (b := w.heap.size) (i := 1) (x := some (.int .i64 k)) (by simp <;> omega) (hnew _ (by omega)) (by simp [go_sem])
      have t0 := hk1.at_cell (b := w.heap.size + 1 + 1) (i := 0) (x := some (.string ByteArray.empty)) (by simp <;> omega) (hnew _ (by omega)) (by simp [go_sem]; rfl)
      have t1 := hk1.at_cell (b := w.heap.size + 1 + 1) (i := 1) (x := some (.int .i64 0)) (by simp <;> omega) (hnew _ (by omega)) (by simp [go_sem])
      have g0 := hk1.at_frozen (b := w.heap.size) (i := 0) (x := false) (by simp <;> omega) (hnew _ (by omega)) (by simp [go_sem])
      have g1 := hk1.at_frozen (b := w.heap.size) (i := 1) (x := false) (by simp <;> omega) (hnew _ (by omega)) (by simp [go_sem])
      have q0 := hk1.at_frozen (b := w.heap.size + 1 + 1) (i := 0) (x := false) (by simp <;> omega) (hnew _ (by omega)) (by simp [go_sem])
      have q1 := hk1.at_frozen (b := w.heap.size + 1 + 1) (i := 1) (x := false) (by simp <;> omega) (hnew _ (by omega)) (by simp [go_sem])
      have d2 := hk1.at_cell (b := w.heap.size + 1) (i := 2) (x := some (.int .i64 n)) (by simp <;> omega) (hnew _ (by omega)) (by simp [go_sem])
      have hK2 : Kept (ownScan v) w w2 := Kept.trans (by repeat (first | with_reducible exact Kept.refl _ _ | with_reducible assumption | (with_reducible refine Kept.setCellR ?_ ?_ _; rotate_left; · (simp <;> omega)) | with_reducible refine Kept.alloc ?_ _ | with_reducible refine Kept.drew ?_ | with_reducible refine Kept.drewN ?_ _)) hk1
      clear hk1
      have l0 : w.heap.size < w2.heap.size := by omega
      have l1 : w.heap.size + 1 < w2.heap.size := by omega
      have l2 : w.heap.size + 1 + 1 < w2.heap.size := by omega
      rw [HB.out] at hs2 ⊢
      simp only [Bool.false_eq_true, if_false, if_true] at hs2
      go_wp2
      exact bodyPost_ret (v := .tuple #[.agg #[.string s, .int .i64 (k : Nat)], .int .i64 0]) (by simp [results, Try.results8, go_sem, t0, t1, l0, l1, l2]) rfl ⟨k, rfl,
          hs2.kept (P := fun j => w.heap.size ≤ j) (by repeat (first | with_reducible exact Kept.refl _ _ | with_reducible assumption | (with_reducible refine Kept.setCellL ?_ ?_ _; rotate_left; · (simp <;> omega)) | with_reducible refine Kept.alloc ?_ _ | with_reducible refine Kept.drew ?_ | with_reducible refine Kept.drewN ?_ _)) (fun j hj hge => hnew j hge hj),
          (by repeat (first | with_reducible exact Kept.refl _ _ | with_reducible assumption | (with_reducible refine Kept.setCellR ?_ ?_ _; rotate_left; · (simp <;> omega)) | with_reducible refine Kept.alloc ?_ _ | with_reducible refine Kept.drew ?_ | with_reducible refine Kept.drewN ?_ _))⟩
  · have HB : Hid (backOk n k = false) := by show _ = _; unfold backOk; simp; omega
    have e0 : decide (0 ≤ n) = true := by simpa using hna
    have e1 : decide (n ≤ (k : Int)) = false := by simpa using hnb
    rcases Nat.lt_or_ge 20 x.size with hx20 | hx20
    all_goals
      go_enter Try.func8, Try.ntmps8
      go_wp2_with fail
      refine (Back_v v s k n _ (HS.out.below (by repeat (first | with_reducible exact Below.refl _ _ | with_reducible assumption | (with_reducible refine Below.setCell ?_ ?_ _; rotate_left; · (simp <;> omega)) | (with_reducible refine Below.alloc ?_ ?_ _; rotate_left; · (simp <;> omega)) | with_reducible refine Below.drew ?_)))).mono ?_
      rintro e w2 ⟨rfl, hs2, hk1⟩
      have hz1 : w.heap.size + 1 + 1 + 1 ≤ w2.heap.size := by have := hk1.size; simp at this; omega
      have r0 := hk1.at_cell (b := w.heap.size) (i := 0) (x := some (.string s)) (by simp <;> omega) (hnew _ (by omega)) (by simp [go_sem])
      have r1 := hk1.at_cell (b := w.heap.size) (i := 1) (x := some (.int .i64 k)) (by simp <;> omega) (hnew _ (by omega)) (by simp [go_sem])
      have t0 := hk1.at_cell (b := w.heap.size + 1 + 1) (i := 0) (x := some (.string ByteArray.empty)) (by simp <;> omega) (hnew _ (by omega)) (by simp [go_sem]; rfl)
      have t1 := hk1.at_cell (b := w.heap.size + 1 + 1) (i := 1) (x := some (.int .i64 0)) (by simp <;> omega) (hnew _ (by omega)) (by simp [go_sem])
      have g0 := hk1.at_frozen (b := w.heap.size) (i := 0) (x := false) (by simp <;> omega) (hnew _ (by omega)) (by simp [go_sem])
      have g1 := hk1.at_frozen (b := w.heap.size) (i := 1) (x := false) (by simp <;> omega) (hnew _ (by omega)) (by simp [go_sem])
      have q0 := hk1.at_frozen (b := w.heap.size + 1 + 1) (i := 0) (x := false) (by simp <;> omega) (hnew _ (by omega)) (by simp [go_sem])
      have q1 := hk1.at_frozen (b := w.heap.size + 1 + 1) (i := 1) (x := false) (by simp <;> omega) (hnew _ (by omega)) (by simp [go_sem])
      have d2 := hk1.at_cell (b := w.heap.size + 1) (i := 2) (x := some (.int .i64 n)) (by simp <;> omega) (hnew _ (by omega)) (by simp [go_sem])
      have hK2 : Kept (ownScan v) w w2 := Kept.trans (by repeat (first | with_reducible exact Kept.refl _ _ | with_reducible assumption | (with_reducible refine Kept.setCellR ?_ ?_ _; rotate_left; · (simp <;> omega)) | with_reducible refine Kept.alloc ?_ _ | with_reducible refine Kept.drew ?_ | with_reducible refine Kept.drewN ?_ _)) hk1
      clear hk1
      have l0 : w.heap.size < w2.heap.size := by omega
      have l1 : w.heap.size + 1 < w2.heap.size := by omega
      have l2 : w.heap.size + 1 + 1 < w2.heap.size := by omega
      rw [HB.out] at hs2 ⊢
      simp only [Bool.false_eq_true, if_false, if_true] at hs2
      go_wp2
      exact bodyPost_ret (v := .tuple #[.agg #[.string s, .int .i64 (k : Nat)], .int .i64 0]) (by simp [results, Try.results8, go_sem, t0, t1, l0, l1, l2]) rfl ⟨k, rfl,
          hs2.kept (P := fun j => w.heap.size ≤ j) (by repeat (first | with_reducible exact Kept.refl _ _ | with_reducible assumption | (with_reducible refine Kept.setCellL ?_ ?_ _; rotate_left; · (simp <;> omega)) | with_reducible refine Kept.alloc ?_ _ | with_reducible refine Kept.drew ?_ | with_reducible refine Kept.drewN ?_ _)) (fun j hj hge => hnew j hge hj),
          (by repeat (first | with_reducible exact Kept.refl _ _ | with_reducible assumption | (with_reducible refine Kept.setCellR ?_ ?_ _; rotate_left; · (simp <;> omega)) | with_reducible refine Kept.alloc ?_ _ | with_reducible refine Kept.drew ?_ | with_reducible refine Kept.drewN ?_ _))⟩
  · have HB : Hid (backOk n k = true) := by show _ = _; unfold backOk; simp; omega
    have e0 : decide (0 ≤ n) = true := by simpa using hna
    have e1 : decide (n ≤ (k : Int)) = true := by simpa using hnb
    obtain ⟨j, rfl⟩ := Int.eq_ofNat_of_zero_le (show 0 ≤ n by omega)
    rcases Nat.lt_or_ge 20 x.size with hx20 | hx20
    all_goals
      go_enter Try.func8, Try.ntmps8
      go_wp2_with fail
      refine (Back_v v s k (j : Int) _ (HS.out.below (by repeat (first | with_reducible exact Below.refl _ _ | with_reducible assumption | (with_reducible refine Below.setCell ?_ ?_ _; rotate_left; · (simp <;> omega)) | (with_reducible refine Below.alloc ?_ ?_ _; rotate_left; · (simp <;> omega)) | with_reducible refine Below.drew ?_)))).mono ?_
      rintro e w2 ⟨rfl, hs2, hk1⟩
      have hz1 : w.heap.size + 1 + 1 + 1 ≤ w2.heap.size := by have := hk1.size; simp at this; omega
      have r0 := hk1.at_cell (b := w.heap.size) (i := 0) (x := some (.string s)) (by simp <;> omega) (hnew _ (by omega)) (by simp [go_sem])
      have r1 := hk1.at_cell (b := w.heap.size) (i := 1) (x := some (.int .i64 k)) (by simp <;> omega) (hnew _ (by omega)) (by simp [go_sem])
      have t0 := hk1.at_cell (b := w.heap.size + 1 + 1) (i := 0) (x := some (.string ByteArray.empty)) (by simp <;> omega) (hnew _ (by omega)) (by simp [go_sem]; rfl)
      have t1 := hk1.at_cell (b := w.heap.size + 1 + 1) (i := 1) (x := some (.int .i64 0)) (by simp <;> omega) (hnew _ (by omega)) (by simp [go_sem])
      have g0 := hk1.at_frozen (b := w.heap.size) (i := 0) (x := false) (by simp <;> omega) (hnew _ (by omega)) (by simp [go_sem])
      have g1 := hk1.at_frozen (b := w.heap.size) (i := 1) (x := false) (by simp <;> omega) (hnew _ (by omega)) (by simp [go_sem])
      have q0 := hk1.at_frozen (b := w.heap.size + 1 + 1) (i := 0) (x := false) (by simp <;> omega) (hnew _ (by omega)) (by simp [go_sem])
      have q1 := hk1.at_frozen (b := w.heap.size + 1 + 1) (i := 1) (x := false) (by simp <;> omega) (hnew _ (by omega)) (by simp [go_sem])
      have d2 := hk1.at_cell (b := w.heap.size + 1) (i := 2) (x := some (.int .i64 j)) (by simp <;> omega) (hnew _ (by omega)) (by simp [go_sem])
      have hK2 : Kept (ownScan v) w w2 := Kept.trans (by repeat (first | with_reducible exact Kept.refl _ _ | with_reducible assumption | (with_reducible refine Kept.setCellR ?_ ?_ _; rotate_left; · (simp <;> omega)) | with_reducible refine Kept.alloc ?_ _ | with_reducible refine Kept.drew ?_ | with_reducible refine Kept.drewN ?_ _)) hk1
      clear hk1
      have l0 : w.heap.size < w2.heap.size := by omega
      have l1 : w.heap.size + 1 < w2.heap.size := by omega
      have l2 : w.heap.size + 1 + 1 < w2.heap.size := by omega
      rw [HB.out] at hs2 ⊢
      simp only [Bool.false_eq_true, if_false, if_true] at hs2
      rw [Int.toNat_natCast] at hs2
      go_wp2
      exact bodyPost_ret (v := .tuple #[.agg #[.string s, .int .i64 (j : Nat)], .int .i64 0]) (by simp [results, Try.results8, go_sem, t0, t1, l0, l1, l2]) rfl ⟨j, rfl,
          hs2.kept (P := fun j => w.heap.size ≤ j) (by repeat (first | with_reducible exact Kept.refl _ _ | with_reducible assumption | (with_reducible refine Kept.setCellL ?_ ?_ _; rotate_left; · (simp <;> omega)) | with_reducible refine Kept.alloc ?_ _ | with_reducible refine Kept.drew ?_ | with_reducible refine Kept.drewN ?_ _)) (fun j hj hge => hnew j hge hj),
          (by repeat (first | with_reducible exact Kept.refl _ _ | with_reducible assumption | (with_reducible refine Kept.setCellR ?_ ?_ _; rotate_left; · (simp <;> omega)) | with_reducible refine Kept.alloc ?_ _ | with_reducible refine Kept.drew ?_ | with_reducible refine Kept.drewN ?_ _))⟩
end Go.Proofs.Ytahbcaafdnbcfaa
