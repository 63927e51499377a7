/- One deed of the law: contracts. -/
import Derived.Test.YtahbcaafdnbcfaaScanG
namespace Go.Proofs.Ytahbcaafdnbcfaa
open Go.RowKit

set_option maxHeartbeats 1000000 in
set_option maxRecDepth 100000 in
theorem do_1 (v : Value) (s : ByteArray) (k : Nat) (x : ByteArray) (n kind : Int) (w : World) (h : IsScan v s k w) (hs : s.size ≤ 100000) (hx : x.size ≤ maxLen) (hn0 : 0 ≤ kind) (hn1 : kind ≤ 255) (hk : kind % 8 = 1) :
    Calls Try.prog 8 #[v, scanV s k, .agg #[.int .u8 kind, .string x, .int .i64 n]] w (Done v s w) := by
  unfold scanV
  unfold maxLen at hx
  have HS := Lib.hid h
  have hle := h.le
  have hnew : ∀ j, w.heap.size ≤ j → ¬ ownScan v j := fun j hj ho => by have := h.own_lt ho; omega
  clear h
  rcases Nat.lt_or_ge 20 x.size with hx20 | hx20
  all_goals
    go_enter Try.func8, Try.ntmps8
    go_wp2_with fail
    refine (Blanks_v v s k _ (HS.out.below (by repeat (first | with_reducible exact Below.refl _ _ | with_reducible assumption | (with_reducible refine Below.setCell ?_ ?_ _; rotate_left; · (simp <;> omega)) | (with_reducible refine Below.alloc ?_ ?_ _; rotate_left; · (simp <;> omega)) | with_reducible refine Below.drew ?_))) hs).mono ?_
    rintro e w1 ⟨rfl, hs1, hk1⟩
    have hz1 : w.heap.size + 1 + 1 + 1 ≤ w1.heap.size := by have := hk1.size; simp at this; omega
    have r0 := hk1.at_cell (b := w.heap.size) (i := 0) (x := some (.string s)) (by simp <;> omega) (hnew _ (by omega)) (by simp [go_sem])
    have r1 := hk1.at_cell (b := w.heap.size) (i := 1) (x := some (.int .i64 k)) (by simp <;> omega) (hnew _ (by omega)) (by simp [go_sem])
    have g0 := hk1.at_frozen (b := w.heap.size) (i := 0) (x := false) (by simp <;> omega) (hnew _ (by omega)) (by simp [go_sem])
    have g1 := hk1.at_frozen (b := w.heap.size) (i := 1) (x := false) (by simp <;> omega) (hnew _ (by omega)) (by simp [go_sem])
    have t0 := hk1.at_cell (b := w.heap.size + 1 + 1) (i := 0) (x := some (.string ByteArray.empty)) (by simp) (hnew _ (by omega)) (by simp [go_sem]; rfl)
    have t1 := hk1.at_cell (b := w.heap.size + 1 + 1) (i := 1) (x := some (.int .i64 0)) (by simp) (hnew _ (by omega)) (by simp [go_sem])
    have q0 := hk1.at_frozen (b := w.heap.size + 1 + 1) (i := 0) (x := false) (by simp) (hnew _ (by omega)) (by simp [go_sem])
    have q1 := hk1.at_frozen (b := w.heap.size + 1 + 1) (i := 1) (x := false) (by simp) (hnew _ (by omega)) (by simp [go_sem])
    have hK1 : Kept (ownScan v) w w1 := Kept.trans (by repeat (first | with_reducible exact Kept.refl _ _ | with_reducible assumption | (with_reducible refine Kept.setCellR ?_ ?_ _; rotate_left; · (simp <;> omega)) | with_reducible refine Kept.alloc ?_ _ | with_reducible refine Kept.drew ?_ | with_reducible refine Kept.drewN ?_ _)) hk1
    clear hk1
    go_wp2_with fail
    refine (RWhile_any s k 1 _ hle (by unfold maxLen; omega)).mono ?_
    rintro e w2 ⟨rfl, hb2⟩
    rw [clsB1]
    unfold scanV
    have r0 := below_cell hb2 (by omega) r0
    have r1 := below_cell hb2 (by omega) r1
    have g0 := below_frozen hb2 (by omega) g0
    have g1 := below_frozen hb2 (by omega) g1
    have t0 := below_cell hb2 (by omega) t0
    have t1 := below_cell hb2 (by omega) t1
    have q0 := below_frozen hb2 (by omega) q0
    have q1 := below_frozen hb2 (by omega) q1
    have hz2 : w.heap.size + 1 + 1 + 1 ≤ w2.heap.size := by have := hb2.size; omega
    have hs2 := hs1.below hb2
    have hK2 := hK1.trans (Kept.of_below hb2)
    have l0 : w.heap.size < w2.heap.size := by omega
    have l1 : w.heap.size + 1 < w2.heap.size := by omega
    have l2 : w.heap.size + 1 + 1 < w2.heap.size := by omega
    clear hb2 hK1 hs1 hz1
    have hml := runLen_le B.bla s k hle
    generalize runLen B.bla s k = m at *
    go_wp2
    exact bodyPost_ret (v := .tuple #[.agg #[.string s, .int .i64 (k + m : Nat)], .int .i64 0]) (by simp [results, Try.results8, go_sem, t0, t1, l0, l1, l2]) rfl ⟨k + m, rfl,
      hs2.kept (P := fun j => w.heap.size ≤ j) (by repeat (first | with_reducible exact Kept.refl _ _ | with_reducible assumption | (with_reducible refine Kept.setCellL ?_ ?_ _; rotate_left; · (simp <;> omega)) | with_reducible refine Kept.alloc ?_ _ | with_reducible refine Kept.drew ?_ | with_reducible refine Kept.drewN ?_ _)) (fun j hj hge => hnew j hge hj),
      (by repeat (first | with_reducible exact Kept.refl _ _ | with_reducible assumption | (with_reducible refine Kept.setCellR ?_ ?_ _; rotate_left; · (simp <;> omega)) | with_reducible refine Kept.alloc ?_ _ | with_reducible refine Kept.drew ?_ | with_reducible refine Kept.drewN ?_ _))⟩
set_option maxHeartbeats 1000000 in
set_option maxRecDepth 100000 in
theorem do_2 (v : Value) (s : ByteArray) (k : Nat) (x : ByteArray) (n kind : Int) (w : World) (h : IsScan v s k w) (hs : s.size ≤ 100000) (hx : x.size ≤ maxLen) (hn0 : 0 ≤ kind) (hn1 : kind ≤ 255) (hk : kind % 8 = 2) :
    Calls Try.prog 8 #[v, scanV s k, .agg #[.int .u8 kind, .string x, .int .i64 n]] w (Done v s w) := by
  unfold scanV
  unfold maxLen at hx
  have HS := Lib.hid h
  have hle := h.le
  have hnew : ∀ j, w.heap.size ≤ j → ¬ ownScan v j := fun j hj ho => by have := h.own_lt ho; omega
  clear h
  rcases Nat.lt_or_ge 20 x.size with hx20 | hx20
  all_goals
    go_enter Try.func8, Try.ntmps8
    go_wp2_with fail
    refine (WhileDig_v v s k _ (HS.out.below (by repeat (first | with_reducible exact Below.refl _ _ | with_reducible assumption | (with_reducible refine Below.setCell ?_ ?_ _; rotate_left; · (simp <;> omega)) | (with_reducible refine Below.alloc ?_ ?_ _; rotate_left; · (simp <;> omega)) | with_reducible refine Below.drew ?_))) hs).mono ?_
    rintro e w1 ⟨rfl, hs1, hk1⟩
    have hz1 : w.heap.size + 1 + 1 + 1 ≤ w1.heap.size := by have := hk1.size; simp at this; omega
    have r0 := hk1.at_cell (b := w.heap.size) (i := 0) (x := some (.string s)) (by simp <;> omega) (hnew _ (by omega)) (by simp [go_sem])
    have r1 := hk1.at_cell (b := w.heap.size) (i := 1) (x := some (.int .i64 k)) (by simp <;> omega) (hnew _ (by omega)) (by simp [go_sem])
    have g0 := hk1.at_frozen (b := w.heap.size) (i := 0) (x := false) (by simp <;> omega) (hnew _ (by omega)) (by simp [go_sem])
    have g1 := hk1.at_frozen (b := w.heap.size) (i := 1) (x := false) (by simp <;> omega) (hnew _ (by omega)) (by simp [go_sem])
    have t0 := hk1.at_cell (b := w.heap.size + 1 + 1) (i := 0) (x := some (.string ByteArray.empty)) (by simp) (hnew _ (by omega)) (by simp [go_sem]; rfl)
    have t1 := hk1.at_cell (b := w.heap.size + 1 + 1) (i := 1) (x := some (.int .i64 0)) (by simp) (hnew _ (by omega)) (by simp [go_sem])
    have q0 := hk1.at_frozen (b := w.heap.size + 1 + 1) (i := 0) (x := false) (by simp) (hnew _ (by omega)) (by simp [go_sem])
    have q1 := hk1.at_frozen (b := w.heap.size + 1 + 1) (i := 1) (x := false) (by simp) (hnew _ (by omega)) (by simp [go_sem])
    have hK1 : Kept (ownScan v) w w1 := Kept.trans (by repeat (first | with_reducible exact Kept.refl _ _ | with_reducible assumption | (with_reducible refine Kept.setCellR ?_ ?_ _; rotate_left; · (simp <;> omega)) | with_reducible refine Kept.alloc ?_ _ | with_reducible refine Kept.drew ?_ | with_reducible refine Kept.drewN ?_ _)) hk1
    clear hk1
    go_wp2_with fail
    refine (RWhile_any s k 2 _ hle (by unfold maxLen; omega)).mono ?_
    rintro e w2 ⟨rfl, hb2⟩
    rw [clsB2]
    unfold scanV
    have r0 := below_cell hb2 (by omega) r0
    have r1 := below_cell hb2 (by omega) r1
    have g0 := below_frozen hb2 (by omega) g0
    have g1 := below_frozen hb2 (by omega) g1
    have t0 := below_cell hb2 (by omega) t0
    have t1 := below_cell hb2 (by omega) t1
    have q0 := below_frozen hb2 (by omega) q0
    have q1 := below_frozen hb2 (by omega) q1
    have hz2 : w.heap.size + 1 + 1 + 1 ≤ w2.heap.size := by have := hb2.size; omega
    have hs2 := hs1.below hb2
    have hK2 := hK1.trans (Kept.of_below hb2)
    have l0 : w.heap.size < w2.heap.size := by omega
    have l1 : w.heap.size + 1 < w2.heap.size := by omega
    have l2 : w.heap.size + 1 + 1 < w2.heap.size := by omega
    clear hb2 hK1 hs1 hz1
    have hml := runLen_le B.dig s k hle
    generalize runLen B.dig s k = m at *
    go_wp2
    exact bodyPost_ret (v := .tuple #[.agg #[.string s, .int .i64 (k + m : Nat)], .int .i64 0]) (by simp [results, Try.results8, go_sem, t0, t1, l0, l1, l2]) rfl ⟨k + m, rfl,
      hs2.kept (P := fun j => w.heap.size ≤ j) (by repeat (first | with_reducible exact Kept.refl _ _ | with_reducible assumption | (with_reducible refine Kept.setCellL ?_ ?_ _; rotate_left; · (simp <;> omega)) | with_reducible refine Kept.alloc ?_ _ | with_reducible refine Kept.drew ?_ | with_reducible refine Kept.drewN ?_ _)) (fun j hj hge => hnew j hge hj),
      (by repeat (first | with_reducible exact Kept.refl _ _ | with_reducible assumption | (with_reducible refine Kept.setCellR ?_ ?_ _; rotate_left; · (simp <;> omega)) | with_reducible refine Kept.alloc ?_ _ | with_reducible refine Kept.drew ?_ | with_reducible refine Kept.drewN ?_ _))⟩
end Go.Proofs.Ytahbcaafdnbcfaa
