/- One deed of the law: contracts. -/
import Derived.Test.YtahbcaafdnbcfaaScanG
import Derived.Deep.RegionHeld3
namespace Go.Proofs.Ytahbcaafdnbcfaa
open Go.RowKit

theorem begAt_one (s : ByteArray) (k : Nat) (y : ByteArray) (hk : k ≤ s.size) (hp : 0 < y.size) : begAt s k (y.extract 0 1) = decide (k < s.size ∧ byteAt s k = byteAt y 0) := by
  have hp' : 0 < y.data.toList.length := by simpa using hp
  obtain ⟨a, r, hy⟩ := List.exists_cons_of_length_pos hp'
  have e1 : (y.extract 0 1).data.toList = [a] := by
    rw [ByteArray.data_extract, Array.toList_extract, List.extract_eq_take_drop, hy]; rfl
  have e2 : byteAt y 0 = (a.toNat : Int) := by unfold byteAt; rw [hy]; rfl
  unfold begAt beg
  rw [e1, restS_list, e2]
  by_cases hlt : k < s.size
  · have hlt' : k < s.data.toList.length := by simpa using hlt
    have e3 : byteAt s k = ((s.data.toList[k]).toNat : Int) := by
      unfold byteAt
      rw [List.getD_eq_getElem?_getD, List.getElem?_eq_getElem hlt']
      rfl
    rw [List.drop_eq_getElem_cons hlt', e3]
    generalize s.data.toList[k] = c
    have e4 : (List.isPrefixOf [a] (c :: s.data.toList.drop (k + 1))) = (a == c) := by simp [List.isPrefixOf]
    rw [e4, Bool.eq_iff_iff]
    simp only [beq_iff_eq, decide_eq_true_eq]
    constructor
    · rintro rfl; exact ⟨hlt, rfl⟩
    · rintro ⟨_, h⟩
      exact UInt8.toNat_inj.1 (by omega)
  · rw [List.drop_eq_nil_of_le (by simp; omega)]
    simp [hlt]
theorem RTake_hit (s : ByteArray) (k : Nat) (y : ByteArray) (w : World) (hk : k ≤ s.size) (hs : s.size ≤ maxLen) (hp : 0 < y.size) (hy : y.size ≤ 20) (h : k < s.size ∧ byteAt s k = byteAt y 0) :
    Calls Try.prog 19 #[scanV s k, .string (y.extract 0 1)] w fun e w' => e = .returned (.tuple #[scanV s (k + 1 : Nat), .bool true]) ∧ Below w.heap.size w w' := by
  have e1 : (y.extract 0 1).size = 1 := by simp; omega
  have e2 := (begAt_one s k y hk hp).trans (decide_eq_true h)
  have := RTake_any s k (y.extract 0 1) w hk hs (by rw [e1]; decide)
  rw [e2, e1] at this
  exact this
theorem RTake_miss (s : ByteArray) (k : Nat) (y : ByteArray) (w : World) (hk : k ≤ s.size) (hs : s.size ≤ maxLen) (hp : 0 < y.size) (hy : y.size ≤ 20) (h : ¬ (k < s.size ∧ byteAt s k = byteAt y 0)) :
    Calls Try.prog 19 #[scanV s k, .string (y.extract 0 1)] w fun e w' => e = .returned (.tuple #[scanV s k, .bool false]) ∧ Below w.heap.size w w' := by
  have e1 : (y.extract 0 1).size = 1 := by simp; omega
  have e2 := (begAt_one s k y hk hp).trans (decide_eq_false h)
  have := RTake_any s k (y.extract 0 1) w hk hs (by rw [e1]; decide)
  rw [e2] at this
  exact this
set_option maxHeartbeats 4000000 in
set_option maxRecDepth 100000 in
theorem do_3 (v : Value) (s : ByteArray) (k : Nat) (x : ByteArray) (n kind : Int) (w : World) (h : IsScan v s k w) (hs : s.size ≤ 100000) (hx : x.size ≤ maxLen) (hn0 : 0 ≤ kind) (hn1 : kind ≤ 255) (hk : kind % 8 = 3) :
    Calls Try.prog 8 #[v, scanV s k, .agg #[.int .u8 kind, .string x, .int .i64 n]] w (Done v s w) := by
  unfold scanV
  unfold maxLen at hx
  have HS := Lib.hid h
  have hle := h.le
  have hnew : ∀ j, w.heap.size ≤ j → ¬ ownScan v j := fun j hj ho => by have := h.own_lt ho; omega
  clear h
  by_cases he : x.toList.isEmpty = true
  · have hx20 : x.size ≤ 20 := by have := size_nil x he; omega
    go_enter Try.func8, Try.ntmps8
    go_wp2
    exact bodyPost_ret (v := .tuple #[.agg #[.string s, .int .i64 (k : Nat)], .int .i64 0]) (by simp [results, Try.results8, go_sem]) rfl ⟨k, rfl,
          HS.out.kept (P := fun j => w.heap.size ≤ j) (by repeat (first | with_reducible exact Kept.refl _ _ | with_reducible assumption | (with_reducible refine Kept.setCellL ?_ ?_ _; rotate_left; · (simp <;> omega)) | with_reducible refine Kept.alloc ?_ _ | with_reducible refine Kept.drew ?_ | with_reducible refine Kept.drewN ?_ _)) (fun j hj hge => hnew j hge hj),
          (by repeat (first | with_reducible exact Kept.refl _ _ | with_reducible assumption | (with_reducible refine Kept.setCellR ?_ ?_ _; rotate_left; · (simp <;> omega)) | with_reducible refine Kept.alloc ?_ _ | with_reducible refine Kept.drew ?_ | with_reducible refine Kept.drewN ?_ _))⟩
  have hpx : 0 < x.size := by
    rcases Nat.eq_zero_or_pos x.size with h0 | h0
    · exfalso; apply he; have : x = ByteArray.empty := by simpa using h0
      rw [this]; simp
    · exact h0
  rcases Nat.lt_or_ge 20 x.size with hx20 | hx20
  · obtain ⟨y, hy⟩ : ∃ y, x.extract 0 20 = y := ⟨_, rfl⟩
    have hys : y.size = min x.size 20 := by rw [← hy]; simp; omega
    have hp : 0 < y.size := by omega
    have hy20 : y.size ≤ 20 := by omega
    have he2 : y.toList.isEmpty = false := by
      cases h2 : y.toList.isEmpty
      · rfl
      · have := size_nil _ h2
        omega
    clear hys
    have hp1 : (1 : Int) ≤ (y.size : Int) := by omega
    by_cases hit : k < s.size ∧ byteAt s k = byteAt y 0
    · have HIT := Lib.hid hit
      clear hit
      go_enter Try.func8, Try.ntmps8
      go_wp2_with fail
      rw [← byteAt_of y 0 hp]
      refine (Byte_v v s k (byteAt y 0) _ (HS.out.below (by repeat (first | with_reducible exact Below.refl _ _ | with_reducible assumption | (with_reducible refine Below.setCell ?_ ?_ _; rotate_left; · (simp <;> omega)) | (with_reducible refine Below.alloc ?_ ?_ _; rotate_left; · (simp <;> omega)) | with_reducible refine Below.drew ?_))) (by unfold maxLen; omega)).mono ?_
      rintro e w1 ⟨rfl, hs1, hk1⟩
      rw [decide_eq_true HIT.out, if_pos HIT.out] at *
      have hz1 : w.heap.size + 1 + 1 + 1 ≤ w1.heap.size := by have := hk1.size; simp at this; omega
      have r0 := hk1.at_cell (b := w.heap.size) (i := 0) (x := some (.string s)) (by simp <;> omega) (hnew _ (by omega)) (by simp [go_sem])
      have r1 := hk1.at_cell (b := w.heap.size) (i := 1) (x := some (.int .i64 k)) (by simp <;> omega) (hnew _ (by omega)) (by simp [go_sem])
      have d1 := hk1.at_cell (b := w.heap.size + 1) (i := 1) (x := some (.string y)) (by simp <;> omega) (hnew _ (by omega)) (by simp [go_sem])
      have t0 := hk1.at_cell (b := w.heap.size + 1 + 1) (i := 0) (x := some (.string ByteArray.empty)) (by simp <;> omega) (hnew _ (by omega)) (by simp [go_sem]; rfl)
      have t1 := hk1.at_cell (b := w.heap.size + 1 + 1) (i := 1) (x := some (.int .i64 0)) (by simp <;> omega) (hnew _ (by omega)) (by simp [go_sem])
      have g0 := hk1.at_frozen (b := w.heap.size) (i := 0) (x := false) (by simp <;> omega) (hnew _ (by omega)) (by simp [go_sem])
      have g1 := hk1.at_frozen (b := w.heap.size) (i := 1) (x := false) (by simp <;> omega) (hnew _ (by omega)) (by simp [go_sem])
      have q0 := hk1.at_frozen (b := w.heap.size + 1 + 1) (i := 0) (x := false) (by simp <;> omega) (hnew _ (by omega)) (by simp [go_sem])
      have q1 := hk1.at_frozen (b := w.heap.size + 1 + 1) (i := 1) (x := false) (by simp <;> omega) (hnew _ (by omega)) (by simp [go_sem])
      have hK1 : Kept (ownScan v) w w1 := Kept.trans (by repeat (first | with_reducible exact Kept.refl _ _ | with_reducible assumption | (with_reducible refine Kept.setCellR ?_ ?_ _; rotate_left; · (simp <;> omega)) | with_reducible refine Kept.alloc ?_ _ | with_reducible refine Kept.drew ?_ | with_reducible refine Kept.drewN ?_ _)) hk1
      clear hk1
      have l0 : w.heap.size < w1.heap.size := by omega
      have l1 : w.heap.size + 1 < w1.heap.size := by omega
      have l2 : w.heap.size + 1 + 1 < w1.heap.size := by omega
      go_wp2
      go_region_held3 (fun w' => w'.cell? ⟨w.heap.size, 0, none⟩ = some (.string s) ∧ w'.cell? ⟨w.heap.size, 1, none⟩ = some (.int .i64 k) ∧ w'.cell? ⟨w.heap.size + 1, 1, none⟩ = some (.string y))
        (first | go_keep | (refine And.intro ?_ (And.intro ?_ ?_) <;> refine (hb2.cell ?_).trans ?_ <;> first | go_keep | (simp; omega)) | (refine And.intro ?_ (And.intro ?_ ?_) <;> (rw [World.cell?_setCell_far _ _ _ _ (by simp; omega), World.cell?_setCell_far _ _ _ _ (by simp; omega)]; assumption)))
        ((go_at_call 19; refine (RTake_hit s k _ _ hle (by unfold maxLen; omega) hp hy20 HIT.out).mono ?_; rintro e w2 ⟨rfl, hb2⟩; unfold scanV; have hc2 := bcell hb2; have n0 : w2.cell? ⟨w.heap.size, 0, none⟩ = some (.string s) := ((hb2.cell (by simp; omega)).trans (by go_keep)); have n1 : w2.cell? ⟨w.heap.size, 1, none⟩ = some (.int .i64 k) := ((hb2.cell (by simp; omega)).trans (by go_keep)); have n2 : w2.cell? ⟨w.heap.size + 1, 1, none⟩ = some (.string y) := ((hb2.cell (by simp; omega)).trans (by go_keep)); have m0 : w.heap.size < w2.heap.size := (by have := hb2.size; simp at this; omega); have m1 : w.heap.size + 1 < w2.heap.size := (by have := hb2.size; simp at this; omega); have m2 : w.heap.size + 1 + 1 < w2.heap.size := (by have := hb2.size; simp at this; omega); have m3 : w1.heap.size ≤ w2.heap.size := (by have := hb2.size; simp at this; omega); have hW2 : Below w1.heap.size w1 w2 := Below.trans (by repeat (first | with_reducible exact Below.refl _ _ | with_reducible assumption | (with_reducible refine Below.setCell ?_ ?_ _; rotate_left; · (simp <;> omega)) | (with_reducible refine Below.alloc ?_ ?_ _; rotate_left; · (simp <;> omega)) | with_reducible refine Below.drew ?_)) (hb2.mono (by simp)); have hs2 := hs1.below hW2; have hK2 := hK1.trans (Kept.of_below hW2); have g0' := below_frozen hW2 (by omega) g0; have g1' := below_frozen hW2 (by omega) g1; have q0' := below_frozen hW2 (by omega) q0; have q1' := below_frozen hW2 (by omega) q1; have t0' := below_cell hW2 (by omega) t0; have t1' := below_cell hW2 (by omega) t1))
      · clear hb2 hc2 hW2
        go_wp2
        exact bodyPost_ret (v := .tuple #[.agg #[.string s, .int .i64 (k + 1 : Nat)], .int .i64 0]) (by simp [results, Try.results8, go_sem, t0', t1', m0, m1, m2]) rfl ⟨k + 1, rfl,
             hs2.kept (P := fun j => w.heap.size ≤ j) (by repeat (first | with_reducible exact Kept.refl _ _ | with_reducible assumption | (with_reducible refine Kept.setCellL ?_ ?_ _; rotate_left; · (simp <;> omega)) | with_reducible refine Kept.alloc ?_ _ | with_reducible refine Kept.drew ?_ | with_reducible refine Kept.drewN ?_ _)) (fun j hj hge => hnew j hge hj),
             (by repeat (first | with_reducible exact Kept.refl _ _ | with_reducible assumption | (with_reducible refine Kept.setCellR ?_ ?_ _; rotate_left; · (simp <;> omega)) | with_reducible refine Kept.alloc ?_ _ | with_reducible refine Kept.drew ?_ | with_reducible refine Kept.drewN ?_ _))⟩
      · have z0 : w2.cell? ⟨w1.heap.size, 0, none⟩ = some (.string ⟨#[]⟩) := (hb2.cell (by simp)).trans (by simp [go_sem])
        have z1 : w2.cell? ⟨w1.heap.size, 1, none⟩ = some (.int .i64 0) := (hb2.cell (by simp)).trans (by simp [go_sem])
        have y0 : w2.frozen? ⟨w1.heap.size, 0, none⟩ = false := (hb2.frozen (by simp)).trans (by simp [go_sem])
        have y1 : w2.frozen? ⟨w1.heap.size, 1, none⟩ = false := (hb2.frozen (by simp)).trans (by simp [go_sem])
        clear hb2 hc2 hW2
        go_wp2
        exact bodyPost_ret (v := .tuple #[.agg #[.string s, .int .i64 (k + 1 : Nat)], .int .i64 0]) (by simp [results, Try.results8, go_sem, t0', t1', m0, m1, m2]) rfl ⟨k + 1, rfl,
             hs2.kept (P := fun j => w.heap.size ≤ j) (by repeat (first | with_reducible exact Kept.refl _ _ | with_reducible assumption | (with_reducible refine Kept.setCellL ?_ ?_ _; rotate_left; · (simp <;> omega)) | with_reducible refine Kept.alloc ?_ _ | with_reducible refine Kept.drew ?_ | with_reducible refine Kept.drewN ?_ _)) (fun j hj hge => hnew j hge hj),
             (by repeat (first | with_reducible exact Kept.refl _ _ | with_reducible assumption | (with_reducible refine Kept.setCellR ?_ ?_ _; rotate_left; · (simp <;> omega)) | with_reducible refine Kept.alloc ?_ _ | with_reducible refine Kept.drew ?_ | with_reducible refine Kept.drewN ?_ _))⟩
    · have HIT := Lib.hid hit
      clear hit
      go_enter Try.func8, Try.ntmps8
      go_wp2_with fail
      rw [← byteAt_of y 0 hp]
      refine (Byte_v v s k (byteAt y 0) _ (HS.out.below (by repeat (first | with_reducible exact Below.refl _ _ | with_reducible assumption | (with_reducible refine Below.setCell ?_ ?_ _; rotate_left; · (simp <;> omega)) | (with_reducible refine Below.alloc ?_ ?_ _; rotate_left; · (simp <;> omega)) | with_reducible refine Below.drew ?_))) (by unfold maxLen; omega)).mono ?_
      rintro e w1 ⟨rfl, hs1, hk1⟩
      rw [decide_eq_false HIT.out, if_neg HIT.out] at *
      have hz1 : w.heap.size + 1 + 1 + 1 ≤ w1.heap.size := by have := hk1.size; simp at this; omega
      have r0 := hk1.at_cell (b := w.heap.size) (i := 0) (x := some (.string s)) (by simp <;> omega) (hnew _ (by omega)) (by simp [go_sem])
      have r1 := hk1.at_cell (b := w.heap.size) (i := 1) (x := some (.int .i64 k)) (by simp <;> omega) (hnew _ (by omega)) (by simp [go_sem])
      have d1 := hk1.at_cell (b := w.heap.size + 1) (i := 1) (x := some (.string y)) (by simp <;> omega) (hnew _ (by omega)) (by simp [go_sem])
      have t0 := hk1.at_cell (b := w.heap.size + 1 + 1) (i := 0) (x := some (.string ByteArray.empty)) (by simp <;> omega) (hnew _ (by omega)) (by simp [go_sem]; rfl)
      have t1 := hk1.at_cell (b := w.heap.size + 1 + 1) (i := 1) (x := some (.int .i64 0)) (by simp <;> omega) (hnew _ (by omega)) (by simp [go_sem])
      have g0 := hk1.at_frozen (b := w.heap.size) (i := 0) (x := false) (by simp <;> omega) (hnew _ (by omega)) (by simp [go_sem])
      have g1 := hk1.at_frozen (b := w.heap.size) (i := 1) (x := false) (by simp <;> omega) (hnew _ (by omega)) (by simp [go_sem])
      have q0 := hk1.at_frozen (b := w.heap.size + 1 + 1) (i := 0) (x := false) (by simp <;> omega) (hnew _ (by omega)) (by simp [go_sem])
      have q1 := hk1.at_frozen (b := w.heap.size + 1 + 1) (i := 1) (x := false) (by simp <;> omega) (hnew _ (by omega)) (by simp [go_sem])
      have hK1 : Kept (ownScan v) w w1 := Kept.trans (by repeat (first | with_reducible exact Kept.refl _ _ | with_reducible assumption | (with_reducible refine Kept.setCellR ?_ ?_ _; rotate_left; · (simp <;> omega)) | with_reducible refine Kept.alloc ?_ _ | with_reducible refine Kept.drew ?_ | with_reducible refine Kept.drewN ?_ _)) hk1
      clear hk1
      have l0 : w.heap.size < w1.heap.size := by omega
      have l1 : w.heap.size + 1 < w1.heap.size := by omega
      have l2 : w.heap.size + 1 + 1 < w1.heap.size := by omega
      go_wp2
      go_region_held3 (fun w' => w'.cell? ⟨w.heap.size, 0, none⟩ = some (.string s) ∧ w'.cell? ⟨w.heap.size, 1, none⟩ = some (.int .i64 k) ∧ w'.cell? ⟨w.heap.size + 1, 1, none⟩ = some (.string y))
        (first | go_keep | (refine And.intro ?_ (And.intro ?_ ?_) <;> refine (hb2.cell ?_).trans ?_ <;> first | go_keep | (simp; omega)) | (refine And.intro ?_ (And.intro ?_ ?_) <;> (rw [World.cell?_setCell_far _ _ _ _ (by simp; omega), World.cell?_setCell_far _ _ _ _ (by simp; omega)]; assumption)))
        ((go_at_call 19; refine (RTake_miss s k _ _ hle (by unfold maxLen; omega) hp hy20 HIT.out).mono ?_; rintro e w2 ⟨rfl, hb2⟩; unfold scanV; have hc2 := bcell hb2; have n0 : w2.cell? ⟨w.heap.size, 0, none⟩ = some (.string s) := ((hb2.cell (by simp; omega)).trans (by go_keep)); have n1 : w2.cell? ⟨w.heap.size, 1, none⟩ = some (.int .i64 k) := ((hb2.cell (by simp; omega)).trans (by go_keep)); have n2 : w2.cell? ⟨w.heap.size + 1, 1, none⟩ = some (.string y) := ((hb2.cell (by simp; omega)).trans (by go_keep)); have m0 : w.heap.size < w2.heap.size := (by have := hb2.size; simp at this; omega); have m1 : w.heap.size + 1 < w2.heap.size := (by have := hb2.size; simp at this; omega); have m2 : w.heap.size + 1 + 1 < w2.heap.size := (by have := hb2.size; simp at this; omega); have m3 : w1.heap.size ≤ w2.heap.size := (by have := hb2.size; simp at this; omega); have hW2 : Below w1.heap.size w1 w2 := Below.trans (by repeat (first | with_reducible exact Below.refl _ _ | with_reducible assumption | (with_reducible refine Below.setCell ?_ ?_ _; rotate_left; · (simp <;> omega)) | (with_reducible refine Below.alloc ?_ ?_ _; rotate_left; · (simp <;> omega)) | with_reducible refine Below.drew ?_)) (hb2.mono (by simp)); have hs2 := hs1.below hW2; have hK2 := hK1.trans (Kept.of_below hW2); have g0' := below_frozen hW2 (by omega) g0; have g1' := below_frozen hW2 (by omega) g1; have q0' := below_frozen hW2 (by omega) q0; have q1' := below_frozen hW2 (by omega) q1; have t0' := below_cell hW2 (by omega) t0; have t1' := below_cell hW2 (by omega) t1))
      · clear hb2 hc2 hW2
        go_wp2
        exact bodyPost_ret (v := .tuple #[.agg #[.string s, .int .i64 (k : Nat)], .int .i64 0]) (by simp [results, Try.results8, go_sem, t0', t1', m0, m1, m2]) rfl ⟨k, rfl,
             hs2.kept (P := fun j => w.heap.size ≤ j) (by repeat (first | with_reducible exact Kept.refl _ _ | with_reducible assumption | (with_reducible refine Kept.setCellL ?_ ?_ _; rotate_left; · (simp <;> omega)) | with_reducible refine Kept.alloc ?_ _ | with_reducible refine Kept.drew ?_ | with_reducible refine Kept.drewN ?_ _)) (fun j hj hge => hnew j hge hj),
             (by repeat (first | with_reducible exact Kept.refl _ _ | with_reducible assumption | (with_reducible refine Kept.setCellR ?_ ?_ _; rotate_left; · (simp <;> omega)) | with_reducible refine Kept.alloc ?_ _ | with_reducible refine Kept.drew ?_ | with_reducible refine Kept.drewN ?_ _))⟩
      · have z0 : w2.cell? ⟨w1.heap.size, 0, none⟩ = some (.string ⟨#[]⟩) := (hb2.cell (by simp)).trans (by simp [go_sem])
        have z1 : w2.cell? ⟨w1.heap.size, 1, none⟩ = some (.int .i64 0) := (hb2.cell (by simp)).trans (by simp [go_sem])
        have y0 : w2.frozen? ⟨w1.heap.size, 0, none⟩ = false := (hb2.frozen (by simp)).trans (by simp [go_sem])
        have y1 : w2.frozen? ⟨w1.heap.size, 1, none⟩ = false := (hb2.frozen (by simp)).trans (by simp [go_sem])
        clear hb2 hc2 hW2
        go_wp2
        exact bodyPost_ret (v := .tuple #[.agg #[.string s, .int .i64 (k : Nat)], .int .i64 0]) (by simp [results, Try.results8, go_sem, t0', t1', m0, m1, m2]) rfl ⟨k, rfl,
             hs2.kept (P := fun j => w.heap.size ≤ j) (by repeat (first | with_reducible exact Kept.refl _ _ | with_reducible assumption | (with_reducible refine Kept.setCellL ?_ ?_ _; rotate_left; · (simp <;> omega)) | with_reducible refine Kept.alloc ?_ _ | with_reducible refine Kept.drew ?_ | with_reducible refine Kept.drewN ?_ _)) (fun j hj hge => hnew j hge hj),
             (by repeat (first | with_reducible exact Kept.refl _ _ | with_reducible assumption | (with_reducible refine Kept.setCellR ?_ ?_ _; rotate_left; · (simp <;> omega)) | with_reducible refine Kept.alloc ?_ _ | with_reducible refine Kept.drew ?_ | with_reducible refine Kept.drewN ?_ _))⟩
  · have he2 : x.toList.isEmpty = false := by simpa using he
    have hp := hpx
    have hy20 := hx20
    have hp1 : (1 : Int) ≤ (x.size : Int) := by omega
    by_cases hit : k < s.size ∧ byteAt s k = byteAt x 0
    · have HIT := Lib.hid hit
      clear hit
      go_enter Try.func8, Try.ntmps8
      go_wp2_with fail
      rw [← byteAt_of x 0 hp]
      refine (Byte_v v s k (byteAt x 0) _ (HS.out.below (by repeat (first | with_reducible exact Below.refl _ _ | with_reducible assumption | (with_reducible refine Below.setCell ?_ ?_ _; rotate_left; · (simp <;> omega)) | (with_reducible refine Below.alloc ?_ ?_ _; rotate_left; · (simp <;> omega)) | with_reducible refine Below.drew ?_))) (by unfold maxLen; omega)).mono ?_
      rintro e w1 ⟨rfl, hs1, hk1⟩
      rw [decide_eq_true HIT.out, if_pos HIT.out] at *
      have hz1 : w.heap.size + 1 + 1 + 1 ≤ w1.heap.size := by have := hk1.size; simp at this; omega
      have r0 := hk1.at_cell (b := w.heap.size) (i := 0) (x := some (.string s)) (by simp <;> omega) (hnew _ (by omega)) (by simp [go_sem])
      have r1 := hk1.at_cell (b := w.heap.size) (i := 1) (x := some (.int .i64 k)) (by simp <;> omega) (hnew _ (by omega)) (by simp [go_sem])
      have d1 := hk1.at_cell (b := w.heap.size + 1) (i := 1) (x := some (.string x)) (by simp <;> omega) (hnew _ (by omega)) (by simp [go_sem])
      have t0 := hk1.at_cell (b := w.heap.size + 1 + 1) (i := 0) (x := some (.string ByteArray.empty)) (by simp <;> omega) (hnew _ (by omega)) (by simp [go_sem]; rfl)
      have t1 := hk1.at_cell (b := w.heap.size + 1 + 1) (i := 1) (x := some (.int .i64 0)) (by simp <;> omega) (hnew _ (by omega)) (by simp [go_sem])
      have g0 := hk1.at_frozen (b := w.heap.size) (i := 0) (x := false) (by simp <;> omega) (hnew _ (by omega)) (by simp [go_sem])
      have g1 := hk1.at_frozen (b := w.heap.size) (i := 1) (x := false) (by simp <;> omega) (hnew _ (by omega)) (by simp [go_sem])
      have q0 := hk1.at_frozen (b := w.heap.size + 1 + 1) (i := 0) (x := false) (by simp <;> omega) (hnew _ (by omega)) (by simp [go_sem])
      have q1 := hk1.at_frozen (b := w.heap.size + 1 + 1) (i := 1) (x := false) (by simp <;> omega) (hnew _ (by omega)) (by simp [go_sem])
      have hK1 : Kept (ownScan v) w w1 := Kept.trans (by repeat (first | with_reducible exact Kept.refl _ _ | with_reducible assumption | (with_reducible refine Kept.setCellR ?_ ?_ _; rotate_left; · (simp <;> omega)) | with_reducible refine Kept.alloc ?_ _ | with_reducible refine Kept.drew ?_ | with_reducible refine Kept.drewN ?_ _)) hk1
      clear hk1
      have l0 : w.heap.size < w1.heap.size := by omega
      have l1 : w.heap.size + 1 < w1.heap.size := by omega
      have l2 : w.heap.size + 1 + 1 < w1.heap.size := by omega
      go_wp2
      go_region_held3 (fun w' => w'.cell? ⟨w.heap.size, 0, none⟩ = some (.string s) ∧ w'.cell? ⟨w.heap.size, 1, none⟩ = some (.int .i64 k) ∧ w'.cell? ⟨w.heap.size + 1, 1, none⟩ = some (.string x))
        (first | go_keep | (refine And.intro ?_ (And.intro ?_ ?_) <;> refine (hb2.cell ?_).trans ?_ <;> first | go_keep | (simp; omega)) | (refine And.intro ?_ (And.intro ?_ ?_) <;> (rw [World.cell?_setCell_far _ _ _ _ (by simp; omega), World.cell?_setCell_far _ _ _ _ (by simp; omega)]; assumption)))
        ((go_at_call 19; refine (RTake_hit s k _ _ hle (by unfold maxLen; omega) hp hy20 HIT.out).mono ?_; rintro e w2 ⟨rfl, hb2⟩; unfold scanV; have hc2 := bcell hb2; have n0 : w2.cell? ⟨w.heap.size, 0, none⟩ = some (.string s) := ((hb2.cell (by simp; omega)).trans (by go_keep)); have n1 : w2.cell? ⟨w.heap.size, 1, none⟩ = some (.int .i64 k) := ((hb2.cell (by simp; omega)).trans (by go_keep)); have n2 : w2.cell? ⟨w.heap.size + 1, 1, none⟩ = some (.string x) := ((hb2.cell (by simp; omega)).trans (by go_keep)); have m0 : w.heap.size < w2.heap.size := (by have := hb2.size; simp at this; omega); have m1 : w.heap.size + 1 < w2.heap.size := (by have := hb2.size; simp at this; omega); have m2 : w.heap.size + 1 + 1 < w2.heap.size := (by have := hb2.size; simp at this; omega); have m3 : w1.heap.size ≤ w2.heap.size := (by have := hb2.size; simp at this; omega); have hW2 : Below w1.heap.size w1 w2 := Below.trans (by repeat (first | with_reducible exact Below.refl _ _ | with_reducible assumption | (with_reducible refine Below.setCell ?_ ?_ _; rotate_left; · (simp <;> omega)) | (with_reducible refine Below.alloc ?_ ?_ _; rotate_left; · (simp <;> omega)) | with_reducible refine Below.drew ?_)) (hb2.mono (by simp)); have hs2 := hs1.below hW2; have hK2 := hK1.trans (Kept.of_below hW2); have g0' := below_frozen hW2 (by omega) g0; have g1' := below_frozen hW2 (by omega) g1; have q0' := below_frozen hW2 (by omega) q0; have q1' := below_frozen hW2 (by omega) q1; have t0' := below_cell hW2 (by omega) t0; have t1' := below_cell hW2 (by omega) t1))
      · clear hb2 hc2 hW2
        go_wp2
        exact bodyPost_ret (v := .tuple #[.agg #[.string s, .int .i64 (k + 1 : Nat)], .int .i64 0]) (by simp [results, Try.results8, go_sem, t0', t1', m0, m1, m2]) rfl ⟨k + 1, rfl,
             hs2.kept (P := fun j => w.heap.size ≤ j) (by repeat (first | with_reducible exact Kept.refl _ _ | with_reducible assumption | (with_reducible refine Kept.setCellL ?_ ?_ _; rotate_left; · (simp <;> omega)) | with_reducible refine Kept.alloc ?_ _ | with_reducible refine Kept.drew ?_ | with_reducible refine Kept.drewN ?_ _)) (fun j hj hge => hnew j hge hj),
             (by repeat (first | with_reducible exact Kept.refl _ _ | with_reducible assumption | (with_reducible refine Kept.setCellR ?_ ?_ _; rotate_left; · (simp <;> omega)) | with_reducible refine Kept.alloc ?_ _ | with_reducible refine Kept.drew ?_ | with_reducible refine Kept.drewN ?_ _))⟩
      · have z0 : w2.cell? ⟨w1.heap.size, 0, none⟩ = some (.string ⟨#[]⟩) := (hb2.cell (by simp)).trans (by simp [go_sem])
        have z1 : w2.cell? ⟨w1.heap.size, 1, none⟩ = some (.int .i64 0) := (hb2.cell (by simp)).trans (by simp [go_sem])
        have y0 : w2.frozen? ⟨w1.heap.size, 0, none⟩ = false := (hb2.frozen (by simp)).trans (by simp [go_sem])
        have y1 : w2.frozen? ⟨w1.heap.size, 1, none⟩ = false := (hb2.frozen (by simp)).trans (by simp [go_sem])
        clear hb2 hc2 hW2
        go_wp2
        exact bodyPost_ret (v := .tuple #[.agg #[.string s, .int .i64 (k + 1 : Nat)], .int .i64 0]) (by simp [results, Try.results8, go_sem, t0', t1', m0, m1, m2]) rfl ⟨k + 1, rfl,
             hs2.kept (P := fun j => w.heap.size ≤ j) (by repeat (first | with_reducible exact Kept.refl _ _ | with_reducible assumption | (with_reducible refine Kept.setCellL ?_ ?_ _; rotate_left; · (simp <;> omega)) | with_reducible refine Kept.alloc ?_ _ | with_reducible refine Kept.drew ?_ | with_reducible refine Kept.drewN ?_ _)) (fun j hj hge => hnew j hge hj),
             (by repeat (first | with_reducible exact Kept.refl _ _ | with_reducible assumption | (with_reducible refine Kept.setCellR ?_ ?_ _; rotate_left; · (simp <;> omega)) | with_reducible refine Kept.alloc ?_ _ | with_reducible refine Kept.drew ?_ | with_reducible refine Kept.drewN ?_ _))⟩
    · have HIT := Lib.hid hit
      clear hit
      go_enter Try.func8, Try.ntmps8
      go_wp2_with fail
      rw [← byteAt_of x 0 hp]
      refine (Byte_v v s k (byteAt x 0) _ (HS.out.below (by repeat (first | with_reducible exact Below.refl _ _ | with_reducible assumption | (with_reducible refine Below.setCell ?_ ?_ _; rotate_left; · (simp <;> omega)) | (with_reducible refine Below.alloc ?_ ?_ _; rotate_left; · (simp <;> omega)) | with_reducible refine Below.drew ?_))) (by unfold maxLen; omega)).mono ?_
      rintro e w1 ⟨rfl, hs1, hk1⟩
      rw [decide_eq_false HIT.out, if_neg HIT.out] at *
      have hz1 : w.heap.size + 1 + 1 + 1 ≤ w1.heap.size := by have := hk1.size; simp at this; omega
      have r0 := hk1.at_cell (b := w.heap.size) (i := 0) (x := some (.string s)) (by simp <;> omega) (hnew _ (by omega)) (by simp [go_sem])
      have r1 := hk1.at_cell (b := w.heap.size) (i := 1) (x := some (.int .i64 k)) (by simp <;> omega) (hnew _ (by omega)) (by simp [go_sem])
      have d1 := hk1.at_cell (b := w.heap.size + 1) (i := 1) (x := some (.string x)) (by simp <;> omega) (hnew _ (by omega)) (by simp [go_sem])
      have t0 := hk1.at_cell (b := w.heap.size + 1 + 1) (i := 0) (x := some (.string ByteArray.empty)) (by simp <;> omega) (hnew _ (by omega)) (by simp [go_sem]; rfl)
      have t1 := hk1.at_cell (b := w.heap.size + 1 + 1) (i := 1) (x := some (.int .i64 0)) (by simp <;> omega) (hnew _ (by omega)) (by simp [go_sem])
      have g0 := hk1.at_frozen (b := w.heap.size) (i := 0) (x := false) (by simp <;> omega) (hnew _ (by omega)) (by simp [go_sem])
      have g1 := hk1.at_frozen (b := w.heap.size) (i := 1) (x := false) (by simp <;> omega) (hnew _ (by omega)) (by simp [go_sem])
      have q0 := hk1.at_frozen (b := w.heap.size + 1 + 1) (i := 0) (x := false) (by simp <;> omega) (hnew _ (by omega)) (by simp [go_sem])
      have q1 := hk1.at_frozen (b := w.heap.size + 1 + 1) (i := 1) (x := false) (by simp <;> omega) (hnew _ (by omega)) (by simp [go_sem])
      have hK1 : Kept (ownScan v) w w1 := Kept.trans (by repeat (first | with_reducible exact Kept.refl _ _ | with_reducible assumption | (with_reducible refine Kept.setCellR ?_ ?_ _; rotate_left; · (simp <;> omega)) | with_reducible refine Kept.alloc ?_ _ | with_reducible refine Kept.drew ?_ | with_reducible refine Kept.drewN ?_ _)) hk1
      clear hk1
      have l0 : w.heap.size < w1.heap.size := by omega
      have l1 : w.heap.size + 1 < w1.heap.size := by omega
      have l2 : w.heap.size + 1 + 1 < w1.heap.size := by omega
      go_wp2
      go_region_held3 (fun w' => w'.cell? ⟨w.heap.size, 0, none⟩ = some (.string s) ∧ w'.cell? ⟨w.heap.size, 1, none⟩ = some (.int .i64 k) ∧ w'.cell? ⟨w.heap.size + 1, 1, none⟩ = some (.string x))
        (first | go_keep | (refine And.intro ?_ (And.intro ?_ ?_) <;> refine (hb2.cell ?_).trans ?_ <;> first | go_keep | (simp; omega)) | (refine And.intro ?_ (And.intro ?_ ?_) <;> (rw [World.cell?_setCell_far _ _ _ _ (by simp; omega), World.cell?_setCell_far _ _ _ _ (by simp; omega)]; assumption)))
        ((go_at_call 19; refine (RTake_miss s k _ _ hle (by unfold maxLen; omega) hp hy20 HIT.out).mono ?_; rintro e w2 ⟨rfl, hb2⟩; unfold scanV; have hc2 := bcell hb2; have n0 : w2.cell? ⟨w.heap.size, 0, none⟩ = some (.string s) := ((hb2.cell (by simp; omega)).trans (by go_keep)); have n1 : w2.cell? ⟨w.heap.size, 1, none⟩ = some (.int .i64 k) := ((hb2.cell (by simp; omega)).trans (by go_keep)); have n2 : w2.cell? ⟨w.heap.size + 1, 1, none⟩ = some (.string x) := ((hb2.cell (by simp; omega)).trans (by go_keep)); have m0 : w.heap.size < w2.heap.size := (by have := hb2.size; simp at this; omega); have m1 : w.heap.size + 1 < w2.heap.size := (by have := hb2.size; simp at this; omega); have m2 : w.heap.size + 1 + 1 < w2.heap.size := (by have := hb2.size; simp at this; omega); have m3 : w1.heap.size ≤ w2.heap.size := (by have := hb2.size; simp at this; omega); have hW2 : Below w1.heap.size w1 w2 := Below.trans (by repeat (first | with_reducible exact Below.refl _ _ | with_reducible assumption | (with_reducible refine Below.setCell ?_ ?_ _; rotate_left; · (simp <;> omega)) | (with_reducible refine Below.alloc ?_ ?_ _; rotate_left; · (simp <;> omega)) | with_reducible refine Below.drew ?_)) (hb2.mono (by simp)); have hs2 := hs1.below hW2; have hK2 := hK1.trans (Kept.of_below hW2); have g0' := below_frozen hW2 (by omega) g0; have g1' := below_frozen hW2 (by omega) g1; have q0' := below_frozen hW2 (by omega) q0; have q1' := below_frozen hW2 (by omega) q1; have t0' := below_cell hW2 (by omega) t0; have t1' := below_cell hW2 (by omega) t1))
      · clear hb2 hc2 hW2
        go_wp2
        exact bodyPost_ret (v := .tuple #[.agg #[.string s, .int .i64 (k : Nat)], .int .i64 0]) (by simp [results, Try.results8, go_sem, t0', t1', m0, m1, m2]) rfl ⟨k, rfl,
             hs2.kept (P := fun j => w.heap.size ≤ j) (by repeat (first | with_reducible exact Kept.refl _ _ | with_reducible assumption | (with_reducible refine Kept.setCellL ?_ ?_ _; rotate_left; · (simp <;> omega)) | with_reducible refine Kept.alloc ?_ _ | with_reducible refine Kept.drew ?_ | with_reducible refine Kept.drewN ?_ _)) (fun j hj hge => hnew j hge hj),
             (by repeat (first | with_reducible exact Kept.refl _ _ | with_reducible assumption | (with_reducible refine Kept.setCellR ?_ ?_ _; rotate_left; · (simp <;> omega)) | with_reducible refine Kept.alloc ?_ _ | with_reducible refine Kept.drew ?_ | with_reducible refine Kept.drewN ?_ _))⟩
      · have z0 : w2.cell? ⟨w1.heap.size, 0, none⟩ = some (.string ⟨#[]⟩) := (hb2.cell (by simp)).trans (by simp [go_sem])
        have z1 : w2.cell? ⟨w1.heap.size, 1, none⟩ = some (.int .i64 0) := (hb2.cell (by simp)).trans (by simp [go_sem])
        have y0 : w2.frozen? ⟨w1.heap.size, 0, none⟩ = false := (hb2.frozen (by simp)).trans (by simp [go_sem])
        have y1 : w2.frozen? ⟨w1.heap.size, 1, none⟩ = false := (hb2.frozen (by simp)).trans (by simp [go_sem])
        clear hb2 hc2 hW2
        go_wp2
        exact bodyPost_ret (v := .tuple #[.agg #[.string s, .int .i64 (k : Nat)], .int .i64 0]) (by simp [results, Try.results8, go_sem, t0', t1', m0, m1, m2]) rfl ⟨k, rfl,
             hs2.kept (P := fun j => w.heap.size ≤ j) (by repeat (first | with_reducible exact Kept.refl _ _ | with_reducible assumption | (with_reducible refine Kept.setCellL ?_ ?_ _; rotate_left; · (simp <;> omega)) | with_reducible refine Kept.alloc ?_ _ | with_reducible refine Kept.drew ?_ | with_reducible refine Kept.drewN ?_ _)) (fun j hj hge => hnew j hge hj),
             (by repeat (first | with_reducible exact Kept.refl _ _ | with_reducible assumption | (with_reducible refine Kept.setCellR ?_ ?_ _; rotate_left; · (simp <;> omega)) | with_reducible refine Kept.alloc ?_ _ | with_reducible refine Kept.drew ?_ | with_reducible refine Kept.drewN ?_ _))⟩
end Go.Proofs.Ytahbcaafdnbcfaa
