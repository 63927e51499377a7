/- One deed of the law: contracts. -/
import Derived.Test.YtahbcaafdnbcfaaScanG
namespace Go.Proofs.Ytahbcaafdnbcfaa
open Go.RowKit

set_option maxHeartbeats 2000000 in
set_option maxRecDepth 100000 in
theorem do_6 (v : Value) (s : ByteArray) (k : Nat) (x : ByteArray) (n kind : Int) (w : World) (h : IsScan v s k w) (hs : s.size ≤ 100000) (hx : x.size ≤ maxLen) (hn0 : 0 ≤ kind) (hn1 : kind ≤ 255) (hk : kind % 8 = 6) :
    Calls Try.prog 8 #[v, scanV s k, .agg #[.int .u8 kind, .string x, .int .i64 n]] w (Done v s w) := by
  unfold scanV
  unfold maxLen at hx
  have HS := Lib.hid h
  have hle := h.le
  have hnew : ∀ j, w.heap.size ≤ j → ¬ ownScan v j := fun j hj ho => by have := h.own_lt ho; omega
  clear h
  by_cases hlt : k < s.size
  · have hb := Lib.hid (byteAt_of s k hlt)
    have hd : Hid (decide (k < s.size) = true) := by show _ = _; simpa using hlt
    rcases Nat.lt_or_ge 20 x.size with hx20 | hx20
    all_goals
      go_enter Try.func8, Try.ntmps8
      go_wp2_with fail
      refine (Peek_v v s k _ (HS.out.below (by repeat (first | with_reducible exact Below.refl _ _ | with_reducible assumption | (with_reducible refine Below.setCell ?_ ?_ _; rotate_left; · (simp <;> omega)) | (with_reducible refine Below.alloc ?_ ?_ _; rotate_left; · (simp <;> omega)) | with_reducible refine Below.drew ?_)))).mono ?_
      rintro e w2 ⟨rfl, nq, rfl⟩
      rw [hd.out, hb.out]
      go_wp2
      exact bodyPost_ret (v := .tuple #[.agg #[.string s, .int .i64 (k : Nat)], .int .i64 0]) (by simp [results, Try.results8, go_sem]) rfl ⟨k, rfl,
          HS.out.kept (P := fun j => w.heap.size ≤ j) (by repeat (first | with_reducible exact Kept.refl _ _ | with_reducible assumption | (with_reducible refine Kept.setCellL ?_ ?_ _; rotate_left; · (simp <;> omega)) | with_reducible refine Kept.alloc ?_ _ | with_reducible refine Kept.drew ?_ | with_reducible refine Kept.drewN ?_ _)) (fun j hj hge => hnew j hge hj),
          (by repeat (first | with_reducible exact Kept.refl _ _ | with_reducible assumption | (with_reducible refine Kept.setCellR ?_ ?_ _; rotate_left; · (simp <;> omega)) | with_reducible refine Kept.alloc ?_ _ | with_reducible refine Kept.drew ?_ | with_reducible refine Kept.drewN ?_ _))⟩
  · have hb : Hid (byteAt s k = 0) := byteAt_out s k hlt
    have hd : Hid (decide (k < s.size) = false) := by show _ = _; simpa using hlt
    rcases Nat.lt_or_ge 20 x.size with hx20 | hx20
    all_goals
      go_enter Try.func8, Try.ntmps8
      go_wp2_with fail
      refine (Peek_v v s k _ (HS.out.below (by repeat (first | with_reducible exact Below.refl _ _ | with_reducible assumption | (with_reducible refine Below.setCell ?_ ?_ _; rotate_left; · (simp <;> omega)) | (with_reducible refine Below.alloc ?_ ?_ _; rotate_left; · (simp <;> omega)) | with_reducible refine Below.drew ?_)))).mono ?_
      rintro e w2 ⟨rfl, nq, rfl⟩
      rw [hd.out, hb.out]
      go_wp2
      exact bodyPost_ret (v := .tuple #[.agg #[.string s, .int .i64 (k : Nat)], .int .i64 0]) (by simp [results, Try.results8, go_sem]) rfl ⟨k, rfl,
          HS.out.kept (P := fun j => w.heap.size ≤ j) (by repeat (first | with_reducible exact Kept.refl _ _ | with_reducible assumption | (with_reducible refine Kept.setCellL ?_ ?_ _; rotate_left; · (simp <;> omega)) | with_reducible refine Kept.alloc ?_ _ | with_reducible refine Kept.drew ?_ | with_reducible refine Kept.drewN ?_ _)) (fun j hj hge => hnew j hge hj),
          (by repeat (first | with_reducible exact Kept.refl _ _ | with_reducible assumption | (with_reducible refine Kept.setCellR ?_ ?_ _; rotate_left; · (simp <;> omega)) | with_reducible refine Kept.alloc ?_ _ | with_reducible refine Kept.drew ?_ | with_reducible refine Kept.drewN ?_ _))⟩
set_option maxHeartbeats 2000000 in
set_option maxRecDepth 100000 in
theorem do_7 (v : Value) (s : ByteArray) (k : Nat) (x : ByteArray) (n kind : Int) (w : World) (h : IsScan v s k w) (hs : s.size ≤ 100000) (hx : x.size ≤ maxLen) (hn0 : 0 ≤ kind) (hn1 : kind ≤ 255) (hk : kind % 8 = 7) :
    Calls Try.prog 8 #[v, scanV s k, .agg #[.int .u8 kind, .string x, .int .i64 n]] w (Done v s w) := by
  unfold scanV
  unfold maxLen at hx
  have HS := Lib.hid h
  have hle := h.le
  have hnew : ∀ j, w.heap.size ≤ j → ¬ ownScan v j := fun j hj ho => by have := h.own_lt ho; omega
  clear h
  rcases Nat.lt_or_ge 20 x.size with hx20 | hx20
  all_goals
    go_enter Try.func8, Try.ntmps8
    go_wp2_with fail
    go_quiet ((go_at_call 11; refine Calls.quiet_of (End_v v s k _ (HS.out.kept (P := fun j => w.heap.size ≤ j) ?_ (fun j hj hge => hnew j hge hj))); exact (by repeat (first | with_reducible exact Kept.refl _ _ | with_reducible assumption | (with_reducible refine Kept.setCellR ?_ ?_ _; rotate_left; · (simp <;> omega)) | with_reducible refine Kept.alloc ?_ _ | with_reducible refine Kept.drew ?_ | with_reducible refine Kept.drewN ?_ _))))
    by_cases hke : k = s.size
    · subst hke
      go_wp2
      exact bodyPost_ret (v := .tuple #[.agg #[.string s, .int .i64 (s.size : Nat)], .int .i64 0]) (by simp [results, Try.results8, go_sem]) rfl ⟨s.size, rfl,
          HS.out.kept (P := fun j => w.heap.size ≤ j) (by repeat (first | with_reducible exact Kept.refl _ _ | with_reducible assumption | (with_reducible refine Kept.setCellL ?_ ?_ _; rotate_left; · (simp <;> omega)) | with_reducible refine Kept.alloc ?_ _ | with_reducible refine Kept.drew ?_ | with_reducible refine Kept.drewN ?_ _)) (fun j hj hge => hnew j hge hj),
          (by repeat (first | with_reducible exact Kept.refl _ _ | with_reducible assumption | (with_reducible refine Kept.setCellR ?_ ?_ _; rotate_left; · (simp <;> omega)) | with_reducible refine Kept.alloc ?_ _ | with_reducible refine Kept.drew ?_ | with_reducible refine Kept.drewN ?_ _))⟩
    · have e0 : decide (k = s.size) = false := by simpa using hke
      have e1 : ((k : Int) == (s.size : Int)) = false := by simp; omega
      go_wp2
      exact bodyPost_ret (v := .tuple #[.agg #[.string s, .int .i64 (k : Nat)], .int .i64 0]) (by simp [results, Try.results8, go_sem]) rfl ⟨k, rfl,
          HS.out.kept (P := fun j => w.heap.size ≤ j) (by repeat (first | with_reducible exact Kept.refl _ _ | with_reducible assumption | (with_reducible refine Kept.setCellL ?_ ?_ _; rotate_left; · (simp <;> omega)) | with_reducible refine Kept.alloc ?_ _ | with_reducible refine Kept.drew ?_ | with_reducible refine Kept.drewN ?_ _)) (fun j hj hge => hnew j hge hj),
          (by repeat (first | with_reducible exact Kept.refl _ _ | with_reducible assumption | (with_reducible refine Kept.setCellR ?_ ?_ _; rotate_left; · (simp <;> omega)) | with_reducible refine Kept.alloc ?_ _ | with_reducible refine Kept.drew ?_ | with_reducible refine Kept.drewN ?_ _))⟩
end Go.Proofs.Ytahbcaafdnbcfaa
