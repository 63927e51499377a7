/- Contracts and lemmas that the claim rests on: QtC. -/
import Derived.Test.YtjgjdcikeagibaaGQtB
import Derived.Deep.RegionWith
/- The reader's value and quoted: contracts. -/
namespace Go.Proofs.Ytjgjdcikeagibaa
open Go.RowKit

def valAt (s : ByteArray) (k : Nat) : Bool := decide (k < s.size) && B.val (byteAt s k)
theorem scan_on {v : Value} {s : ByteArray} {k : Nat} {w w' : World} (h : IsScan v s k w) (hk : Below w.heap.size w w') : IsScan v s k w' := h.below hk
theorem Byte_yes (v : Value) (s : ByteArray) (k : Nat) (b : Int) (w : World) (h : IsScan v s k w) (hs : s.size ≤ maxLen) (hk : k < s.size) (hb : byteAt s k = b) :
    Calls Try.prog 72 #[v, .int .u8 b] w fun e w' => e = .returned (.bool true) ∧ IsScan v s (k + 1) w' ∧ Kept (ownScan v) w w' := by
  refine (Byte_v v s k b w h hs).mono ?_
  rintro e w' ⟨rfl, h1, h2⟩
  rw [if_pos ⟨hk, hb⟩] at h1
  exact ⟨by rw [decide_eq_true (show k < s.size ∧ byteAt s k = b from ⟨hk, hb⟩)], h1, h2⟩
theorem Byte_no (v : Value) (s : ByteArray) (k : Nat) (b : Int) (w : World) (h : IsScan v s k w) (hs : s.size ≤ maxLen) (hn : ¬ (k < s.size ∧ byteAt s k = b)) :
    Calls Try.prog 72 #[v, .int .u8 b] w fun e w' => e = .returned (.bool false) ∧ IsScan v s k w' ∧ Kept (ownScan v) w w' := by
  refine (Byte_v v s k b w h hs).mono ?_
  rintro e w' ⟨rfl, h1, h2⟩
  rw [if_neg hn] at h1
  exact ⟨by rw [decide_eq_false hn], h1, h2⟩
theorem value_v (v : Value) (s : ByteArray) (k : Nat) (w : World) (h : IsScan v s k w) (hs : s.size ≤ 100000) :
    Calls Try.prog 73 #[.agg #[v]] w fun e w' => e = .returned (.tuple #[.int .u8 (byteAt s k), .bool (valAt s k)]) ∧ IsScan v s (if valAt s k then k + 1 else k) w' ∧ Kept (ownScan v) w w' := by
  have hA : ∀ o n, IsScan v s k ((w.alloc o).drewN n) := fun o n => h.below (((Below.refl _ _).alloc (Nat.le_refl _) _).trans (below_drewN _ _ n))
  have hA0 : ∀ o, IsScan v s k (w.alloc o) := fun o => h.below ((Below.refl _ _).alloc (Nat.le_refl _) _)
  have HA := Lib.hid hA
  have HA0 := Lib.hid hA0
  have hm : s.size ≤ maxLen := by unfold maxLen; omega
  have HM := Lib.hid hm
  have hb := byteAt_range s k
  clear h hA hA0 hm
  by_cases hk : k < s.size
  · have hd : Hid (decide (k < s.size) = true) := by show _ = _; simpa using hk
    cases hv : B.val (byteAt s k)
    · have e1 : Hid (valAt s k = false) := by show _ = _; unfold valAt; rw [hv]; simp
      have HV := Lib.hid hv
      clear hv hk
      rw [e1.out]
      go_enter Try.func73, Try.ntmps73
      go_wp2_with fail
      refine (Peek_v v s k _ (HA0.out _)).mono ?_
      rintro e w' ⟨rfl, n, rfl⟩
      rw [hd.out]
      go_wp2_with fail
      refine (IsValue_any _ _).mono ?_
      rintro e w' ⟨rfl, rfl⟩
      rw [HV.out]
      go_wp2_with fail
      go_ret2
      exact ⟨rfl, HA.out _ _, (by repeat (first | with_reducible exact Kept.refl _ _ | with_reducible assumption | (with_reducible refine Kept.setCellL ?_ ?_ _; rotate_left; · (simp <;> omega)) | with_reducible refine Kept.alloc ?_ _ | with_reducible refine Kept.drew ?_ | with_reducible refine Kept.drewN ?_ _))⟩
    · have e1 : Hid (valAt s k = true) := by show _ = _; unfold valAt; rw [hv]; simpa using hk
      have HB : Hid (k < s.size) := hk
      have HV := Lib.hid hv
      clear hv hk
      rw [e1.out]
      go_enter Try.func73, Try.ntmps73
      go_wp2_with fail
      refine (Peek_v v s k _ (HA0.out _)).mono ?_
      rintro e w' ⟨rfl, n, rfl⟩
      rw [hd.out]
      go_wp2_with fail
      refine (IsValue_any _ _).mono ?_
      rintro e w' ⟨rfl, rfl⟩
      rw [HV.out]
      go_wp2_with fail
      refine (Byte_yes v s k (byteAt s k) _ (HA.out _ _) HM.out HB.out rfl).mono ?_
      rintro e w2 ⟨rfl, hsc, hk2⟩
      have HK : Hid (Kept (ownScan v) w w2) := Kept.trans (by repeat (first | with_reducible exact Kept.refl _ _ | with_reducible assumption | (with_reducible refine Kept.setCellL ?_ ?_ _; rotate_left; · (simp <;> omega)) | with_reducible refine Kept.alloc ?_ _ | with_reducible refine Kept.drew ?_ | with_reducible refine Kept.drewN ?_ _)) hk2
      clear hk2
      go_wp2_with fail
      go_ret2
      exact ⟨rfl, hsc, HK.out⟩
  · have hd : Hid (decide (k < s.size) = false) := by show _ = _; simpa using hk
    have e1 : Hid (valAt s k = false) := by show _ = _; unfold valAt; rw [hd.out]; rfl
    clear hk
    rw [e1.out]
    go_enter Try.func73, Try.ntmps73
    go_wp2_with fail
    refine (Peek_v v s k _ (HA0.out _)).mono ?_
    rintro e w' ⟨rfl, n, rfl⟩
    rw [hd.out]
    go_wp2_with fail
    go_ret2
    exact ⟨rfl, HA.out _ _, (by repeat (first | with_reducible exact Kept.refl _ _ | with_reducible assumption | (with_reducible refine Kept.setCellL ?_ ?_ _; rotate_left; · (simp <;> omega)) | with_reducible refine Kept.alloc ?_ _ | with_reducible refine Kept.drew ?_ | with_reducible refine Kept.drewN ?_ _))⟩
end Go.Proofs.Ytjgjdcikeagibaa
