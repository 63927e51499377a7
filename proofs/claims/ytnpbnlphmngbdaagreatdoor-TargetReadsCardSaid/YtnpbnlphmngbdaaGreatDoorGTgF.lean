/- Contracts and lemmas that the claim rests on: TgF. -/
import Derived.Test.YtnpbnlphmngbdaaGreatDoorGTgE
import Derived.LoopN
import Derived.Deep.RegionHeld3
/- cmp.Or at two texts; Origin: contracts. -/
namespace Go.Proofs.YtnpbnlphmngbdaaGreatDoor
open Go.RowKit

set_option maxHeartbeats 800000 in
theorem Or_any (p q : ByteArray) (b : Nat) (w : World) (h0 : w.cell? ⟨b, 0, none⟩ = some (.string p)) (h1 : w.cell? ⟨b, 1, none⟩ = some (.string q)) (hq : q.toList.isEmpty = false) :
    Calls Tryz.prog 21 #[.slice (some ⟨b, 0, none⟩) 2 2] w fun e w' => e = .returned (.string (if p.toList.isEmpty then q else p)) ∧ w' = w := by
  cases hp : p.toList.isEmpty
  · rw [if_neg (by simp)]
    go_enter Tryz.func21, Tryz.ntmps21
    go_wp2_with fail
    refine wp_loop_rounds 1 ?_
    rw [rounds_succ]
    go_wp2_with fail
    go_ret
    exact ⟨rfl, rfl⟩
  · rw [if_pos rfl]
    go_enter Tryz.func21, Tryz.ntmps21
    go_wp2_with fail
    refine wp_loop_rounds 2 ?_
    rw [rounds_succ]
    go_wp2_with fail
    rw [rounds_succ]
    go_wp2_with fail
    go_ret
    exact ⟨rfl, rfl⟩
namespace Tg
theorem join_bytes (P Q : ByteArray) (b : Bool) : (if b then P ++ ⟨#[63]⟩ ++ Q else P) = ⟨(join P.data.toList Q.data.toList b).toArray⟩ := by
  unfold join
  cases b
  · rw [if_neg (by simp), if_neg (by simp)]
  · rw [if_pos rfl, if_pos rfl]
    exact bytes_eq (by rw [list_append, list_append]; simp)
theorem or_bytes (P : ByteArray) : (if P.toList.isEmpty then (⟨#[47]⟩ : ByteArray) else P).data.toList = if P.data.toList = [] then [47] else P.data.toList := by
  rw [ByteArray.toList_eq]
  cases h : P.data.toList with
  | nil => rfl
  | cons c r => simp [h]
end Tg
set_option maxHeartbeats 1600000 in
theorem TOrigin_any (k : Int) (S : ByteArray) (hk : Int) (N : ByteArray) (p : Int) (PA QU : ByteArray) (ha : Bool) (w : World) (hp : PA.size ≤ 900) (hq : QU.size ≤ 900) :
    Calls Tryz.prog 10 #[tv k S hk N p PA QU ha] w fun e w' => e = .returned (.string ⟨(Tg.og ⟨k, S.data.toList, (hk, N.data.toList, p), PA.data.toList, QU.data.toList, ha⟩).toArray⟩) ∧ Below w.heap.size w w' := by
  unfold Tg.og tv
  simp only
  by_cases h4 : k = 4
  · subst h4
    rw [if_pos rfl]
    go_enter Tryz.func10, Tryz.ntmps10
    go_wp2_with fail
    go_ret
    exact ⟨rfl, (Below.refl _ _).alloc (Nat.le_refl _) _⟩
  · have b4 : (k == 4) = false := by rw [beq_eq_false_iff_ne]; exact h4
    rw [if_neg h4]
    by_cases h3 : k = 3
    · subst h3
      rw [if_pos rfl]
      go_enter Tryz.func10, Tryz.ntmps10
      go_wp2_with fail
      go_ret
      exact ⟨rfl, (Below.refl _ _).alloc (Nat.le_refl _) _⟩
    · have b3 : (k == 3) = false := by rw [beq_eq_false_iff_ne]; exact h3
      rw [if_neg h3, ← Tg.or_bytes, ← Tg.join_bytes]
      have HO := Lib.hid (fun b w1 h0 h1 => Or_any PA ⟨#[47]⟩ b w1 h0 h1 (by rw [ByteArray.toList_eq]; rfl))
      have hz : (if PA.toList.isEmpty then (⟨#[47]⟩ : ByteArray) else PA).size ≤ 1000 := by
        split
        · decide
        · omega
      generalize (if PA.toList.isEmpty then (⟨#[47]⟩ : ByteArray) else PA) = X at *
      have HJ := Lib.hid (fun w1 => PJoin_any X QU ha w1 hz (by omega))
      generalize (if ha = true then X ++ ⟨#[63]⟩ ++ QU else X) = Y at *
      clear hz h3 h4
      go_enter Tryz.func10, Tryz.ntmps10
      go_wp2_with fail
      go_region_held3 (fun w' => w'.cell? ⟨w.heap.size, 5, none⟩ = some (.string PA) ∧ w'.cell? ⟨w.heap.size, 6, none⟩ = some (.string QU) ∧ w'.cell? ⟨w.heap.size, 7, none⟩ = some (.bool ha))
        (first | go_keep | (refine And.intro ?_ (And.intro ?_ ?_) <;> first | go_keep | (simp; omega) | (simp [go_sem]; done) | assumption))
        (first | (go_at_call 21; refine (HO.out _ _ (by simp [go_sem]) (by simp [go_sem])).mono ?_; rintro e w1 ⟨rfl, hw1⟩; subst hw1) | (go_at_call 20; refine (HJ.out _).mono ?_; rintro e w1 ⟨rfl, hw1⟩; subst hw1))
      all_goals go_wp2_with fail
      all_goals
        go_ret
        exact ⟨rfl, (((Below.refl _ _).alloc (Nat.le_refl _) _).alloc (by simp) _).drew⟩
end Go.Proofs.YtnpbnlphmngbdaaGreatDoor
