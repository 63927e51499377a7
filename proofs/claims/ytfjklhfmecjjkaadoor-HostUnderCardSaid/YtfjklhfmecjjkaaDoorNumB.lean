/- The document's own answer for numerals: what its functions hand back: contracts. -/
import Derived.Test.YtfjklhfmecjjkaaDoorNumA
import Derived.Test.YtfjklhfmecjjkaaDoorOctD
import Derived.Test.YtfjklhfmecjjkaaDoorWorld
namespace Go.Proofs.YtfjklhfmecjjkaaDoor
open Go.RowKit

theorem ret_int {a b : Int} (h : a = b) : Ending.returned (.int .i64 a) = .returned (.int .i64 b) := by rw [h]
namespace Nu
theorem d_hit {k : Nat} {n : Int} {p : k < (⟨#[48, 49, 50, 51, 52, 53, 54, 55, 56, 57, 97, 98, 99, 100, 101, 102]⟩ : ByteArray).size} (h : (((⟨#[48, 49, 50, 51, 52, 53, 54, 55, 56, 57, 97, 98, 99, 100, 101, 102]⟩ : ByteArray)[k]'p).toNat : Int) = n) : hexv n = k := by
  have g : ∀ i : Fin 16, hexv ((((⟨#[48, 49, 50, 51, 52, 53, 54, 55, 56, 57, 97, 98, 99, 100, 101, 102]⟩ : ByteArray)[i.val]'i.isLt).toNat : Int)) = i.val := by decide +kernel
  rw [← h]; exact g ⟨k, p⟩
theorem g_hit {k : Nat} {n : Int} {p : k < (⟨#[48, 49, 50, 51, 52, 53, 54, 55, 56, 57, 65, 66, 67, 68, 69, 70]⟩ : ByteArray).size} (h : (((⟨#[48, 49, 50, 51, 52, 53, 54, 55, 56, 57, 65, 66, 67, 68, 69, 70]⟩ : ByteArray)[k]'p).toNat : Int) = n) : hexv n = k := by
  have g : ∀ i : Fin 16, hexv ((((⟨#[48, 49, 50, 51, 52, 53, 54, 55, 56, 57, 65, 66, 67, 68, 69, 70]⟩ : ByteArray)[i.val]'i.isLt).toNat : Int)) = i.val := by decide +kernel
  rw [← h]; exact g ⟨k, p⟩
theorem dg_miss {k : Nat} {n : Int} {p : k < (⟨#[48, 49, 50, 51, 52, 53, 54, 55, 56, 57, 97, 98, 99, 100, 101, 102]⟩ : ByteArray).size} {q : k < (⟨#[48, 49, 50, 51, 52, 53, 54, 55, 56, 57, 65, 66, 67, 68, 69, 70]⟩ : ByteArray).size} (h : ¬ (((⟨#[48, 49, 50, 51, 52, 53, 54, 55, 56, 57, 97, 98, 99, 100, 101, 102]⟩ : ByteArray)[k]'p).toNat : Int) = n) (h' : ¬ (((⟨#[48, 49, 50, 51, 52, 53, 54, 55, 56, 57, 65, 66, 67, 68, 69, 70]⟩ : ByteArray)[k]'q).toNat : Int) = n) : hexv n ≠ k := by
  have g1 : ∀ i : Fin 16, ((⟨#[48, 49, 50, 51, 52, 53, 54, 55, 56, 57, 97, 98, 99, 100, 101, 102]⟩ : ByteArray)[i.val]'i.isLt).toNat = if i.val < 10 then 48 + i.val else 87 + i.val := by decide +kernel
  have g2 : ∀ i : Fin 16, ((⟨#[48, 49, 50, 51, 52, 53, 54, 55, 56, 57, 65, 66, 67, 68, 69, 70]⟩ : ByteArray)[i.val]'i.isLt).toNat = if i.val < 10 then 48 + i.val else 55 + i.val := by decide +kernel
  have e1 : ((⟨#[48, 49, 50, 51, 52, 53, 54, 55, 56, 57, 97, 98, 99, 100, 101, 102]⟩ : ByteArray)[k]'p).toNat = if k < 10 then 48 + k else 87 + k := g1 ⟨k, p⟩
  have e2 : ((⟨#[48, 49, 50, 51, 52, 53, 54, 55, 56, 57, 65, 66, 67, 68, 69, 70]⟩ : ByteArray)[k]'q).toNat = if k < 10 then 48 + k else 55 + k := g2 ⟨k, q⟩
  rw [e1] at h
  rw [e2] at h'
  have hk : k < 16 := p
  clear e1 e2 g1 g2
  intro e
  unfold hexv at e
  split at e
  · rw [if_pos (by omega)] at h; omega
  · split at e
    · rw [if_neg (by omega)] at h; omega
    · split at e
      · rw [if_neg (by omega)] at h'; omega
      · omega
theorem d_cut (k : Nat) (h : k < 16) : (⟨#[48, 49, 50, 51, 52, 53, 54, 55, 56, 57, 97, 98, 99, 100, 101, 102]⟩ : ByteArray).extract k (k + 1) = ⟨#[dc k]⟩ := by
  have g : ∀ i : Fin 16, (⟨#[48, 49, 50, 51, 52, 53, 54, 55, 56, 57, 97, 98, 99, 100, 101, 102]⟩ : ByteArray).extract i.val (i.val + 1) = ⟨#[dc i.val]⟩ := by decide +kernel
  exact g ⟨k, h⟩
end Nu

set_option maxHeartbeats 400000 in
theorem worth_any (n : Int) (b : Nat) (w : World) (hb : b ≤ 16) :
    Calls Tryd.prog 63 #[.int .u8 n, .int .i64 b] w fun e w' => e = .returned (.int .i64 (Nu.wor b n)) ∧ w = w' := by
  go_enter Tryd.func63, Tryd.ntmps63
  go_wp2
  go_loop [7] (fun i => ∃ k : Nat, k ≤ b ∧ i = .int .i64 k ∧ ∀ j : Nat, j < k → Nu.hexv n ≠ j) (fun i => b - (intOf i).toNat)
  case atStart => exact ⟨0, Nat.zero_le _, rfl, fun j h => absurd h (by omega)⟩
  case round =>
    obtain ⟨k, hk, rfl, hno⟩ := hrel
    have HN := Lib.hid hno
    clear hno
    by_cases hlt : k < b
    · have hk16 : k < 16 := by omega
      go_wp2
      · rename_i h1
        go_ret
        exact ⟨ret_int (by unfold Nu.wor; rw [Nu.d_hit h1, if_pos (by omega)]), rfl⟩
      · rename_i h1
        go_ret
        exact ⟨ret_int (by unfold Nu.wor; rw [Nu.g_hit (eq_of_beq h1), if_pos (by omega)]), rfl⟩
      · rename_i h1 h2
        have HM := Lib.hid (Nu.dg_miss h1 (beq_eq_false_iff_ne.1 h2))
        go_round
        case rel =>
          refine ⟨k + 1, by omega, by go_num, fun j hj => ?_⟩
          by_cases e : j = k
          · rw [e]; exact HM.out
          · exact HN.out j (by omega)
        case measure => simp [intOf]; omega
    · go_wp2
      go_ret
      refine ⟨ret_int ?_, rfl⟩
      unfold Nu.wor
      by_cases h : Nu.hexv n < b
      · rw [if_pos h]
        have h0 : Nu.hexv n = -1 := by
          have := HN.out (Nu.hexv n).toNat
          have h2 : -1 ≤ Nu.hexv n := by unfold Nu.hexv; split <;> (try split) <;> (try split) <;> omega
          omega
        exact h0.symm
      · rw [if_neg h]

/-- The document's digits: what its function hands back, whatever the world. -/
def DigitsAt (b n : Nat) : Prop := ∀ w, Calls Tryd.prog 62 #[.int .i64 n, .int .i64 b] w fun e w' => e = .returned (.string (Nu.text b n)) ∧ ∃ m, w' = w.drewN m
theorem text_small {b n : Nat} (h : n < b) : Nu.text b n = ⟨#[Nu.dc n]⟩ := by unfold Nu.text; rw [Nu.textL_small h]
theorem text_big {b n : Nat} (hb : 2 ≤ b) (h : ¬ n < b) : Nu.text b n = Nu.text b (n / b) ++ ⟨#[Nu.dc (n % b)]⟩ := by
  unfold Nu.text; rw [Nu.textL_big hb h]
  apply ByteArray.ext; simp
set_option maxHeartbeats 400000 in
theorem Digits_any (b : Nat) (hb : 2 ≤ b) (hb' : b ≤ 16) (n : Nat) : n < 9223372036854775808 → DigitsAt b n := by
  induction n using Nat.strongRecOn with
  | ind n ih =>
    intro hn w
    by_cases h : n < b
    · have hd := Lib.hid ((Nu.d_cut n (by omega)).trans (text_small h).symm)
      go_enter Tryd.func62, Tryd.ntmps62
      go_wp2
      go_ret
      exact ⟨ret_str hd.out, 0, by simp [World.drewN_zero]⟩
    · have hm : n % b < b := Nat.mod_lt _ (by omega)
      have hd := Lib.hid (Nu.d_cut (n % b) (by omega))
      have ht := Lib.hid (text_big hb h)
      have hq := Lib.hid (ih (n / b) (Nu.div_lt hb h) (by have := Nu.div_lt hb h; omega))
      have hs := Nu.text_size b hb (n / b) (by have := Nu.div_lt hb h; omega)
      have e1 : Hid (wrap64 ((n : Int) / (b : Int)) = ((n / b : Nat) : Int)) := by
        show _ = _
        have := Nat.div_le_self n b
        have e : (n : Int) / (b : Int) = ((n / b : Nat) : Int) := rfl
        rw [e]
        generalize n / b = q at *
        unfold wrap64; omega
      have m0 : (0 : Int) ≤ (n : Int) % (b : Int) := by omega
      have m1 : (n : Int) % (b : Int) < 16 := by omega
      have m2 : (n : Int) % (b : Int) + 1 ≤ 16 := by omega
      clear ih
      go_enter Tryd.func62, Tryd.ntmps62
      go_wp2
      go_quiet ((go_at_call 62; rw [e1.out]; exact Calls.quiet_of (hq.out _)))
      go_wp2
      go_ret
      exact ⟨ret_str (by rw [ht.out, ← hd.out]), _, rfl⟩
end Go.Proofs.YtfjklhfmecjjkaaDoor
