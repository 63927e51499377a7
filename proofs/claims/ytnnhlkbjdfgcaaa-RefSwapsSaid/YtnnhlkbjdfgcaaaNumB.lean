/- The document's own answer for numerals: what its functions hand back: contracts. -/
import Derived.Test.YtnnhlkbjdfgcaaaNumA
import Derived.Test.YtnnhlkbjdfgcaaaOctD
import Derived.Test.YtnnhlkbjdfgcaaaWorld
namespace Go.Proofs.Ytnnhlkbjdfgcaaa
open Go.RowKit

theorem ret_int {a b : Int} (h : a = b) : Ending.returned (.int .i64 a) = .returned (.int .i64 b) := by rw [h]
namespace Nu
theorem d_hit {k : Nat} {n : Int} {p : k < (⟨#[48, 49, 50, 51, 52, 53, 54, 55, 56, 57, 97, 98, 99, 100, 101, 102]⟩ : ByteArray).size} (h : (((⟨#[48, 49, 50, 51, 52, 53, 54, 55, 56, 57, 97, 98, 99, 100, 101, 102]⟩ : ByteArray)[k]'p).toNat : Int) = n) : hexv n = k := by
  have g : ∀ i : Fin 16, hexv ((((⟨#[48, 49, 50, 51, 52, 53, 54, 55, 56, 57, 97, 98, 99, 100, 101, 102]⟩ : ByteArray)[i.val]'i.isLt).toNat : Int)) = i.val := by decide +kernel
  rw [← h]; exact g ⟨k, p⟩
theorem g_hit {k : Nat} {n : Int} {p : k < (⟨#[48, 49, 50, 51, 52, 53, 54, 55, 56, 57, 65, 66, 67, 68, 69, 70]⟩ : ByteArray).size} (h : (((⟨#[48, 49, 50, 51, 52, 53, 54, 55, 56, 57, 65, 66, 67, 68, 69, 70]⟩ : ByteArray)[k]'p).toNat : Int) = n) : hexv n = k := by
  have g : ∀ i : Fin 16, hexv ((((⟨#[48, 49, 50, 51, 52, 53, 54, 55, 56, 57, 65, 66, 67, 68, 69, 70]⟩ : ByteArray)[i.val]'i.isLt).toNat : Int)) = i.val := by decide +kernel
  rw [← h]; exact g ⟨k, p⟩
theorem dg_miss {k : Nat} {n : Int} {p : k < (⟨#[48, 49, 50, 51, 52, 53, 54, 55, 56, 57, 97, 98, 99, 100, 101, 102]⟩ : ByteArray).size} {q : k < (⟨#[48, 49, 50, 51, 52, 53, 54, 55, 56, 57, 65, 66, 67, 68, 69, 70]⟩ : ByteArray).size} (h : ¬ (((⟨#[48, 49, 50, 51, 52, 53, 54, 55, 56, 57, 97, 98, 99, 100, 101, 102]⟩ : ByteArray)[k]'p).toNat : Int) = n) (h' : ¬ (((⟨#[48, 49, 50, 51, 52, 53, 54, 55, 56, 57, 65, 66, 67, 68, 69, 70]⟩ : ByteArray)[k]'q).toNat : Int) = n) : hexv n ≠ k := by
  have g1 : ∀ i : Fin 16, ((⟨#[48, 49, 50, 51, 52, 53, 54, 55, 56, 57, 97, 98, 99, 100, 101, 102]⟩ : ByteArray)[i.val]'i.isLt).toNat = if i.val < 10 then 48 + i.val else 87 + i.val := by decide +kernel
  have g2 : ∀ i : Fin 16, ((⟨#[48, 49, 50, 51, 52, 53, 54, 55, 56, 57, 65, 66, 67, 68, 69, 70]⟩ : ByteArray)[i.val]'i.isLt).toNat = if i.val < 10 then 48 + i.val else 55 + i.val := by decide +kernel
  have e1 : ((⟨#[48, 49, 50, 51, 52, 53, 54, 55, 56, 57, 97, 98, 99, 100, 101, 102]⟩ : ByteArray)[k]'p).toNat = if k < 10 then 48 + k else 87 + k := g1 ⟨k, p⟩
  have e2 : ((⟨#[48, 49, 50, 51, 52, 53, 54, 55, 56, 57, 65, 66, 67, 68, 69, 70]⟩ : ByteArray)[k]'q).toNat = if k < 10 then 48 + k else 55 + k := g2 ⟨k, q⟩
  rw [e1] at h
  rw [e2] at h'
  have hk : k < 16 := p
  clear e1 e2 g1 g2
  intro e
  unfold hexv at e
  split at e
  · rw [if_pos (by omega)] at h; omega
  · split at e
    · rw [if_neg (by omega)] at h; omega
    · split at e
      · rw [if_neg (by omega)] at h'; omega
      · omega
theorem d_cut (k : Nat) (h : k < 16) : (⟨#[48, 49, 50, 51, 52, 53, 54, 55, 56, 57, 97, 98, 99, 100, 101, 102]⟩ : ByteArray).extract k (k + 1) = ⟨#[dc k]⟩ := by
  have g : ∀ i : Fin 16, (⟨#[48, 49, 50, 51, 52, 53, 54, 55, 56, 57, 97, 98, 99, 100, 101, 102]⟩ : ByteArray).extract i.val (i.val + 1) = ⟨#[dc i.val]⟩ := by decide +kernel
  exact g ⟨k, h⟩
end Nu

theorem text_small {b n : Nat} (h : n < b) : Nu.text b n = ⟨#[Nu.dc n]⟩ := by unfold Nu.text; rw [Nu.textL_small h]
theorem text_big {b n : Nat} (hb : 2 ≤ b) (h : ¬ n < b) : Nu.text b n = Nu.text b (n / b) ++ ⟨#[Nu.dc (n % b)]⟩ := by
  unfold Nu.text; rw [Nu.textL_big hb h]
  apply ByteArray.ext; simp
end Go.Proofs.Ytnnhlkbjdfgcaaa
