/- What the laws of references call besides: few, awake: contracts. -/
import Derived.Test.YtnnhlkbjdfgcaaaUrK
import Derived.Test.YtnnhlkbjdfgcaaaUrM
namespace Go.Proofs.Ytnnhlkbjdfgcaaa
open Go.RowKit
def few11 (s : ByteArray) : ByteArray := s.extract 0 (min s.size 150)
theorem few11_size (s : ByteArray) : (few11 s).size ≤ 150 := by unfold few11; simp [ByteArray.size_extract]; omega
set_option maxRecDepth 20000 in
theorem few11_any (s : ByteArray) (w : World) (hs : s.size ≤ maxLen) :
    Calls Try.prog 7 #[.string s] w fun e w' => e = .returned (.string (few11 s)) ∧ w' = w := by
  unfold maxLen at hs
  obtain ⟨k, hk⟩ : ∃ k : Nat, min (s.size : Int) 150 = (k : Int) := ⟨min s.size 150, by omega⟩
  have hk2 : min s.size 150 = k := by omega
  have hk3 : k ≤ s.size := by omega
  unfold few11
  rw [hk2]
  clear hk2
  go_enter Try.func7, Try.ntmps7
  go_wp2_with fail
  go_ret
  exact ⟨rfl, rfl⟩
namespace Ur
def awT : ByteArray := ⟨#[104, 116, 116, 112, 58, 47, 47, 97, 58, 49, 47, 98, 63, 99, 35, 100]⟩
theorem aw_parse : parseL [104, 116, 116, 112, 58, 47, 47, 97, 58, 49, 47, 98, 63, 99, 35, 100] = some ⟨[104, 116, 116, 112], [97, 58, 49], [47, 98], [99], [100], true, true, true⟩ := by decide +kernel
theorem aw_swap : swapL [104, 116, 116, 112, 58, 47, 47, 117, 112, 47, 120] [([104, 116, 116, 112, 58, 47, 47, 117, 112], [104, 116, 116, 112, 115, 58, 47, 47, 97])] = some [104, 116, 116, 112, 115, 58, 47, 47, 97, 47, 120] := by decide +kernel
end Ur
theorem one_pair (w : World) (b : Nat) (s t : ByteArray) (h0 : w.cell? ⟨b, 0, none⟩ = some (.string s)) (h1 : w.cell? ⟨b, 1, none⟩ = some (.string t)) : IsParams w (some ⟨b, 0, none⟩) 1 [(s, t)] :=
  ⟨rfl, .inr ⟨_, rfl, by omega, fun i hi => by
    obtain rfl : i = 0 := by omega
    exact ⟨h0, h1⟩⟩⟩
set_option maxHeartbeats 200000 in
theorem awake11_any (w : World) (hm : MaxL w) : Calls Try.prog 6 #[] w fun e w' => e = .returned (.bool true) ∧ Below w.heap.size w w' := by
  have HP := Lib.hid (UParse_any ⟨#[104, 116, 116, 112, 58, 47, 47, 97, 58, 49, 47, 98, 63, 99, 35, 100]⟩ w (by decide) hm)
  rw [show (⟨#[104, 116, 116, 112, 58, 47, 47, 97, 58, 49, 47, 98, 63, 99, 35, 100]⟩ : ByteArray).data.toList = [104, 116, 116, 112, 58, 47, 47, 97, 58, 49, 47, 98, 63, 99, 35, 100] from rfl, Ur.aw_parse] at HP
  have ep : pV (some ⟨[104, 116, 116, 112], [97, 58, 49], [47, 98], [99], [100], true, true, true⟩) = .tuple #[.agg #[.string ⟨#[104, 116, 116, 112]⟩, .string ⟨#[97, 58, 49]⟩, .string ⟨#[47, 98]⟩, .string ⟨#[99]⟩, .string ⟨#[100]⟩, .bool true, .bool true, .bool true], .int .i64 0] := rfl
  rw [ep] at HP
  have HS := Lib.hid (fun (b : Nat) (w1 : World) h0 h1 => USwap_any ⟨#[104, 116, 116, 112, 58, 47, 47, 117, 112, 47, 120]⟩ (some ⟨b, 0, none⟩) 1 1 [(⟨#[104, 116, 116, 112, 58, 47, 47, 117, 112]⟩, ⟨#[104, 116, 116, 112, 115, 58, 47, 47, 97]⟩)] w1 (one_pair w1 b _ _ h0 h1) (by decide) (by
    intro p hp
    rw [List.mem_singleton] at hp
    subst hp
    exact ⟨by decide, by decide⟩))
  have e1 : (⟨#[104, 116, 116, 112, 58, 47, 47, 117, 112, 47, 120]⟩ : ByteArray).data.toList = [104, 116, 116, 112, 58, 47, 47, 117, 112, 47, 120] := rfl
  have e2 : ([((⟨#[104, 116, 116, 112, 58, 47, 47, 117, 112]⟩ : ByteArray), (⟨#[104, 116, 116, 112, 115, 58, 47, 47, 97]⟩ : ByteArray))].map Ur.pl) = [([104, 116, 116, 112, 58, 47, 47, 117, 112], [104, 116, 116, 112, 115, 58, 47, 47, 97])] := rfl
  rw [e1, e2, Ur.aw_swap] at HS
  have e3 : ∀ s, swV s (some [104, 116, 116, 112, 115, 58, 47, 47, 97, 47, 120]) = .tuple #[.string ⟨#[104, 116, 116, 112, 115, 58, 47, 47, 97, 47, 120]⟩, .bool true] := fun _ => rfl
  rw [e3] at HS
  clear ep e1 e2 e3 hm
  go_enter Try.func6, Try.ntmps6
  go_wp2_with fail
  refine HP.out.mono ?_
  rintro e w1 ⟨rfl, hb1⟩
  have HB1 := Lib.hid hb1
  clear hb1
  go_wp2_with fail
  refine (HS.out (w1.heap.size + 1) _ ?_ ?_).mono ?_
  · simp [go_sem]
  · simp [go_sem]
  rintro e w2 ⟨rfl, hb2⟩
  have HB2 := Lib.hid (below_then (w := w) (by have h := HB1.out; have hz := h.size; exact (by repeat (first | with_reducible exact Below.refl _ _ | with_reducible assumption | with_reducible refine below_allocT ?_ _ | with_reducible refine Below.drew ?_ | with_reducible refine below_drewT ?_ _ | (with_reducible refine Below.setCell ?_ ?_ _; rotate_left; · first | exact Nat.le_refl _ | omega | (simp <;> omega)) | (with_reducible refine Below.alloc ?_ ?_ _; rotate_left; · first | omega | (simp <;> omega))))) hb2)
  obtain ⟨c0, c1, c2, c3, c4, c5, c6, c7, f0, f1, f2, f3, f4, f5, f6, f7, l0⟩ := RefAt.stay (b := w1.heap.size) (A := ⟨#[104, 116, 116, 112]⟩) (B := ⟨#[97, 58, 49]⟩) (C := ⟨#[47, 98]⟩) (D := ⟨#[99]⟩) (E := ⟨#[100]⟩) (x := true) (y := true) (z := true) (by constructor <;> simp [go_sem]) hb2
  clear hb2
  go_wp2_with fail
  go_ret
  exact ⟨rfl, HB2.out⟩
end Go.Proofs.Ytnnhlkbjdfgcaaa
