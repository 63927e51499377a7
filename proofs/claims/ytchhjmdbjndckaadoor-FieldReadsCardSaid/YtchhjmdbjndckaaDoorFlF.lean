/- What the laws of lines of fields call besides: few, awake: contracts. -/
import Derived.Test.YtchhjmdbjndckaaDoorFlC
import Derived.Test.YtchhjmdbjndckaaDoorRegion
namespace Go.Proofs.YtchhjmdbjndckaaDoor
open Go.RowKit
def few12 (s : ByteArray) : ByteArray := s.extract 0 (min s.size 300)
theorem few12_size (s : ByteArray) : (few12 s).size ≤ 300 := by unfold few12; simp [ByteArray.size_extract]; omega
set_option maxRecDepth 20000 in
theorem few12_any (s : ByteArray) (w : World) (hs : s.size ≤ maxLen) :
    Calls Tryd.prog 7 #[.string s] w fun e w' => e = .returned (.string (few12 s)) ∧ w' = w := by
  unfold maxLen at hs
  obtain ⟨k, hk⟩ : ∃ k : Nat, min (s.size : Int) 300 = (k : Int) := ⟨min s.size 300, by omega⟩
  have hk2 : min s.size 300 = k := by omega
  have hk3 : k ≤ s.size := by omega
  unfold few12
  rw [hk2]
  clear hk2
  go_enter Tryd.func7, Tryd.ntmps7
  go_wp2_with fail
  go_ret
  exact ⟨rfl, rfl⟩
namespace Fl
theorem aw_space : parseD [72, 111, 115, 116, 32, 58, 32, 97] = ([], [], 22) := by decide +kernel
theorem aw_field : parseD [72, 111, 115, 116, 58, 97] = ([72, 111, 115, 116], [97], 0) := by decide +kernel
theorem aw_check : checkL [72, 111, 115, 116] [97] = 0 := by decide +kernel
end Fl
theorem txtF_ok {n v : ByteArray} (h : Fl.checkL n.data.toList v.data.toList = 0) : txtF n v = .tuple #[.string (lineB n v), .int .i64 0] := by unfold txtF; rw [if_pos h]
theorem txtF_no {n v : ByteArray} (h : Fl.checkL n.data.toList v.data.toList ≠ 0) : txtF n v = .tuple #[.string ByteArray.empty, .int .i64 (Fl.checkL n.data.toList v.data.toList)] := by unfold txtF; rw [if_neg h]
set_option maxRecDepth 20000 in
theorem awake12_any (w : World) : Calls Tryd.prog 6 #[] w fun e w' => e = .returned (.bool true) ∧ Below w.heap.size w w' := by
  have HP := Lib.hid (fun w1 => FParse_any ⟨#[72, 111, 115, 116, 32, 58, 32, 97]⟩ w1 (by decide))
  rw [show (⟨#[72, 111, 115, 116, 32, 58, 32, 97]⟩ : ByteArray).data.toList = [72, 111, 115, 116, 32, 58, 32, 97] from rfl, Fl.aw_space, show fV ([], [], 22) = .tuple #[.agg #[.string ⟨#[]⟩, .string ⟨#[]⟩], .int .i64 22] from rfl] at HP
  have HQ := Lib.hid (fun w1 => FParse_any ⟨#[72, 111, 115, 116, 58, 97]⟩ w1 (by decide))
  rw [show (⟨#[72, 111, 115, 116, 58, 97]⟩ : ByteArray).data.toList = [72, 111, 115, 116, 58, 97] from rfl, Fl.aw_field, show fV ([72, 111, 115, 116], [97], 0) = .tuple #[.agg #[.string ⟨#[72, 111, 115, 116]⟩, .string ⟨#[97]⟩], .int .i64 0] from rfl] at HQ
  have HT := Lib.hid (fun w1 => FText_any ⟨#[72, 111, 115, 116]⟩ ⟨#[97]⟩ w1 (by decide) (by decide))
  rw [txtF_ok (n := ⟨#[72, 111, 115, 116]⟩) (v := ⟨#[97]⟩) Fl.aw_check, show lineB ⟨#[72, 111, 115, 116]⟩ ⟨#[97]⟩ = ⟨#[72, 111, 115, 116, 58, 32, 97]⟩ from rfl, show fF ⟨#[72, 111, 115, 116]⟩ ⟨#[97]⟩ = .agg #[.string ⟨#[72, 111, 115, 116]⟩, .string ⟨#[97]⟩] from rfl] at HT
  go_enter Tryd.func6, Tryd.ntmps6
  go_wp2_with fail
  refine (HP.out _).mono ?_
  rintro e w1 ⟨rfl, hb1⟩
  have HB1 := Lib.hid hb1
  clear hb1
  go_wp2_with fail
  refine (HQ.out _).mono ?_
  rintro e w2 ⟨rfl, hb2⟩
  have HB2 := Lib.hid (below_then (w := w) (by have h := HB1.out; have hz := h.size; exact (by repeat (first | with_reducible exact Below.refl _ _ | with_reducible assumption | with_reducible refine below_allocT ?_ _ | with_reducible refine Below.drew ?_ | with_reducible refine below_drewT ?_ _ | (with_reducible refine Below.setCell ?_ ?_ _; rotate_left; · first | exact Nat.le_refl _ | omega | (simp <;> omega)) | (with_reducible refine Below.alloc ?_ ?_ _; rotate_left; · first | omega | (simp <;> omega))))) hb2)
  clear hb2
  go_wp2_with fail
  refine (HT.out _).mono ?_
  rintro e w3 ⟨rfl, hb3⟩
  have HB3 := Lib.hid (below_then (w := w) (by have h := HB2.out; have hz := h.size; exact (by repeat (first | with_reducible exact Below.refl _ _ | with_reducible assumption | with_reducible refine below_allocT ?_ _ | with_reducible refine Below.drew ?_ | with_reducible refine below_drewT ?_ _ | (with_reducible refine Below.setCell ?_ ?_ _; rotate_left; · first | exact Nat.le_refl _ | omega | (simp <;> omega)) | (with_reducible refine Below.alloc ?_ ?_ _; rotate_left; · first | omega | (simp <;> omega))))) hb3)
  obtain ⟨c0, c1, f0, f1, l0⟩ := (fldAt_new w2 ⟨#[72, 111, 115, 116]⟩ ⟨#[97]⟩).stay hb3
  clear hb3
  go_wp2_with fail
  go_ret
  exact ⟨rfl, HB3.out⟩
end Go.Proofs.YtchhjmdbjndckaaDoor
