/- The page's examples; few: contracts. -/
import Derived.Test.YtfjklhfmecjjkaaDoorHoN
namespace Go.Proofs.YtfjklhfmecjjkaaDoor
open Go.RowKit

namespace Hp
theorem aw_six : hostL [91, 58, 58, 49, 93] = (3, [58, 58, 49]) := host_six (inn_of [58, 58, 49]) (by decide +kernel)
theorem text80 : Nu.textL 10 80 = [56, 48] := by
  rw [Nu.textL_big (by omega) (by omega), Nu.textL_small (by omega)]
  decide +kernel
theorem aw_one : prs [91, 58, 58, 49, 93, 58, 56, 48] = some (3, [58, 58, 49], 80) := by
  refine (prs_iff _ _).2 ⟨[91, 58, 58, 49, 93], ?_⟩
  rw [aw_six]
  have h := okD_text (most := 65535) (n := 80) (by omega)
  rw [text80] at h
  exact ⟨by decide, rfl, rfl, .inr ⟨[56, 48], rfl, h.1, by rw [h.2]; rfl⟩⟩
theorem name_all {l : List UInt8} (h0 : l ≠ []) (h : l.all okb = true) : nameL l = true := by
  unfold nameL
  rw [nmL_all l h, Bool.and_true]
  simpa using h0
theorem okD_big {most : Int} {l : List UInt8} (h : (Nu.rd 10 most l).2 ≠ 0) : okD most l = false := by unfold okD; rw [decide_eq_false h]; rfl
theorem aw_four : fourL [49, 46, 50, 46, 51, 46, 52, 48, 48] = false := by
  have e : parts 46 [49, 46, 50, 46, 51, 46, 52, 48, 48] = [[49], [50], [51], [52, 48, 48]] := by decide +kernel
  unfold fourL
  rw [e]
  simp only [List.all_cons, List.all_nil]
  rw [okD_big (l := [52, 48, 48]) (by decide +kernel)]
  simp
theorem aw_two : prs [49, 46, 50, 46, 51, 46, 52, 48, 48] = some (1, [49, 46, 50, 46, 51, 46, 52, 48, 48], -1) := by
  have h : isN [49, 46, 50, 46, 51, 46, 52, 48, 48] = true := by
    rw [isN_eq, aw_four, name_all (by simp) (by decide +kernel)]; rfl
  unfold isN at h
  exact of_decide_eq_true h
theorem four_few {l : List UInt8} (h : (parts 46 l).length ≠ 4) : fourL l = false := by unfold fourL; rw [decide_eq_false h, Bool.and_false]
theorem aw_under : und [119, 119, 119, 46, 97, 46, 100, 101] [65, 46, 100, 101] = true := by
  unfold und
  rw [isN_eq, isN_eq, name_all (by simp) (by decide +kernel), name_all (by simp) (by decide +kernel), four_few (by decide +kernel), four_few (by decide +kernel)]
  decide +kernel
end Hp
def few8 (s : ByteArray) : ByteArray := s.extract 0 (min s.size 80)
theorem few8_size (s : ByteArray) : (few8 s).size ≤ 80 := by unfold few8; simp [ByteArray.size_extract]; omega
theorem few8_any (s : ByteArray) (w : World) (hs : s.size ≤ maxLen) :
    Calls Tryd.prog 6 #[.string s] w fun e w' => e = .returned (.string (few8 s)) ∧ w' = w := by
  unfold maxLen at hs
  obtain ⟨k, hk⟩ : ∃ k : Nat, min (s.size : Int) 80 = (k : Int) := ⟨min s.size 80, by omega⟩
  have hk2 : min s.size 80 = k := by omega
  have hk3 : k ≤ s.size := by omega
  unfold few8
  rw [hk2]
  clear hk2
  go_enter Tryd.func6, Tryd.ntmps6
  go_wp2_with fail
  go_ret
  exact ⟨rfl, rfl⟩
set_option maxHeartbeats 1600000 in
theorem awake8_any (w : World) (ht : Tx w) : Calls Tryd.prog 5 #[] w fun e w' => e = .returned (.bool true) ∧ Below w.heap.size w w' := by
  have HA := Lib.hid (fun w1 (h : Below w.heap.size w w1) => HParse_any ⟨#[91, 58, 58, 49, 93, 58, 56, 48]⟩ w1 (by decide) (ht.stay h))
  have HB := Lib.hid (fun w1 (h : Below w.heap.size w w1) => HParse_any ⟨#[49, 46, 50, 46, 51, 46, 52, 48, 48]⟩ w1 (by decide) (ht.stay h))
  have HU := Lib.hid (fun w1 (h : Below w.heap.size w w1) => HUnder_any ⟨#[119, 119, 119, 46, 97, 46, 100, 101]⟩ ⟨#[65, 46, 100, 101]⟩ w1 (by decide) (by decide) (ht.stay h))
  rw [show (⟨#[91, 58, 58, 49, 93, 58, 56, 48]⟩ : ByteArray).data.toList = [91, 58, 58, 49, 93, 58, 56, 48] from rfl, Hp.aw_one] at HA
  rw [show (⟨#[49, 46, 50, 46, 51, 46, 52, 48, 48]⟩ : ByteArray).data.toList = [49, 46, 50, 46, 51, 46, 52, 48, 48] from rfl, Hp.aw_two] at HB
  rw [show (⟨#[119, 119, 119, 46, 97, 46, 100, 101]⟩ : ByteArray).data.toList = [119, 119, 119, 46, 97, 46, 100, 101] from rfl, show (⟨#[65, 46, 100, 101]⟩ : ByteArray).data.toList = [65, 46, 100, 101] from rfl, Hp.aw_under] at HU
  unfold prsV hostV at HA HB
  clear ht
  go_enter Tryd.func5, Tryd.ntmps5
  go_wp2_with fail
  refine (HA.out _ (Below.refl _ _)).mono ?_
  rintro e w1 ⟨rfl, hb1⟩
  have HB1 := Lib.hid (hb1.alloc hb1.size (.cells #[.int .i64 3, .string ⟨#[58, 58, 49]⟩, .int .i64 80] 29))
  clear hb1
  go_wp2_with fail
  refine (HB.out _ HB1.out).mono ?_
  rintro e w2 ⟨rfl, hb2⟩
  have x0 := below_cell hb2 (b := w1.heap.size) (i := 0) (x := some (.int .i64 3)) (by simp) (by simp [go_sem])
  have x1 := below_cell hb2 (b := w1.heap.size) (i := 1) (x := some (.string ⟨#[58, 58, 49]⟩)) (by simp) (by simp [go_sem])
  have x2 := below_cell hb2 (b := w1.heap.size) (i := 2) (x := some (.int .i64 80)) (by simp) (by simp [go_sem])
  have hl2 : w1.heap.size < w2.heap.size := by have := hb2.size; simp at this; omega
  have HB2 := Lib.hid ((HB1.out.trans (hb2.mono HB1.out.size)).alloc (Nat.le_trans HB1.out.size hb2.size) (.cells #[.int .i64 1, .string ⟨#[49, 46, 50, 46, 51, 46, 52, 48, 48]⟩, .int .i64 (-1)] 29))
  clear hb2
  go_wp2_with fail
  refine (HU.out _ HB2.out).mono ?_
  rintro e w3 ⟨rfl, hb3⟩
  go_wp2_with fail
  go_ret
  exact ⟨rfl, HB2.out.trans (hb3.mono HB2.out.size)⟩
end Go.Proofs.YtfjklhfmecjjkaaDoor
