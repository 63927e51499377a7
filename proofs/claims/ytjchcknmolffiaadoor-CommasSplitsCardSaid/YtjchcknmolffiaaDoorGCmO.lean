/- Contracts and lemmas that the claim rests on: CmO. -/
import Derived.Test.YtjchcknmolffiaaDoorGCmM
import Derived.Deep.RegionWith
/- The law CommasJoins: its walk. -/
namespace Go.Proofs.YtjchcknmolffiaaDoor
open Go.RowKit

set_option maxHeartbeats 1000000 in
set_option maxRecDepth 10000 in
theorem joins6_core (s0 : ByteArray) (a : Option Addr) (len cp : Nat) (ss : List ByteArray) (w : World) (h0 : s0.size ≤ maxLen) (hz : IsTexts w a len ss) :
    Calls Tryd.prog 4 #[.string s0, .slice a len cp] w fun e w' => e = .returned (.bool true) ∧ Below w.heap.size w w' := by
  unfold maxLen at h0
  have HZ := Lib.hid hz
  obtain ⟨s, hs⟩ : ∃ s, s0.extract 0 (min (s0.size : Int) 80).toNat = s := ⟨_, rfl⟩
  have hsz : s.size ≤ 80 := by
    rw [← hs]
    simp
    omega
  have hm0 : (0 : Int) ≤ min (s0.size : Int) 80 := by omega
  have hm1 : min (s0.size : Int) 80 ≤ (s0.size : Int) := by omega
  clear hz
  go_enter Tryd.func4, Tryd.ntmps4
  go_wp2_with fail
  refine (awake6_any _).mono ?_
  rintro e w1 ⟨rfl, hb1⟩
  have HB1 := Lib.hid hb1
  clear hb1
  go_wp2_with fail
  go_region_with (go_at_call 7; refine (few6_any a len cp ss _ (HZ.out.below (HB1.out.trans (below_drewN _ _ 1)))).mono ?_; rintro e w2 ⟨a2, n2, c2, rfl, ho2, hb2⟩)
  all_goals
    obtain ⟨hn2, ht2, hc2, hx2, hnc2⟩ := row_facts ho2 (by have := fewC_length ss; omega)
    have HB2 : Hid (Below w.heap.size w w2) := below_then HB1.out ((below_drewN _ _ 1).trans hb2)
    have HT2 := Lib.hid ht2
    have HX2 := Lib.hid hx2
    have hn6 := fewC_length ss
    have hfl := flat_bound 80 (fewC ss) (fewC_size ss)
    clear hb2 ho2 ht2 hx2 HB1 HZ hs hm0 hm1 h0
    generalize fewC ss = ff at *
    obtain rfl : ff.length = n2 := hn2.symm
    obtain ⟨J, hJ⟩ : ∃ J, joinB cmB ff = J := ⟨_, rfl⟩
    obtain ⟨P, hP⟩ : ∃ P, Cm.app s ff = P := ⟨_, rfl⟩
    have HJ := Lib.hid hJ
    have HP := Lib.hid hP
    have hRJ := Lib.hid (fun w' (h : Below w2.heap.size w2 w') => RJoin_any cmB a2 ff.length c2 ff w' (HT2.out.below h) (by have e : cmB.size = 2 := rfl; rw [e]; omega) (by decide))
    rw [hJ] at hRJ
    unfold cmB at hRJ
    clear hJ hP
    go_wp2_with fail
    refine (CJoin_any a2 ff.length c2 ff w2 HT2.out HX2.out hnc2 (by omega) (by omega)).mono ?_
    rintro e w3 ⟨rfl, hb3⟩
    rw [HJ.out]
    have HB3 := Lib.hid hb3
    clear hb3
    go_wp2_with fail
    refine (hRJ.out _ HB3.out).mono ?_
    rintro e w4 ⟨rfl, rfl⟩
    clear hRJ
    go_wp2_with fail
    refine (Append_any s a2 ff.length c2 ff w3 (HT2.out.below HB3.out) (fun x hx => ⟨(HX2.out x hx).1, Nat.lt_of_lt_of_le (HX2.out x hx).2 HB3.out.size⟩) hnc2 (by omega) (by omega) (by omega)).mono ?_
    rintro e w5 ⟨rfl, hb5⟩
    rw [HP.out]
    have HB5 := Lib.hid (below_then HB3.out hb5)
    clear hb5
    go_wp2_with fail
    refine (RAppend_any s a2 ff.length c2 ff w5 (HT2.out.below HB5.out) (by omega) (by omega) (by omega)).mono ?_
    rintro e w6 ⟨rfl, rfl⟩
    rw [HP.out]
    go_wp2_with fail
    go_ret
    exact ⟨rfl, below_then HB2.out HB5.out⟩
end Go.Proofs.YtjchcknmolffiaaDoor
