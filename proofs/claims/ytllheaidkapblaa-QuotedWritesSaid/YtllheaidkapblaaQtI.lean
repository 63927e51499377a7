/- The laws of quoted: their walks. -/
import Derived.Test.YtllheaidkapblaaQtH
namespace Go.Proofs.Ytllheaidkapblaa
open Go.RowKit

set_option maxHeartbeats 1000000 in
set_option maxRecDepth 4000 in
theorem writes5_core (s0 : ByteArray) (w : World) (h0 : s0.size ≤ maxLen) :
    Calls Try.prog 3 #[.string s0] w fun e w' => e = .returned (.bool true) ∧ Below w.heap.size w w' := by
  have hz := fewS_size s0
  have HF := Lib.hid (few5_any s0 · h0)
  clear h0
  generalize fewS s0 = s at *
  cases hv : Qd.vals s.data.toList
  · have hE : Qd.qE s = 2 := by unfold Qd.qE; rw [hv]; rfl
    have HE := Lib.hid hE
    clear hv hE
    go_enter Try.func3, Try.ntmps3
    go_wp2_with fail
    refine (awake5_any _).mono ?_
    rintro e w1 ⟨rfl, hb1⟩
    go_wp2_with fail
    refine (HF.out _).mono ?_
    rintro e w' ⟨rfl, rfl⟩
    go_wp2_with fail
    refine (Quote_any s _ (by omega)).mono ?_
    rintro e w2 ⟨rfl, hb2⟩
    rw [HE.out]
    have HB2 := Lib.hid (below_then hb1 hb2)
    clear hb1 hb2
    go_wp2_with fail
    refine (RQuote_any s _ (by omega)).mono ?_
    rintro e w3 ⟨rfl, n3, rfl⟩
    rw [HE.out]
    go_wp2_with fail
    refine (Either_any s _ (by omega)).mono ?_
    rintro e w4 ⟨rfl, hb4⟩
    have HB4 := Lib.hid (below_then (HB2.out.trans (below_drewN _ _ n3)) hb4)
    clear hb4 HB2
    go_wp2_with fail
    refine (REither_any s _ (by omega)).mono ?_
    rintro e w5 ⟨rfl, n5, rfl⟩
    go_wp2_with fail
    go_ret
    exact ⟨rfl, HB4.out.trans (below_drewN _ _ n5)⟩
  · have hE : Qd.qE s = 0 := by unfold Qd.qE; rw [hv]; rfl
    have HE := Lib.hid hE
    have HU := Lib.hid (Qd.unq_quote s hv)
    have HW := Lib.hid (Qd.word_either s hv)
    have hq := Qd.qT_size s
    have hx := Qd.eT_size s
    clear hv hE
    go_enter Try.func3, Try.ntmps3
    go_wp2_with fail
    refine (awake5_any _).mono ?_
    rintro e w1 ⟨rfl, hb1⟩
    go_wp2_with fail
    refine (HF.out _).mono ?_
    rintro e w' ⟨rfl, rfl⟩
    go_wp2_with fail
    refine (Quote_any s _ (by omega)).mono ?_
    rintro e w2 ⟨rfl, hb2⟩
    rw [HE.out]
    have HB2 := Lib.hid (below_then hb1 hb2)
    clear hb1 hb2
    go_wp2_with fail
    refine (RQuote_any s _ (by omega)).mono ?_
    rintro e w3 ⟨rfl, n3, rfl⟩
    rw [HE.out]
    go_wp2_with fail
    refine (Either_any s _ (by omega)).mono ?_
    rintro e w4 ⟨rfl, hb4⟩
    have HB4 := Lib.hid (below_then (HB2.out.trans (below_drewN _ _ n3)) hb4)
    clear hb4 HB2
    go_wp2_with fail
    refine (REither_any s _ (by omega)).mono ?_
    rintro e w5 ⟨rfl, n5, rfl⟩
    go_wp2_with fail
    refine (Unquote_any (Qd.qT s) _ (by omega)).mono ?_
    rintro e w6 ⟨rfl, hb6⟩
    rw [HU.out.1, HU.out.2]
    have HB6 := Lib.hid (below_then (HB4.out.trans (below_drewN _ _ n5)) hb6)
    clear hb6 HB4
    go_wp2_with fail
    refine (New_any (eT s) _).mono ?_
    rintro e w7 ⟨rfl, rfl⟩
    have hsc : IsScan (.pointer (some ⟨w6.heap.size, 0, none⟩)) (eT s) 0 (w6.alloc (.cells #[.string (eT s), .int .i64 0] 47)) := .inr ⟨_, rfl, scn_new (eT s) w6⟩
    have HSC := Lib.hid hsc
    clear hsc
    go_wp2_with fail
    refine (Word_v _ (eT s) 0 _ HSC.out (by omega)).mono ?_
    rintro e w8 ⟨rfl, hs8, hk8⟩
    rw [HW.out.1, HW.out.2.1]
    rw [HW.out.2.2] at hs8
    have HS8 := Lib.hid hs8
    have HB8 : Hid (Below w.heap.size w w8) := (HB6.out.alloc HB6.out.size _).trans ((below_of_own hk8).mono HB6.out.size)
    clear hs8 hk8 HB6 HSC
    go_wp2_with fail
    refine (End_v _ (eT s) _ _ HS8.out).mono ?_
    rintro e w9 ⟨rfl, n9, rfl⟩
    go_wp2_with fail
    go_ret
    exact ⟨by simp, HB8.out.trans (below_drewN _ _ n9)⟩
end Go.Proofs.Ytllheaidkapblaa
