/- The law QuotedNone: its walk. -/
import Derived.Test.YtllheaidkapblaaQtI
namespace Go.Proofs.Ytllheaidkapblaa
open Go.RowKit

theorem nil_scan (w : World) : IsScan (.pointer none) ByteArray.empty 0 w := .inl ⟨rfl, rfl, rfl⟩
theorem read_nil (w : World) : Calls Try.prog 18 #[.pointer none] w fun e w' => e = .returned (.tuple #[.string ByteArray.empty, .bool false]) ∧ Below w.heap.size w w' := by
  refine (Read_v (.pointer none) ByteArray.empty 0 w (nil_scan w) (by decide)).mono ?_
  rintro e w' ⟨rfl, _, hk⟩
  refine ⟨rfl, ?_⟩
  exact (hk.mono (Q := fun i => w.heap.size ≤ i) fun i _ hi => by simp [ownScan] at hi).below (Nat.le_refl _)
theorem word_nil (w : World) : Calls Try.prog 14 #[.pointer none] w fun e w' => e = .returned (.tuple #[.string ByteArray.empty, .bool false]) ∧ Below w.heap.size w w' := by
  refine (Word_v (.pointer none) ByteArray.empty 0 w (nil_scan w) (by decide)).mono ?_
  rintro e w' ⟨rfl, _, hk⟩
  have e1 : wtxt ByteArray.empty 0 = ByteArray.empty := by decide +kernel
  have e2 : wok ByteArray.empty 0 = false := by decide +kernel
  refine ⟨by rw [e1, e2], ?_⟩
  exact (hk.mono (Q := fun i => w.heap.size ≤ i) fun i _ hi => by simp [ownScan] at hi).below (Nat.le_refl _)
set_option maxHeartbeats 1000000 in
theorem none5_core (s0 : ByteArray) (m : Nat) (w : World) (h0 : s0.size ≤ maxLen) (hm : m ≤ 255) :
    Calls Try.prog 5 #[.string s0, .int .u8 m] w fun e w' => e = .returned (.bool true) ∧ Below w.heap.size w w' := by
  have hz := fewS_size s0
  have HF := Lib.hid (few5_any s0 · h0)
  clear h0
  generalize fewS s0 = s at *
  cases hv : Qd.vals s.data.toList
  · have hE : Qd.qE s = 2 := by unfold Qd.qE; rw [hv]; rfl
    have HE := Lib.hid hE
    clear hv hE
    go_enter Try.func5, Try.ntmps5
    go_wp2_with fail
    refine (awake5_any _).mono ?_
    rintro e w1 ⟨rfl, hb1⟩
    go_wp2_with fail
    refine (read_nil _).mono ?_
    rintro e w2 ⟨rfl, hb2⟩
    have HB2 := Lib.hid (below_then hb1 hb2)
    clear hb1 hb2
    go_wp2_with fail
    refine (word_nil _).mono ?_
    rintro e w3 ⟨rfl, hb3⟩
    have HB3 := Lib.hid (below_then HB2.out hb3)
    clear HB2 hb3
    go_wp2_with fail
    refine (HF.out _).mono ?_
    rintro e w' ⟨rfl, rfl⟩
    go_wp2_with fail
    refine (Quote_any s _ (by omega)).mono ?_
    rintro e w4 ⟨rfl, hb4⟩
    rw [HE.out]
    have HB4 := Lib.hid (below_then HB3.out hb4)
    clear HB3 hb4
    go_wp2_with fail
    go_ret
    exact ⟨rfl, HB4.out⟩
  · have hE : Qd.qE s = 0 := by unfold Qd.qE; rw [hv]; rfl
    have HE := Lib.hid hE
    have hq := Qd.qT_size s
    have hq2 := Qd.qT_len s hv
    have hq3 := (Qd.quoteL_len s.data.toList).1
    have hq4 : 2 ≤ (Qd.qT s).size := by omega
    have hlt : m % (Qd.qT s).size < (Qd.qT s).size := Nat.mod_lt _ (by omega)
    have HC := Lib.hid (Qd.fr_cut s _ hv hlt)
    clear hv hE hq2 hq3
    have hcz : ((Qd.qT s).extract 0 (m % (Qd.qT s).size)).size ≤ 100000 := by simp; omega
    have HCZ := Lib.hid hcz
    clear hcz
    obtain ⟨q, hqs⟩ : ∃ q, Qd.qT s = q := ⟨_, rfl⟩
    rw [hqs] at hq hq4 hlt HC HCZ
    obtain ⟨k, hk⟩ : ∃ k, m % q.size = k := ⟨_, rfl⟩
    have hki : (m : Int) % (q.size : Int) = (k : Int) := by rw [← hk]; rfl
    rw [hk] at hlt HC HCZ
    have hqe : ¬ q = ByteArray.empty := by
      rintro rfl
      have e : ByteArray.empty.size = 0 := rfl
      omega
    have HQS := Lib.hid hqs
    clear hqs hk
    go_enter Try.func5, Try.ntmps5
    go_wp2_with fail
    refine (awake5_any _).mono ?_
    rintro e w1 ⟨rfl, hb1⟩
    go_wp2_with fail
    refine (read_nil _).mono ?_
    rintro e w2 ⟨rfl, hb2⟩
    have HB2 := Lib.hid (below_then hb1 hb2)
    clear hb1 hb2
    go_wp2_with fail
    refine (word_nil _).mono ?_
    rintro e w3 ⟨rfl, hb3⟩
    have HB3 := Lib.hid (below_then HB2.out hb3)
    clear HB2 hb3
    go_wp2_with fail
    refine (HF.out _).mono ?_
    rintro e w' ⟨rfl, rfl⟩
    go_wp2_with fail
    refine (Quote_any s _ (by omega)).mono ?_
    rintro e w4 ⟨rfl, hb4⟩
    rw [HE.out, HQS.out]
    have HB4 := Lib.hid (below_then HB3.out hb4)
    clear HB3 hb4
    go_wp2_with fail
    refine (Unquote_any _ _ HCZ.out).mono ?_
    rintro e w5 ⟨rfl, hb5⟩
    rw [HC.out.1, HC.out.2]
    have HB5 := Lib.hid (below_then HB4.out hb5)
    clear HB4 hb5
    go_wp2_with fail
    go_ret
    exact ⟨by first | rfl | simp, HB5.out⟩
end Go.Proofs.Ytllheaidkapblaa
