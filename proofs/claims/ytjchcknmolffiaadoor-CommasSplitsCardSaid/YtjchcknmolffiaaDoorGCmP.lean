/- Contracts and lemmas that the claim rests on: CmP. -/
import Derived.Test.YtjchcknmolffiaaDoorGCmM
import Derived.Deep.RegionWith
/- The law CommasSplits: its walk. -/
namespace Go.Proofs.YtjchcknmolffiaaDoor
open Go.RowKit

theorem own_small {w : World} {B : Nat} {e : TypeId} {z : Nat} {v : Value} {n : Nat} {xs : List Value} (h : w.ownsRow B e z v n xs) : n ≤ 9223372036854775807 := by
  rcases h.2 with ⟨_, rfl⟩ | ⟨_, cap, _, _, _, _, h1, h2, _⟩
  · omega
  · unfold maxLen at h2
    omega
set_option maxHeartbeats 1000000 in
set_option maxRecDepth 10000 in
theorem splits6_core (t0 : ByteArray) (a : Option Addr) (len cp : Nat) (ss : List ByteArray) (w : World) (h0 : t0.size ≤ maxLen) (hz : IsTexts w a len ss) :
    Calls Tryd.prog 3 #[.slice a len cp, .string t0] w fun e w' => e = .returned (.bool true) ∧ Below w.heap.size w w' := by
  unfold maxLen at h0
  have HZ := Lib.hid hz
  obtain ⟨t, ht⟩ : ∃ t, t0.extract 0 (min (t0.size : Int) 40).toNat = t := ⟨_, rfl⟩
  have htz : t.size ≤ 40 := by
    rw [← ht]
    simp
    omega
  have hm0 : (0 : Int) ≤ min (t0.size : Int) 40 := by omega
  have hm1 : min (t0.size : Int) 40 ≤ (t0.size : Int) := by omega
  clear hz
  go_enter Tryd.func3, Tryd.ntmps3
  go_wp2_with fail
  refine (awake6_any _).mono ?_
  rintro e w1 ⟨rfl, hb1⟩
  have HB1 := Lib.hid hb1
  clear hb1
  go_wp2_with fail
  go_region_with (go_at_call 7; refine (few6_any a len cp ss _ (HZ.out.below (HB1.out.trans (below_drewN _ _ 1)))).mono ?_; rintro e w2 ⟨a2, n2, c2, rfl, ho2, hb2⟩)
  all_goals
    obtain ⟨hn2, ht2, hc2, hx2, hnc2⟩ := row_facts ho2 (by have := fewC_length ss; omega)
    have HB2 : Hid (Below w.heap.size w w2) := below_then HB1.out ((below_drewN _ _ 1).trans hb2)
    have HT2 := Lib.hid ht2
    have hn6 := fewC_length ss
    have HF := Lib.hid (fewC_size ss)
    clear hb2 ho2 ht2 hx2 HB1 HZ ht hm0 hm1 h0
    generalize fewC ss = ff at *
    obtain rfl : ff.length = n2 := hn2.symm
    go_wp2_with fail
    go_loopw [5] (fun i wr => ∃ k : Nat, k ≤ ff.length ∧ i = .int .i64 k ∧ Below w2.heap.size w2 wr) (fun i _ => ff.length - (intOf i).toNat)
    case atStart => exact ⟨0, Nat.zero_le _, rfl, Below.refl _ _⟩
    case round =>
      obtain ⟨k, hk, rfl, hb⟩ := hrel
      have HB := Lib.hid hb
      clear hb
      by_cases hlt : k < ff.length
      · rcases HT2.out.2 with ⟨_, h⟩ | ⟨x, rfl, hxl, hcells⟩
        · omega
        have HC := Lib.hid (hcells k hlt)
        obtain ⟨s, hs⟩ : ∃ s, ff.getD k ByteArray.empty = s := ⟨_, rfl⟩
        rw [hs] at HC
        have hsz : s.size ≤ 80 := HF.out s (by rw [← hs, getD_at ff k hlt]; exact List.getElem_mem _)
        obtain ⟨L, hL⟩ : ∃ L, (Cm.es s 0).getD [] = L := ⟨_, rfl⟩
        obtain ⟨E, hE⟩ : ∃ E : Int, (if (Cm.es s 0).isSome then 0 else 2) = E := ⟨_, rfl⟩
        have HL := Lib.hid hL
        have HE := Lib.hid hE
        have hll : L.length ≤ 1000 := by
          rw [← hL]
          cases he : Cm.es s 0 with
          | none => exact Nat.zero_le _
          | some A =>
            have := (Cm.es_len s A he).1
            show A.length ≤ 1000
            omega
        have hc := (HT2.out.below HB.out).2
        have hc1 : wr.cell? (x.add k) = some (.string s) := by
          have hb : (x.add k).block = x.block := by unfold Addr.add; split <;> rfl
          exact (HB.out.cell (p := x.add k) (lt_of_cell HC.out)).trans HC.out
        clear hcells hs hL hE hc
        go_wp2_with fail
        refine (Split_any s _ (by omega)).mono ?_
        rintro e w3 ⟨a3, n3, c3, rfl, ho3, hb3⟩
        rw [HE.out]
        rw [HL.out] at ho3
        have HT3 := Lib.hid (own_strs ho3 (by have := own_len ho3; omega))
        have hc3 : w3.cell? (x.add k) = some (.string s) := (hb3.cell (p := x.add k) (lt_of_cell hc1)).trans hc1
        have HB3 := Lib.hid (below_then HB.out hb3)
        clear ho3 hb3 hc1
        go_wp2_with fail
        refine (RSplit_any s _ (by omega)).mono ?_
        rintro e w4 ⟨a4, n4, c4, rfl, ho4, hb4⟩
        rw [HE.out]
        rw [HL.out] at ho4
        have HT4 := Lib.hid (own_strs ho4 (by have := own_len ho4; omega))
        have HT5 := Lib.hid (HT3.out.below hb4)
        have HB4 := Lib.hid (below_then HB3.out hb4)
        clear ho4 hb4 hc3 HT3
        go_wp2_with fail
        refine (RSame_any a3 n3 c3 L a4 n4 c4 L w4 HT5.out HT4.out).mono ?_
        rintro e w5 ⟨rfl, q, rfl⟩
        rw [show decide (L = L) = true from decide_eq_true rfl]
        go_wp2_with fail
        go_roundw
        case rel => exact ⟨k + 1, by omega, by go_num, HB4.out.trans (below_drewN _ _ q)⟩
        case measure => simp [intOf]; omega
      · have HT := Lib.hid (HT2.out.below HB.out)
        have hs100 : ∀ s ∈ ff, s.size ≤ 100000 := fun s hs => Nat.le_trans (HF.out s hs) (by omega)
        have HS := Lib.hid hs100
        obtain ⟨L, hL⟩ : ∃ L, (Cm.toks ff).getD [] = L := ⟨_, rfl⟩
        obtain ⟨E, hE⟩ : ∃ E : Int, (if (Cm.toks ff).isSome then 0 else 2) = E := ⟨_, rfl⟩
        obtain ⟨H, hH⟩ : ∃ H, Cm.has t ff = H := ⟨_, rfl⟩
        have HL := Lib.hid hL
        have HE := Lib.hid hE
        have HH := Lib.hid hH
        clear hL hE hH hs100
        go_wp2_with fail
        refine (Tokens_any a2 ff.length c2 ff wr HT.out (by omega) HS.out).mono ?_
        rintro e w3 ⟨a3, n3, c3, rfl, ho3, hb3⟩
        rw [HE.out]
        rw [HL.out] at ho3
        have HO3 := Lib.hid ho3
        have HB3 := Lib.hid hb3
        clear ho3 hb3
        go_wp2_with fail
        refine (RTokens_any a2 ff.length c2 ff w3 (HT.out.below HB3.out) (by omega) HS.out).mono ?_
        rintro e w4 ⟨a4, n4, c4, rfl, ho4, hb4⟩
        rw [HE.out]
        rw [HL.out] at ho4
        have HB4 := Lib.hid (below_then HB3.out hb4)
        have HO4 := Lib.hid ho4
        have HT34 : Hid (IsTexts w4 a3 n3 L) := (own_strs HO3.out (own_small HO3.out)).below hb4
        have HT4 : Hid (IsTexts w4 a4 n4 L) := own_strs HO4.out (own_small HO4.out)
        clear ho4 hb4
        go_wp2_with fail
        refine (RSame_any a3 n3 c3 L a4 n4 c4 L w4 HT34.out HT4.out).mono ?_
        rintro e w5 ⟨rfl, q, rfl⟩
        rw [show decide (L = L) = true from decide_eq_true rfl]
        go_wp2_with fail
        refine (Has_any t a2 ff.length c2 ff _ ((HT.out.below HB4.out).below (below_drewN _ _ q)) (by omega) HS.out (by omega)).mono ?_
        rintro e w6 ⟨rfl, hb6⟩
        rw [HH.out]
        have HB6 : Hid (Below wr.heap.size wr w6) := below_then HB4.out ((below_drewN _ _ q).trans hb6)
        clear hb6
        go_wp2_with fail
        refine (RHas_any t a2 ff.length c2 ff _ (HT.out.below HB6.out) hnc2 (by omega) HS.out (by omega)).mono ?_
        rintro e w7 ⟨rfl, hb7⟩
        rw [HH.out]
        have HB7 := Lib.hid (below_then HB6.out hb7)
        clear hb7
        go_wp2_with fail
        go_ret
        exact ⟨by simp, below_then HB2.out (below_then HB.out HB7.out)⟩
end Go.Proofs.YtjchcknmolffiaaDoor
