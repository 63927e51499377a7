/- The law ScanNone: its walk. -/
import Derived.Test.YtahbcaafdnbcfaaScanN
namespace Go.Proofs.Ytahbcaafdnbcfaa
open Go.RowKit

set_option maxHeartbeats 2000000 in
theorem none_core (a : Option Addr) (len cap : Nat) (w : World) (hd : IsDeeds w a len cap) :
    Calls Try.prog 4 #[.slice a len cap] w fun e w' => e = .returned (.bool true) ∧ Below w.heap.size w w' := by
  have HD := Lib.hid hd
  have hlen : len ≤ 9223372036854775807 := by
    rcases hd with ⟨_, rfl⟩ | ⟨x, _, hl, _⟩
    · omega
    · exact hl
  clear hd
  go_enter Try.func4, Try.ntmps4
  go_wp2_with fail
  refine (awake2_any _).mono ?_
  rintro e w1 ⟨rfl, hb1⟩
  have hz1 := hb1.size
  go_wp2_with fail
  have HP : Hid (AtRound (.pointer none) ByteArray.empty w1.heap.size w len 20 (.int .i64 0) (w1.alloc (.cells #[.string ⟨#[]⟩, .int .i64 0] 27))) := by
    refine ⟨0, 0, Nat.zero_le _, Nat.zero_le _, rfl, ?_⟩
    refine ⟨.inl ⟨rfl, rfl, rfl⟩, ?_, ?_, ?_, ?_, hb1.alloc hb1.size _, ?_, hb1.size⟩
    · simp [go_sem]; rfl
    · simp [go_sem]
    · simp [go_sem]
    · simp [go_sem]
    · intro j hj
      simp [ownScan] at hj
  go_loopw [5, 6] (fun i _ wr => AtRound (.pointer none) ByteArray.empty w1.heap.size w len 20 i wr) (fun i _ _ => len - (intOf i).toNat)
  case atStart => exact HP.out
  case round =>
    clear HP hb1
    obtain ⟨n, k, hnl, hn20, rfl, hp⟩ := hrel
    have hk := hp.scan.le
    have hc0 := hp.c0
    have hc1 := hp.c1
    have hf0 := hp.f0
    have hf1 := hp.f1
    have HPL := Lib.hid hp
    clear hp
    by_cases hlt : n < len ∧ n < 20
    · obtain ⟨hl1, hl2⟩ := hlt
      rcases HD.out.below HPL.out.below with ⟨rfl, rfl⟩ | ⟨x, rfl, hl, hcells⟩
      · omega
      obtain ⟨kd, t, m, g0, g1, ht, d0, d1, d2⟩ := hcells n hl1
      clear hcells
      have hltb : w1.heap.size < wr.heap.size := lt_of_cell hc0
      have hob : ¬ ownScan (.pointer none) w1.heap.size := fun h => (HPL.out.own _ h).2 rfl
      go_wp2
      go_region_with (go_at_call 8; refine (do_any _ ByteArray.empty k t m kd _ (HPL.out.scan.below (by repeat (first | with_reducible exact Below.refl _ _ | with_reducible assumption | (with_reducible refine Below.setCell ?_ ?_ _; rotate_left; · (simp <;> omega)) | (with_reducible refine Below.alloc ?_ ?_ _; rotate_left; · (simp <;> omega)) | with_reducible refine Below.drew ?_))) (by decide) ht g0 g1).mono ?_; rintro e w3 ⟨k2, rfl, hs3, hk3⟩; unfold scanV; have c0' := hk3.at_cell (b := w1.heap.size) (i := 0) (x := some (.string ByteArray.empty)) (by simp; omega) hob (by simpa using hc0); have c1' := hk3.at_cell (b := w1.heap.size) (i := 1) (x := some (.int .i64 k)) (by simp; omega) hob (by simpa using hc1); have f0' := hk3.at_frozen (b := w1.heap.size) (i := 0) (x := false) (by simp; omega) hob (by simpa using hf0); have f1' := hk3.at_frozen (b := w1.heap.size) (i := 1) (x := false) (by simp; omega) hob (by simpa using hf1))
      all_goals
        have HQ : Playing (.pointer none) ByteArray.empty w1.heap.size w k2 ((w3.setCell ⟨w1.heap.size, 0, none⟩ (.string ByteArray.empty)).setCell ⟨w1.heap.size, 1, none⟩ (.int .i64 k2)) := by
          refine ⟨hs3.kept (P := fun j => j = w1.heap.size) (by repeat (first | with_reducible exact Kept.refl _ _ | with_reducible assumption | (with_reducible refine Kept.setCellL ?_ ?_ _; rotate_left; · (simp <;> omega)) | with_reducible refine Kept.alloc ?_ _ | with_reducible refine Kept.drew ?_ | with_reducible refine Kept.drewN ?_ _)) (fun j hj e => (HPL.out.own j hj).2 e), ?_, ?_, ?_, ?_, ?_, HPL.out.own, HPL.out.base⟩
          · rw [World.cell?_setCell_other _ _ _ _ (by simp)]; exact World.cell?_setCell_same _ _ _ c0'
          · exact World.cell?_setCell_same _ _ _ ((World.cell?_setCell_other _ _ _ _ (by simp)).trans c1')
          · rw [World.frozen?_setCell, World.frozen?_setCell]; exact f0'
          · rw [World.frozen?_setCell, World.frozen?_setCell]; exact f1'
          · have hk4 : Kept (fun j => w.heap.size ≤ j) wr w3 := Kept.trans (by repeat (first | with_reducible exact Kept.refl _ _ | with_reducible assumption | (with_reducible refine Kept.setCellL ?_ ?_ _; rotate_left; · (simp <;> omega)) | with_reducible refine Kept.alloc ?_ _ | with_reducible refine Kept.drew ?_ | with_reducible refine Kept.drewN ?_ _)) (hk3.mono fun j _ hj => (HPL.out.own j hj).1)
            have hk5 := (hk4.setCellL (p := ⟨w1.heap.size, 0, none⟩) HPL.out.base (.string ByteArray.empty)).setCellL (p := ⟨w1.heap.size, 1, none⟩) HPL.out.base (.int .i64 k2)
            exact HPL.out.below.trans (hk5.below HPL.out.below.size)
        generalize (w3.setCell ⟨w1.heap.size, 0, none⟩ (.string ByteArray.empty)).setCell ⟨w1.heap.size, 1, none⟩ (.int .i64 k2) = w4 at *
        clear hs3 hk3 c0' c1' f0' f1' hc0 hc1 hf0 hf1 d0 d1 d2
        have HQH := Lib.hid HQ
        clear HQ
        go_wp2
        exact ⟨⟨n + 1, k2, by omega, by omega, by go_num, HQH.out⟩, by simp [intOf]; omega⟩
    · have hex : ¬ n < len ∨ (n < len ∧ ¬ n < 20) := by omega
      rcases hex with h1 | ⟨h1, h2⟩
      all_goals
        go_wp2_with fail
        refine (At_nil _).mono ?_
        rintro e w' ⟨rfl, rfl⟩
        go_wp2_with fail
        refine (Rest_nil _).mono ?_
        rintro e w3 ⟨rfl, n1, rfl⟩
        go_wp2_with fail
        refine (End_nil _).mono ?_
        rintro e w4 ⟨rfl, n2, rfl⟩
        go_wp2
        go_ret
        exact ⟨rfl, HPL.out.below.trans (below_drewN _ _ (n1 + n2))⟩
end Go.Proofs.Ytahbcaafdnbcfaa
