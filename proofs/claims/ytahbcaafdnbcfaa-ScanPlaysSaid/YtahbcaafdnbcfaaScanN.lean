/- The law ScanPlays: its walk. -/
import Derived.Test.YtahbcaafdnbcfaaScanM
import Derived.Deep.RegionWith
namespace Go.Proofs.Ytahbcaafdnbcfaa
open Go.RowKit

/-- A row of deeds that came in, read at its cells. -/
def IsDeeds (w : World) (a : Option Addr) (len cap : Nat) : Prop :=
  (a = none ∧ len = 0) ∨ ∃ x, a = some x ∧ len ≤ 9223372036854775807 ∧ ∀ i, i < len → ∃ (kd : Int) (t : ByteArray) (n : Int), 0 ≤ kd ∧ kd ≤ 255 ∧ t.size ≤ maxLen ∧
    w.cell? (x.add (i * 3)) = some (.int .u8 kd) ∧ w.cell? ⟨(x.add (i * 3)).block, (x.add (i * 3)).off + 1, none⟩ = some (.string t) ∧ w.cell? ⟨(x.add (i * 3)).block, (x.add (i * 3)).off + 2, none⟩ = some (.int .i64 n)
theorem IsDeeds.below {w w' : World} {a : Option Addr} {len cap : Nat} (h : IsDeeds w a len cap) (hb : Below w.heap.size w w') : IsDeeds w' a len cap := by
  rcases h with h | ⟨x, rfl, hl, h⟩
  · exact .inl h
  · refine .inr ⟨x, rfl, hl, fun i hi => ?_⟩
    obtain ⟨kd, t, n, h0, h1, ht, c0, c1, c2⟩ := h i hi
    exact ⟨kd, t, n, h0, h1, ht, (hb.cell (lt_of_cell c0)).trans c0, (hb.cell (lt_of_cell c1)).trans c1, (hb.cell (lt_of_cell c2)).trans c2⟩

/-- Where the law stands ahead of a round: both scanners at one place; the page's own lies in block b. -/
structure Playing (v : Value) (s : ByteArray) (b : Nat) (w : World) (k : Nat) (wr : World) : Prop where
  scan : IsScan v s k wr
  c0 : wr.cell? ⟨b, 0, none⟩ = some (.string s)
  c1 : wr.cell? ⟨b, 1, none⟩ = some (.int .i64 k)
  f0 : wr.frozen? ⟨b, 0, none⟩ = false
  f1 : wr.frozen? ⟨b, 1, none⟩ = false
  below : Below w.heap.size w wr
  own : ∀ j, ownScan v j → w.heap.size ≤ j ∧ j ≠ b
  base : w.heap.size ≤ b
theorem Playing.drewN {v : Value} {s : ByteArray} {b : Nat} {w wr : World} {k : Nat} (h : Playing v s b w k wr) (n : Nat) : Playing v s b w k (wr.drewN n) :=
  ⟨h.scan.below (below_drewN _ _ n), h.c0, h.c1, h.f0, h.f1, h.below.trans (below_drewN _ _ n), h.own, h.base⟩
def AtRound (v : Value) (s : ByteArray) (b : Nat) (w : World) (len lim : Nat) (i : Value) (wr : World) : Prop := ∃ n k : Nat, n ≤ len ∧ n ≤ lim ∧ i = .int .i64 n ∧ Playing v s b w k wr
theorem Rest_cut (v : Value) (s : ByteArray) (k : Nat) (w : World) (h : IsScan v s k w) :
    Calls Try.prog 10 #[v] w fun e w' => e = .returned (.string (s.extract k s.size)) ∧ ∃ n, w' = w.drewN n := Rest_v v s k w h
theorem At_quiet (v : Value) (s : ByteArray) (k : Nat) (w : World) (h : IsScan v s k w) :
    Calls Try.prog 9 #[v] w fun e w' => e = .returned (.int .i64 k) ∧ w' = w := (At_v v s k w h).mono fun _ _ ⟨a, b⟩ => ⟨a, b.symm⟩
theorem IsScan.drewN {v : Value} {s : ByteArray} {k : Nat} {w : World} (h : IsScan v s k w) (n : Nat) : IsScan v s k (w.drewN n) := h.below (below_drewN _ _ n)
set_option maxHeartbeats 2000000 in
theorem plays_core (s0 : ByteArray) (a : Option Addr) (len cap : Nat) (w : World) (h0 : s0.size ≤ maxLen) (hd : IsDeeds w a len cap) :
    Calls Try.prog 3 #[.string s0, .slice a len cap] w fun e w' => e = .returned (.bool true) ∧ Below w.heap.size w w' := by
  unfold maxLen at h0
  have HD := Lib.hid hd
  have hlen : len ≤ 9223372036854775807 := by
    rcases hd with ⟨_, rfl⟩ | ⟨x, _, hl, _⟩
    · omega
    · exact hl
  clear hd
  rcases Nat.lt_or_ge 200 s0.size with hx | hx
  · obtain ⟨s, hs⟩ : ∃ s, s0.extract 0 200 = s := ⟨_, rfl⟩
    have hsz : s.size ≤ 200 := by rw [← hs]; simp; omega
    go_enter Try.func3, Try.ntmps3
    go_wp2_with fail
    refine (awake2_any _).mono ?_
    rintro e w1 ⟨rfl, hb1⟩
    go_wp2_with fail
    refine (New_any s _).mono ?_
    rintro e w2 ⟨rfl, hw2⟩
    have hsc : Scn w1.heap.size s 0 w2 := by rw [hw2]; exact scn_new s w1
    have hb2 : Below w.heap.size w w2 := by rw [hw2]; exact hb1.alloc hb1.size _
    have hz2 : w2.heap.size = w1.heap.size + 1 := by rw [hw2]; simp
    have hz1 := hb1.size
    have HS := Lib.hid hsc
    have HZ := Lib.hid hz2
    clear hw2 hsc hz2
    go_wp2_with fail
    have HP : Hid (AtRound (.pointer (some ⟨w1.heap.size, 0, none⟩)) s w2.heap.size w len 40 (.int .i64 0) (w2.alloc (.cells #[.string s, .int .i64 0] 27))) := by
      refine ⟨0, 0, Nat.zero_le _, Nat.zero_le _, rfl, ?_⟩
      refine ⟨.inr ⟨_, rfl, HS.out.kept (P := fun _ => False) ((Kept.refl _ _).alloc _) (fun h => h)⟩, ?_, ?_, ?_, ?_, hb2.alloc hb2.size _, ?_, hb2.size⟩
      · simp [go_sem]
      · simp [go_sem]
      · simp [go_sem]
      · simp [go_sem]
      · intro j hj
        simp [ownScan] at hj
        subst hj
        have := HZ.out
        omega
    go_loopw [7, 8] (fun i _ wr => AtRound (.pointer (some ⟨w1.heap.size, 0, none⟩)) s w2.heap.size w len 40 i wr) (fun i _ _ => len - (intOf i).toNat)
    case atStart => exact HP.out
    case round =>
      clear HP HS hb2 hb1
      obtain ⟨n, k, hnl, hn40, rfl, hp⟩ := hrel
      have hk := hp.scan.le
      have hc0 := hp.c0
      have hc1 := hp.c1
      have hf0 := hp.f0
      have hf1 := hp.f1
      have HPL := Lib.hid hp
      clear hp
      by_cases hlt : n < len ∧ n < 40
      · obtain ⟨hl1, hl2⟩ := hlt
        rcases HD.out.below HPL.out.below with ⟨rfl, rfl⟩ | ⟨x, rfl, hl, hcells⟩
        · omega
        obtain ⟨kd, t, m, g0, g1, ht, d0, d1, d2⟩ := hcells n hl1
        clear hcells
        have hltb : w2.heap.size < wr.heap.size := lt_of_cell hc0
        have hob : ¬ ownScan (.pointer (some ⟨w1.heap.size, 0, none⟩)) w2.heap.size := fun h => (HPL.out.own _ h).2 rfl
        go_wp2
        go_region_with (go_at_call 8; refine (do_any _ s k t m kd _ (HPL.out.scan.below (by repeat (first | with_reducible exact Below.refl _ _ | with_reducible assumption | (with_reducible refine Below.setCell ?_ ?_ _; rotate_left; · (simp <;> omega)) | (with_reducible refine Below.alloc ?_ ?_ _; rotate_left; · (simp <;> omega)) | with_reducible refine Below.drew ?_))) (by omega) ht g0 g1).mono ?_; rintro e w3 ⟨k2, rfl, hs3, hk3⟩; unfold scanV; have c0' := hk3.at_cell (b := w2.heap.size) (i := 0) (x := some (.string s)) (by simp; omega) hob (by simpa using hc0); have c1' := hk3.at_cell (b := w2.heap.size) (i := 1) (x := some (.int .i64 k)) (by simp; omega) hob (by simpa using hc1); have f0' := hk3.at_frozen (b := w2.heap.size) (i := 0) (x := false) (by simp; omega) hob (by simpa using hf0); have f1' := hk3.at_frozen (b := w2.heap.size) (i := 1) (x := false) (by simp; omega) hob (by simpa using hf1))
        all_goals
          have HQ : Playing (.pointer (some ⟨w1.heap.size, 0, none⟩)) s w2.heap.size w k2 ((w3.setCell ⟨w2.heap.size, 0, none⟩ (.string s)).setCell ⟨w2.heap.size, 1, none⟩ (.int .i64 k2)) := by
            refine ⟨hs3.kept (P := fun j => j = w2.heap.size) (by repeat (first | with_reducible exact Kept.refl _ _ | with_reducible assumption | (with_reducible refine Kept.setCellL ?_ ?_ _; rotate_left; · (simp <;> omega)) | with_reducible refine Kept.alloc ?_ _ | with_reducible refine Kept.drew ?_ | with_reducible refine Kept.drewN ?_ _)) (fun j hj e => (HPL.out.own j hj).2 e), ?_, ?_, ?_, ?_, ?_, HPL.out.own, HPL.out.base⟩
            · rw [World.cell?_setCell_other _ _ _ _ (by simp)]; exact World.cell?_setCell_same _ _ _ c0'
            · exact World.cell?_setCell_same _ _ _ ((World.cell?_setCell_other _ _ _ _ (by simp)).trans c1')
            · rw [World.frozen?_setCell, World.frozen?_setCell]; exact f0'
            · rw [World.frozen?_setCell, World.frozen?_setCell]; exact f1'
            · have hk4 : Kept (fun j => w.heap.size ≤ j) wr w3 := Kept.trans (by repeat (first | with_reducible exact Kept.refl _ _ | with_reducible assumption | (with_reducible refine Kept.setCellL ?_ ?_ _; rotate_left; · (simp <;> omega)) | with_reducible refine Kept.alloc ?_ _ | with_reducible refine Kept.drew ?_ | with_reducible refine Kept.drewN ?_ _)) (hk3.mono fun j _ hj => (HPL.out.own j hj).1)
              have hk5 := (hk4.setCellL (p := ⟨w2.heap.size, 0, none⟩) HPL.out.base (.string s)).setCellL (p := ⟨w2.heap.size, 1, none⟩) HPL.out.base (.int .i64 k2)
              exact HPL.out.below.trans (hk5.below HPL.out.below.size)
          generalize (w3.setCell ⟨w2.heap.size, 0, none⟩ (.string s)).setCell ⟨w2.heap.size, 1, none⟩ (.int .i64 k2) = w4 at *
          clear hs3 hk3 c0' c1' f0' f1' hc0 hc1 hf0 hf1 d0 d1 d2
          have hk2 := HQ.scan.le
          have hc0 := HQ.c0
          have hc1 := HQ.c1
          have HQH := Lib.hid HQ
          clear HQ
          go_wp2
          go_quiet (first | (go_at_call 9; exact Calls.quiet_of_same (At_quiet _ s k2 _ (HQH.out.scan.drewN _))) | (go_at_call 10; exact Calls.quiet_of (Rest_cut _ s k2 _ (HQH.out.scan.drewN _))))
          go_wp2
          exact ⟨⟨n + 1, k2, by omega, by omega, by go_num, HQH.out.drewN nq⟩, by simp [intOf]; omega⟩
      · have hex : ¬ n < len ∨ (n < len ∧ ¬ n < 40) := by omega
        rcases hex with h1 | ⟨h1, h2⟩
        all_goals
          go_wp2
          go_ret
          exact ⟨rfl, HPL.out.below⟩
  · obtain ⟨s, rfl⟩ : ∃ s, s = s0 := ⟨_, rfl⟩
    have hsz : s.size ≤ 200 := hx
    go_enter Try.func3, Try.ntmps3
    go_wp2_with fail
    refine (awake2_any _).mono ?_
    rintro e w1 ⟨rfl, hb1⟩
    go_wp2_with fail
    refine (New_any s _).mono ?_
    rintro e w2 ⟨rfl, hw2⟩
    have hsc : Scn w1.heap.size s 0 w2 := by rw [hw2]; exact scn_new s w1
    have hb2 : Below w.heap.size w w2 := by rw [hw2]; exact hb1.alloc hb1.size _
    have hz2 : w2.heap.size = w1.heap.size + 1 := by rw [hw2]; simp
    have hz1 := hb1.size
    have HS := Lib.hid hsc
    have HZ := Lib.hid hz2
    clear hw2 hsc hz2
    go_wp2_with fail
    have HP : Hid (AtRound (.pointer (some ⟨w1.heap.size, 0, none⟩)) s w2.heap.size w len 40 (.int .i64 0) (w2.alloc (.cells #[.string s, .int .i64 0] 27))) := by
      refine ⟨0, 0, Nat.zero_le _, Nat.zero_le _, rfl, ?_⟩
      refine ⟨.inr ⟨_, rfl, HS.out.kept (P := fun _ => False) ((Kept.refl _ _).alloc _) (fun h => h)⟩, ?_, ?_, ?_, ?_, hb2.alloc hb2.size _, ?_, hb2.size⟩
      · simp [go_sem]
      · simp [go_sem]
      · simp [go_sem]
      · simp [go_sem]
      · intro j hj
        simp [ownScan] at hj
        subst hj
        have := HZ.out
        omega
    go_loopw [7, 8] (fun i _ wr => AtRound (.pointer (some ⟨w1.heap.size, 0, none⟩)) s w2.heap.size w len 40 i wr) (fun i _ _ => len - (intOf i).toNat)
    case atStart => exact HP.out
    case round =>
      clear HP HS hb2 hb1
      obtain ⟨n, k, hnl, hn40, rfl, hp⟩ := hrel
      have hk := hp.scan.le
      have hc0 := hp.c0
      have hc1 := hp.c1
      have hf0 := hp.f0
      have hf1 := hp.f1
      have HPL := Lib.hid hp
      clear hp
      by_cases hlt : n < len ∧ n < 40
      · obtain ⟨hl1, hl2⟩ := hlt
        rcases HD.out.below HPL.out.below with ⟨rfl, rfl⟩ | ⟨x, rfl, hl, hcells⟩
        · omega
        obtain ⟨kd, t, m, g0, g1, ht, d0, d1, d2⟩ := hcells n hl1
        clear hcells
        have hltb : w2.heap.size < wr.heap.size := lt_of_cell hc0
        have hob : ¬ ownScan (.pointer (some ⟨w1.heap.size, 0, none⟩)) w2.heap.size := fun h => (HPL.out.own _ h).2 rfl
        go_wp2
        go_region_with (go_at_call 8; refine (do_any _ s k t m kd _ (HPL.out.scan.below (by repeat (first | with_reducible exact Below.refl _ _ | with_reducible assumption | (with_reducible refine Below.setCell ?_ ?_ _; rotate_left; · (simp <;> omega)) | (with_reducible refine Below.alloc ?_ ?_ _; rotate_left; · (simp <;> omega)) | with_reducible refine Below.drew ?_))) (by omega) ht g0 g1).mono ?_; rintro e w3 ⟨k2, rfl, hs3, hk3⟩; unfold scanV; have c0' := hk3.at_cell (b := w2.heap.size) (i := 0) (x := some (.string s)) (by simp; omega) hob (by simpa using hc0); have c1' := hk3.at_cell (b := w2.heap.size) (i := 1) (x := some (.int .i64 k)) (by simp; omega) hob (by simpa using hc1); have f0' := hk3.at_frozen (b := w2.heap.size) (i := 0) (x := false) (by simp; omega) hob (by simpa using hf0); have f1' := hk3.at_frozen (b := w2.heap.size) (i := 1) (x := false) (by simp; omega) hob (by simpa using hf1))
        all_goals
          have HQ : Playing (.pointer (some ⟨w1.heap.size, 0, none⟩)) s w2.heap.size w k2 ((w3.setCell ⟨w2.heap.size, 0, none⟩ (.string s)).setCell ⟨w2.heap.size, 1, none⟩ (.int .i64 k2)) := by
            refine ⟨hs3.kept (P := fun j => j = w2.heap.size) (by repeat (first | with_reducible exact Kept.refl _ _ | with_reducible assumption | (with_reducible refine Kept.setCellL ?_ ?_ _; rotate_left; · (simp <;> omega)) | with_reducible refine Kept.alloc ?_ _ | with_reducible refine Kept.drew ?_ | with_reducible refine Kept.drewN ?_ _)) (fun j hj e => (HPL.out.own j hj).2 e), ?_, ?_, ?_, ?_, ?_, HPL.out.own, HPL.out.base⟩
            · rw [World.cell?_setCell_other _ _ _ _ (by simp)]; exact World.cell?_setCell_same _ _ _ c0'
            · exact World.cell?_setCell_same _ _ _ ((World.cell?_setCell_other _ _ _ _ (by simp)).trans c1')
            · rw [World.frozen?_setCell, World.frozen?_setCell]; exact f0'
            · rw [World.frozen?_setCell, World.frozen?_setCell]; exact f1'
            · have hk4 : Kept (fun j => w.heap.size ≤ j) wr w3 := Kept.trans (by repeat (first | with_reducible exact Kept.refl _ _ | with_reducible assumption | (with_reducible refine Kept.setCellL ?_ ?_ _; rotate_left; · (simp <;> omega)) | with_reducible refine Kept.alloc ?_ _ | with_reducible refine Kept.drew ?_ | with_reducible refine Kept.drewN ?_ _)) (hk3.mono fun j _ hj => (HPL.out.own j hj).1)
              have hk5 := (hk4.setCellL (p := ⟨w2.heap.size, 0, none⟩) HPL.out.base (.string s)).setCellL (p := ⟨w2.heap.size, 1, none⟩) HPL.out.base (.int .i64 k2)
              exact HPL.out.below.trans (hk5.below HPL.out.below.size)
          generalize (w3.setCell ⟨w2.heap.size, 0, none⟩ (.string s)).setCell ⟨w2.heap.size, 1, none⟩ (.int .i64 k2) = w4 at *
          clear hs3 hk3 c0' c1' f0' f1' hc0 hc1 hf0 hf1 d0 d1 d2
          have hk2 := HQ.scan.le
          have hc0 := HQ.c0
          have hc1 := HQ.c1
          have HQH := Lib.hid HQ
          clear HQ
          go_wp2
          go_quiet (first | (go_at_call 9; exact Calls.quiet_of_same (At_quiet _ s k2 _ (HQH.out.scan.drewN _))) | (go_at_call 10; exact Calls.quiet_of (Rest_cut _ s k2 _ (HQH.out.scan.drewN _))))
          go_wp2
          exact ⟨⟨n + 1, k2, by omega, by omega, by go_num, HQH.out.drewN nq⟩, by simp [intOf]; omega⟩
      · have hex : ¬ n < len ∨ (n < len ∧ ¬ n < 40) := by omega
        rcases hex with h1 | ⟨h1, h2⟩
        all_goals
          go_wp2
          go_ret
          exact ⟨rfl, HPL.out.below⟩
end Go.Proofs.Ytahbcaafdnbcfaa
