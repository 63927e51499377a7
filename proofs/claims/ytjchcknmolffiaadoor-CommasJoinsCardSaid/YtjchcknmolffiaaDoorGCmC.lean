/- Contracts and lemmas that the claim rests on: CmC. -/
import Derived.Test.YtjchcknmolffiaaDoorGCmB
/- The splitter's piece: its contract. -/
namespace Go.Proofs.YtjchcknmolffiaaDoor
open Go.RowKit

theorem At_same (v : Value) (s : ByteArray) (k : Nat) (w : World) (h : IsScan v s k w) :
    Calls Tryd.prog 33 #[v] w fun e w' => e = .returned (.int .i64 k) ∧ w' = w := (At_v v s k w h).mono fun _ _ ⟨a, b⟩ => ⟨a, b.symm⟩
theorem scan_drewN {v : Value} {s : ByteArray} {k : Nat} {w : World} (h : IsScan v s k w) (n : Nat) : IsScan v s k (w.drewN n) := h.below (below_drewN _ _ n)
theorem rest_cut (s : ByteArray) (k n : Nat) : (restS s k).extract 0 n = s.extract k (min (k + n) s.size) := by
  apply ByteArray.ext
  unfold restS
  rw [ByteArray.data_extract, ByteArray.data_extract, ByteArray.data_extract, Array.extract_extract]
  simp
theorem rest_cut' (s : ByteArray) (k n : Nat) (h : k + n ≤ s.size) : (restS s k).extract 0 n = s.extract k (k + n) := by rw [rest_cut, Nat.min_eq_left h]

namespace Cm
/-- Within a piece that began at k: at j. -/
structure In (s : ByteArray) (k j : Nat) : Prop where
  ge : k ≤ j
  le : j ≤ s.size
  eq : pc s k = (pc s j).map (· + (j - k))
theorem In.start (s : ByteArray) (k : Nat) (hk : k ≤ s.size) : In s k k := ⟨Nat.le_refl _, hk, by rw [Nat.sub_self, map_zero]⟩
theorem In.on {s : ByteArray} {k j n : Nat} (h : In s k j) (hn : j + n ≤ s.size) (hp : pc s j = (pc s (j + n)).map (· + n)) : In s k (j + n) := by
  have hge := h.ge
  refine ⟨by omega, hn, ?_⟩
  rw [h.eq, hp, map_add]
  congr 2
  funext x
  omega
theorem In.run {s : ByteArray} {k j : Nat} (h : In s k j) : In s k (j + runLen pq s j) := h.on (runLen_le pq s j h.le) (pc_run s j h.le)
theorem In.done {s : ByteArray} {k j : Nat} (h : In s k j) (hp : pc s j = some 0) : pc s k = some (j - k) := by rw [h.eq, hp]; simp
theorem In.none {s : ByteArray} {k j : Nat} (h : In s k j) (hp : pc s j = none) : pc s k = none := by rw [h.eq, hp]; rfl
theorem stop_end (s : ByteArray) (j : Nat) (hs : j < s.size → pq (byteAt s j) = false) (h1 : ¬ (j < s.size ∧ byteAt s j = 34)) (h2 : ¬ (j < s.size ∧ byteAt s j = 40)) : pc s j = some 0 := by
  by_cases hj : j < s.size
  · by_cases h3 : byteAt s j = 44
    · exact pc_comma s j hj h3
    · have h4 := pq_parts.2 ⟨h3, fun e => h1 ⟨hj, e⟩, fun e => h2 ⟨hj, e⟩⟩
      rw [hs hj] at h4
      cases h4
  · exact pc_end s j hj
theorem byte_out (s : ByteArray) (j : Nat) (hj : ¬ j < s.size) : byteAt s j = 0 := by
  have h : s.data.toList[j]? = none := List.getElem?_eq_none (by simp; omega)
  unfold byteAt
  rw [List.getD_eq_getElem?_getD, h]
  rfl
theorem byte_ne (s : ByteArray) (j : Nat) (m : Int) (hm : m ≠ 0) (h : ¬ (j < s.size ∧ byteAt s j = m)) : (byteAt s j == m) = false := by
  rw [beq_eq_false_iff_ne]
  intro e
  by_cases hj : j < s.size
  · exact h ⟨hj, e⟩
  · rw [byte_out s j hj] at e
    exact hm e.symm
end Cm

/-- What piece hands back. -/
def Pieced (v : Value) (s : ByteArray) (k : Nat) (w : World) (e : Ending) (w' : World) : Prop :=
  ∃ j m, k ≤ j ∧ j ≤ s.size ∧ e = .returned (.tuple #[.string m, .bool (Cm.pc s k).isSome]) ∧ IsScan v s j w' ∧ Kept (ownScan v) w w' ∧ ∀ n, Cm.pc s k = some n → j = k + n ∧ m = s.extract k (k + n)
def AtP (v : Value) (s : ByteArray) (k : Nat) (w : World) (wr : World) : Prop := ∃ j, Rs v s w (w.heap.size + 1) j wr ∧ Cm.In s k j
theorem Pieced.no {v : Value} {s : ByteArray} {k j : Nat} {m : ByteArray} {w w' : World} {e : Ending} (h : Cm.pc s k = none) (he : e = .returned (.tuple #[.string m, .bool false])) (hj : k ≤ j) (hj2 : j ≤ s.size) (hs : IsScan v s j w') (hk : Kept (ownScan v) w w') : Pieced v s k w e w' :=
  ⟨j, m, hj, hj2, by rw [h]; exact he, hs, hk, fun n hn => by rw [h] at hn; cases hn⟩
theorem Pieced.yes {v : Value} {s : ByteArray} {k j n : Nat} {w w' : World} {e : Ending} (h : Cm.pc s k = some n) (he : e = .returned (.tuple #[.string (s.extract k (k + n)), .bool true])) (hj : j = k + n) (hj2 : j ≤ s.size) (hs : IsScan v s j w') (hk : Kept (ownScan v) w w') : Pieced v s k w e w' :=
  ⟨j, _, by omega, hj2, by rw [h]; exact he, hs, hk, fun m hm => by rw [h] at hm; cases hm; exact ⟨hj, rfl⟩⟩

set_option maxHeartbeats 1000000 in
theorem piece_v (v : Value) (s : ByteArray) (k : Nat) (w : World) (h : IsScan v s k w) (hs : s.size ≤ 100000) :
    Calls Tryd.prog 20 #[.agg #[v]] w (Pieced v s k w) := by
  have hown : ∀ i, ownScan v i → i < w.heap.size := fun i hi => h.own_lt hi
  have hks := h.le
  have hr0 : Rs v s w (w.heap.size + 1) k (w.alloc (.cells #[v] 43)) := ⟨h.below (by repeat (first | with_reducible exact Below.refl _ _ | with_reducible assumption | (with_reducible refine Below.setCell ?_ ?_ _; rotate_left; · (simp <;> omega)) | (with_reducible refine Below.alloc ?_ ?_ _; rotate_left; · (simp <;> omega)) | with_reducible refine Below.drew ?_)), by simp [go_sem], (by repeat (first | with_reducible exact Kept.refl _ _ | with_reducible assumption | (with_reducible refine Kept.setCellL ?_ ?_ _; rotate_left; · (simp <;> omega)) | with_reducible refine Kept.alloc ?_ _ | with_reducible refine Kept.drew ?_ | with_reducible refine Kept.drewN ?_ _)), by omega, hown⟩
  have hm : s.size ≤ maxLen := by unfold maxLen; omega
  have HM := Lib.hid hm
  have HR0 := Lib.hid hr0
  have hrz := restS_size s k hks
  have hcut := Lib.hid (rest_cut' s k)
  obtain ⟨R0, hR0⟩ : ∃ R0, restS s k = R0 := ⟨_, rfl⟩
  rw [hR0] at hrz hcut
  clear h hown hr0 hm
  go_enter Tryd.func20, Tryd.ntmps20
  go_wp2_with fail
  go_quiet (first | (go_at_call 33; exact Calls.quiet_of_same (At_same v s k _ (scan_drewN HR0.out.scan _))) | (go_at_call 32; exact Calls.quiet_of (Rest_v v s k _ (scan_drewN HR0.out.scan _))))
  rw [hR0]
  have HAT : Hid (AtP v s k w ((w.alloc (.cells #[v] 43)).drewN nq)) := ⟨k, HR0.out.drewN nq, Cm.In.start s k hks⟩
  go_wp2_with fail
  go_loopw [8] (fun _ wr => AtP v s k w wr) (fun _ wr => s.size - placeOf v wr)
  case atStart => exact HAT.out
  case round =>
    clear HAT
    obtain ⟨j, hr, hon⟩ := hrel
    have box := hr.box
    have HR := Lib.hid hr
    have hjle := hon.le
    have hpl := Lib.hid hr.scan.place_
    have hon1 := hon.run
    have hstop := Qd.run_stop Cm.pq s j
    clear hr
    go_wp2_with fail
    refine (While_q 35 Cm.pq v s j _ HR.out.scan hs enters_cmPlain cmPlain_any).mono ?_
    rintro e w6 ⟨rfl, hs6, hk6⟩
    obtain ⟨j1, hj1⟩ : ∃ j1, j + runLen Cm.pq s j = j1 := ⟨_, rfl⟩
    rw [hj1] at hon1 hstop hs6 ⊢
    have hjj : j ≤ j1 := by omega
    have hge1 := hon1.ge
    have hle1 := hon1.le
    have hr6 := HR.out.scan_ hs6 hk6
    have box6 := hr6.box
    have HR6 := Lib.hid hr6
    have HN := Lib.hid hon1
    have HST := Lib.hid hstop
    clear hr6 hs6 hk6 hon hon1 HR hj1 box hstop
    go_wp2_with fail
    refine (Peek_v v s j1 _ HR6.out.scan).mono ?_
    rintro e w7 ⟨rfl, n, rfl⟩
    have HR7 := Lib.hid (HR6.out.drewN n)
    have box7 := HR7.out.box
    clear box6 HR6
    by_cases h34 : j1 < s.size ∧ byteAt s j1 = 34
    · obtain ⟨hlt, hb⟩ := h34
      have HB := Lib.hid hb
      rw [hb]
      cases hf : Qd.fr s j1 with
      | none =>
        have hu : Cm.un s j1 = none := by rw [Cm.un_mark s j1 hlt hb, hf]; rfl
        have HD := Lib.hid (HN.out.none (Cm.pc_bad s j1 hlt (.inl hb) hu))
        have HF := Lib.hid hf
        clear hu hf hb
        go_wp2_with fail
        refine (Read_v v s j1 _ HR7.out.scan hs).mono ?_
        rintro e w8 ⟨rfl, hs8, hk8⟩
        rw [HF.out] at hs8 ⊢
        have HR8 := Lib.hid (HR7.out.scan_ hs8 hk8)
        clear hs8 hk8
        go_wp2_with fail
        go_ret2
        exact Pieced.no HD.out rfl hge1 hle1 HR8.out.scan HR8.out.kept
      | some x =>
        have hu : Cm.un s j1 = some x.2 := by rw [Cm.un_mark s j1 hlt hb, hf]; rfl
        obtain ⟨hp, hp1, hp2⟩ := Cm.pc_unit s j1 x.2 hlt (.inl hb) hu
        have HD := Lib.hid (HN.out.on hp2 hp)
        have HF := Lib.hid hf
        clear hu hf hb hp
        go_wp2_with fail
        refine (Read_v v s j1 _ HR7.out.scan hs).mono ?_
        rintro e w8 ⟨rfl, hs8, hk8⟩
        rw [HF.out] at hs8 ⊢
        have hs9 : IsScan v s (j1 + x.2) w8 := hs8
        have HR8 := Lib.hid (HR7.out.scan_ hs9 hk8)
        have hpl8 := Lib.hid HR8.out.scan.place_
        have HAT : Hid (AtP v s k w w8) := ⟨_, HR8.out, HD.out⟩
        clear hs8 hk8 hs9
        go_wp2_with fail
        go_roundw
        case rel => exact HAT.out
        case measure => rw [hpl.out, hpl8.out]; omega
    · have q34 := Cm.byte_ne s j1 34 (by decide) h34
      by_cases h40 : j1 < s.size ∧ byteAt s j1 = 40
      · obtain ⟨hlt, hb⟩ := h40
        have HB := Lib.hid hb
        rw [hb]
        clear q34
        cases hf : Cm.co false 0 s j1 with
        | none =>
          have hu : Cm.un s j1 = none := by rw [Cm.un_open s j1 hlt hb, hf]
          have HD := Lib.hid (HN.out.none (Cm.pc_bad s j1 hlt (.inr hb) hu))
          have HF := Lib.hid hf
          clear hu hf hb
          go_wp2_with fail
          refine (comment_v v s j1 _ HR7.out.scan hs hlt HB.out).mono ?_
          rintro e w8 ⟨j2, hj2, rfl, hs8, hk8, -⟩
          rw [HF.out]
          have HR8 := Lib.hid (HR7.out.scan_ hs8 hk8)
          have hle8 := hs8.le
          clear hs8 hk8
          go_wp2_with fail
          go_ret2
          exact Pieced.no HD.out rfl (by omega) hle8 HR8.out.scan HR8.out.kept
        | some x =>
          have hu : Cm.un s j1 = some x := by rw [Cm.un_open s j1 hlt hb, hf]
          obtain ⟨hp, hp1, hp2⟩ := Cm.pc_unit s j1 x hlt (.inr hb) hu
          have HD := Lib.hid (HN.out.on hp2 hp)
          have HF := Lib.hid hf
          clear hu hf hb hp
          go_wp2_with fail
          refine (comment_v v s j1 _ HR7.out.scan hs hlt HB.out).mono ?_
          rintro e w8 ⟨j2, hj2, rfl, hs8, hk8, hn8⟩
          obtain rfl := hn8 x HF.out
          rw [HF.out]
          have HR8 := Lib.hid (HR7.out.scan_ hs8 hk8)
          have hpl8 := Lib.hid HR8.out.scan.place_
          have HAT : Hid (AtP v s k w w8) := ⟨_, HR8.out, HD.out⟩
          clear hs8 hk8 hn8
          go_wp2_with fail
          go_roundw
          case rel => exact HAT.out
          case measure => rw [hpl.out, hpl8.out]; omega
      · have q40 := Cm.byte_ne s j1 40 (by decide) h40
        have hd := HN.out.done (Cm.stop_end s j1 HST.out h34 h40)
        have HD := Lib.hid hd
        obtain ⟨x, rfl⟩ : ∃ x, j1 = k + x := ⟨j1 - k, by omega⟩
        have hx : k + x - k = x := by omega
        rw [hx] at HD
        have HX : Hid (R0.extract 0 (k + x - k) = s.extract k (k + x)) := by
          show _ = _
          rw [hx]
          exact hcut.out x hle1
        clear h34 h40 hd hx hcut
        go_wp2_with fail
        refine (At_v v s (k + x) _ HR7.out.scan).mono ?_
        rintro e w8 ⟨rfl, rfl⟩
        go_wp2_with fail
        go_ret2
        exact Pieced.yes HD.out (by rw [← HX.out]; rfl) rfl hle1 HR7.out.scan HR7.out.kept
end Go.Proofs.YtjchcknmolffiaaDoor
