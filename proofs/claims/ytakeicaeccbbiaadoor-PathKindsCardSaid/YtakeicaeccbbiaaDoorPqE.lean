/- step: the segments that stay: its contract. -/
import Derived.Test.YtakeicaeccbbiaaDoorPqD
namespace Go.Proofs.YtakeicaeccbbiaaDoor
open Go.RowKit

/-- What step leaves: a row, and whether the segment is there at the end. -/
def StepK (B : Nat) (K : List (List UInt8)) (g : List UInt8) (w : World) (e : Ending) (w' : World) : Prop :=
  ∃ v' s', e = .returned (.tuple #[v', .bool (Pq.stepK K g).2]) ∧ s'.data.toList = Pq.flatK (Pq.stepK K g).1 ∧ OwnB B v' s' w' ∧ Below B w w'
theorem own_to {B : Nat} {v : Value} {s : ByteArray} {w w' : World} (h : OwnB B v s w) (hb : Below w.heap.size w w') : OwnB B v s w' :=
  own_kept (P := fun _ => False) h (Kept.of_below hb) (fun _ _ x => x)
theorem below_grow {B : Nat} {v : Value} {s : ByteArray} {w w' : World} (h : OwnB B v s w) (hB : B ≤ w.heap.size) (hg : w.grownBy w' v.ownBlock) : Below B w w' :=
  (Below.refl B w).grown hg hB (fun k e => (World.ownsRow.lt h k e).1)
theorem last_cut {K : List (List UInt8)} {s : ByteArray} {z : Int} (hs : s.data.toList = Pq.flatK K) (hK : ∀ x ∈ K, 47 ∉ x) (hz : Pq.LastAt s.data.toList 47 z) : ∃ m : Nat, max z 0 = (m : Int) ∧ m ≤ s.size ∧ (s.extract 0 m).data.toList = Pq.flatK K.dropLast := by
  have hl : s.data.toList.length = s.size := by simp
  rw [hs] at hz
  obtain ⟨h1, t, h2⟩ := Pq.last_flat hK hz
  refine ⟨_, h1, ?_, ?_⟩
  · rw [← hl, hs]
    conv => rhs; rw [h2]
    rw [List.length_append]; omega
  · rw [Hp.ext_start, hs]
    conv => lhs; arg 2; rw [h2]
    exact List.take_left
set_option maxHeartbeats 1600000 in
theorem step_any (B : Nat) (v : Value) (K : List (List UInt8)) (s g : ByteArray) (w : World) (hs : s.data.toList = Pq.flatK K) (hK : ∀ x ∈ K, 47 ∉ x) (ho : OwnB B v s w) (hB : B ≤ w.heap.size) (hz : s.size ≤ 100000) (hg : g.size ≤ 100000) :
    Calls Tryd.prog 23 #[v, .string g] w (StepK B K g.data.toList w) := by
  obtain ⟨a, c, rfl, h1, h2, -⟩ := ownB_cells ho
  have HO := Lib.hid ho
  have HS := Lib.hid hs
  have HK := Lib.hid hK
  have kc := fun (w : World) (C : Array Value) (n c : Nat) => Lib.run_convert_bytes_const (P := Tryd.prog) w 37 5 C n c Tryd.underlying37 Tryd.underlying5
  obtain ⟨i0, hi, hz0, hz1, hz2⟩ := info_parts info_byte9
  by_cases d1 : g.data.toList = [46]
  · have e1 : (g.toList == [46]) = true := by rw [ByteArray.toList_eq, d1]; rfl
    have HR : Hid (Pq.stepK K g.data.toList = (K, false)) := by show _ = _; unfold Pq.stepK; rw [if_pos d1]
    clear d1 hs hK ho
    unfold StepK
    rw [HR.out]
    go_enter Tryd.func23, Tryd.ntmps23
    go_wp2_with fail
    go_ret2
    exact ⟨_, s, rfl, HS.out, HO.out, Below.refl _ _⟩
  · have e1 : (g.toList == [46]) = false := by rw [ByteArray.toList_eq, beq_eq_false_iff_ne]; exact d1
    by_cases d2 : g.data.toList = [46, 46]
    · have e2 : (g.toList == [46, 46]) = true := by rw [ByteArray.toList_eq, d2]; rfl
      have HR : Hid (Pq.stepK K g.data.toList = (K.dropLast, false)) := by show _ = _; unfold Pq.stepK; rw [if_neg d1, if_pos d2]
      have HL := Lib.hid (LastIndex9_any B (.slice a s.size c) s w.heap.size (w.alloc (.cells #[.int .u8 47] 5 (1, 2))) (own_to ho ((Below.refl _ w).alloc (Nat.le_refl _) _)) (World.cell?_alloc_mark _ _ _ _ 0))
      clear d1 d2 hs hK ho
      unfold StepK
      rw [HR.out]
      go_enter Tryd.func23, Tryd.ntmps23
      go_wp2_with fail
      refine HL.out.mono ?_
      rintro e w1 ⟨z, rfl, hzl, n, rfl⟩
      obtain ⟨m, hmx, hms, hcut⟩ := last_cut HS.out HK.out hzl
      have HCU := Lib.hid hcut
      have HBV : Hid (Below w.heap.size w ((w.alloc (.cells #[.int .u8 47] 5 (1, 2))).drewN n)) := ((Below.refl _ w).alloc (Nat.le_refl _) _).trans (below_drewN _ _ n)
      have HBW := Lib.hid (HBV.out.mono hB)
      have hm1 : (m : Int) ≤ c := by omega
      have hm2 : (0 : Int) ≤ m := by omega
      clear hzl hcut
      go_wp2_with fail
      all_goals
        go_ret2
        refine ⟨_, rfl, s.extract 0 m, HCU.out, ?_, HBW.out⟩
        have hx := own_to (ownB_cut HO.out m hms) HBV.out
        first
          | (obtain rfl : z = (m : Int) := by omega
             exact hx)
          | (obtain rfl : m = 0 := by omega
             exact hx)
    · have e2 : (g.toList == [46, 46]) = false := by rw [ByteArray.toList_eq, beq_eq_false_iff_ne]; exact d2
      have HR : Hid (Pq.stepK K g.data.toList = (K ++ [g.data.toList], true)) := by show _ = _; unfold Pq.stepK; rw [if_neg d1, if_neg d2]
      clear d1 d2 hs hK ho
      have hz1s : (⟨#[47]⟩ : ByteArray).size = 1 := rfl
      unfold StepK
      rw [HR.out]
      go_enter Tryd.func23, Tryd.ntmps23
      go_wp2_with (at_builtin; refine Lib.wpList_append_own_string _ rfl _ _ _ _ rfl B _ _ Tryd.underlying37 Tryd.underlying9 hi hz0 hz1 hz2 (.slice a s.size c) s.size (Lib.strCells s) rfl HO.out ⟨#[47]⟩ rfl ?c1 ?c2 hB ?_)
      case c1 => unfold maxLen; omega
      case c2 => omega
      intro v1 w1 ho1 hg1 _
      obtain ⟨a1, k1, rfl, -⟩ := own_form ho1
      have HB1 := Lib.hid (below_grow HO.out hB hg1)
      have hB1 : B ≤ w1.heap.size := Nat.le_trans hB HB1.out.size
      have HO1 := Lib.hid ho1
      clear ho1 hg1
      go_wp2_with (at_builtin; refine Lib.wpList_append_own_string _ rfl _ _ _ _ rfl B _ _ Tryd.underlying37 Tryd.underlying9 hi hz0 hz1 hz2 (.slice a1 (s.size + (⟨#[47]⟩ : ByteArray).size) k1) (s.size + (⟨#[47]⟩ : ByteArray).size) (Lib.strCells s ++ Lib.strCells ⟨#[47]⟩) rfl HO1.out g rfl ?c3 ?c4 hB1 ?_)
      case c3 => unfold maxLen; omega
      case c4 => omega
      intro v2 w2 ho2 hg2 _
      have ho3 : OwnB B v2 (s ++ ⟨#[47]⟩ ++ g) w2 := by
        unfold OwnB
        rw [size_append, size_append, ← cells_cat, ← cells_cat]
        rw [hz1s, List.append_assoc]; exact ho2
      have HB2 := Lib.hid (HB1.out.trans ((Below.refl B w1).grown hg2 hB1 (fun k e => (World.ownsRow.lt HO1.out k e).1)))
      have HO3 := Lib.hid ho3
      clear ho2 ho3 hg2
      obtain ⟨a2, k2, rfl, -⟩ := own_form HO3.out
      go_wp2_with fail
      go_ret2
      refine ⟨_, _, rfl, ?_, HO3.out, HB2.out⟩
      rw [list_append, list_append, HS.out, Pq.flatK_snoc, List.append_assoc]; rfl
end Go.Proofs.YtakeicaeccbbiaaDoor
