/- The document's Parts, Four, whole: contracts. -/
import Derived.Test.YtfjklhfmecjjkaaDoorHoO
namespace Go.Proofs.YtfjklhfmecjjkaaDoor
open Go.RowKit

namespace Hp
def ptxt (m : UInt8) (s : ByteArray) : List ByteArray := (txts m s).map fun x => x.1
theorem ptxt_parts (m : UInt8) (s : ByteArray) (hs : s.size ≤ 1000) : (ptxt m s).map (fun x => x.data.toList) = parts m s.data.toList := by
  unfold ptxt txts
  rw [List.map_map, List.map_map]
  conv => rhs; rw [← List.map_id (parts m s.data.toList)]
  refine List.map_congr_left fun p hp => ?_
  simp only [Function.comp]
  exact mkT_list (part_small hs hp)
theorem ptxt_len (m : UInt8) (s : ByteArray) (hs : s.size ≤ 1000) : (ptxt m s).length = (parts m s.data.toList).length := by
  rw [← ptxt_parts m s hs]; simp
theorem ptxt_few (m : UInt8) (s : ByteArray) (hs : s.size ≤ 1000) : (ptxt m s).length ≤ 1001 := by
  unfold ptxt; rw [List.length_map]; exact txts_few m s hs
theorem ptxt_small (m : UInt8) (s : ByteArray) : ∀ x ∈ ptxt m s, x.size ≤ 1000 := by
  intro x hx
  unfold ptxt at hx
  obtain ⟨y, -, rfl⟩ := List.mem_map.1 hx
  exact y.2
theorem At.few {m : UInt8} {s : ByteArray} {j k : Nat} {pre : List Txt} (h : At m s j k pre) (hs : s.size ≤ 1000) : pre.length ≤ 1001 := by
  have h1 := h.len
  have h2 := txts_few m s hs
  omega
end Hp
/-- A row of texts that a call has made. -/
def PartsR (l : List ByteArray) (w : World) (e : Ending) (w' : World) : Prop :=
  ∃ a n c, e = .returned (.slice a n c) ∧ w'.ownsRow w.heap.size 9 1 (.slice a n c) n (l.map Value.string) ∧ Below w.heap.size w w'
set_option maxHeartbeats 1600000 in
theorem Parts_any (s : ByteArray) (m : UInt8) (c : Int) (hc : (m.toNat : Int) = c) (w : World) (hs : s.size ≤ 1000) :
    Calls Tryd.prog 22 #[.string s, .int .u8 c] w (PartsR (Hp.ptxt m s) w) := by
  subst hc
  go_enter Tryd.func22, Tryd.ntmps22
  go_wp2_with fail
  go_loopw [5, 6, 7] (fun o f i wr => ∃ (j k : Nat) (pre : List Txt) (a : Option Addr) (n c : Nat), o = .slice a n c ∧ f = .int .i64 (j : Int) ∧ i = .int .i64 (k : Int) ∧ wr.ownsRow w.heap.size 9 1 (.slice a n c) n ((pre.map fun x => x.1).map Value.string) ∧ Below w.heap.size w wr ∧ Hp.At m s j k pre) (fun _ _ i _ => s.size - (intOf i).toNat)
  case atStart => exact ⟨0, 0, [], none, 0, 0, rfl, rfl, rfl, World.ownsRow_nil _ _ _ _, Below.refl _ _, Hp.At.start m s⟩
  case round =>
    obtain ⟨j, k, pre, a, n, c, rfl, rfl, rfl, ho, hb, hat⟩ := hrel
    have HO := Lib.hid ho
    have HB := Lib.hid hb
    have HS := Lib.hid hat
    have hjk := hat.le
    have hks := hat.ke
    have hfew := hat.few hs
    have hlen := own_len ho
    rw [List.length_map] at hlen
    clear ho hb hat
    by_cases hlt : k < s.size
    · by_cases hq : s[k] = m
      · have HN := Lib.hid (HS.out.yes hs hlt hq)
        have hq' : ((s[k].toNat : Int) == (m.toNat : Int)) = true := by rw [hq]; simp
        obtain ⟨X, hX⟩ : ∃ X, s.extract j k = X := ⟨_, rfl⟩
        clear hq
        go_wp2_with (at_builtin; refine wpList_append_text _ rfl _ _ rfl w.heap.size _ _ _ rfl (World.ownsRow.alloc HO.out _) wr.heap.size 1 X rfl ?c1 ?c2 ?c3 ?_)
        case c1 => simp [go_sem]
        case c2 => omega
        case c3 => have := HB.out.size; simp; omega
        intro a4 c4 w4 ho4 hg4 hn4
        have ho5 : w4.ownsRow w.heap.size 9 1 (.slice a4 (n + 1) c4) (n + 1) (((pre ++ [(⟨s.extract j k, Hp.ext_size s j k hs⟩ : Txt)]).map fun x => x.1).map Value.string) := by
          have e5 : (pre ++ [(⟨s.extract j k, Hp.ext_size s j k hs⟩ : Txt)]).map (fun x => x.1) = pre.map (fun x => x.1) ++ [X] := by rw [List.map_append, List.map_singleton, ← hX]
          rw [e5]
          simpa using ho4
        have HB4 := Lib.hid (row_grown HO.out (Nat.le_refl _) HB.out _ hg4)
        have HO4 := Lib.hid ho5
        clear ho4 ho5 hg4 hn4
        go_wp2_with fail
        go_roundw
        case rel => exact ⟨k + 1, k + 1, _, a4, n + 1, c4, rfl, by go_num, by go_num, HO4.out, HB4.out, HN.out⟩
        case measure => simp [intOf]; omega
      · have HN := Lib.hid (HS.out.go hlt hq)
        have hq' : ((s[k].toNat : Int) == (m.toNat : Int)) = false := by
          rw [beq_eq_false_iff_ne]
          intro e
          exact hq (UInt8.toNat_inj.1 (by omega))
        clear hq
        go_wp2_with fail
        go_roundw
        case rel => exact ⟨j, k + 1, pre, a, n, c, rfl, rfl, by go_num, HO.out, HB.out, HN.out⟩
        case measure => simp [intOf]; omega
    · obtain rfl : k = s.size := by omega
      have HN := Lib.hid (HS.out.stop hs)
      obtain ⟨X, hX⟩ : ∃ X, s.extract j s.size = X := ⟨_, rfl⟩
      go_wp2_with (at_builtin; refine wpList_append_text _ rfl _ _ rfl w.heap.size _ _ _ rfl (World.ownsRow.alloc HO.out _) wr.heap.size 1 X rfl ?d1 ?d2 ?d3 ?_)
      case d1 => simp [go_sem]
      case d2 => omega
      case d3 => have := HB.out.size; simp; omega
      intro a4 c4 w4 ho4 hg4 hn4
      have ho5 : w4.ownsRow w.heap.size 9 1 (.slice a4 (n + 1) c4) (n + 1) ((Hp.ptxt m s).map Value.string) := by
        have e5 : Hp.ptxt m s = pre.map (fun x => x.1) ++ [X] := by
          unfold Hp.ptxt
          rw [HN.out, List.map_append, List.map_singleton, ← hX]
        rw [e5]
        simpa using ho4
      have HB4 := Lib.hid (row_grown HO.out (Nat.le_refl _) HB.out _ hg4)
      have HO4 := Lib.hid ho5
      clear ho4 ho5 hg4 hn4
      go_wp2_with fail
      go_ret
      exact ⟨a4, n + 1, c4, rfl, HO4.out, HB4.out⟩
namespace Hp
theorem ptxt_at (m : UInt8) (s : ByteArray) (hs : s.size ≤ 1000) (k : Nat) (h : k < (ptxt m s).length) : ((ptxt m s).getD k ByteArray.empty).data.toList = (parts m s.data.toList).getD k [] := by
  rw [getD_at _ k h, ← ptxt_parts m s hs]
  simp [h]
theorem getD_is {α : Type} (P : List α) (d : α) (k : Nat) (h : k < P.length) : P.getD k d = P[k] := by simp [h]
end Hp
set_option maxHeartbeats 1600000 in
theorem RFour_any (s : ByteArray) (w : World) (hs : s.size ≤ 1000) :
    Calls Tryd.prog 10 #[.string s] w fun e w' => e = .returned (.bool (Hp.fourL s.data.toList)) ∧ Below w.heap.size w w' := by
  have HP := Lib.hid (Parts_any s 46 46 rfl w hs)
  have hpl := Hp.ptxt_len 46 s hs
  have hpf := Hp.ptxt_few 46 s hs
  have HAt := Lib.hid (Hp.ptxt_at 46 s hs)
  have HSm := Lib.hid (Hp.ptxt_small 46 s)
  have hfour : Hp.fourL s.data.toList = ((Hp.parts 46 s.data.toList).all (Hp.okD 255) && (((Hp.parts 46 s.data.toList).length : Int) == 4)) := by
    unfold Hp.fourL
    congr 1
    rw [Bool.eq_iff_iff]
    simp
    omega
  rw [hfour]
  clear hfour
  generalize Hp.parts 46 s.data.toList = P at *
  generalize Hp.ptxt 46 s = L at *
  obtain ⟨N, hN⟩ : ∃ N, L.length = N := ⟨_, rfl⟩
  go_enter Tryd.func10, Tryd.ntmps10
  go_wp2_with fail
  refine HP.out.mono ?_
  rintro e w1 ⟨a, n, c, rfl, ho1, hb1⟩
  have hn1 := own_len ho1
  obtain ⟨-, hz⟩ : True ∧ IsTexts w1 a n L := ⟨trivial, own_strs ho1 (by omega)⟩
  have HZ := Lib.hid hz
  have HB1 := Lib.hid hb1
  clear ho1 hb1 hz
  go_wp2_with fail
  go_loopw [4] (fun i wr => ∃ k : Nat, k ≤ n ∧ i = .int .i64 k ∧ (P.take k).all (Hp.okD 255) = true ∧ ∃ q, wr = w1.drewN q) (fun i _ => n - (intOf i).toNat)
  case atStart => exact ⟨0, Nat.zero_le _, rfl, rfl, 0, rfl⟩
  case round =>
    obtain ⟨k, hk, rfl, hall, q, rfl⟩ := hrel
    have HA := Lib.hid hall
    clear hall
    by_cases hlt : k < n
    · have hkl : k < L.length := by omega
      have hkp : k < P.length := by omega
      rcases HZ.out.2 with ⟨rfl, rfl⟩ | ⟨x, rfl, hxl, hcells⟩
      · omega
      have hc := hcells k hlt
      have hat := HAt.out k hkl
      have hsz : (L.getD k ByteArray.empty).size ≤ 1000 := HSm.out _ (by rw [getD_at L k hkl]; exact List.getElem_mem _)
      obtain ⟨t, ht⟩ : ∃ t, L.getD k ByteArray.empty = t := ⟨_, rfl⟩
      rw [ht] at hc hat hsz
      have HS := Lib.hid (fun w => Small_any t 255 (by omega) w hsz)
      rw [hat] at HS
      have htk : (P.take (k + 1)).all (Hp.okD 255) = Hp.okD 255 (P.getD k []) := by
        rw [List.take_succ_eq_append_getElem hkp, List.all_append, HA.out, Hp.getD_is P [] k hkp]; simp
      have hin : P.getD k [] ∈ P := by rw [Hp.getD_is P [] k hkp]; exact List.getElem_mem _
      generalize P.getD k [] = pk at *
      clear hcells hat ht
      cases hok : Hp.okD 255 pk
      · have hv := Hp.smallV_no hok
        rw [hv] at HS
        have HN : Hid (P.all (Hp.okD 255) = false) := by
          show _ = _
          cases h : P.all (Hp.okD 255)
          · rfl
          · rw [List.all_eq_true.1 h pk hin] at hok; cases hok
        clear htk hok hv
        go_wp2_with fail
        refine (HS.out _).mono ?_
        rintro e w2 ⟨rfl, m2, rfl⟩
        go_wp2_with fail
        go_ret
        exact ⟨ret_bool (by rw [HN.out]; rfl), HB1.out.trans (below_drewN _ _ (q + m2))⟩
      · have hv := (Hp.smallV_sign 255 pk).2 hok
        generalize Hp.smallV 255 pk = v at *
        rw [hok] at htk
        have HT := Lib.hid htk
        clear htk hok
        go_wp2_with fail
        refine (HS.out _).mono ?_
        rintro e w2 ⟨rfl, m2, rfl⟩
        go_wp2_with fail
        go_roundw
        case rel => exact ⟨k + 1, by omega, by go_num, HT.out, q + m2, rfl⟩
        case measure => simp [intOf]; omega
    · have HN : Hid (P.all (Hp.okD 255) = true) := by
        show _ = _
        rw [← HA.out, List.take_of_length_le (by omega)]
      have hnp : (P.length : Int) = (n : Int) := by omega
      go_wp2_with fail
      go_ret
      exact ⟨ret_bool (by rw [HN.out, hnp]; rfl), HB1.out.trans (below_drewN _ _ q)⟩
end Go.Proofs.YtfjklhfmecjjkaaDoor
