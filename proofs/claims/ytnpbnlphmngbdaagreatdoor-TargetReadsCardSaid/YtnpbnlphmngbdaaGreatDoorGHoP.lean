/- Contracts and lemmas that the claim rests on: HoP. -/
import Derived.Test.YtnpbnlphmngbdaaGreatDoorGHoO
/- The document's Parts, Four, whole: contracts. -/
namespace Go.Proofs.YtnpbnlphmngbdaaGreatDoor
open Go.RowKit

set_option maxHeartbeats 1600000 in
theorem RFour_any (s : ByteArray) (w : World) (hs : s.size ≤ 1000) :
    Calls Tryz.prog 43 #[.string s] w fun e w' => e = .returned (.bool (Hp.fourL s.data.toList)) ∧ Below w.heap.size w w' := by
  have HP := Lib.hid (Parts_any s 46 46 rfl w hs)
  have hpl := Hp.ptxt_len 46 s hs
  have hpf := Hp.ptxt_few 46 s hs
  have HAt := Lib.hid (Hp.ptxt_at 46 s hs)
  have HSm := Lib.hid (Hp.ptxt_small 46 s)
  have hfour : Hp.fourL s.data.toList = ((Hp.parts 46 s.data.toList).all (Hp.okD 255) && (((Hp.parts 46 s.data.toList).length : Int) == 4)) := by
    unfold Hp.fourL
    congr 1
    rw [Bool.eq_iff_iff]
    simp
    omega
  rw [hfour]
  clear hfour
  generalize Hp.parts 46 s.data.toList = P at *
  generalize Hp.ptxt 46 s = L at *
  obtain ⟨N, hN⟩ : ∃ N, L.length = N := ⟨_, rfl⟩
  go_enter Tryz.func43, Tryz.ntmps43
  go_wp2_with fail
  refine HP.out.mono ?_
  rintro e w1 ⟨a, n, c, rfl, ho1, hb1⟩
  have hn1 := own_len ho1
  obtain ⟨-, hz⟩ : True ∧ IsTexts w1 a n L := ⟨trivial, own_strs ho1 (by omega)⟩
  have HZ := Lib.hid hz
  have HB1 := Lib.hid hb1
  clear ho1 hb1 hz
  go_wp2_with fail
  go_loopw [4] (fun i wr => ∃ k : Nat, k ≤ n ∧ i = .int .i64 k ∧ (P.take k).all (Hp.okD 255) = true ∧ ∃ q, wr = w1.drewN q) (fun i _ => n - (intOf i).toNat)
  case atStart => exact ⟨0, Nat.zero_le _, rfl, rfl, 0, rfl⟩
  case round =>
    obtain ⟨k, hk, rfl, hall, q, rfl⟩ := hrel
    have HA := Lib.hid hall
    clear hall
    by_cases hlt : k < n
    · have hkl : k < L.length := by omega
      have hkp : k < P.length := by omega
      rcases HZ.out.2 with ⟨rfl, rfl⟩ | ⟨x, rfl, hxl, hcells⟩
      · omega
      have hc := hcells k hlt
      have hat := HAt.out k hkl
      have hsz : (L.getD k ByteArray.empty).size ≤ 1000 := HSm.out _ (by rw [getD_at L k hkl]; exact List.getElem_mem _)
      obtain ⟨t, ht⟩ : ∃ t, L.getD k ByteArray.empty = t := ⟨_, rfl⟩
      rw [ht] at hc hat hsz
      have HS := Lib.hid (fun w => Small_any t 255 (by omega) w hsz)
      rw [hat] at HS
      have htk : (P.take (k + 1)).all (Hp.okD 255) = Hp.okD 255 (P.getD k []) := by
        rw [List.take_succ_eq_append_getElem hkp, List.all_append, HA.out, Hp.getD_is P [] k hkp]; simp
      have hin : P.getD k [] ∈ P := by rw [Hp.getD_is P [] k hkp]; exact List.getElem_mem _
      generalize P.getD k [] = pk at *
      clear hcells hat ht
      cases hok : Hp.okD 255 pk
      · have hv := Hp.smallV_no hok
        rw [hv] at HS
        have HN : Hid (P.all (Hp.okD 255) = false) := by
          show _ = _
          cases h : P.all (Hp.okD 255)
          · rfl
          · rw [List.all_eq_true.1 h pk hin] at hok; cases hok
        clear htk hok hv
        go_wp2_with fail
        refine (HS.out _).mono ?_
        rintro e w2 ⟨rfl, m2, rfl⟩
        go_wp2_with fail
        go_ret
        exact ⟨ret_bool (by rw [HN.out]; rfl), HB1.out.trans (below_drewN _ _ (q + m2))⟩
      · have hv := (Hp.smallV_sign 255 pk).2 hok
        generalize Hp.smallV 255 pk = v at *
        rw [hok] at htk
        have HT := Lib.hid htk
        clear htk hok
        go_wp2_with fail
        refine (HS.out _).mono ?_
        rintro e w2 ⟨rfl, m2, rfl⟩
        go_wp2_with fail
        go_roundw
        case rel => exact ⟨k + 1, by omega, by go_num, HT.out, q + m2, rfl⟩
        case measure => simp [intOf]; omega
    · have HN : Hid (P.all (Hp.okD 255) = true) := by
        show _ = _
        rw [← HA.out, List.take_of_length_le (by omega)]
      have hnp : (P.length : Int) = (n : Int) := by omega
      go_wp2_with fail
      go_ret
      exact ⟨ret_bool (by rw [HN.out, hnp]; rfl), HB1.out.trans (below_drewN _ _ q)⟩
end Go.Proofs.YtnpbnlphmngbdaaGreatDoor
