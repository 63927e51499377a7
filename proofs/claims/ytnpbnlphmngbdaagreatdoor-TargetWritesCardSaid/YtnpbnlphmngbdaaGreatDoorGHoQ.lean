/- Contracts and lemmas that the claim rests on: HoQ. -/
import Derived.Test.YtnpbnlphmngbdaaGreatDoorGHoP
/- The document's whole: its contract. -/
namespace Go.Proofs.YtnpbnlphmngbdaaGreatDoor
open Go.RowKit

namespace Hp
theorem whole_cut {P : List (List UInt8)} {k : Nat} (hk : k + 1 = P.length) : P = P.take k ++ [P.getD k []] := by
  conv => lhs; rw [← List.take_append_drop k P, List.drop_eq_getElem_cons (by omega), List.drop_of_length_le (by omega)]
  rw [getD_is P [] k (by omega)]
theorem whole_four {P : List (List UInt8)} {k : Nat} (hk : k + 1 = P.length) (h : fourL (P.getD k []) = true) (ha : (P.take k).all grp = true) : wholeP P = (((k + 2 : Nat) : Int) == 8) := by
  have e : wholeP P = wholeP (P.take k ++ [P.getD k []]) := by rw [← whole_cut hk]
  rw [e, whole_snoc]
  unfold rep
  rw [if_pos h, List.all_append, ha, List.length_append, List.length_take, Bool.eq_iff_iff]
  simp [grp_zero]
  omega
theorem whole_grp {P : List (List UInt8)} {k : Nat} (hk : k + 1 = P.length) (h : fourL (P.getD k []) = false) (ha : (P.take k).all grp = true) : wholeP P = (grp (P.getD k []) && (((k + 1 : Nat) : Int) == 8)) := by
  have e : wholeP P = wholeP (P.take k ++ [P.getD k []]) := by rw [← whole_cut hk]
  rw [e, whole_snoc]
  unfold rep
  rw [if_neg (by rw [h]; simp), List.all_append, ha, List.length_append, List.length_take, Bool.eq_iff_iff]
  simp
  intro _
  omega
theorem whole_bad {P : List (List UInt8)} {k : Nat} (hk : k + 1 < P.length) (h : grp (P.getD k []) = false) : wholeP P = false := by
  unfold wholeP
  have hm : P.getD k [] ∈ P.dropLast := by
    rw [getD_is P [] k (by omega)]
    rw [List.mem_iff_getElem]
    exact ⟨k, by rw [List.length_dropLast]; omega, by rw [List.getElem_dropLast]⟩
  cases ha : (P.dropLast ++ rep (P.getLastD [])).all grp
  · rfl
  · rw [List.all_append, Bool.and_eq_true, List.all_eq_true] at ha
    rw [ha.1 _ hm] at h; cases h
theorem grp_hex (t : ByteArray) (q : Nat) (h : q < t.size) (g : B.hex (t[q].toNat : Int) = false) : grp t.data.toList = false := by
  unfold grp
  rw [B.all_no hx t q h g, Bool.and_false]
theorem grp_size (t : ByteArray) (h : (t.data.toList.take t.size).all hx = true) : grp t.data.toList = decide (1 ≤ t.size ∧ t.size ≤ 4) := by
  have hl : t.data.toList.length = t.size := by simp
  rw [List.take_of_length_le (by omega)] at h
  unfold grp
  rw [h, hl, Bool.and_true, Bool.eq_iff_iff]
  simp
  rw [← Array.size_eq_zero_iff]
  have : t.data.size = t.size := rfl
  omega
/-- How far whole has come: behind k parts its count is n. -/
def Wh (P : List (List UInt8)) (k n : Nat) : Prop := (k < P.length ∧ (P.take k).all grp = true ∧ n = k) ∨ (k = P.length ∧ wholeP P = ((n : Int) == 8))
theorem Wh.more {P : List (List UInt8)} {k : Nat} (h : k + 1 < P.length) (ha : (P.take k).all grp = true) (hg : grp (P.getD k []) = true) : Wh P (k + 1) (k + 1) := by
  refine .inl ⟨h, ?_, rfl⟩
  rw [List.take_succ_eq_append_getElem (by omega), List.all_append, ha]
  rw [getD_is P [] k (by omega)] at hg
  simp [hg]
end Hp
set_option maxHeartbeats 4000000 in
theorem Whole_any (s : ByteArray) (w : World) (hs : s.size ≤ 1000) :
    Calls Tryz.prog 60 #[.string s] w fun e w' => e = .returned (.bool (Hp.wholeP (Hp.parts 58 s.data.toList))) ∧ Below w.heap.size w w' := by
  have HP := Lib.hid (Parts_any s 58 58 rfl w hs)
  have hpl := Hp.ptxt_len 58 s hs
  have hpf := Hp.ptxt_few 58 s hs
  have HAt := Lib.hid (Hp.ptxt_at 58 s hs)
  have HSm := Lib.hid (Hp.ptxt_small 58 s)
  have hpos := List.length_pos_iff.2 (Hp.parts_ne 58 s.data.toList)
  generalize Hp.parts 58 s.data.toList = P at *
  generalize Hp.ptxt 58 s = L at *
  go_enter Tryz.func60, Tryz.ntmps60
  go_wp2_with fail
  refine HP.out.mono ?_
  rintro e w1 ⟨a, n, c, rfl, ho1, hb1⟩
  have hn1 := own_len ho1
  obtain ⟨-, hz⟩ : True ∧ IsTexts w1 a n L := ⟨trivial, own_strs ho1 (by omega)⟩
  have HZ := Lib.hid hz
  have HB1 := Lib.hid hb1
  clear ho1 hb1 hz
  go_wp2_with fail
  go_loopw [4, 5] (fun m i wr => ∃ k j : Nat, k ≤ n ∧ i = .int .i64 k ∧ m = .int .i64 j ∧ j ≤ k + 1 ∧ Hp.Wh P k j ∧ Below w1.heap.size w1 wr) (fun _ i _ => n - (intOf i).toNat)
  case atStart => exact ⟨0, 0, Nat.zero_le _, rfl, rfl, by omega, .inl ⟨hpos, rfl, rfl⟩, Below.refl _ _⟩
  case round =>
    obtain ⟨k, j, hk, rfl, rfl, hj, hwh, hb⟩ := hrel
    have HB := Lib.hid hb
    have HBW := Lib.hid (HB1.out.trans (hb.mono HB1.out.size))
    clear hb
    by_cases hlt : k < n
    · rcases hwh with ⟨hkp, hall, rfl⟩ | ⟨hkp, -⟩
      case inr => omega
      have HA := Lib.hid hall
      have hkl : j < L.length := by omega
      rcases (HZ.out.below HB.out).2 with ⟨rfl, rfl⟩ | ⟨x, rfl, hxl, hcells⟩
      · omega
      have hc := hcells j hlt
      have hat := HAt.out j hkl
      have hsz : (L.getD j ByteArray.empty).size ≤ 1000 := HSm.out _ (by rw [getD_at L j hkl]; exact List.getElem_mem _)
      obtain ⟨t, ht⟩ : ∃ t, L.getD j ByteArray.empty = t := ⟨_, rfl⟩
      rw [ht] at hc hat hsz
      clear hcells ht hall
      by_cases hlast : j + 1 = P.length
      · have hl1 : ((j : Int) == (n : Int) - 1) = true := by rw [beq_iff_eq]; omega
        cases hfo : Hp.fourL (P.getD j [])
        · have HBAD : Hid (Hp.grp t.data.toList = false → Hp.wholeP P = false) := fun h => by
            rw [hat] at h
            rw [Hp.whole_grp hlast hfo HA.out, h]; rfl
          have HGOOD : Hid (Hp.grp t.data.toList = true → Hp.Wh P (j + 1) (j + 1)) := fun h => by
            rw [hat] at h
            exact .inr ⟨hlast, by rw [Hp.whole_grp hlast hfo HA.out, h]; rfl⟩
          have HF := Lib.hid (RFour_any t wr hsz)
          rw [hat, hfo] at HF
          clear hat hfo
          go_wp2_with fail
          refine HF.out.mono ?_
          rintro e w2 ⟨rfl, hb2⟩
          have hc2 : w2.cell? (x.add j) = some (.string t) := (hb2.cell (p := x.add j) (lt_of_cell hc)).trans hc
          have HB2 := Lib.hid (HB.out.trans (hb2.mono HB.out.size))
          have HBV := Lib.hid (HBW.out.trans (hb2.mono HBW.out.size))
          clear hb2 hc HF
          go_wp2_with fail
          go_loopw [6] (fun i wi => ∃ q : Nat, q ≤ t.size ∧ i = .int .i64 q ∧ (t.data.toList.take q).all Hp.hx = true ∧ wi = w2) (fun i _ => t.size - (intOf i).toNat)
          case atStart => exact ⟨0, Nat.zero_le _, rfl, rfl, rfl⟩
          case round =>
            obtain ⟨q, hq, rfl, hall, rfl⟩ := hrel
            by_cases hlq : q < t.size
            · have hb := B.toNat_le t[q]
              cases hhx : B.hex (t[q].toNat : Int)
              · have HG := Lib.hid (HBAD.out (Hp.grp_hex t q hlq hhx))
                have HH := Lib.hid hhx
                clear hhx hall
                go_wp2_with fail
                refine (RHex_any _ _ (by omega) (by omega)).mono ?_
                rintro e w' ⟨rfl, rfl⟩
                rw [HH.out]
                go_wp2_with fail
                go_ret
                exact ⟨ret_bool HG.out.symm, HBV.out⟩
              · have HA := Lib.hid (B.all_snoc Hp.hx t q hlq hall hhx)
                have HH := Lib.hid hhx
                clear hhx hall
                go_wp2_with fail
                refine (RHex_any _ _ (by omega) (by omega)).mono ?_
                rintro e w' ⟨rfl, rfl⟩
                rw [HH.out]
                go_wp2_with fail
                go_roundw
                case rel => exact ⟨q + 1, by omega, by go_num, HA.out, trivial⟩
                case measure => simp [intOf]; omega
            · obtain rfl : q = t.size := by omega
              have hgz := Hp.grp_size t hall
              clear hall
              by_cases hz1 : t.size < 1
              · have HG := Lib.hid (HBAD.out (by rw [hgz, decide_eq_false (by omega)]))
                have hz1' : (t.size : Int) < 1 := by omega
                clear hgz
                go_wp2_with fail
                go_ret
                exact ⟨ret_bool HG.out.symm, HBV.out⟩
              · have hz1' : (1 : Int) ≤ t.size := by omega
                by_cases hz4 : 4 < t.size
                · have HG := Lib.hid (HBAD.out (by rw [hgz, decide_eq_false (by omega)]))
                  have hz4' : (4 : Int) < t.size := by omega
                  clear hgz
                  go_wp2_with fail
                  go_ret
                  exact ⟨ret_bool HG.out.symm, HBV.out⟩
                · have HG := Lib.hid (HGOOD.out (by rw [hgz, decide_eq_true (by omega)]))
                  have hz4' : (t.size : Int) ≤ 4 := by omega
                  clear hgz
                  go_wp2_with fail
                  all_goals first | (exfalso; omega) | exact ⟨⟨j + 1, j + 1, by omega, by go_num, by go_num, by omega, HG.out, HB2.out⟩, by simp [intOf]; omega⟩
        · have HG : Hid (Hp.Wh P (j + 1) (j + 2)) := .inr ⟨hlast, Hp.whole_four hlast hfo HA.out⟩
          have HF := Lib.hid (RFour_any t wr hsz)
          rw [hat, hfo] at HF
          clear hat hfo
          go_wp2_with fail
          refine HF.out.mono ?_
          rintro e w2 ⟨rfl, hb2⟩
          have HB2 := Lib.hid (HB.out.trans (hb2.mono HB.out.size))
          clear hb2 HF
          go_wp2_with fail
          go_roundw
          case rel => exact ⟨j + 1, j + 2, by omega, by go_num, by go_num, by omega, HG.out, HB2.out⟩
          case measure => simp [intOf]; omega
      · have hl1 : ((j : Int) == (n : Int) - 1) = false := by rw [beq_eq_false_iff_ne]; omega
        have HBAD : Hid (Hp.grp t.data.toList = false → Hp.wholeP P = false) := fun h => by
          rw [hat] at h
          exact Hp.whole_bad (by omega) h
        have HGOOD : Hid (Hp.grp t.data.toList = true → Hp.Wh P (j + 1) (j + 1)) := fun h => by
          rw [hat] at h
          exact Hp.Wh.more (by omega) HA.out h
        clear hat
        go_wp2_with fail
        go_loopw [6] (fun i wi => ∃ q : Nat, q ≤ t.size ∧ i = .int .i64 q ∧ (t.data.toList.take q).all Hp.hx = true ∧ wi = wr) (fun i _ => t.size - (intOf i).toNat)
        case atStart => exact ⟨0, Nat.zero_le _, rfl, rfl, rfl⟩
        case round =>
          obtain ⟨q, hq, rfl, hall, rfl⟩ := hrel
          by_cases hlq : q < t.size
          · have hb := B.toNat_le t[q]
            cases hhx : B.hex (t[q].toNat : Int)
            · have HG := Lib.hid (HBAD.out (Hp.grp_hex t q hlq hhx))
              have HH := Lib.hid hhx
              clear hhx hall
              go_wp2_with fail
              refine (RHex_any _ _ (by omega) (by omega)).mono ?_
              rintro e w' ⟨rfl, rfl⟩
              rw [HH.out]
              go_wp2_with fail
              go_ret
              exact ⟨ret_bool HG.out.symm, HBW.out⟩
            · have HA := Lib.hid (B.all_snoc Hp.hx t q hlq hall hhx)
              have HH := Lib.hid hhx
              clear hhx hall
              go_wp2_with fail
              refine (RHex_any _ _ (by omega) (by omega)).mono ?_
              rintro e w' ⟨rfl, rfl⟩
              rw [HH.out]
              go_wp2_with fail
              go_roundw
              case rel => exact ⟨q + 1, by omega, by go_num, HA.out, trivial⟩
              case measure => simp [intOf]; omega
          · obtain rfl : q = t.size := by omega
            have hgz := Hp.grp_size t hall
            clear hall
            by_cases hz1 : t.size < 1
            · have HG := Lib.hid (HBAD.out (by rw [hgz, decide_eq_false (by omega)]))
              have hz1' : (t.size : Int) < 1 := by omega
              clear hgz
              go_wp2_with fail
              go_ret
              exact ⟨ret_bool HG.out.symm, HBW.out⟩
            · have hz1' : (1 : Int) ≤ t.size := by omega
              by_cases hz4 : 4 < t.size
              · have HG := Lib.hid (HBAD.out (by rw [hgz, decide_eq_false (by omega)]))
                have hz4' : (4 : Int) < t.size := by omega
                clear hgz
                go_wp2_with fail
                go_ret
                exact ⟨ret_bool HG.out.symm, HBW.out⟩
              · have HG := Lib.hid (HGOOD.out (by rw [hgz, decide_eq_true (by omega)]))
                have hz4' : (t.size : Int) ≤ 4 := by omega
                clear hgz
                go_wp2_with fail
                all_goals first | (exfalso; omega) | exact ⟨⟨j + 1, j + 1, by omega, by go_num, by go_num, by omega, HG.out, HB.out⟩, by simp [intOf]; omega⟩
    · have HN : Hid (Hp.wholeP P = ((j : Int) == 8)) := by
        rcases hwh with ⟨hkp, -, -⟩ | ⟨-, h⟩
        · exact absurd hkp (by omega)
        · exact h
      clear hwh
      go_wp2_with fail
      go_ret
      exact ⟨ret_bool HN.out.symm, HBW.out⟩
end Go.Proofs.YtnpbnlphmngbdaaGreatDoor
