/- The document's Trim: its contract. -/
import Derived.Test.YtchhjmdbjndckaaDoorTrimA
import Derived.Test.YtchhjmdbjndckaaDoorBlA
import Derived.Test.YtchhjmdbjndckaaDoorRowA
namespace Go.Proofs.YtchhjmdbjndckaaDoor
open Go.RowKit

namespace Cm
theorem bl_bla (c : UInt8) : bl c = B.bla (c.toNat : Int) := by
  have h : ∀ i : Fin 256, (bl (UInt8.ofNat i.val) == B.bla ((UInt8.ofNat i.val).toNat : Int)) = true := by decide +kernel
  have := h ⟨c.toNat, c.toNat_lt⟩
  simpa using this
theorem first_cut (t : ByteArray) (h : 0 < t.size) : t.data.toList = t[0] :: (t.extract 1 t.size).data.toList := by
  have h' : 0 < t.data.toList.length := by simpa using h
  rw [ByteArray.data_extract, Array.toList_extract, List.extract_eq_take_drop]
  have e : (t.data.toList.drop 1).take (t.size - 1) = t.data.toList.drop 1 := List.take_of_length_le (by simp)
  rw [e]
  have := List.drop_eq_getElem_cons h'
  rw [List.drop_zero] at this
  exact this
theorem last_cut (t : ByteArray) (q : Nat) (h : t.size = q + 1) : t.data.toList = (t.extract 0 q).data.toList ++ [t[q]] := by
  have h' : q < t.data.toList.length := by simp; omega
  rw [ByteArray.data_extract, Array.toList_extract, List.extract_eq_take_drop, List.drop_zero, Nat.sub_zero]
  have h2 := List.take_succ_eq_append_getElem h'
  rw [List.take_of_length_le (by simp; omega)] at h2
  exact h2
theorem dropL_yes (t : ByteArray) (h : 0 < t.size) (hb : B.bla (t[0].toNat : Int) = true) : t.data.toList.dropWhile bl = (t.extract 1 t.size).data.toList.dropWhile bl := by
  rw [first_cut t h, List.dropWhile_cons_of_pos (by rw [bl_bla]; exact hb)]
theorem dropL_no (t : ByteArray) (h : 0 < t.size → ∃ _ : 0 < t.size, B.bla (t[0].toNat : Int) = false) : t.data.toList.dropWhile bl = t.data.toList := by
  by_cases h0 : 0 < t.size
  · obtain ⟨_, hb⟩ := h h0
    rw [first_cut t h0, List.dropWhile_cons_of_neg (by rw [bl_bla, hb]; decide)]
  · have e : t.data.toList = [] := List.eq_nil_of_length_eq_zero (by have h2 : t.data.toList.length = t.size := by simp
                                                                     omega)
    rw [e]; rfl
theorem dropR_yes (t : ByteArray) (q : Nat) (h : t.size = q + 1) (hb : B.bla (t[q].toNat : Int) = true) : R bl t.data.toList = R bl (t.extract 0 q).data.toList := by
  conv => lhs; rw [last_cut t q h]
  exact R_snoc _ _ _ (by rw [bl_bla]; exact hb)
theorem dropR_no (t : ByteArray) (q : Nat) (h : t.size = q + 1) (hb : B.bla (t[q].toNat : Int) = false) : R bl t.data.toList = t.data.toList := by
  rw [last_cut t q h]
  unfold R
  rw [List.reverse_append]
  show (List.dropWhile bl (t[q] :: (t.extract 0 q).data.toList.reverse)).reverse = _
  rw [List.dropWhile_cons_of_neg (by rw [bl_bla, hb]; decide)]
  simp
theorem dropR_nil (t : ByteArray) (h : t.size = 0) : R bl t.data.toList = t.data.toList := by
  have e : t.data.toList = [] := List.eq_nil_of_length_eq_zero (by simpa using h)
  rw [e]; rfl
theorem trimB_of (s t u : ByteArray) (h1 : u.data.toList = s.data.toList.dropWhile bl) (h2 : R bl t.data.toList = R bl u.data.toList) (h3 : R bl t.data.toList = t.data.toList) : trimB [32, 9] s = t := by
  apply bytes_eq
  show trim s.data.toList = _
  rw [trim_eq', ← h1, ← h2, h3]
end Cm

set_option maxHeartbeats 1000000 in
theorem RTrim_any (s : ByteArray) (w : World) (hs : s.size ≤ 100000) :
    Calls Tryd.prog 22 #[.string s] w fun e w' => e = .returned (.string (trimB [32, 9] s)) ∧ w = w' := by
  go_enter Tryd.func22, Tryd.ntmps22
  go_wp2_with fail
  go_loop [0] (fun v => ∃ t : ByteArray, v = .string t ∧ t.size ≤ s.size ∧ Hid (t.data.toList.dropWhile Cm.bl = s.data.toList.dropWhile Cm.bl)) (fun v => strLen v)
  case atStart => exact ⟨s, rfl, Nat.le_refl _, rfl⟩
  case round =>
    obtain ⟨t, rfl, htz, HT⟩ := hrel
    by_cases h0 : 0 < t.size
    · have hby := B.toNat_le t[0]
      cases hb : B.bla (t[0].toNat : Int)
      · have HU : Hid (t.data.toList = s.data.toList.dropWhile Cm.bl) := by
          show _ = _
          rw [← HT.out, Cm.dropL_no t (fun _ => ⟨h0, hb⟩)]
        have HB := Lib.hid hb
        clear hb
        go_wp2_with fail
        refine (RBlank_any _ _).mono ?_
        rintro e w' ⟨rfl, rfl⟩
        rw [HB.out]
        go_wp2_with fail
        go_loop [0] (fun v => ∃ x : ByteArray, v = .string x ∧ x.size ≤ s.size ∧ Hid (Cm.R Cm.bl x.data.toList = Cm.R Cm.bl t.data.toList)) (fun v => strLen v)
        case atStart => exact ⟨t, rfl, htz, rfl⟩
        case round =>
          obtain ⟨x, rfl, hxz, HX⟩ := hrel
          rcases Nat.eq_zero_or_pos x.size with hz | hz
          · have HE := Lib.hid (Cm.trimB_of s x t HU.out HX.out (Cm.dropR_nil x hz))
            go_wp2_with fail
            go_ret
            rw [HE.out]
            exact ⟨rfl, rfl⟩
          · obtain ⟨q, hq⟩ : ∃ q, x.size = q + 1 := ⟨x.size - 1, by omega⟩
            have hby2 := B.toNat_le x[q]
            cases hbx : B.bla (x[q].toNat : Int)
            · have HE := Lib.hid (Cm.trimB_of s x t HU.out HX.out (Cm.dropR_no x q hq hbx))
              have HBX := Lib.hid hbx
              clear hbx
              go_wp2_with fail
              refine (RBlank_any _ _).mono ?_
              rintro e w' ⟨rfl, rfl⟩
              rw [HBX.out]
              go_wp2_with fail
              go_ret
              rw [HE.out]
              exact ⟨rfl, rfl⟩
            · have HE := Lib.hid (Cm.dropR_yes x q hq hbx)
              have HBX := Lib.hid hbx
              clear hbx
              go_wp2_with fail
              refine (RBlank_any _ _).mono ?_
              rintro e w' ⟨rfl, rfl⟩
              rw [HBX.out]
              go_wp2_with fail
              go_round
              case rel => exact ⟨_, rfl, by simp; omega, HE.out.symm.trans HX.out⟩
              case measure => simp [strLen]; omega
      · have HE := Lib.hid (Cm.dropL_yes t h0 hb)
        have HB := Lib.hid hb
        clear hb
        go_wp2_with fail
        refine (RBlank_any _ _).mono ?_
        rintro e w' ⟨rfl, rfl⟩
        rw [HB.out]
        go_wp2_with fail
        go_round
        case rel => exact ⟨_, rfl, by simp; omega, HE.out.symm.trans HT.out⟩
        case measure => simp [strLen]; omega
    · have HU : Hid (t.data.toList = s.data.toList.dropWhile Cm.bl) := by
        show _ = _
        rw [← HT.out, Cm.dropL_no t (fun h => absurd h h0)]
      go_wp2_with fail
      go_loop [0] (fun v => ∃ x : ByteArray, v = .string x ∧ x.size ≤ s.size ∧ Hid (Cm.R Cm.bl x.data.toList = Cm.R Cm.bl t.data.toList)) (fun v => strLen v)
      case atStart => exact ⟨t, rfl, htz, rfl⟩
      case round =>
        obtain ⟨x, rfl, hxz, HX⟩ := hrel
        rcases Nat.eq_zero_or_pos x.size with hz | hz
        · have HE := Lib.hid (Cm.trimB_of s x t HU.out HX.out (Cm.dropR_nil x hz))
          go_wp2_with fail
          go_ret
          rw [HE.out]
          exact ⟨rfl, rfl⟩
        · obtain ⟨q, hq⟩ : ∃ q, x.size = q + 1 := ⟨x.size - 1, by omega⟩
          have hby2 := B.toNat_le x[q]
          cases hbx : B.bla (x[q].toNat : Int)
          · have HE := Lib.hid (Cm.trimB_of s x t HU.out HX.out (Cm.dropR_no x q hq hbx))
            have HBX := Lib.hid hbx
            clear hbx
            go_wp2_with fail
            refine (RBlank_any _ _).mono ?_
            rintro e w' ⟨rfl, rfl⟩
            rw [HBX.out]
            go_wp2_with fail
            go_ret
            rw [HE.out]
            exact ⟨rfl, rfl⟩
          · have HE := Lib.hid (Cm.dropR_yes x q hq hbx)
            have HBX := Lib.hid hbx
            clear hbx
            go_wp2_with fail
            refine (RBlank_any _ _).mono ?_
            rintro e w' ⟨rfl, rfl⟩
            rw [HBX.out]
            go_wp2_with fail
            go_round
            case rel => exact ⟨_, rfl, by simp; omega, HE.out.symm.trans HX.out⟩
            case measure => simp [strLen]; omega
end Go.Proofs.YtchhjmdbjndckaaDoor
