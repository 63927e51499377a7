/- The document's Parse of a line: its contract. -/
import Derived.Test.YtchhjmdbjndckaaDoorFlD
namespace Go.Proofs.YtchhjmdbjndckaaDoor
open Go.RowKit

namespace Fl
theorem en_int (c : UInt8) : en c = (decide ((c.toNat : Int) = 13) || decide ((c.toNat : Int) = 10)) := by
  have := all256 (p := fun c => en c == (decide ((c.toNat : Int) = 13) || decide ((c.toNat : Int) = 10))) (by decide +kernel) c
  simpa using this
theorem any_more {p : UInt8 → Bool} (s : ByteArray) (k : Nat) (h : k < s.size) (hp : (s.data.toList.take k).any p = false) (hc : p s[k] = false) : (s.data.toList.take (k + 1)).any p = false := by
  rw [B.take_snocB s k h, List.any_append, hp, List.any_cons, hc]; rfl
theorem any_hit {p : UInt8 → Bool} (s : ByteArray) (k : Nat) (h : k < s.size) (hc : p s[k] = true) : s.data.toList.any p = true := by
  rw [List.any_eq_true]
  exact ⟨s[k], by rw [show s[k] = s.data.toList[k]'(by simpa using h) from rfl]; exact List.getElem_mem _, hc⟩
theorem any_end {p : UInt8 → Bool} (s : ByteArray) (k : Nat) (h : ¬ k < s.size) (hp : (s.data.toList.take k).any p = false) : s.data.toList.any p = false := by
  rwa [List.take_of_length_le (by simp; omega)] at hp
theorem parse_end (l : List UInt8) (h : l.any en = true) : parseD l = ([], [], 24) := by unfold parseD; rw [if_pos h]
theorem parse_folded (l : List UInt8) (h : l.any en = false) (h2 : l.takeWhile Cm.bl ≠ []) : parseD l = ([], [], 23) := by
  unfold parseD; rw [if_neg (by rw [h]; decide), if_pos h2]
theorem parse_colon (l : List UInt8) (h : l.any en = false) (h2 : l.takeWhile Cm.bl = []) (h3 : headD l = false) : parseD l = ([], [], 21) := by
  unfold parseD; rw [if_neg (by rw [h]; decide), if_neg (by rw [h2]; simp), if_pos h3]
theorem nD_all (s : ByteArray) (q : Nat) (h : ¬ q < s.size) (hn : (s.data.toList.take q).all nc = true) : nD s.data.toList = s.data.toList.length := by
  rw [List.take_of_length_le (by simp; omega)] at hn
  unfold nD
  have := tw_cut (r := []) hn (fun c r' e => by cases e)
  rw [List.append_nil] at this
  rw [this]
theorem head_no (s : ByteArray) (q : Nat) (h : ¬ q < s.size) (hn : (s.data.toList.take q).all nc = true) : headD s.data.toList = false := by
  unfold headD
  rw [nD_all s q h hn, decide_eq_false (by omega), Bool.false_and]
theorem nD_at (s : ByteArray) (q : Nat) (h : q < s.size) (hn : (s.data.toList.take q).all nc = true) (hc : nc s[q] = false) : nD s.data.toList = q := by
  unfold nD
  rw [B.cutB s q h, tw_cut hn (fun c r' e => by cases e; exact hc), List.length_take, Array.length_toList]
  exact Nat.min_eq_left (Nat.le_of_lt h)
theorem parse_name (l : List UInt8) (h : l.any en = false) (h2 : l.takeWhile Cm.bl = []) (h3 : nD l < l.length) :
    parseD l = if tokL (Cm.trim (l.take (nD l))) = false then ([], [], 21) else if (Cm.trim (l.take (nD l))).length < nD l then ([], [], 22) else if (l.drop (nD l + 1)).all vl = false then ([], [], 25) else (Cm.trim (l.take (nD l)), Cm.trim (l.drop (nD l + 1)), 0) := by
  unfold parseD headD
  rw [if_neg (by rw [h]; decide), if_neg (by rw [h2]; simp), decide_eq_true h3, Bool.true_and]
theorem trim_take (s : ByteArray) (q : Nat) : (trimB [32, 9] (s.extract 0 q)).data.toList = Cm.trim (s.data.toList.take q) := by
  show Cm.trim (s.extract 0 q).data.toList = _
  rw [ByteArray.data_extract, Array.toList_extract, List.extract_eq_take_drop, List.drop_zero, Nat.sub_zero]
theorem rest_list (s : ByteArray) (k : Nat) : (s.extract k s.size).data.toList = s.data.toList.drop k := restS_list s k
theorem rest_trimmed (s : ByteArray) (k : Nat) : trimB [32, 9] (s.extract k s.size) = ⟨(Cm.trim (s.data.toList.drop k)).toArray⟩ := rest_trim s k
theorem first_list (s : ByteArray) (h : 0 < s.size) : s.data.toList = s[0] :: s.data.toList.drop 1 := by
  have h' : 0 < s.data.toList.length := by simpa using h
  have := List.drop_eq_getElem_cons h'
  rw [List.drop_zero] at this
  exact this
theorem fold_no (s : ByteArray) (h : 0 < s.size) (hb : B.bla (s[0].toNat : Int) = false) : s.data.toList.takeWhile Cm.bl = [] := by
  rw [first_list s h, List.takeWhile_cons_of_neg (by rw [Cm.bl_bla, hb]; decide)]
theorem fold_yes (s : ByteArray) (h : 0 < s.size) (hb : B.bla (s[0].toNat : Int) = true) : s.data.toList.takeWhile Cm.bl ≠ [] := by
  rw [first_list s h, List.takeWhile_cons_of_pos (by rw [Cm.bl_bla]; exact hb)]
  simp
theorem fold_empty (s : ByteArray) (h : ¬ 0 < s.size) : s.data.toList.takeWhile Cm.bl = [] := by
  rw [show s.data.toList = [] from List.eq_nil_of_length_eq_zero (by rw [Array.length_toList]; show s.size = 0; omega)]; rfl
end Fl
set_option maxRecDepth 10000 in
set_option maxHeartbeats 4000000 in
theorem RFParse_any (s : ByteArray) (w : World) (hs : s.size ≤ 100000) :
    Calls Tryd.prog 9 #[.string s] w fun e w' => e = .returned (fV (Fl.parseD s.data.toList)) ∧ Below w.heap.size w w' := by
  obtain ⟨Z, hZ⟩ : ∃ Z, Fl.parseD s.data.toList = Z := ⟨_, rfl⟩
  rw [hZ]
  have HZ := Lib.hid hZ
  clear hZ
  obtain ⟨W0, hW0⟩ : ∃ W0, w.alloc (.cells #[.string ⟨#[]⟩, .string ⟨#[]⟩] 25) = W0 := ⟨_, rfl⟩
  have hF0 : FldAt W0 w.heap.size ⟨#[]⟩ ⟨#[]⟩ := by rw [← hW0]; exact fldAt_new _ _ _
  have hbw : Below w.heap.size w W0 := by rw [← hW0]; exact (by repeat (first | with_reducible exact Below.refl _ _ | with_reducible assumption | (with_reducible refine Below.setCell ?_ ?_ _; rotate_left; · (simp <;> omega)) | (with_reducible refine Below.alloc ?_ ?_ _; rotate_left; · (simp <;> omega)) | with_reducible refine Below.drew ?_))
  obtain ⟨c0, c1, f0, f1, l0⟩ := hF0
  unfold fV fF
  go_enter Tryd.func9, Tryd.ntmps9
  go_wp2_with fail
  go_loopw [4] (fun i wr => ∃ k : Nat, k ≤ s.size ∧ i = .int .i64 k ∧ (s.data.toList.take k).any Fl.en = false ∧ wr = W0) (fun i _ => s.size - (intOf i).toNat)
  case atStart => exact ⟨0, Nat.zero_le _, rfl, rfl, rfl⟩
  case round =>
    obtain ⟨k, hk, rfl, hall, hwr⟩ := hrel
    rw [hwr]
    by_cases hlt : k < s.size
    · have HS := Lib.hid hall
      clear hall
      have hby := B.toNat_le s[k]
      cases he : Fl.en s[k]
      · have HS2 := Lib.hid (Fl.any_more s k hlt HS.out he)
        rw [Fl.en_int, Bool.or_eq_false_iff, decide_eq_false_iff_not, decide_eq_false_iff_not] at he
        have h13 : ((s[k].toNat : Int) == 13) = false := by simpa using he.1
        have h10 : ((s[k].toNat : Int) == 10) = false := by simpa using he.2
        clear he
        go_wp2_with fail
        go_roundw
        case rel => exact ⟨k + 1, by omega, by go_num, HS2.out, by trivial⟩
        case measure => simp [intOf]; omega
      · have HZZ := Lib.hid (HZ.out.symm.trans (Fl.parse_end s.data.toList (Fl.any_hit s k hlt he)))
        rw [Fl.en_int] at he
        by_cases h13 : (s[k].toNat : Int) = 13
        · have h13' : ((s[k].toNat : Int) == 13) = true := by simpa using h13
          clear he h13
          go_wp2_with fail
          refine bodyPost_ret (v := .tuple #[.agg #[.string ⟨#[]⟩, .string ⟨#[]⟩], .int .i64 24]) (by simp [results, Tryd.results9, go_sem, c0, c1]) rfl ⟨by rw [HZZ.out], ?_⟩
          exact (by repeat (first | with_reducible exact Below.refl _ _ | with_reducible assumption | with_reducible refine below_allocT ?_ _ | with_reducible refine Below.drew ?_ | with_reducible refine below_drewT ?_ _ | (with_reducible refine Below.setCell ?_ ?_ _; rotate_left; · first | exact Nat.le_refl _ | omega | (simp <;> omega)) | (with_reducible refine Below.alloc ?_ ?_ _; rotate_left; · first | omega | (simp <;> omega))))
        · have h13' : ((s[k].toNat : Int) == 13) = false := by simpa using h13
          have h10' : ((s[k].toNat : Int) == 10) = true := by simpa [h13] using he
          clear he h13
          go_wp2_with fail
          refine bodyPost_ret (v := .tuple #[.agg #[.string ⟨#[]⟩, .string ⟨#[]⟩], .int .i64 24]) (by simp [results, Tryd.results9, go_sem, c0, c1]) rfl ⟨by rw [HZZ.out], ?_⟩
          exact (by repeat (first | with_reducible exact Below.refl _ _ | with_reducible assumption | with_reducible refine below_allocT ?_ _ | with_reducible refine Below.drew ?_ | with_reducible refine below_drewT ?_ _ | (with_reducible refine Below.setCell ?_ ?_ _; rotate_left; · first | exact Nat.le_refl _ | omega | (simp <;> omega)) | (with_reducible refine Below.alloc ?_ ?_ _; rotate_left; · first | omega | (simp <;> omega))))
    · have HE := Lib.hid (Fl.any_end s k hlt hall)
      clear hall
      by_cases h0 : 0 < s.size
      · have hby := B.toNat_le s[0]
        have HB := Lib.hid (fun w1 => RBlank_any (s[0].toNat : Int) w1)
        cases hbl : B.bla (s[0].toNat : Int)
        · have HF := Lib.hid (Fl.fold_no s h0 hbl)
          rw [hbl] at HB
          clear hbl
          go_wp2_with fail
          refine (HB.out _).mono ?_
          rintro e w1 ⟨rfl, rfl⟩
          go_wp2_with fail
          go_loopw [5] (fun i wr => ∃ q : Nat, q ≤ s.size ∧ i = .int .i64 q ∧ (s.data.toList.take q).all Fl.nc = true ∧ wr = W0) (fun i _ => s.size - (intOf i).toNat)
          case atStart => exact ⟨0, Nat.zero_le _, rfl, rfl, rfl⟩
          case round =>
            obtain ⟨q, hq, rfl, hnc, hwr2⟩ := hrel
            rw [hwr2]
            by_cases hlt2 : q < s.size
            · have hby2 := B.toNat_le s[q]
              cases hc : Fl.nc s[q]
              · have h58 : ((s[q].toNat : Int) == 58) = true := by rw [Fl.nc_58 _ hc]; rfl
                have hnd := Fl.nD_at s q hlt2 hnc hc
                have HP := Lib.hid (Fl.parse_name s.data.toList HE.out HF.out (by rw [hnd, Array.length_toList]; exact hlt2))
                rw [hnd] at HP
                have hqe : ((q : Int) == (s.size : Int)) = false := by rw [beq_eq_false_iff_ne]; omega
                clear hnd hnc hc
                have HT := Lib.hid (fun w1 => RTrim_any (s.extract 0 q) w1 (by simp; omega))
                have hxd : (trimB [32, 9] (s.extract 0 q)).data.toList = Cm.trim (s.data.toList.take q) := Fl.trim_take s q
                have hxz : (trimB [32, 9] (s.extract 0 q)).size ≤ 100000 := by
                  have h1 := Cm.trim_le (s.data.toList.take q)
                  rw [← hxd, Array.length_toList, List.length_take, Array.length_toList] at h1
                  have h2 : (trimB [32, 9] (s.extract 0 q)).size = (trimB [32, 9] (s.extract 0 q)).data.size := rfl
                  have h3 : s.data.size = s.size := rfl
                  omega
                obtain ⟨x, hx⟩ : ∃ x, trimB [32, 9] (s.extract 0 q) = x := ⟨_, rfl⟩
                rw [hx] at HT hxd hxz
                have hxs : (Cm.trim (s.data.toList.take q)).length = x.size := by rw [← hxd, Array.length_toList]; rfl
                have HK := Lib.hid (fun w1 => RToken_any x w1 (by unfold maxLen; omega))
                rw [Fl.tokS_L, hxd] at HK
                rw [hxs] at HP
                have HX := Lib.hid (show (⟨(Cm.trim (s.data.toList.take q)).toArray⟩ : ByteArray) = x by rw [← hxd])
                have HV := Lib.hid (fun w1 => RValues_any (s.extract (q + 1) s.size) w1 (by simp; omega))
                rw [Fl.rest_list] at HV
                have HM := Lib.hid (fun w1 => RTrim_any (s.extract (q + 1) s.size) w1 (by simp; omega))
                rw [Fl.rest_trimmed] at HM
                clear hx hxd hxs
                cases htk : Fl.tokL (Cm.trim (s.data.toList.take q))
                · rw [htk] at HK HP
                  have HZZ := Lib.hid (HZ.out.symm.trans (HP.out.trans (if_pos rfl)))
                  go_wp2_with fail
                  refine (HT.out _).mono ?_
                  rintro e w2 ⟨rfl, rfl⟩
                  go_wp2_with fail
                  refine (HK.out _).mono ?_
                  rintro e w3 ⟨rfl, rfl⟩
                  go_wp2_with fail
                  refine bodyPost_ret (v := .tuple #[.agg #[.string ⟨#[]⟩, .string ⟨#[]⟩], .int .i64 21]) (by simp [results, Tryd.results9, go_sem, c0, c1]) rfl ⟨by rw [HZZ.out], ?_⟩
                  exact (by repeat (first | with_reducible exact Below.refl _ _ | with_reducible assumption | with_reducible refine below_allocT ?_ _ | with_reducible refine Below.drew ?_ | with_reducible refine below_drewT ?_ _ | (with_reducible refine Below.setCell ?_ ?_ _; rotate_left; · first | exact Nat.le_refl _ | omega | (simp <;> omega)) | (with_reducible refine Below.alloc ?_ ?_ _; rotate_left; · first | omega | (simp <;> omega))))
                · rw [htk] at HK HP
                  have HP2 := Lib.hid (HZ.out.symm.trans (HP.out.trans (if_neg (by decide))))
                  clear htk HP HZ
                  by_cases hlen : x.size < q
                  · have HZZ := Lib.hid (HP2.out.trans (if_pos hlen))
                    go_wp2_with fail
                    refine (HT.out _).mono ?_
                    rintro e w2 ⟨rfl, rfl⟩
                    go_wp2_with fail
                    refine (HK.out _).mono ?_
                    rintro e w3 ⟨rfl, rfl⟩
                    go_wp2_with fail
                    refine bodyPost_ret (v := .tuple #[.agg #[.string ⟨#[]⟩, .string ⟨#[]⟩], .int .i64 22]) (by simp [results, Tryd.results9, go_sem, c0, c1]) rfl ⟨by rw [HZZ.out], ?_⟩
                    exact (by repeat (first | with_reducible exact Below.refl _ _ | with_reducible assumption | with_reducible refine below_allocT ?_ _ | with_reducible refine Below.drew ?_ | with_reducible refine below_drewT ?_ _ | (with_reducible refine Below.setCell ?_ ?_ _; rotate_left; · first | exact Nat.le_refl _ | omega | (simp <;> omega)) | (with_reducible refine Below.alloc ?_ ?_ _; rotate_left; · first | omega | (simp <;> omega))))
                  · rw [if_neg hlen] at HP2
                    cases hvl : (s.data.toList.drop (q + 1)).all Fl.vl
                    · rw [hvl] at HV HP2
                      have HZZ := Lib.hid (HP2.out.trans (if_pos rfl))
                      go_wp2_with fail
                      refine (HT.out _).mono ?_
                      rintro e w2 ⟨rfl, rfl⟩
                      go_wp2_with fail
                      refine (HK.out _).mono ?_
                      rintro e w3 ⟨rfl, rfl⟩
                      go_wp2_with fail
                      refine (HV.out _).mono ?_
                      rintro e w4 ⟨rfl, rfl⟩
                      go_wp2_with fail
                      refine bodyPost_ret (v := .tuple #[.agg #[.string ⟨#[]⟩, .string ⟨#[]⟩], .int .i64 25]) (by simp [results, Tryd.results9, go_sem, c0, c1]) rfl ⟨by rw [HZZ.out], ?_⟩
                      exact (by repeat (first | with_reducible exact Below.refl _ _ | with_reducible assumption | with_reducible refine below_allocT ?_ _ | with_reducible refine Below.drew ?_ | with_reducible refine below_drewT ?_ _ | (with_reducible refine Below.setCell ?_ ?_ _; rotate_left; · first | exact Nat.le_refl _ | omega | (simp <;> omega)) | (with_reducible refine Below.alloc ?_ ?_ _; rotate_left; · first | omega | (simp <;> omega))))
                    · rw [hvl] at HV HP2
                      have HZZ := Lib.hid (HP2.out.trans (if_neg (by decide)))
                      go_wp2_with fail
                      refine (HT.out _).mono ?_
                      rintro e w2 ⟨rfl, rfl⟩
                      go_wp2_with fail
                      refine (HK.out _).mono ?_
                      rintro e w3 ⟨rfl, rfl⟩
                      go_wp2_with fail
                      refine (HV.out _).mono ?_
                      rintro e w4 ⟨rfl, rfl⟩
                      go_wp2_with fail
                      refine (HM.out _).mono ?_
                      rintro e w5 ⟨rfl, rfl⟩
                      go_wp2_with fail
                      refine bodyPost_ret (v := .tuple #[.agg #[.string x, .string ⟨(Cm.trim (s.data.toList.drop (q + 1))).toArray⟩], .int .i64 0]) (by simp [results, Tryd.results9, go_sem, c0, c1]) rfl ⟨by rw [HZZ.out, HX.out], ?_⟩
                      exact (by repeat (first | with_reducible exact Below.refl _ _ | with_reducible assumption | with_reducible refine below_allocT ?_ _ | with_reducible refine Below.drew ?_ | with_reducible refine below_drewT ?_ _ | (with_reducible refine Below.setCell ?_ ?_ _; rotate_left; · first | exact Nat.le_refl _ | omega | (simp <;> omega)) | (with_reducible refine Below.alloc ?_ ?_ _; rotate_left; · first | omega | (simp <;> omega))))
              · have HS2 := Lib.hid (B.all_snoc Fl.nc s q hlt2 hnc hc)
                have h58 : ((s[q].toNat : Int) == 58) = false := by unfold Fl.nc at hc; simpa using hc
                clear hnc hc
                go_wp2_with fail
                go_roundw
                case rel => exact ⟨q + 1, by omega, by go_num, HS2.out, by trivial⟩
                case measure => simp [intOf]; omega
            · have HZZ := Lib.hid (HZ.out.symm.trans (Fl.parse_colon s.data.toList HE.out HF.out (Fl.head_no s q hlt2 hnc)))
              clear hnc
              have HT := Lib.hid (fun w1 => RTrim_any (s.extract 0 q) w1 (by simp; omega))
              have hqe : ((q : Int) == (s.size : Int)) = true := by rw [beq_iff_eq]; omega
              go_wp2_with fail
              refine (HT.out _).mono ?_
              rintro e w2 ⟨rfl, rfl⟩

              go_wp2_with fail
              refine bodyPost_ret (v := .tuple #[.agg #[.string ⟨#[]⟩, .string ⟨#[]⟩], .int .i64 21]) (by simp [results, Tryd.results9, go_sem, c0, c1]) rfl ⟨by rw [HZZ.out], ?_⟩
              exact (by repeat (first | with_reducible exact Below.refl _ _ | with_reducible assumption | with_reducible refine below_allocT ?_ _ | with_reducible refine Below.drew ?_ | with_reducible refine below_drewT ?_ _ | (with_reducible refine Below.setCell ?_ ?_ _; rotate_left; · first | exact Nat.le_refl _ | omega | (simp <;> omega)) | (with_reducible refine Below.alloc ?_ ?_ _; rotate_left; · first | omega | (simp <;> omega))))
        · have HZZ := Lib.hid (HZ.out.symm.trans (Fl.parse_folded s.data.toList HE.out (Fl.fold_yes s h0 hbl)))
          rw [hbl] at HB
          clear hbl
          go_wp2_with fail
          refine (HB.out _).mono ?_
          rintro e w1 ⟨rfl, rfl⟩
          go_wp2_with fail
          refine bodyPost_ret (v := .tuple #[.agg #[.string ⟨#[]⟩, .string ⟨#[]⟩], .int .i64 23]) (by simp [results, Tryd.results9, go_sem, c0, c1]) rfl ⟨by rw [HZZ.out], ?_⟩
          exact (by repeat (first | with_reducible exact Below.refl _ _ | with_reducible assumption | with_reducible refine below_allocT ?_ _ | with_reducible refine Below.drew ?_ | with_reducible refine below_drewT ?_ _ | (with_reducible refine Below.setCell ?_ ?_ _; rotate_left; · first | exact Nat.le_refl _ | omega | (simp <;> omega)) | (with_reducible refine Below.alloc ?_ ?_ _; rotate_left; · first | omega | (simp <;> omega))))
      · have HF := Lib.hid (Fl.fold_empty s h0)
        go_wp2_with fail
        go_loopw [5] (fun i wr => ∃ q : Nat, q ≤ s.size ∧ i = .int .i64 q ∧ (s.data.toList.take q).all Fl.nc = true ∧ wr = W0) (fun i _ => s.size - (intOf i).toNat)
        case atStart => exact ⟨0, Nat.zero_le _, rfl, rfl, rfl⟩
        case round =>
          obtain ⟨q, hq, rfl, hnc, hwr2⟩ := hrel
          rw [hwr2]
          by_cases hlt2 : q < s.size
          · exact absurd hlt2 (by omega)
          · have HZZ := Lib.hid (HZ.out.symm.trans (Fl.parse_colon s.data.toList HE.out HF.out (Fl.head_no s q hlt2 hnc)))
            clear hnc
            have HT := Lib.hid (fun w1 => RTrim_any (s.extract 0 q) w1 (by simp; omega))
            have hqe : ((q : Int) == (s.size : Int)) = true := by rw [beq_iff_eq]; omega
            go_wp2_with fail
            refine (HT.out _).mono ?_
            rintro e w2 ⟨rfl, rfl⟩

            go_wp2_with fail
            refine bodyPost_ret (v := .tuple #[.agg #[.string ⟨#[]⟩, .string ⟨#[]⟩], .int .i64 21]) (by simp [results, Tryd.results9, go_sem, c0, c1]) rfl ⟨by rw [HZZ.out], ?_⟩
            exact (by repeat (first | with_reducible exact Below.refl _ _ | with_reducible assumption | with_reducible refine below_allocT ?_ _ | with_reducible refine Below.drew ?_ | with_reducible refine below_drewT ?_ _ | (with_reducible refine Below.setCell ?_ ?_ _; rotate_left; · first | exact Nat.le_refl _ | omega | (simp <;> omega)) | (with_reducible refine Below.alloc ?_ ?_ _; rotate_left; · first | omega | (simp <;> omega))))
end Go.Proofs.YtchhjmdbjndckaaDoor
