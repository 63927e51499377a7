/- marked, parts: contracts. -/
import Derived.Test.YtnnhlkbjdfgcaaaUrG
import Derived.Test.YtnnhlkbjdfgcaaaQuilA
namespace Go.Proofs.Ytnnhlkbjdfgcaaa
open Go.RowKit

theorem marked_any (h : Bool) (m p : ByteArray) (w : World) (hm : m.size ≤ 10) (hp : p.size ≤ 1000) :
    Calls Try.prog 39 #[.bool h, .string m, .string p] w fun e w' => e = .returned (.string ⟨(Ur.mk h m.data.toList p.data.toList).toArray⟩) ∧ w' = w := by
  go_enter Try.func39, Try.ntmps39
  cases h
  · go_wp2_with fail
    go_ret
    exact ⟨rfl, rfl⟩
  · go_wp2_with fail
    go_ret
    exact ⟨ret_str (bytes_eq (by rw [list_append]; simp [Ur.mk])), rfl⟩
namespace Ur
theorem trim_pre {l : List UInt8} (h : hasA l = true) : Lib.trimPrefix l [47, 47] = l.drop 2 := by
  unfold hasA at h
  unfold Lib.trimPrefix
  rw [if_pos h]; rfl
end Ur
theorem mkB {l : List UInt8} {S : ByteArray} (h : S.data.toList = l) : (⟨l.toArray⟩ : ByteArray) = S := bytes_eq (by rw [h])
/-- What a cut by one byte leaves. -/
theorem cutB (l : List UInt8) (h : l.length ≤ 1000) : ∃ S : ByteArray, S.data.toList = l ∧ S.size ≤ 1000 := by
  refine ⟨⟨l.toArray⟩, rfl, ?_⟩
  show l.toArray.size ≤ 1000
  rw [List.size_toArray]; exact h
set_option maxHeartbeats 1600000 in
theorem parts_any (s : ByteArray) (w : World) (hs : s.size ≤ 1000) (hm : MaxL w) :
    Calls Try.prog 17 #[.string s] w fun e w' => e = .returned (rV (Ur.parts s.data.toList)) ∧ Below w.heap.size w w' := by
  have hb0 : ∀ o, Below w.heap.size w (w.alloc o) := fun o => (Below.refl _ _).alloc (Nat.le_refl _) _
  have HB0 := Lib.hid hb0
  have hl : s.data.toList.length = s.size := by simp
  obtain ⟨F, hF, zF⟩ := cutB (Ur.noF s.data.toList) (by unfold Ur.noF; rw [List.length_take]; omega)
  have hFl : F.data.toList.length = F.size := by simp
  obtain ⟨FR, hFR, zFR⟩ := cutB (s.data.toList.drop (Ur.fstN [35] s.data.toList + 1)) (by rw [List.length_drop]; omega)
  obtain ⟨M, hM, zM⟩ := cutB (Ur.noQ F.data.toList) (by unfold Ur.noQ; rw [List.length_take]; omega)
  have hMl : M.data.toList.length = M.size := by simp
  obtain ⟨QU, hQU, zQU⟩ := cutB (F.data.toList.drop (Ur.fstN [63] F.data.toList + 1)) (by rw [List.length_drop]; omega)
  obtain ⟨SC, hSC, zSC⟩ := cutB (M.data.toList.take (Ur.fstN [58] M.data.toList)) (by rw [List.length_take]; omega)
  obtain ⟨RS, hRS, zRS⟩ := cutB (M.data.toList.drop (Ur.fstN [58] M.data.toList + 1)) (by rw [List.length_drop]; omega)
  have hV : rV (Ur.parts s.data.toList) = .agg #[.string ⟨(Ur.schOf M.data.toList).toArray⟩, .string ⟨(Ur.auOf (Ur.restOf M.data.toList)).toArray⟩, .string ⟨(Ur.paOf (Ur.restOf M.data.toList)).toArray⟩, .string QU, .string FR, .bool (Ur.hasA (Ur.restOf M.data.toList)), .bool (decide (Ur.fstN [63] F.data.toList < F.data.toList.length)), .bool (decide (Ur.fstN [35] s.data.toList < s.data.toList.length))] := by
    unfold rV Ur.parts
    rw [← mkB hQU, ← mkB hFR, hM, hF]
  have HC1 := Lib.hid (fun w1 (h : Below w.heap.size w w1) => Cut1_any s 35 w1 (by omega) (hm.stay h))
  have HC2 := Lib.hid (fun w1 (h : Below w.heap.size w w1) => Cut1_any F 63 w1 (by omega) (hm.stay h))
  have HC3 := Lib.hid (fun w1 (h : Below w.heap.size w w1) => Cut1_any M 58 w1 (by omega) (hm.stay h))
  have HS := Lib.hid (fun w1 => isScheme_any SC w1 zSC)
  rw [show (s.data.toList.take (Ur.fstN [35] s.data.toList)) = Ur.noF s.data.toList from rfl, mkB hF, mkB hFR] at HC1
  rw [show (F.data.toList.take (Ur.fstN [63] F.data.toList)) = Ur.noQ F.data.toList from rfl, mkB hM, mkB hQU] at HC2
  rw [mkB hSC, mkB hRS] at HC3
  rw [hV]
  generalize decide (Ur.fstN [35] s.data.toList < s.data.toList.length) = q35 at *
  generalize decide (Ur.fstN [63] F.data.toList < F.data.toList.length) = q63 at *
  have hS : Ur.isS M.data.toList = (decide (Ur.fstN [58] M.data.toList < M.data.toList.length) && Ur.schL SC.data.toList) := by unfold Ur.isS; rw [hSC]
  have hso : Ur.schOf M.data.toList = if Ur.isS M.data.toList then SC.data.toList else [] := by unfold Ur.schOf; rw [hSC]
  have hre : Ur.restOf M.data.toList = if Ur.isS M.data.toList then RS.data.toList else M.data.toList := by unfold Ur.restOf; rw [hRS]
  generalize decide (Ur.fstN [58] M.data.toList < M.data.toList.length) = q58 at *
  generalize Ur.schL SC.data.toList = sc at *
  rw [hso, hre, hS]
  clear hso hre hS hV hb0 hm hF hFR hM hQU hl hFl hMl hSC hRS zF zFR zQU zSC
  cases q58
  · rw [Bool.false_and, if_neg Bool.false_ne_true, if_neg Bool.false_ne_true]
    obtain ⟨E, hE, zE⟩ := cutB (M.data.toList.drop 2) (by rw [List.length_drop, Array.length_toList]; exact Nat.le_trans (Nat.sub_le _ _) zM)
    have HP := Lib.hid (fun w1 => CutPrefix_any M ⟨#[47, 47]⟩ w1)
    rw [show (⟨#[47, 47]⟩ : ByteArray).data.toList = [47, 47] from rfl] at HP
    change Hid (∀ w1, Calls _ _ _ w1 fun e w' => e = .returned (.tuple #[_, .bool (Ur.hasA M.data.toList)]) ∧ w' = w1) at HP
    obtain ⟨hA, hA2⟩ : ∃ h, Ur.hasA M.data.toList = h := ⟨_, rfl⟩
    unfold Ur.auOf Ur.paOf
    rw [hA2] at HP ⊢
    cases hA
    · rw [if_neg Bool.false_ne_true, if_neg Bool.false_ne_true]
      rw [show (⟨M.data.toList.toArray⟩ : ByteArray) = M from mkB rfl]
      generalize (⟨(Lib.trimPrefix M.data.toList [47, 47]).toArray⟩ : ByteArray) = TP at *
      clear hA2 hE zE
      clear HS
      clear zM zRS hs
      go_enter Try.func17, Try.ntmps17
      go_wp2_with (first | (go_at_call_of 28 s; refine (HC1.out _ ?_).mono ?_; exact (by repeat (first | with_reducible exact Below.refl _ _ | with_reducible assumption | with_reducible refine below_allocT ?_ _ | with_reducible refine Below.drew ?_ | with_reducible refine below_drewT ?_ _ | (with_reducible refine Below.setCell ?_ ?_ _; rotate_left; · first | exact Nat.le_refl _ | omega | (simp <;> omega)) | (with_reducible refine Below.alloc ?_ ?_ _; rotate_left; · first | omega | (simp <;> omega)))); rintro e w1 ⟨rfl, n1, rfl⟩) | (go_at_call_of 28 F; refine (HC2.out _ ?_).mono ?_; exact (by repeat (first | with_reducible exact Below.refl _ _ | with_reducible assumption | with_reducible refine below_allocT ?_ _ | with_reducible refine Below.drew ?_ | with_reducible refine below_drewT ?_ _ | (with_reducible refine Below.setCell ?_ ?_ _; rotate_left; · first | exact Nat.le_refl _ | omega | (simp <;> omega)) | (with_reducible refine Below.alloc ?_ ?_ _; rotate_left; · first | omega | (simp <;> omega)))); rintro e w1 ⟨rfl, n2, rfl⟩) | (go_at_call_of 28 M; refine (HC3.out _ ?_).mono ?_; exact (by repeat (first | with_reducible exact Below.refl _ _ | with_reducible assumption | with_reducible refine below_allocT ?_ _ | with_reducible refine Below.drew ?_ | with_reducible refine below_drewT ?_ _ | (with_reducible refine Below.setCell ?_ ?_ _; rotate_left; · first | exact Nat.le_refl _ | omega | (simp <;> omega)) | (with_reducible refine Below.alloc ?_ ?_ _; rotate_left; · first | omega | (simp <;> omega)))); rintro e w1 ⟨rfl, n3, rfl⟩) | (go_at_call 30; refine (HP.out _).mono ?_; rintro e w1 ⟨rfl, rfl⟩))
      refine bodyPost_ret (v := .agg #[.string ⟨#[]⟩, .string ⟨#[]⟩, .string M, .string QU, .string FR, .bool false, .bool q63, .bool q35]) (by simp [results, Try.results17, go_sem]) rfl ⟨rfl, ?_⟩
      exact (by repeat (first | with_reducible exact Below.refl _ _ | with_reducible assumption | with_reducible refine below_allocT ?_ _ | with_reducible refine Below.drew ?_ | with_reducible refine below_drewT ?_ _ | (with_reducible refine Below.setCell ?_ ?_ _; rotate_left; · first | exact Nat.le_refl _ | omega | (simp <;> omega)) | (with_reducible refine Below.alloc ?_ ?_ _; rotate_left; · first | omega | (simp <;> omega))))
    · have HN := Lib.hid (fun w1 => pathStart_any E w1)
      rw [Ur.trim_pre hA2, mkB hE] at HP
      rw [if_pos rfl, if_pos rfl, ← hE]
      have hn := Ur.fst_le [47] E.data.toList
      rw [Array.length_toList] at hn
      have hn' : Ur.fstN [47] E.data.toList ≤ E.size := hn
      generalize Ur.fstN [47] E.data.toList = n at *
      have hX : (⟨(E.data.toList.take n).toArray⟩ : ByteArray) = E.extract 0 n := mkB (by rw [Hp.ext_start])
      have hY : (⟨(E.data.toList.drop n).toArray⟩ : ByteArray) = E.extract n E.size := mkB (by rw [Hp.ext_end])
      rw [hX, hY]
      have hn1 : (n : Int) ≤ E.size := by omega
      clear hA2 hE zE hn hn' hX hY
      clear HS
      clear zM zRS hs
      go_enter Try.func17, Try.ntmps17
      go_wp2_with (first | (go_at_call_of 28 s; refine (HC1.out _ ?_).mono ?_; exact (by repeat (first | with_reducible exact Below.refl _ _ | with_reducible assumption | with_reducible refine below_allocT ?_ _ | with_reducible refine Below.drew ?_ | with_reducible refine below_drewT ?_ _ | (with_reducible refine Below.setCell ?_ ?_ _; rotate_left; · first | exact Nat.le_refl _ | omega | (simp <;> omega)) | (with_reducible refine Below.alloc ?_ ?_ _; rotate_left; · first | omega | (simp <;> omega)))); rintro e w1 ⟨rfl, n1, rfl⟩) | (go_at_call_of 28 F; refine (HC2.out _ ?_).mono ?_; exact (by repeat (first | with_reducible exact Below.refl _ _ | with_reducible assumption | with_reducible refine below_allocT ?_ _ | with_reducible refine Below.drew ?_ | with_reducible refine below_drewT ?_ _ | (with_reducible refine Below.setCell ?_ ?_ _; rotate_left; · first | exact Nat.le_refl _ | omega | (simp <;> omega)) | (with_reducible refine Below.alloc ?_ ?_ _; rotate_left; · first | omega | (simp <;> omega)))); rintro e w1 ⟨rfl, n2, rfl⟩) | (go_at_call_of 28 M; refine (HC3.out _ ?_).mono ?_; exact (by repeat (first | with_reducible exact Below.refl _ _ | with_reducible assumption | with_reducible refine below_allocT ?_ _ | with_reducible refine Below.drew ?_ | with_reducible refine below_drewT ?_ _ | (with_reducible refine Below.setCell ?_ ?_ _; rotate_left; · first | exact Nat.le_refl _ | omega | (simp <;> omega)) | (with_reducible refine Below.alloc ?_ ?_ _; rotate_left; · first | omega | (simp <;> omega)))); rintro e w1 ⟨rfl, n3, rfl⟩) | (go_at_call 30; refine (HP.out _).mono ?_; rintro e w1 ⟨rfl, rfl⟩) | (go_at_call 31; refine (HN.out _).mono ?_; rintro e w1 ⟨rfl, rfl⟩))
      go_region
      go_wp2_with fail
      refine bodyPost_ret (v := .agg #[.string ⟨#[]⟩, .string (E.extract 0 n), .string (E.extract n E.size), .string QU, .string FR, .bool true, .bool q63, .bool q35]) (by simp [results, Try.results17, go_sem]) rfl ⟨rfl, ?_⟩
      exact (by repeat (first | with_reducible exact Below.refl _ _ | with_reducible assumption | with_reducible refine below_allocT ?_ _ | with_reducible refine Below.drew ?_ | with_reducible refine below_drewT ?_ _ | (with_reducible refine Below.setCell ?_ ?_ _; rotate_left; · first | exact Nat.le_refl _ | omega | (simp <;> omega)) | (with_reducible refine Below.alloc ?_ ?_ _; rotate_left; · first | omega | (simp <;> omega))))
  · cases sc
    · rw [Bool.true_and, if_neg Bool.false_ne_true, if_neg Bool.false_ne_true]
      obtain ⟨E, hE, zE⟩ := cutB (M.data.toList.drop 2) (by rw [List.length_drop, Array.length_toList]; exact Nat.le_trans (Nat.sub_le _ _) zM)
      have HP := Lib.hid (fun w1 => CutPrefix_any M ⟨#[47, 47]⟩ w1)
      rw [show (⟨#[47, 47]⟩ : ByteArray).data.toList = [47, 47] from rfl] at HP
      change Hid (∀ w1, Calls _ _ _ w1 fun e w' => e = .returned (.tuple #[_, .bool (Ur.hasA M.data.toList)]) ∧ w' = w1) at HP
      obtain ⟨hA, hA2⟩ : ∃ h, Ur.hasA M.data.toList = h := ⟨_, rfl⟩
      unfold Ur.auOf Ur.paOf
      rw [hA2] at HP ⊢
      cases hA
      · rw [if_neg Bool.false_ne_true, if_neg Bool.false_ne_true]
        rw [show (⟨M.data.toList.toArray⟩ : ByteArray) = M from mkB rfl]
        generalize (⟨(Lib.trimPrefix M.data.toList [47, 47]).toArray⟩ : ByteArray) = TP at *
        clear hA2 hE zE
        clear zM zRS hs
        go_enter Try.func17, Try.ntmps17
        go_wp2_with (first | (go_at_call_of 28 s; refine (HC1.out _ ?_).mono ?_; exact (by repeat (first | with_reducible exact Below.refl _ _ | with_reducible assumption | with_reducible refine below_allocT ?_ _ | with_reducible refine Below.drew ?_ | with_reducible refine below_drewT ?_ _ | (with_reducible refine Below.setCell ?_ ?_ _; rotate_left; · first | exact Nat.le_refl _ | omega | (simp <;> omega)) | (with_reducible refine Below.alloc ?_ ?_ _; rotate_left; · first | omega | (simp <;> omega)))); rintro e w1 ⟨rfl, n1, rfl⟩) | (go_at_call_of 28 F; refine (HC2.out _ ?_).mono ?_; exact (by repeat (first | with_reducible exact Below.refl _ _ | with_reducible assumption | with_reducible refine below_allocT ?_ _ | with_reducible refine Below.drew ?_ | with_reducible refine below_drewT ?_ _ | (with_reducible refine Below.setCell ?_ ?_ _; rotate_left; · first | exact Nat.le_refl _ | omega | (simp <;> omega)) | (with_reducible refine Below.alloc ?_ ?_ _; rotate_left; · first | omega | (simp <;> omega)))); rintro e w1 ⟨rfl, n2, rfl⟩) | (go_at_call_of 28 M; refine (HC3.out _ ?_).mono ?_; exact (by repeat (first | with_reducible exact Below.refl _ _ | with_reducible assumption | with_reducible refine below_allocT ?_ _ | with_reducible refine Below.drew ?_ | with_reducible refine below_drewT ?_ _ | (with_reducible refine Below.setCell ?_ ?_ _; rotate_left; · first | exact Nat.le_refl _ | omega | (simp <;> omega)) | (with_reducible refine Below.alloc ?_ ?_ _; rotate_left; · first | omega | (simp <;> omega)))); rintro e w1 ⟨rfl, n3, rfl⟩) | (go_at_call 30; refine (HP.out _).mono ?_; rintro e w1 ⟨rfl, rfl⟩) | (go_at_call 29; refine (HS.out _).mono ?_; rintro e w2 ⟨rfl, hb2⟩; obtain ⟨c0, c1, c2, c3, c4, c5, c6, c7, f0, f1, f2, f3, f4, f5, f6, f7, l0⟩ := RefAt.stay (b := w.heap.size + 1) (A := ⟨#[]⟩) (B := ⟨#[]⟩) (C := ⟨#[]⟩) (D := QU) (E := FR) (x := false) (y := q63) (z := q35) (by constructor <;> simp [go_sem]) hb2; obtain ⟨d0, d1, d2, d3, d4, d5, d6, d7, g0, g1, g2, g3, g4, g5, g6, g7, l1⟩ := RefAt.stay (b := w.heap.size) (A := ⟨#[]⟩) (B := ⟨#[]⟩) (C := ⟨#[]⟩) (D := ⟨#[]⟩) (E := ⟨#[]⟩) (x := false) (y := false) (z := false) (by constructor <;> simp [go_sem]) hb2; have hb3 := below_then (w := w) (by repeat (first | with_reducible exact Below.refl _ _ | with_reducible assumption | with_reducible refine below_allocT ?_ _ | with_reducible refine Below.drew ?_ | with_reducible refine below_drewT ?_ _ | (with_reducible refine Below.setCell ?_ ?_ _; rotate_left; · first | exact Nat.le_refl _ | omega | (simp <;> omega)) | (with_reducible refine Below.alloc ?_ ?_ _; rotate_left; · first | omega | (simp <;> omega)))) hb2; have HB2 := Lib.hid hb3; clear hb2 hb3))
        refine bodyPost_ret (v := .agg #[.string ⟨#[]⟩, .string ⟨#[]⟩, .string M, .string QU, .string FR, .bool false, .bool q63, .bool q35]) (by simp [results, Try.results17, go_sem, d0, d1, d2, d3, d4, d5, d6, d7]) rfl ⟨rfl, ?_⟩
        exact (by have hb3 := HB2.out; exact (by repeat (first | with_reducible exact Below.refl _ _ | with_reducible assumption | with_reducible refine below_allocT ?_ _ | with_reducible refine Below.drew ?_ | with_reducible refine below_drewT ?_ _ | (with_reducible refine Below.setCell ?_ ?_ _; rotate_left; · first | exact Nat.le_refl _ | omega | (simp <;> omega)) | (with_reducible refine Below.alloc ?_ ?_ _; rotate_left; · first | omega | (simp <;> omega)))))
      · have HN := Lib.hid (fun w1 => pathStart_any E w1)
        rw [Ur.trim_pre hA2, mkB hE] at HP
        rw [if_pos rfl, if_pos rfl, ← hE]
        have hn := Ur.fst_le [47] E.data.toList
        rw [Array.length_toList] at hn
        have hn' : Ur.fstN [47] E.data.toList ≤ E.size := hn
        generalize Ur.fstN [47] E.data.toList = n at *
        have hX : (⟨(E.data.toList.take n).toArray⟩ : ByteArray) = E.extract 0 n := mkB (by rw [Hp.ext_start])
        have hY : (⟨(E.data.toList.drop n).toArray⟩ : ByteArray) = E.extract n E.size := mkB (by rw [Hp.ext_end])
        rw [hX, hY]
        have hn1 : (n : Int) ≤ E.size := by omega
        clear hA2 hE zE hn hn' hX hY
        clear zM zRS hs
        go_enter Try.func17, Try.ntmps17
        go_wp2_with (first | (go_at_call_of 28 s; refine (HC1.out _ ?_).mono ?_; exact (by repeat (first | with_reducible exact Below.refl _ _ | with_reducible assumption | with_reducible refine below_allocT ?_ _ | with_reducible refine Below.drew ?_ | with_reducible refine below_drewT ?_ _ | (with_reducible refine Below.setCell ?_ ?_ _; rotate_left; · first | exact Nat.le_refl _ | omega | (simp <;> omega)) | (with_reducible refine Below.alloc ?_ ?_ _; rotate_left; · first | omega | (simp <;> omega)))); rintro e w1 ⟨rfl, n1, rfl⟩) | (go_at_call_of 28 F; refine (HC2.out _ ?_).mono ?_; exact (by repeat (first | with_reducible exact Below.refl _ _ | with_reducible assumption | with_reducible refine below_allocT ?_ _ | with_reducible refine Below.drew ?_ | with_reducible refine below_drewT ?_ _ | (with_reducible refine Below.setCell ?_ ?_ _; rotate_left; · first | exact Nat.le_refl _ | omega | (simp <;> omega)) | (with_reducible refine Below.alloc ?_ ?_ _; rotate_left; · first | omega | (simp <;> omega)))); rintro e w1 ⟨rfl, n2, rfl⟩) | (go_at_call_of 28 M; refine (HC3.out _ ?_).mono ?_; exact (by repeat (first | with_reducible exact Below.refl _ _ | with_reducible assumption | with_reducible refine below_allocT ?_ _ | with_reducible refine Below.drew ?_ | with_reducible refine below_drewT ?_ _ | (with_reducible refine Below.setCell ?_ ?_ _; rotate_left; · first | exact Nat.le_refl _ | omega | (simp <;> omega)) | (with_reducible refine Below.alloc ?_ ?_ _; rotate_left; · first | omega | (simp <;> omega)))); rintro e w1 ⟨rfl, n3, rfl⟩) | (go_at_call 30; refine (HP.out _).mono ?_; rintro e w1 ⟨rfl, rfl⟩) | (go_at_call 29; refine (HS.out _).mono ?_; rintro e w2 ⟨rfl, hb2⟩; obtain ⟨c0, c1, c2, c3, c4, c5, c6, c7, f0, f1, f2, f3, f4, f5, f6, f7, l0⟩ := RefAt.stay (b := w.heap.size + 1) (A := ⟨#[]⟩) (B := ⟨#[]⟩) (C := ⟨#[]⟩) (D := QU) (E := FR) (x := false) (y := q63) (z := q35) (by constructor <;> simp [go_sem]) hb2; obtain ⟨d0, d1, d2, d3, d4, d5, d6, d7, g0, g1, g2, g3, g4, g5, g6, g7, l1⟩ := RefAt.stay (b := w.heap.size) (A := ⟨#[]⟩) (B := ⟨#[]⟩) (C := ⟨#[]⟩) (D := ⟨#[]⟩) (E := ⟨#[]⟩) (x := false) (y := false) (z := false) (by constructor <;> simp [go_sem]) hb2; have hb3 := below_then (w := w) (by repeat (first | with_reducible exact Below.refl _ _ | with_reducible assumption | with_reducible refine below_allocT ?_ _ | with_reducible refine Below.drew ?_ | with_reducible refine below_drewT ?_ _ | (with_reducible refine Below.setCell ?_ ?_ _; rotate_left; · first | exact Nat.le_refl _ | omega | (simp <;> omega)) | (with_reducible refine Below.alloc ?_ ?_ _; rotate_left; · first | omega | (simp <;> omega)))) hb2; have HB2 := Lib.hid hb3; clear hb2 hb3) | (go_at_call 31; refine (HN.out _).mono ?_; rintro e w1 ⟨rfl, rfl⟩))
        go_region
        go_wp2_with fail
        refine bodyPost_ret (v := .agg #[.string ⟨#[]⟩, .string (E.extract 0 n), .string (E.extract n E.size), .string QU, .string FR, .bool true, .bool q63, .bool q35]) (by simp [results, Try.results17, go_sem, d0, d1, d2, d3, d4, d5, d6, d7]) rfl ⟨rfl, ?_⟩
        exact (by have hb3 := HB2.out; exact (by repeat (first | with_reducible exact Below.refl _ _ | with_reducible assumption | with_reducible refine below_allocT ?_ _ | with_reducible refine Below.drew ?_ | with_reducible refine below_drewT ?_ _ | (with_reducible refine Below.setCell ?_ ?_ _; rotate_left; · first | exact Nat.le_refl _ | omega | (simp <;> omega)) | (with_reducible refine Below.alloc ?_ ?_ _; rotate_left; · first | omega | (simp <;> omega)))))
    · rw [Bool.true_and, if_pos rfl, if_pos rfl]
      obtain ⟨E, hE, zE⟩ := cutB (RS.data.toList.drop 2) (by rw [List.length_drop, Array.length_toList]; exact Nat.le_trans (Nat.sub_le _ _) zRS)
      have HP := Lib.hid (fun w1 => CutPrefix_any RS ⟨#[47, 47]⟩ w1)
      rw [show (⟨#[47, 47]⟩ : ByteArray).data.toList = [47, 47] from rfl] at HP
      change Hid (∀ w1, Calls _ _ _ w1 fun e w' => e = .returned (.tuple #[_, .bool (Ur.hasA RS.data.toList)]) ∧ w' = w1) at HP
      obtain ⟨hA, hA2⟩ : ∃ h, Ur.hasA RS.data.toList = h := ⟨_, rfl⟩
      unfold Ur.auOf Ur.paOf
      rw [hA2] at HP ⊢
      cases hA
      · rw [if_neg Bool.false_ne_true, if_neg Bool.false_ne_true]
        rw [show (⟨RS.data.toList.toArray⟩ : ByteArray) = RS from mkB rfl]
        generalize (⟨(Lib.trimPrefix RS.data.toList [47, 47]).toArray⟩ : ByteArray) = TP at *
        clear hA2 hE zE
        rw [show (⟨SC.data.toList.toArray⟩ : ByteArray) = SC from mkB rfl]
        clear zM zRS hs
        go_enter Try.func17, Try.ntmps17
        go_wp2_with (first | (go_at_call_of 28 s; refine (HC1.out _ ?_).mono ?_; exact (by repeat (first | with_reducible exact Below.refl _ _ | with_reducible assumption | with_reducible refine below_allocT ?_ _ | with_reducible refine Below.drew ?_ | with_reducible refine below_drewT ?_ _ | (with_reducible refine Below.setCell ?_ ?_ _; rotate_left; · first | exact Nat.le_refl _ | omega | (simp <;> omega)) | (with_reducible refine Below.alloc ?_ ?_ _; rotate_left; · first | omega | (simp <;> omega)))); rintro e w1 ⟨rfl, n1, rfl⟩) | (go_at_call_of 28 F; refine (HC2.out _ ?_).mono ?_; exact (by repeat (first | with_reducible exact Below.refl _ _ | with_reducible assumption | with_reducible refine below_allocT ?_ _ | with_reducible refine Below.drew ?_ | with_reducible refine below_drewT ?_ _ | (with_reducible refine Below.setCell ?_ ?_ _; rotate_left; · first | exact Nat.le_refl _ | omega | (simp <;> omega)) | (with_reducible refine Below.alloc ?_ ?_ _; rotate_left; · first | omega | (simp <;> omega)))); rintro e w1 ⟨rfl, n2, rfl⟩) | (go_at_call_of 28 M; refine (HC3.out _ ?_).mono ?_; exact (by repeat (first | with_reducible exact Below.refl _ _ | with_reducible assumption | with_reducible refine below_allocT ?_ _ | with_reducible refine Below.drew ?_ | with_reducible refine below_drewT ?_ _ | (with_reducible refine Below.setCell ?_ ?_ _; rotate_left; · first | exact Nat.le_refl _ | omega | (simp <;> omega)) | (with_reducible refine Below.alloc ?_ ?_ _; rotate_left; · first | omega | (simp <;> omega)))); rintro e w1 ⟨rfl, n3, rfl⟩) | (go_at_call 30; refine (HP.out _).mono ?_; rintro e w1 ⟨rfl, rfl⟩) | (go_at_call 29; refine (HS.out _).mono ?_; rintro e w2 ⟨rfl, hb2⟩; obtain ⟨c0, c1, c2, c3, c4, c5, c6, c7, f0, f1, f2, f3, f4, f5, f6, f7, l0⟩ := RefAt.stay (b := w.heap.size + 1) (A := ⟨#[]⟩) (B := ⟨#[]⟩) (C := ⟨#[]⟩) (D := QU) (E := FR) (x := false) (y := q63) (z := q35) (by constructor <;> simp [go_sem]) hb2; obtain ⟨d0, d1, d2, d3, d4, d5, d6, d7, g0, g1, g2, g3, g4, g5, g6, g7, l1⟩ := RefAt.stay (b := w.heap.size) (A := ⟨#[]⟩) (B := ⟨#[]⟩) (C := ⟨#[]⟩) (D := ⟨#[]⟩) (E := ⟨#[]⟩) (x := false) (y := false) (z := false) (by constructor <;> simp [go_sem]) hb2; have hb3 := below_then (w := w) (by repeat (first | with_reducible exact Below.refl _ _ | with_reducible assumption | with_reducible refine below_allocT ?_ _ | with_reducible refine Below.drew ?_ | with_reducible refine below_drewT ?_ _ | (with_reducible refine Below.setCell ?_ ?_ _; rotate_left; · first | exact Nat.le_refl _ | omega | (simp <;> omega)) | (with_reducible refine Below.alloc ?_ ?_ _; rotate_left; · first | omega | (simp <;> omega)))) hb2; have HB2 := Lib.hid hb3; clear hb2 hb3))
        refine bodyPost_ret (v := .agg #[.string SC, .string ⟨#[]⟩, .string RS, .string QU, .string FR, .bool false, .bool q63, .bool q35]) (by simp [results, Try.results17, go_sem, d0, d1, d2, d3, d4, d5, d6, d7]) rfl ⟨rfl, ?_⟩
        exact (by have hb3 := HB2.out; exact (by repeat (first | with_reducible exact Below.refl _ _ | with_reducible assumption | with_reducible refine below_allocT ?_ _ | with_reducible refine Below.drew ?_ | with_reducible refine below_drewT ?_ _ | (with_reducible refine Below.setCell ?_ ?_ _; rotate_left; · first | exact Nat.le_refl _ | omega | (simp <;> omega)) | (with_reducible refine Below.alloc ?_ ?_ _; rotate_left; · first | omega | (simp <;> omega)))))
      · have HN := Lib.hid (fun w1 => pathStart_any E w1)
        rw [Ur.trim_pre hA2, mkB hE] at HP
        rw [if_pos rfl, if_pos rfl, ← hE]
        have hn := Ur.fst_le [47] E.data.toList
        rw [Array.length_toList] at hn
        have hn' : Ur.fstN [47] E.data.toList ≤ E.size := hn
        generalize Ur.fstN [47] E.data.toList = n at *
        have hX : (⟨(E.data.toList.take n).toArray⟩ : ByteArray) = E.extract 0 n := mkB (by rw [Hp.ext_start])
        have hY : (⟨(E.data.toList.drop n).toArray⟩ : ByteArray) = E.extract n E.size := mkB (by rw [Hp.ext_end])
        rw [hX, hY]
        have hn1 : (n : Int) ≤ E.size := by omega
        clear hA2 hE zE hn hn' hX hY
        rw [show (⟨SC.data.toList.toArray⟩ : ByteArray) = SC from mkB rfl]
        clear zM zRS hs
        go_enter Try.func17, Try.ntmps17
        go_wp2_with (first | (go_at_call_of 28 s; refine (HC1.out _ ?_).mono ?_; exact (by repeat (first | with_reducible exact Below.refl _ _ | with_reducible assumption | with_reducible refine below_allocT ?_ _ | with_reducible refine Below.drew ?_ | with_reducible refine below_drewT ?_ _ | (with_reducible refine Below.setCell ?_ ?_ _; rotate_left; · first | exact Nat.le_refl _ | omega | (simp <;> omega)) | (with_reducible refine Below.alloc ?_ ?_ _; rotate_left; · first | omega | (simp <;> omega)))); rintro e w1 ⟨rfl, n1, rfl⟩) | (go_at_call_of 28 F; refine (HC2.out _ ?_).mono ?_; exact (by repeat (first | with_reducible exact Below.refl _ _ | with_reducible assumption | with_reducible refine below_allocT ?_ _ | with_reducible refine Below.drew ?_ | with_reducible refine below_drewT ?_ _ | (with_reducible refine Below.setCell ?_ ?_ _; rotate_left; · first | exact Nat.le_refl _ | omega | (simp <;> omega)) | (with_reducible refine Below.alloc ?_ ?_ _; rotate_left; · first | omega | (simp <;> omega)))); rintro e w1 ⟨rfl, n2, rfl⟩) | (go_at_call_of 28 M; refine (HC3.out _ ?_).mono ?_; exact (by repeat (first | with_reducible exact Below.refl _ _ | with_reducible assumption | with_reducible refine below_allocT ?_ _ | with_reducible refine Below.drew ?_ | with_reducible refine below_drewT ?_ _ | (with_reducible refine Below.setCell ?_ ?_ _; rotate_left; · first | exact Nat.le_refl _ | omega | (simp <;> omega)) | (with_reducible refine Below.alloc ?_ ?_ _; rotate_left; · first | omega | (simp <;> omega)))); rintro e w1 ⟨rfl, n3, rfl⟩) | (go_at_call 30; refine (HP.out _).mono ?_; rintro e w1 ⟨rfl, rfl⟩) | (go_at_call 29; refine (HS.out _).mono ?_; rintro e w2 ⟨rfl, hb2⟩; obtain ⟨c0, c1, c2, c3, c4, c5, c6, c7, f0, f1, f2, f3, f4, f5, f6, f7, l0⟩ := RefAt.stay (b := w.heap.size + 1) (A := ⟨#[]⟩) (B := ⟨#[]⟩) (C := ⟨#[]⟩) (D := QU) (E := FR) (x := false) (y := q63) (z := q35) (by constructor <;> simp [go_sem]) hb2; obtain ⟨d0, d1, d2, d3, d4, d5, d6, d7, g0, g1, g2, g3, g4, g5, g6, g7, l1⟩ := RefAt.stay (b := w.heap.size) (A := ⟨#[]⟩) (B := ⟨#[]⟩) (C := ⟨#[]⟩) (D := ⟨#[]⟩) (E := ⟨#[]⟩) (x := false) (y := false) (z := false) (by constructor <;> simp [go_sem]) hb2; have hb3 := below_then (w := w) (by repeat (first | with_reducible exact Below.refl _ _ | with_reducible assumption | with_reducible refine below_allocT ?_ _ | with_reducible refine Below.drew ?_ | with_reducible refine below_drewT ?_ _ | (with_reducible refine Below.setCell ?_ ?_ _; rotate_left; · first | exact Nat.le_refl _ | omega | (simp <;> omega)) | (with_reducible refine Below.alloc ?_ ?_ _; rotate_left; · first | omega | (simp <;> omega)))) hb2; have HB2 := Lib.hid hb3; clear hb2 hb3) | (go_at_call 31; refine (HN.out _).mono ?_; rintro e w1 ⟨rfl, rfl⟩))
        go_region
        go_wp2_with fail
        refine bodyPost_ret (v := .agg #[.string SC, .string (E.extract 0 n), .string (E.extract n E.size), .string QU, .string FR, .bool true, .bool q63, .bool q35]) (by simp [results, Try.results17, go_sem, d0, d1, d2, d3, d4, d5, d6, d7]) rfl ⟨rfl, ?_⟩
        exact (by have hb3 := HB2.out; exact (by repeat (first | with_reducible exact Below.refl _ _ | with_reducible assumption | with_reducible refine below_allocT ?_ _ | with_reducible refine Below.drew ?_ | with_reducible refine below_drewT ?_ _ | (with_reducible refine Below.setCell ?_ ?_ _; rotate_left; · first | exact Nat.le_refl _ | omega | (simp <;> omega)) | (with_reducible refine Below.alloc ?_ ?_ _; rotate_left; · first | omega | (simp <;> omega)))))
end Go.Proofs.Ytnnhlkbjdfgcaaa
