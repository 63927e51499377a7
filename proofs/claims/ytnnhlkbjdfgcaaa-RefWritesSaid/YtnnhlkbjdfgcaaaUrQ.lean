/- The document's Parse: contract. -/
import Derived.Test.YtnnhlkbjdfgcaaaUrP
import Derived.Deep.DeepCutAuto
namespace Go.Proofs.Ytnnhlkbjdfgcaaa
open Go.RowKit
namespace Ur
/-- A text cut by one byte, as a walk cuts it. -/
theorem cut_walk (s Y R : ByteArray) (b : UInt8) (hY : Y.data.toList = s.data.toList.take (fstN [b] s.data.toList)) (hR : R.data.toList = s.data.toList.drop (fstN [b] s.data.toList + 1)) :
    (fstN [b] s.data.toList < s.size ∧ s.extract 0 (fstN [b] s.data.toList) = Y ∧ s.extract (fstN [b] s.data.toList + 1) s.size = R) ∨ (fstN [b] s.data.toList = s.size ∧ s = Y ∧ R = ⟨#[]⟩) := by
  have hl : s.data.toList.length = s.size := by simp
  have hn := fst_le [b] s.data.toList
  generalize fstN [b] s.data.toList = n at *
  by_cases h : n < s.size
  · exact .inl ⟨h, bytes_eq (by rw [Hp.ext_start, hY]), bytes_eq (by rw [Hp.ext_end, hR])⟩
  · have e : n = s.size := by omega
    refine .inr ⟨e, bytes_eq ?_, bytes_eq ?_⟩
    · rw [hY, List.take_of_length_le (by omega)]
    · rw [hR, List.drop_of_length_le (by omega)]
/-- The scheme, as a walk finds it. -/
theorem sch_walk (M SC D : ByteArray) (hSC : SC.data.toList = schOf M.data.toList) (hD : D.data.toList = restOf M.data.toList) :
    (fstN [58, 47] M.data.toList = M.size ∧ M = D ∧ SC = ⟨#[]⟩) ∨
    (∃ h : fstN [58, 47] M.data.toList < M.size, ¬ M[fstN [58, 47] M.data.toList] = 58 ∧ M = D ∧ SC = ⟨#[]⟩) ∨
    (∃ h : fstN [58, 47] M.data.toList < M.size, M[fstN [58, 47] M.data.toList] = 58 ∧ schL (M.extract 0 (fstN [58, 47] M.data.toList)).data.toList = false ∧ M = D ∧ SC = ⟨#[]⟩) ∨
    (∃ h : fstN [58, 47] M.data.toList < M.size, M[fstN [58, 47] M.data.toList] = 58 ∧ schL SC.data.toList = true ∧ M.extract 0 (fstN [58, 47] M.data.toList) = SC ∧ M.extract (fstN [58, 47] M.data.toList + 1) M.size = D) := by
  have hl : M.data.toList.length = M.size := by simp
  have hn := fst_le [58, 47] M.data.toList
  have no : isS M.data.toList = false → M = D ∧ SC = ⟨#[]⟩ := by
    intro h
    unfold restOf at hD
    unfold schOf at hSC
    rw [h, if_neg (by decide)] at hD hSC
    exact ⟨bytes_eq hD.symm, bytes_eq hSC⟩
  by_cases h : fstN [58, 47] M.data.toList < M.size
  · by_cases hc : M[fstN [58, 47] M.data.toList] = 58
    · have hg : M.data.toList[fstN [58, 47] M.data.toList]? = some 58 := by rw [get_at M _ h, hc]
      have hs := isS_yes hg
      have hf := colon_here _ hg
      have he : (M.extract 0 (fstN [58, 47] M.data.toList)).data.toList = M.data.toList.take (fstN [58, 47] M.data.toList) := Hp.ext_start _ _
      cases hk : schL (M.data.toList.take (fstN [58, 47] M.data.toList))
      · rw [hk] at hs
        exact .inr (.inr (.inl ⟨h, hc, by rw [he]; exact hk, no hs⟩))
      · rw [hk] at hs
        unfold restOf at hD
        unfold schOf at hSC
        rw [hs, if_pos rfl, hf] at hD hSC
        exact .inr (.inr (.inr ⟨h, hc, by rw [hSC]; exact hk, bytes_eq (by rw [he, hSC]), bytes_eq (by rw [Hp.ext_end, hD])⟩))
    · refine .inr (.inl ⟨h, hc, no (isS_no ?_)⟩)
      rw [get_at M _ h]
      intro k
      exact hc (Option.some.inj k)
  · have e : fstN [58, 47] M.data.toList = M.size := by omega
    refine .inl ⟨e, no (isS_no ?_)⟩
    rw [get_no M _ h]
    intro k
    cases k
/-- The authority, as a walk finds it. -/
theorem auth_walk (D AU PA : ByteArray) (hAU : AU.data.toList = auOf D.data.toList) (hPA : PA.data.toList = paOf D.data.toList) :
    (¬ 1 < D.size ∧ hasA D.data.toList = false ∧ D = PA ∧ AU = ⟨#[]⟩) ∨
    (1 < D.size ∧ ((D.extract 0 2).toList == [47, 47]) = false ∧ hasA D.data.toList = false ∧ D = PA ∧ AU = ⟨#[]⟩) ∨
    (1 < D.size ∧ ((D.extract 0 2).toList == [47, 47]) = true ∧ hasA D.data.toList = true ∧ fstN [47] (D.extract 2 D.size).data.toList + 2 ≤ D.size ∧ D.extract 2 (2 + fstN [47] (D.extract 2 D.size).data.toList) = AU ∧ D.extract (2 + fstN [47] (D.extract 2 D.size).data.toList) D.size = PA) := by
  have hl : D.data.toList.length = D.size := by simp
  have no : hasA D.data.toList = false → D = PA ∧ AU = ⟨#[]⟩ := by
    intro h
    unfold paOf at hPA
    unfold auOf at hAU
    rw [h, if_neg (by decide)] at hPA hAU
    exact ⟨bytes_eq hPA.symm, bytes_eq hAU⟩
  by_cases h : 1 < D.size
  · have hs := hasA_long h
    cases hk : ((D.extract 0 2).toList == [47, 47])
    · rw [hk] at hs
      exact .inr (.inl ⟨h, rfl, hs, no hs⟩)
    · rw [hk] at hs
      unfold paOf at hPA
      unfold auOf at hAU
      rw [hs, if_pos rfl] at hPA hAU
      have he : (D.extract 2 D.size).data.toList = D.data.toList.drop 2 := Hp.ext_end _ _
      have hn := fst_le [47] (D.data.toList.drop 2)
      rw [List.length_drop, hl] at hn
      rw [he]
      refine .inr (.inr ⟨h, rfl, hs, by omega, bytes_eq ?_, bytes_eq ?_⟩)
      · rw [hAU, Hp.ext_list, Nat.add_sub_cancel_left]
      · rw [hPA, Hp.ext_end, List.drop_drop]
  · exact .inl ⟨h, hasA_short h, no (hasA_short h)⟩
theorem sch_test (M SC D : ByteArray) (hSC : SC.data.toList = schOf M.data.toList) (hD : D.data.toList = restOf M.data.toList) : ∃ b : Bool,
    ((fstN [58, 47] M.data.toList = M.size ∧ b = false) ∨ (∃ h : fstN [58, 47] M.data.toList < M.size, ¬ M[fstN [58, 47] M.data.toList] = 58 ∧ b = false) ∨ (∃ h : fstN [58, 47] M.data.toList < M.size, M[fstN [58, 47] M.data.toList] = 58 ∧ schL (M.extract 0 (fstN [58, 47] M.data.toList)).data.toList = b)) ∧
    ((b = false ∧ M = D ∧ SC = ⟨#[]⟩) ∨ (b = true ∧ fstN [58, 47] M.data.toList < M.size ∧ M.extract 0 (fstN [58, 47] M.data.toList) = SC ∧ M.extract (fstN [58, 47] M.data.toList + 1) M.size = D)) := by
  rcases sch_walk M SC D hSC hD with ⟨h1, h2, h3⟩ | ⟨h1, h2, h3⟩ | ⟨h1, h2, h3, h4⟩ | ⟨h1, h2, h3, h4, h5⟩
  · exact ⟨false, .inl ⟨h1, rfl⟩, .inl ⟨rfl, h2, h3⟩⟩
  · exact ⟨false, .inr (.inl ⟨h1, h2, rfl⟩), .inl ⟨rfl, h3⟩⟩
  · exact ⟨false, .inr (.inr ⟨h1, h2, h3⟩), .inl ⟨rfl, h4⟩⟩
  · exact ⟨true, .inr (.inr ⟨h1, h2, by rw [h4]; exact h3⟩), .inr ⟨rfl, h1, h4, h5⟩⟩
end Ur
set_option maxRecDepth 10000 in
set_option maxHeartbeats 1600000 in
theorem RParse_any (s : ByteArray) (w : World) (hs : s.size ≤ 1000) :
    Calls Try.prog 9 #[.string s] w fun e w' => e = .returned (pV (Ur.parseL s.data.toList)) ∧ Below w.heap.size w w' := by
  have hl : s.data.toList.length = s.size := by simp
  have HF := Lib.hid (fun (t m : ByteArray) (ht : t.size ≤ 1000) (hm : m.size ≤ 1000) w1 => RFirst_any t m w1 (by omega) hm)
  obtain ⟨F, hF, zF⟩ := cutB (Ur.noF s.data.toList) (by unfold Ur.noF; rw [List.length_take]; omega)
  have hFl : F.data.toList.length = F.size := by simp
  obtain ⟨FR, hFR, zFR⟩ := cutB (s.data.toList.drop (Ur.fstN [35] s.data.toList + 1)) (by rw [List.length_drop]; omega)
  obtain ⟨M, hM, zM⟩ := cutB (Ur.noQ F.data.toList) (by unfold Ur.noQ; rw [List.length_take]; omega)
  have hMl : M.data.toList.length = M.size := by simp
  obtain ⟨QU, hQU, zQU⟩ := cutB (F.data.toList.drop (Ur.fstN [63] F.data.toList + 1)) (by rw [List.length_drop]; omega)
  obtain ⟨SC, hSC, zSC⟩ := cutB (Ur.schOf M.data.toList) (by have := Ur.sch_le M.data.toList; omega)
  obtain ⟨D, hD, zD⟩ := cutB (Ur.restOf M.data.toList) (by have := Ur.rest_le M.data.toList; omega)
  have hDl : D.data.toList.length = D.size := by simp
  obtain ⟨AU, hAU, zAU⟩ := cutB (Ur.auOf D.data.toList) (by have := Ur.au_le D.data.toList; omega)
  obtain ⟨PA, hPA, zPA⟩ := cutB (Ur.paOf D.data.toList) (by have := Ur.pa_le D.data.toList; omega)
  have hP : Ur.parts s.data.toList = ⟨SC.data.toList, AU.data.toList, PA.data.toList, QU.data.toList, FR.data.toList, Ur.hasA D.data.toList, decide (Ur.fstN [63] F.data.toList < F.size), decide (Ur.fstN [35] s.data.toList < s.size)⟩ := by
    unfold Ur.parts
    rw [hSC, hAU, hPA, hQU, hFR, hD, hM, ← hFl, hF, hl]
  have K1 := Ur.cut_walk s F FR 35 hF hFR
  have K2 := Ur.cut_walk F M QU 63 hM hQU
  obtain ⟨hA, hhA⟩ : ∃ h, Ur.hasA D.data.toList = h := ⟨_, rfl⟩
  obtain ⟨q63, h63⟩ : ∃ h, decide (Ur.fstN [63] F.data.toList < F.size) = h := ⟨_, rfl⟩
  obtain ⟨q35, h35⟩ : ∃ h, decide (Ur.fstN [35] s.data.toList < s.size) = h := ⟨_, rfl⟩
  rw [hhA, h63, h35] at hP
  have HVV : Hid (Value.tuple #[.agg #[.string SC, .string AU, .string PA, .string QU, .string FR, .bool hA, .bool q63, .bool q35], .int .i64 0] = pV (some ⟨SC.data.toList, AU.data.toList, PA.data.toList, QU.data.toList, FR.data.toList, hA, q63, q35⟩)) := by
    show _ = Value.tuple #[.agg #[.string ⟨SC.data.toList.toArray⟩, .string ⟨AU.data.toList.toArray⟩, .string ⟨PA.data.toList.toArray⟩, .string ⟨QU.data.toList.toArray⟩, .string ⟨FR.data.toList.toArray⟩, .bool hA, .bool q63, .bool q35], .int .i64 0]
    rw [mkB (S := SC) rfl, mkB (S := AU) rfl, mkB (S := PA) rfl, mkB (S := QU) rfl, mkB (S := FR) rfl]
  have HR := Lib.hid (fun w1 => RRight_any SC AU PA QU FR hA q63 q35 w1 zAU zPA zQU zFR)
  rw [← hP, Ur.right_parts] at HR
  have hV : Ur.parseL s.data.toList = if Ur.okR (Ur.parts s.data.toList) && Ur.colR (Ur.parts s.data.toList) then some ⟨SC.data.toList, AU.data.toList, PA.data.toList, QU.data.toList, FR.data.toList, hA, q63, q35⟩ else none := by unfold Ur.parseL; rw [← hP]
  rw [hV]
  generalize (Ur.okR (Ur.parts s.data.toList) && Ur.colR (Ur.parts s.data.toList)) = ok at *
  obtain ⟨bS, K3, K3'⟩ := Ur.sch_test M SC D hSC hD
  have HK3' := Lib.hid K3'
  have K4 := Ur.auth_walk D AU PA hAU hPA
  rw [hhA] at K4
  have HS := Lib.hid (fun (t : ByteArray) (ht : t.size ≤ 1000) w1 => RScheme_any t w1 (by omega))
  have HK1 := Lib.hid K1
  have HK2 := Lib.hid K2
  have HK3 := Lib.hid K3
  have HK4 := Lib.hid K4
  have H35 := Lib.hid h35
  have H63 := Lib.hid h63
  clear K1 K2 K3 K3' K4 hSC hD hAU hPA hP hhA hV hF hFR hM hQU h35 h63 hFl hMl hDl hl
  go_enter Try.func9, Try.ntmps9
  go_upto_if 15 with (go_at_call 20; refine (HF.out s _ hs (by decide) _).mono ?_; rintro e w1 ⟨rfl, hw1⟩; rw [hw1]; clear hw1)
  have KK := HK1.out
  have hq := H35.out
  generalize Ur.fstN [35] s.data.toList = n at *
  go_cut [0] (fun s0 wx => s0 = .string F ∧ wx = ((w.alloc (.cells #[.string ⟨#[]⟩, .string ⟨#[]⟩, .string ⟨#[]⟩, .string ⟨#[]⟩, .string ⟨#[]⟩, .bool false, .bool false, .bool false] 25)).alloc (.cells #[.string ⟨#[]⟩, .string ⟨#[]⟩, .string ⟨#[]⟩, .string ⟨#[]⟩, .string FR, .bool false, .bool false, .bool q35] 25)))
  case first =>
    rcases KK with ⟨h1, h2, h3⟩ | ⟨h1, h2, h3⟩
    · have h4 : (n : Int) < s.size := by omega
      have h5 : (n : Int) + 1 ≤ s.size := by omega
      have hq2 : q35 = true := by rw [← hq]; exact decide_eq_true h1
      clear hq
      go_wp2_with fail
      go_meet
      rw [hq2]
      exact ⟨rfl, rfl⟩
    · subst h3
      subst h2
      have h4 : ¬ (n : Int) < s.size := by omega
      have hq2 : q35 = false := by rw [← hq]; exact decide_eq_false (by omega)
      clear hq h1
      go_wp2_with fail
      go_meet
      rw [hq2]
      exact ⟨rfl, rfl⟩
  obtain ⟨hs0, hwc⟩ := hcut
  subst hs0
  rw [hwc]
  clear hwc wc KK hq
  go_upto_if 30 with (go_at_call 20; refine (HF.out F _ zF (by decide) _).mono ?_; rintro e w1 ⟨rfl, hw1⟩; rw [hw1]; clear hw1)
  have KK := HK2.out
  have hq := H63.out
  generalize Ur.fstN [63] F.data.toList = n at *
  go_cut [0] (fun s0 wx => s0 = .string M ∧ wx = ((w.alloc (.cells #[.string ⟨#[]⟩, .string ⟨#[]⟩, .string ⟨#[]⟩, .string ⟨#[]⟩, .string ⟨#[]⟩, .bool false, .bool false, .bool false] 25)).alloc (.cells #[.string ⟨#[]⟩, .string ⟨#[]⟩, .string ⟨#[]⟩, .string QU, .string FR, .bool false, .bool q63, .bool q35] 25)))
  case first =>
    rcases KK with ⟨h1, h2, h3⟩ | ⟨h1, h2, h3⟩
    · have h4 : (n : Int) < F.size := by omega
      have h5 : (n : Int) + 1 ≤ F.size := by omega
      have hq2 : q63 = true := by rw [← hq]; exact decide_eq_true h1
      clear hq
      go_wp2_with fail
      go_meet
      rw [hq2]
      exact ⟨rfl, rfl⟩
    · subst h3
      subst h2
      have h4 : ¬ (n : Int) < F.size := by omega
      have hq2 : q63 = false := by rw [← hq]; exact decide_eq_false (by omega)
      clear hq h1
      go_wp2_with fail
      go_meet
      rw [hq2]
      exact ⟨rfl, rfl⟩
  obtain ⟨hs0, hwc⟩ := hcut
  subst hs0
  rw [hwc]
  clear hwc wc KK hq
  go_upto_region 13 with (go_at_call 20; refine (HF.out M _ zM (by decide) _).mono ?_; rintro e w1 ⟨rfl, hw1⟩; rw [hw1]; clear hw1)
  have KK := HK3.out
  have KL := HK3'.out
  have hcle := Ur.fst_le [58, 47] M.data.toList
  rw [Array.length_toList] at hcle
  have hcle' : Ur.fstN [58, 47] M.data.toList ≤ M.size := hcle
  clear hcle
  generalize Ur.fstN [58, 47] M.data.toList = c at *
  go_cut [57] (fun s57 wx => s57 = .bool bS ∧ wx = ((w.alloc (.cells #[.string ⟨#[]⟩, .string ⟨#[]⟩, .string ⟨#[]⟩, .string ⟨#[]⟩, .string ⟨#[]⟩, .bool false, .bool false, .bool false] 25)).alloc (.cells #[.string ⟨#[]⟩, .string ⟨#[]⟩, .string ⟨#[]⟩, .string QU, .string FR, .bool false, .bool q63, .bool q35] 25)))
  case first =>
    rcases KK with ⟨h1, h2⟩ | ⟨h1, h2, h3⟩ | ⟨h1, h2, h3⟩
    · have h4 : ¬ (c : Int) < M.size := by omega
      clear h1 KL
      go_wp2_with fail
      go_meet
      exact ⟨by rw [h2], rfl⟩
    · have h4 : (c : Int) < M.size := by omega
      have h5 : ((M[c].toNat : Int) == 58) = false := by
        rw [beq_eq_false_iff_ne]
        intro k
        exact h2 (UInt8.toNat_inj.1 (by show M[c].toNat = 58; omega))
      clear KL
      go_wp2_with fail
      go_meet
      exact ⟨by rw [h3], rfl⟩
    · have h4 : (c : Int) < M.size := by omega
      have h5 : (M[c].toNat : Int) = 58 := by rw [h2]; rfl
      have HX := Lib.hid (fun w1 => HS.out (M.extract 0 c) (by simp [ByteArray.size_extract]; omega) w1)
      rw [h3] at HX
      obtain ⟨T, hT⟩ : ∃ T, M.extract 0 c = T := ⟨_, rfl⟩
      rw [hT] at HX
      clear KL h2 h3
      go_wp2_with (go_at_call 21; refine (HX.out _).mono ?_; rintro e w1 ⟨rfl, hw1⟩; rw [hw1]; clear hw1)
      go_meet
      exact ⟨rfl, rfl⟩
  obtain ⟨hs0, hwc⟩ := hcut
  subst hs0
  rw [hwc]
  clear hwc wc KK
  go_upto_if 57 with fail
  go_cut [0] (fun s0 wx => s0 = .string D ∧ wx = ((w.alloc (.cells #[.string ⟨#[]⟩, .string ⟨#[]⟩, .string ⟨#[]⟩, .string ⟨#[]⟩, .string ⟨#[]⟩, .bool false, .bool false, .bool false] 25)).alloc (.cells #[.string SC, .string ⟨#[]⟩, .string ⟨#[]⟩, .string QU, .string FR, .bool false, .bool q63, .bool q35] 25)))
  case first =>
    rcases KL with ⟨h1, h2, h3⟩ | ⟨h1, h2, h3, h4⟩
    · subst h1
      subst h2
      subst h3
      go_wp2_with fail
      go_meet
      exact ⟨rfl, rfl⟩
    · subst h1
      have h5 : (c : Int) ≤ M.size := by omega
      have h6 : (c : Int) + 1 ≤ M.size := by omega
      go_wp2_with fail
      go_meet
      exact ⟨rfl, rfl⟩
  obtain ⟨hs0, hwc⟩ := hcut
  subst hs0
  rw [hwc]
  clear hwc wc KL hcle'
  have KK := HK4.out
  go_upto_region 16 with fail
  go_cut [73] (fun s73 wx => s73 = .bool hA ∧ wx = ((w.alloc (.cells #[.string ⟨#[]⟩, .string ⟨#[]⟩, .string ⟨#[]⟩, .string ⟨#[]⟩, .string ⟨#[]⟩, .bool false, .bool false, .bool false] 25)).alloc (.cells #[.string SC, .string ⟨#[]⟩, .string ⟨#[]⟩, .string QU, .string FR, .bool false, .bool q63, .bool q35] 25)))
  case first =>
    rcases KK with ⟨h1, h2, h3⟩ | ⟨h1, h2, h3, h4⟩ | ⟨h1, h2, h3, h4⟩
    · have h5 : ¬ (1 : Int) < D.size := by omega
      subst h2
      clear h3
      go_wp2_with fail
      go_meet
      exact ⟨rfl, rfl⟩
    · have h5 : (1 : Int) < D.size := by omega
      have h6 : (2 : Int) ≤ D.size := by omega
      subst h3
      obtain ⟨T, hT⟩ : ∃ T, D.extract 0 2 = T := ⟨_, rfl⟩
      rw [hT] at h2
      clear h4
      go_wp2_with fail
      go_meet
      exact ⟨rfl, rfl⟩
    · have h5 : (1 : Int) < D.size := by omega
      have h6 : (2 : Int) ≤ D.size := by omega
      subst h3
      obtain ⟨T, hT⟩ : ∃ T, D.extract 0 2 = T := ⟨_, rfl⟩
      rw [hT] at h2
      clear h4
      go_wp2_with fail
      go_meet
      exact ⟨rfl, rfl⟩
  obtain ⟨hs0, hwc⟩ := hcut
  subst hs0
  rw [hwc]
  clear hwc wc
  go_upto_if 73 with fail
  go_cut [0] (fun s0 wx => s0 = .string PA ∧ wx = ((w.alloc (.cells #[.string ⟨#[]⟩, .string ⟨#[]⟩, .string ⟨#[]⟩, .string ⟨#[]⟩, .string ⟨#[]⟩, .bool false, .bool false, .bool false] 25)).alloc (.cells #[.string SC, .string AU, .string ⟨#[]⟩, .string QU, .string FR, .bool hA, .bool q63, .bool q35] 25)))
  case first =>
    rcases KK with ⟨h1, h2, h3, h4⟩ | ⟨h1, h2, h3, h4, h5⟩ | ⟨h1, h2, h3, h4, h5, h6⟩
    · subst h2
      subst h3
      subst h4
      go_wp2_with fail
      go_meet
      exact ⟨rfl, rfl⟩
    · subst h3
      subst h4
      subst h5
      clear h2
      go_wp2_with fail
      go_meet
      exact ⟨rfl, rfl⟩
    · subst h3
      have HX := Lib.hid (fun w1 => HF.out (D.extract 2 D.size) ⟨#[47]⟩ (by simp [ByteArray.size_extract]; omega) (by decide) w1)
      rw [show (⟨#[47]⟩ : ByteArray).data.toList = [47] from rfl] at HX
      generalize Ur.fstN [47] (D.extract 2 D.size).data.toList = n at *
      obtain ⟨T, hT⟩ : ∃ T, D.extract 2 D.size = T := ⟨_, rfl⟩
      rw [hT] at HX
      have h7 : (2 : Int) ≤ D.size := by omega
      have h8 : 2 + (n : Int) ≤ D.size := by omega
      clear h2
      go_wp2_with (go_at_call 20; refine (HX.out _).mono ?_; rintro e w1 ⟨rfl, hw1⟩; rw [hw1]; clear hw1)
      go_meet
      exact ⟨by rw [h6], rfl⟩
  obtain ⟨hs0, hwc⟩ := hcut
  subst hs0
  rw [hwc]
  clear hwc wc KK
  unfold rF at HR
  cases ok
  · have hdummy : True := trivial
    go_wp2_with (go_at_call 22; refine (HR.out _).mono ?_; rintro e w2 ⟨rfl, hb2⟩; have HB2 := Lib.hid (below_then (w := w) (by repeat (first | with_reducible exact Below.refl _ _ | with_reducible assumption | with_reducible refine below_allocT ?_ _ | with_reducible refine Below.drew ?_ | with_reducible refine below_drewT ?_ _ | (with_reducible refine Below.setCell ?_ ?_ _; rotate_left; · first | exact Nat.le_refl _ | omega | (simp <;> omega)) | (with_reducible refine Below.alloc ?_ ?_ _; rotate_left; · first | omega | (simp <;> omega)))) hb2); obtain ⟨c0, c1, c2, c3, c4, c5, c6, c7, f0, f1, f2, f3, f4, f5, f6, f7, l0⟩ := RefAt.stay (b := w.heap.size + 1) (A := SC) (B := AU) (C := PA) (D := QU) (E := FR) (x := hA) (y := q63) (z := q35) (by constructor <;> simp [go_sem]) hb2; obtain ⟨d0, d1, d2, d3, d4, d5, d6, d7, g0, g1, g2, g3, g4, g5, g6, g7, l1⟩ := RefAt.stay (b := w.heap.size) (A := ⟨#[]⟩) (B := ⟨#[]⟩) (C := ⟨#[]⟩) (D := ⟨#[]⟩) (E := ⟨#[]⟩) (x := false) (y := false) (z := false) (by constructor <;> simp [go_sem]) hb2; clear hb2)
    refine bodyPost_ret (v := .tuple #[.agg #[.string ⟨#[]⟩, .string ⟨#[]⟩, .string ⟨#[]⟩, .string ⟨#[]⟩, .string ⟨#[]⟩, .bool false, .bool false, .bool false], .int .i64 2]) (by simp [results, Try.results9, go_sem, d0, d1, d2, d3, d4, d5, d6, d7]) rfl ⟨rfl, ?_⟩
    have h := HB2.out
    have hz := h.size
    exact (by repeat (first | with_reducible exact Below.refl _ _ | with_reducible assumption | with_reducible refine below_allocT ?_ _ | with_reducible refine Below.drew ?_ | with_reducible refine below_drewT ?_ _ | (with_reducible refine Below.setCell ?_ ?_ _; rotate_left; · first | exact Nat.le_refl _ | omega | (simp <;> omega)) | (with_reducible refine Below.alloc ?_ ?_ _; rotate_left; · first | omega | (simp <;> omega))))
  · have hdummy : True := trivial
    go_wp2_with (go_at_call 22; refine (HR.out _).mono ?_; rintro e w2 ⟨rfl, hb2⟩; have HB2 := Lib.hid (below_then (w := w) (by repeat (first | with_reducible exact Below.refl _ _ | with_reducible assumption | with_reducible refine below_allocT ?_ _ | with_reducible refine Below.drew ?_ | with_reducible refine below_drewT ?_ _ | (with_reducible refine Below.setCell ?_ ?_ _; rotate_left; · first | exact Nat.le_refl _ | omega | (simp <;> omega)) | (with_reducible refine Below.alloc ?_ ?_ _; rotate_left; · first | omega | (simp <;> omega)))) hb2); obtain ⟨c0, c1, c2, c3, c4, c5, c6, c7, f0, f1, f2, f3, f4, f5, f6, f7, l0⟩ := RefAt.stay (b := w.heap.size + 1) (A := SC) (B := AU) (C := PA) (D := QU) (E := FR) (x := hA) (y := q63) (z := q35) (by constructor <;> simp [go_sem]) hb2; obtain ⟨d0, d1, d2, d3, d4, d5, d6, d7, g0, g1, g2, g3, g4, g5, g6, g7, l1⟩ := RefAt.stay (b := w.heap.size) (A := ⟨#[]⟩) (B := ⟨#[]⟩) (C := ⟨#[]⟩) (D := ⟨#[]⟩) (E := ⟨#[]⟩) (x := false) (y := false) (z := false) (by constructor <;> simp [go_sem]) hb2; clear hb2)
    refine bodyPost_ret (v := .tuple #[.agg #[.string SC, .string AU, .string PA, .string QU, .string FR, .bool hA, .bool q63, .bool q35], .int .i64 0]) (by simp [results, Try.results9, go_sem, d0, d1, d2, d3, d4, d5, d6, d7]) rfl ⟨congrArg Ending.returned HVV.out, ?_⟩
    have h := HB2.out
    have hz := h.size
    exact (by repeat (first | with_reducible exact Below.refl _ _ | with_reducible assumption | with_reducible refine below_allocT ?_ _ | with_reducible refine Below.drew ?_ | with_reducible refine below_drewT ?_ _ | (with_reducible refine Below.setCell ?_ ?_ _; rotate_left; · first | exact Nat.le_refl _ | omega | (simp <;> omega)) | (with_reducible refine Below.alloc ?_ ?_ _; rotate_left; · first | omega | (simp <;> omega))))
end Go.Proofs.Ytnnhlkbjdfgcaaa
