/- Contracts and lemmas that the claim rests on: HoO. -/
import Derived.Test.YtnpbnlphmngbdaaGreatDoorGHoJ
import Derived.Test.YtnpbnlphmngbdaaGreatDoorGQuil
import Derived.Test.YtnpbnlphmngbdaaGreatDoorGOct
import Derived.Test.YtnpbnlphmngbdaaGreatDoorGNum
/- The document's Small, Name, Parts, Four: contracts. -/
namespace Go.Proofs.YtnpbnlphmngbdaaGreatDoor
open Go.RowKit

set_option maxHeartbeats 800000 in
theorem Small_any (s : ByteArray) (most : Int) (hm : most ≤ 65535) (w : World) (hs : s.size ≤ 1000) :
    Calls Tryz.prog 28 #[.string s, .int .i64 most] w fun e w' => e = .returned (.int .i64 (Hp.smallV most s.data.toList)) ∧ ∃ m, w' = w.drewN m := by
  have hlen : s.data.toList.length = s.size := by simp
  by_cases h5 : 5 < s.size
  · have hno : Hp.smallV most s.data.toList = -1 := by
      refine Hp.smallV_no ?_
      cases h : Hp.okD most s.data.toList
      · rfl
      · have := Hp.okD_short hm h; omega
    rw [hno]
    clear hno hlen
    go_enter Tryz.func28, Tryz.ntmps28
    go_wp2_with fail
    go_ret
    exact ⟨rfl, 0, rfl⟩
  · have hr0 := Hp.rd_nonneg most s.data.toList
    have hr1 : (Nu.rd 10 most s.data.toList).1 < 9223372036854775808 := by
      unfold Nu.rd
      split
      · decide
      · split
        · decide
        · rename_i h; show (Nu.val 10 s.data.toList : Int) < _; omega
    have HR := fun w => RRead_any 10 (by omega) (by omega) most (by omega) s w (by omega)
    have HT := fun w => RText_any 10 (by omega) (by omega) (Nu.rd 10 most s.data.toList).1 hr1 w
    rw [show ((10 : Nat) : Int) = 10 from rfl] at HR HT
    have he : Hp.okD most s.data.toList = (((Nu.rd 10 most s.data.toList).2 == 0) && ((Nu.tx 10 (Nu.rd 10 most s.data.toList).1).toList == s.toList)) := by
      unfold Hp.okD
      obtain ⟨k, hk⟩ := Int.eq_ofNat_of_zero_le hr0
      rw [hk, ByteArray.toList_eq, ByteArray.toList_eq, show Nu.tx 10 ((k : Nat) : Int) = Nu.tx 10 (k : Int) from rfl, Hp.tx_list, Bool.eq_iff_iff]
      simp
    unfold Hp.smallV
    rw [he]
    have HRR := Lib.hid HR
    have HTT := Lib.hid HT
    clear HR HT he hr0 hr1 hlen
    generalize Nu.rd 10 most s.data.toList = q at *
    generalize Nu.tx 10 q.1 = t at *
    go_enter Tryz.func28, Tryz.ntmps28
    go_wp2_with fail
    refine (HRR.out _).mono ?_
    rintro e w1 ⟨rfl, m1, rfl⟩
    go_wp2_with (go_at_call 34; refine (HTT.out _).mono ?_; rintro e w2 ⟨rfl, m2, rfl⟩)
    all_goals
      go_ret
      first
        | exact ⟨ret_int (by simp_all), m1 + m2, rfl⟩
        | exact ⟨ret_int (by simp_all), m1, rfl⟩
        | exact ⟨ret_int (by simp_all), _, World.drewN_drewN _ _ _⟩
namespace Hp
theorem drop_at (s : ByteArray) (k : Nat) (h : k < s.size) : s.data.toList.drop k = s[k] :: s.data.toList.drop (k + 1) := by
  rw [List.drop_eq_getElem_cons (by simpa using h)]; rfl
theorem nm_ok {s : ByteArray} {k : Nat} (h : k < s.size) (g : B.unr (s[k].toNat : Int) = true ∨ B.sub (s[k].toNat : Int) = true) : nmL (s.data.toList.drop k) = nmL (s.data.toList.drop (k + 1)) := by
  rw [drop_at s k h, nmL_ok (by unfold okb; rcases g with g | g <;> rw [g] <;> simp)]
theorem nm_bad {s : ByteArray} {k : Nat} (h : k < s.size) (g : B.unr (s[k].toNat : Int) = false ∧ B.sub (s[k].toNat : Int) = false) (g2 : (s[k].toNat : Int) ≠ 37) : nmL (s.data.toList.drop k) = false := by
  rw [drop_at s k h]
  refine nmL_none (by simp) ?_
  rw [nb_cons, if_neg (by unfold okb; rw [g.1, g.2]; simp), if_neg]
  have : ¬ s[k].toNat = 37 := by omega
  simp [this]
theorem pct (c : UInt8) (h : (c.toNat : Int) = 37) : okb c = false := by
  obtain rfl : c = 37 := UInt8.toNat_inj.1 (by show c.toNat = 37; omega)
  decide +kernel
theorem nm_short {s : ByteArray} {k : Nat} (h : k < s.size) (g : (s[k].toNat : Int) = 37) (g2 : s.size ≤ k + 2) : nmL (s.data.toList.drop k) = false := by
  have hl : (s.data.toList.drop (k + 1)).length = s.size - (k + 1) := by simp
  rw [drop_at s k h]
  refine nmL_none (by simp) ?_
  rw [nb_cons, if_neg (by rw [pct _ g]; simp), if_neg]
  have : ¬ 2 ≤ (s.data.toList.drop (k + 1)).length := by omega
  simp only [Bool.and_eq_true, decide_eq_true_eq]
  rintro ⟨⟨⟨-, h2⟩, -⟩, -⟩
  exact this h2
theorem nm_esc {s : ByteArray} {k : Nat} (h : k + 2 < s.size) (g : (s[k].toNat : Int) = 37) : nmL (s.data.toList.drop k) = if B.hex (s[k + 1].toNat : Int) && B.hex (s[k + 2].toNat : Int) then nmL (s.data.toList.drop (k + 3)) else false := by
  have e : s.data.toList.drop k = s[k] :: s[k + 1] :: s[k + 2] :: s.data.toList.drop (k + 3) := by
    rw [drop_at s k (by omega), drop_at s (k + 1) (by omega), drop_at s (k + 2) h]
  rw [e]
  have hn : nb (s[k] :: s[k + 1] :: s[k + 2] :: s.data.toList.drop (k + 3)) = if B.hex (s[k + 1].toNat : Int) && B.hex (s[k + 2].toNat : Int) then 3 else 0 := by
    rw [nb_cons, if_neg (by rw [pct _ g]; simp)]
    have : s[k].toNat = 37 := by omega
    simp [this, hx]
  split
  · rename_i hc
    rw [if_pos hc] at hn
    rw [nmL_some (by rw [hn]; decide), hn]; rfl
  · rename_i hc
    rw [if_neg hc] at hn
    exact nmL_none (by simp) hn
end Hp
set_option maxHeartbeats 1600000 in
theorem RHName_any (s : ByteArray) (w : World) (hs : s.size ≤ 1000) :
    Calls Tryz.prog 44 #[.string s] w fun e w' => e = .returned (.bool (Hp.nameL s.data.toList)) ∧ w = w' := by
  have hz : Hp.nameL s.data.toList = (decide (0 < (s.size : Int)) && Hp.nmL (s.data.toList.drop 0)) := by
    unfold Hp.nameL
    rw [List.drop_zero]
    congr 1
    rw [Bool.eq_iff_iff]
    simp
    have : s.data.size = s.size := rfl
    rw [← Array.size_eq_zero_iff] 
    omega
  rw [hz]
  clear hz
  obtain ⟨N, hN⟩ : ∃ N, Hp.nmL (s.data.toList.drop 0) = N := ⟨_, rfl⟩
  rw [hN]
  go_enter Tryz.func44, Tryz.ntmps44
  go_wp2_with fail
  go_loop [3] (fun i => ∃ k : Nat, k ≤ s.size ∧ i = .int .i64 k ∧ Hp.nmL (s.data.toList.drop k) = N) (fun i => s.size - (intOf i).toNat)
  case atStart => exact ⟨0, Nat.zero_le _, rfl, hN⟩
  case round =>
    clear hN
    obtain ⟨k, hk, rfl, hno⟩ := hrel
    by_cases hlt : k < s.size
    · have hpos : (0 : Int) < (s.size : Int) := by omega
      by_cases h37 : (s[k].toNat : Int) = 37
      · by_cases h2 : k + 2 < s.size
        · have he := Hp.nm_esc h2 h37
          rw [hno] at he
          have HE := Lib.hid he
          have b1 := B.toNat_le s[k + 1]
          have b2 := B.toNat_le s[k + 2]
          clear hno he
          go_wp2_with (go_at_call 46; refine (RHex_any _ _ (by omega) (by omega)).mono ?_; rintro e w' ⟨rfl, rfl⟩)
          all_goals
            first
              | (exfalso; omega)
              | (go_ret; refine ⟨ret_bool ?_, rfl⟩; rw [HE.out]; simp_all; done)
              | (refine ⟨⟨k + 3, by omega, by go_num, ?_⟩, by simp [intOf]; omega⟩; rw [HE.out]; simp_all; done)

        · have HE := Lib.hid (Hp.nm_short hlt h37 (by omega))
          rw [hno] at HE
          have h3 : (s.size : Int) ≤ (k : Int) + 2 := by omega
          clear hno
          go_wp2_with fail
          all_goals
            first
              | (exfalso; omega)
              | (go_ret; refine ⟨ret_bool ?_, rfl⟩; rw [HE.out]; simp; done)

      · have bk := B.toNat_le s[k]
        have HO := Lib.hid (fun g => Hp.nm_ok (s := s) (k := k) hlt g)
        have HB := Lib.hid (fun g => Hp.nm_bad (s := s) (k := k) hlt g h37)
        rw [hno] at HO HB
        clear hno
        go_wp2_with (first | (go_at_call 62; refine (RUnreserved_any _ _ (by omega) (by omega)).mono ?_; rintro e w' ⟨rfl, rfl⟩) | (go_at_call 63; refine (RSub_any _ _ (by omega) (by omega)).mono ?_; rintro e w' ⟨rfl, rfl⟩))
        all_goals
          first
            | exact ⟨⟨k + 1, by omega, by go_num, (HO.out (.inl (by assumption))).symm⟩, by simp [intOf]; omega⟩
            | exact ⟨⟨k + 1, by omega, by go_num, (HO.out (.inr (by simp_all))).symm⟩, by simp [intOf]; omega⟩
            | (go_ret; refine ⟨ret_bool ?_, rfl⟩; rw [HB.out ⟨by assumption, by simp_all⟩]; simp)

    · obtain rfl : k = s.size := by omega
      have HN1 : Hid (N = true) := by
        show N = true
        rw [← hno, List.drop_of_length_le (by simp)]
        exact Hp.nmL_nil
      clear hno
      go_wp2_with fail
      all_goals
        go_ret
        refine ⟨ret_bool ?_, rfl⟩
        rw [HN1.out]
        simp

end Go.Proofs.YtnpbnlphmngbdaaGreatDoor
