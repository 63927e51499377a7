/- Contracts and lemmas that the claim rests on: HoJ. -/
import Derived.Test.YtnpbnlphmngbdaaGreatDoorGHoH
/- Six: its contract. -/
namespace Go.Proofs.YtnpbnlphmngbdaaGreatDoor
open Go.RowKit

/-- What the library's variables hold. -/
structure Tx (w : World) : Prop where
  tabs : Tabs w
  max : MaxL w
theorem Tx.stay {w w' : World} (h : Tx w) (hb : Below w.heap.size w w') : Tx w' := ⟨h.tabs.stay hb, h.max.stay hb⟩
namespace Hp
theorem grs_le (l : List UInt8) : ∀ n, grs l = some n → n ≤ l.length + 1 := by
  intro n h
  unfold grs at h
  split at h
  · injection h with h
    subst h
    unfold As
    split
    · exact Nat.zero_le _
    · exact parts_length 58 l
  · cases h
theorem sixT_none {t : List UInt8} (hd : dc2 t = none) : sixT t = ((grs t).isSome && (((grs t).getD 0 : Nat) : Int) == 8) := by
  unfold sixT
  rw [hd]
  cases grs t with
  | none => rfl
  | some n =>
    rw [Bool.eq_iff_iff]
    simp
    omega
theorem sixT_some {t a b : List UInt8} (hd : dc2 t = some (a, b)) : sixT t = ((grs a).isSome && (grs b).isSome && decide ((((grs a).getD 0 : Nat) : Int) + (((grs b).getD 0 : Nat) : Int) < 8)) := by
  unfold sixT
  rw [hd]
  simp only
  cases grs a with
  | none => rfl
  | some m =>
    cases grs b with
    | none => rfl
    | some n =>
      simp only [Option.isSome_some, Option.getD_some, Bool.true_and]
      rw [decide_eq_decide]
      omega
theorem lastC_le (l : List UInt8) : lastC l ≤ l.length := by
  obtain ⟨p, q, rfl, hk, -, -⟩ := lastC_split l
  rw [hk]; simp
end Hp
set_option maxHeartbeats 2000000 in
theorem Six_any (s : ByteArray) (w : World) (hs : s.size ≤ 900) (ht : Tx w) :
    Calls Tryz.prog 73 #[.string s] w fun e w' => e = .returned (.bool (Hp.sixC s.data.toList)) ∧ Below w.heap.size w w' := by
  have hli := Hp.last_index s
  have hkl := Hp.lastC_le s.data.toList
  have hlen : s.data.toList.length = s.size := by simp
  rw [hlen] at hkl
  have hfe : Hp.sixC s.data.toList = Hp.sixT (if Hp.fourL (s.data.toList.drop (Hp.lastC s.data.toList)) then s.data.toList.take (Hp.lastC s.data.toList) ++ [48, 58, 48] else s.data.toList) := rfl
  rw [hfe]
  clear hfe
  obtain ⟨k, hk⟩ : ∃ k, Hp.lastC s.data.toList = k := ⟨_, rfl⟩
  rw [hk] at hli hkl ⊢
  clear hk hlen
  have e1 : Lib.lastIndexByte s 58 = (k : Int) - 1 := by omega
  have HL := Lib.hid (fun w => LastIndex_any s w (by omega))
  rw [e1] at HL
  clear e1 hli
  have hes : (s.extract k s.size).size ≤ 1000 := by simp [ByteArray.size_extract]; omega
  have HF := Lib.hid (Four_any (s.extract k s.size) w hes ht.tabs)
  rw [Hp.ext_end] at HF
  clear hes
  cases hf : Hp.fourL (s.data.toList.drop k)
  · rw [hf] at HF
    rw [if_neg (by simp)]
    obtain ⟨t, ht0⟩ : ∃ t, t = s := ⟨_, rfl⟩
    have hTa : (⟨t.data.toList.toArray⟩ : ByteArray) = t := (Hp.ofL _ _ rfl).symm
    subst ht0
    clear hf
    obtain ⟨o, hd⟩ : ∃ o, Hp.dc2 t.data.toList = o := ⟨_, rfl⟩
    cases o with
    | none =>
      have HC := Lib.hid (fun w1 (h : Below w.heap.size w w1) => Cut_any t w1 (by omega) (ht.max.stay h))
      rw [Hp.cut_dc2, hd] at HC
      simp only [hTa] at HC
      have HG := Lib.hid (fun w1 => groups_any t w1 (by omega))
      rw [Hp.sixT_none hd]
      generalize Hp.grs t.data.toList = g at *
      go_enter Tryz.func73, Tryz.ntmps73
      go_wp2_with fail
      refine (HL.out _).mono ?_
      rintro e w1 ⟨rfl, rfl⟩
      go_wp2_with fail
      refine HF.out.mono ?_
      rintro e w2 ⟨rfl, hb2⟩
      have HB2 := Lib.hid hb2
      clear hb2
      go_wp2_with fail
      refine (HC.out _ HB2.out).mono ?_
      rintro e w3 ⟨rfl, n3, rfl⟩
      go_wp2_with fail
      refine (HG.out _).mono ?_
      rintro e w4 ⟨rfl, hb4⟩
      have HB4 := Lib.hid (HB2.out.trans ((below_drewN _ w2 n3).trans (hb4.mono HB2.out.size)))
      clear hb4
      cases g with
      | none =>
        go_wp2_with fail
        go_ret
        exact ⟨rfl, HB4.out⟩
      | some n =>
        go_wp2_with fail
        go_ret
        exact ⟨rfl, HB4.out⟩
    | some x =>
      obtain ⟨a, b⟩ := x
      have hab : a.length + b.length ≤ t.size := by
        have := congrArg List.length (Hp.dc2_some hd)
        rw [Array.length_toList] at this
        simp only [List.length_append, List.length_cons] at this
        have h2 : t.data.size = t.size := rfl
        omega
      have HC := Lib.hid (fun w1 (h : Below w.heap.size w w1) => Cut_any t w1 (by omega) (ht.max.stay h))
      rw [Hp.cut_dc2, hd] at HC
      simp only at HC
      have HG := Lib.hid (fun w1 => groups_any ⟨a.toArray⟩ w1 (by show a.toArray.size ≤ 1000; simp; omega))
      have HH := Lib.hid (fun w1 => groups_any ⟨b.toArray⟩ w1 (by show b.toArray.size ≤ 1000; simp; omega))
      rw [Hp.ofL_list] at HG HH
      rw [Hp.sixT_some hd]
      have ga := Hp.grs_le a
      have gb := Hp.grs_le b
      generalize Hp.grs a = g at *
      generalize Hp.grs b = h at *
      generalize (⟨a.toArray⟩ : ByteArray) = a' at *
      generalize (⟨b.toArray⟩ : ByteArray) = b' at *
      go_enter Tryz.func73, Tryz.ntmps73
      go_wp2_with fail
      refine (HL.out _).mono ?_
      rintro e w1 ⟨rfl, rfl⟩
      go_wp2_with fail
      refine HF.out.mono ?_
      rintro e w2 ⟨rfl, hb2⟩
      have HB2 := Lib.hid hb2
      clear hb2
      go_wp2_with fail
      refine (HC.out _ HB2.out).mono ?_
      rintro e w3 ⟨rfl, n3, rfl⟩
      go_wp2_with fail
      refine (HG.out _).mono ?_
      rintro e w4 ⟨rfl, hb4⟩
      have HB4 := Lib.hid (HB2.out.trans ((below_drewN _ w2 n3).trans (hb4.mono HB2.out.size)))
      clear hb4
      go_wp2_with fail
      refine (HH.out _).mono ?_
      rintro e w5 ⟨rfl, hb5⟩
      have HB5 := Lib.hid (HB4.out.trans (hb5.mono HB4.out.size))
      clear hb5 HB4
      cases g with
      | none =>
        go_wp2_with fail
        go_ret
        exact ⟨rfl, HB5.out⟩
      | some x =>
        cases h with
        | none =>
          go_wp2_with fail
          go_ret
          exact ⟨rfl, HB5.out⟩
        | some y =>
          have gx : x ≤ 1001 := by have := ga x rfl; omega
          have gy : y ≤ 1001 := by have := gb y rfl; omega
          go_wp2_with fail
          go_ret
          exact ⟨rfl, HB5.out⟩
  · rw [hf] at HF
    rw [if_pos rfl]
    obtain ⟨t, ht0⟩ : ∃ t, s.extract 0 k ++ ⟨#[48, 58, 48]⟩ = t := ⟨_, rfl⟩
    have htl : s.data.toList.take k ++ [48, 58, 48] = t.data.toList := by
      rw [← ht0, ByteArray.data_append, Array.toList_append, Hp.ext_start]
    have hts : t.size ≤ 910 := by
      have := congrArg List.length htl
      rw [Array.length_toList] at this
      have h2 : t.data.size = t.size := rfl
      simp at this
      omega
    rw [htl]
    have hTa : (⟨t.data.toList.toArray⟩ : ByteArray) = t := (Hp.ofL _ _ rfl).symm
    clear hf htl
    obtain ⟨o, hd⟩ : ∃ o, Hp.dc2 t.data.toList = o := ⟨_, rfl⟩
    cases o with
    | none =>
      have HC := Lib.hid (fun w1 (h : Below w.heap.size w w1) => Cut_any t w1 (by omega) (ht.max.stay h))
      rw [Hp.cut_dc2, hd] at HC
      simp only [hTa] at HC
      have HG := Lib.hid (fun w1 => groups_any t w1 (by omega))
      rw [Hp.sixT_none hd]
      generalize Hp.grs t.data.toList = g at *
      go_enter Tryz.func73, Tryz.ntmps73
      go_wp2_with fail
      refine (HL.out _).mono ?_
      rintro e w1 ⟨rfl, rfl⟩
      go_wp2_with fail
      refine HF.out.mono ?_
      rintro e w2 ⟨rfl, hb2⟩
      have HB2 := Lib.hid hb2
      clear hb2
      go_wp2_with fail
      refine (HC.out _ HB2.out).mono ?_
      rintro e w3 ⟨rfl, n3, rfl⟩
      go_wp2_with fail
      refine (HG.out _).mono ?_
      rintro e w4 ⟨rfl, hb4⟩
      have HB4 := Lib.hid (HB2.out.trans ((below_drewN _ w2 n3).trans (hb4.mono HB2.out.size)))
      clear hb4
      cases g with
      | none =>
        go_wp2_with fail
        go_ret
        exact ⟨rfl, HB4.out⟩
      | some n =>
        go_wp2_with fail
        go_ret
        exact ⟨rfl, HB4.out⟩
    | some x =>
      obtain ⟨a, b⟩ := x
      have hab : a.length + b.length ≤ t.size := by
        have := congrArg List.length (Hp.dc2_some hd)
        rw [Array.length_toList] at this
        simp only [List.length_append, List.length_cons] at this
        have h2 : t.data.size = t.size := rfl
        omega
      have HC := Lib.hid (fun w1 (h : Below w.heap.size w w1) => Cut_any t w1 (by omega) (ht.max.stay h))
      rw [Hp.cut_dc2, hd] at HC
      simp only at HC
      have HG := Lib.hid (fun w1 => groups_any ⟨a.toArray⟩ w1 (by show a.toArray.size ≤ 1000; simp; omega))
      have HH := Lib.hid (fun w1 => groups_any ⟨b.toArray⟩ w1 (by show b.toArray.size ≤ 1000; simp; omega))
      rw [Hp.ofL_list] at HG HH
      rw [Hp.sixT_some hd]
      have ga := Hp.grs_le a
      have gb := Hp.grs_le b
      generalize Hp.grs a = g at *
      generalize Hp.grs b = h at *
      generalize (⟨a.toArray⟩ : ByteArray) = a' at *
      generalize (⟨b.toArray⟩ : ByteArray) = b' at *
      go_enter Tryz.func73, Tryz.ntmps73
      go_wp2_with fail
      refine (HL.out _).mono ?_
      rintro e w1 ⟨rfl, rfl⟩
      go_wp2_with fail
      refine HF.out.mono ?_
      rintro e w2 ⟨rfl, hb2⟩
      have HB2 := Lib.hid hb2
      clear hb2
      go_wp2_with fail
      refine (HC.out _ HB2.out).mono ?_
      rintro e w3 ⟨rfl, n3, rfl⟩
      go_wp2_with fail
      refine (HG.out _).mono ?_
      rintro e w4 ⟨rfl, hb4⟩
      have HB4 := Lib.hid (HB2.out.trans ((below_drewN _ w2 n3).trans (hb4.mono HB2.out.size)))
      clear hb4
      go_wp2_with fail
      refine (HH.out _).mono ?_
      rintro e w5 ⟨rfl, hb5⟩
      have HB5 := Lib.hid (HB4.out.trans (hb5.mono HB4.out.size))
      clear hb5 HB4
      cases g with
      | none =>
        go_wp2_with fail
        go_ret
        exact ⟨rfl, HB5.out⟩
      | some x =>
        cases h with
        | none =>
          go_wp2_with fail
          go_ret
          exact ⟨rfl, HB5.out⟩
        | some y =>
          have gx : x ≤ 1001 := by have := ga x rfl; omega
          have gy : y ≤ 1001 := by have := gb y rfl; omega
          go_wp2_with fail
          go_ret
          exact ⟨rfl, HB5.out⟩
end Go.Proofs.YtnpbnlphmngbdaaGreatDoor
