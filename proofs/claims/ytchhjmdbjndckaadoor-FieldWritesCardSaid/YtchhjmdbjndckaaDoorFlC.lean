/- A line's name, a line's field: contracts of the program's functions. -/
import Derived.Test.YtchhjmdbjndckaaDoorFlB
namespace Go.Proofs.YtchhjmdbjndckaaDoor
open Go.RowKit

namespace Fl
theorem run_bl (s : ByteArray) (k : Nat) : runLen B.bla s k = ((s.data.toList.drop k).takeWhile Cm.bl).length := by
  unfold runLen
  congr 2
  funext c
  exact (Cm.bl_bla c).symm
theorem run_k1 (s : ByteArray) : runLen B.tok s 0 = k1 s.data.toList := rfl
theorem run_k2 (s : ByteArray) : k1 s.data.toList + runLen B.bla s (k1 s.data.toList) = k2 s.data.toList := by
  rw [run_bl]; rfl
theorem cut_len (s : ByteArray) (a n : Nat) (h : a + n ≤ s.size) : (s.extract a (a + n)).toList.isEmpty = decide (n = 0) := by
  rw [ByteArray.toList_eq, Bool.eq_iff_iff, ByteArray.data_extract]
  simp
  omega
theorem head_c (s : ByteArray) : headC s.data.toList = (decide (0 < k1 s.data.toList) && decide (k2 s.data.toList < s.size ∧ byteAt s (k2 s.data.toList) = 58)) := by
  unfold headC byteAt
  rw [show s.data.toList.length = s.size from Array.length_toList]
end Fl
def Named (t : Nat) (s : ByteArray) (w w' : World) : Prop := (∃ k, Scn t s k w' ∧ ((Fl.nameC s.data.toList).2 = 0 → k = Fl.k2 s.data.toList + 1)) ∧ Kept (· = t) w w'
def nameV (l : List UInt8) : Value := .tuple #[.string ⟨(Fl.nameC l).1.toArray⟩, .int .i64 (Fl.nameC l).2]
theorem nameV_of {l : List UInt8} {n : List UInt8} {k : Int} (h : Fl.nameC l = (n, k)) : nameV l = .tuple #[.string ⟨n.toArray⟩, .int .i64 k] := by unfold nameV; rw [h]
theorem named_err {t k : Nat} {s : ByteArray} {w w' : World} {n : List UInt8} {z : Int} (h : Fl.nameC s.data.toList = (n, z)) (hz : z ≠ 0) (hs : Scn t s k w') (hk : Kept (· = t) w w') : Named t s w w' :=
  ⟨⟨k, hs, fun h0 => by rw [h] at h0; exact absurd h0 hz⟩, hk⟩
theorem named_ok {t : Nat} {s : ByteArray} {w w' : World} (hs : Scn t s (Fl.k2 s.data.toList + 1) w') (hk : Kept (· = t) w w') : Named t s w w' :=
  ⟨⟨_, hs, fun _ => rfl⟩, hk⟩
set_option maxHeartbeats 800000 in
theorem readName_any (t : Nat) (s : ByteArray) (w : World) (h : Scn t s 0 w) (hs : s.size ≤ 100000) :
    Calls Tryd.prog 16 #[.pointer (some ⟨t, 0, none⟩)] w fun e w' => e = .returned (nameV s.data.toList) ∧ Named t s w w' := by
  have hsz : s.size ≤ maxLen := by unfold maxLen; omega
  have HB := Lib.hid (fun k w1 (hh : Scn t s k w1) => Blanks_some t s k w1 hh hs)
  have HT := Lib.hid (fun w1 (hh : Scn t s 0 w1) => Token_some t s 0 w1 hh hs)
  have HY := Lib.hid (fun k w1 (hh : Scn t s k w1) => Byte_some t s k 58 w1 hh hsz)
  have hc0 := Fl.cut_len s 0 (runLen B.bla s 0) (runLen_le B.bla s 0 (Nat.zero_le _))
  have l1 := runLen_le B.tok s 0 (Nat.zero_le _)
  have HS := Lib.hid h
  clear h
  have hb0 := Fl.run_bl s 0
  rw [List.drop_zero] at hb0
  by_cases h0 : runLen B.bla s 0 = 0
  · have hf : s.data.toList.takeWhile Cm.bl = [] := List.eq_nil_of_length_eq_zero (by omega)
    rw [decide_eq_true h0] at hc0
    have HB0 := Lib.hid (HB.out 0 w HS.out)
    have HT0 := Lib.hid (fun w1 hh => HT.out w1 hh)
    rw [Nat.zero_add, Fl.run_k1] at HT0
    have HB1 := Lib.hid (fun w1 hh => HB.out (Fl.k1 s.data.toList) w1 hh)
    have HY1 := Lib.hid (fun w1 hh => HY.out (Fl.k2 s.data.toList) w1 hh)
    clear HB HT HY
    have l1' : Fl.k1 s.data.toList ≤ s.size := by rw [← Fl.run_k1]; omega
    have hc1 := Fl.cut_len s (Fl.k1 s.data.toList) (runLen B.bla s (Fl.k1 s.data.toList)) (runLen_le B.bla s _ l1')
    have hk2 := Fl.run_k2 s
    have hx : s.extract 0 (Fl.k1 s.data.toList) = ⟨(s.data.toList.take (Fl.k1 s.data.toList)).toArray⟩ := by
      apply bytes_eq
      rw [ByteArray.data_extract, Array.toList_extract, List.extract_eq_take_drop, List.drop_zero, Nat.sub_zero]
    have hhd := Fl.head_c s
    have hnm : Fl.nameC s.data.toList = (if Fl.headC s.data.toList = false then ([], 21) else if Fl.k1 s.data.toList < Fl.k2 s.data.toList then ([], 22) else (s.data.toList.take (Fl.k1 s.data.toList), 0)) := by
      unfold Fl.nameC; rw [if_neg (by rw [hf]; simp)]
    rw [Nat.zero_add, h0] at HB0
    rw [Nat.zero_add, h0] at hc0
    rw [hk2] at HB1 hc1
    generalize s.extract 0 0 = x0 at *
    generalize s.extract (Fl.k1 s.data.toList) (Fl.k2 s.data.toList) = x2 at *
    by_cases ha : 0 < Fl.k1 s.data.toList
    · rw [decide_eq_true ha] at HT0 hhd
      rw [Bool.true_and] at hhd
      by_cases hb : Fl.k2 s.data.toList < s.size ∧ byteAt s (Fl.k2 s.data.toList) = 58
      · rw [decide_eq_true hb] at HY1 hhd
        rw [if_pos hb] at HY1
        rw [hhd, if_neg (by decide)] at hnm
        by_cases hc : runLen B.bla s (Fl.k1 s.data.toList) = 0
        · rw [decide_eq_true hc] at hc1
          rw [if_neg (by omega)] at hnm
          rw [nameV_of hnm, ← hx]
          have HN := Lib.hid (fun w' => named_ok (t := t) (s := s) (w := w) (w' := w'))
          clear hnm hx hhd hk2 hb0 l1 l1' hf hb hc h0 ha
          generalize s.extract 0 (Fl.k1 s.data.toList) = x1 at *
          generalize Fl.k1 s.data.toList = j1 at *
          generalize Fl.k2 s.data.toList = j2 at *
          go_enter Tryd.func16, Tryd.ntmps16
          go_wp2_with fail
          refine HB0.out.mono ?_
          rintro e w1 ⟨rfl, hs1, hk1⟩
          have P1 := Lib.hid hs1
          have K1 := Lib.hid hk1
          clear hs1 hk1
          go_wp2_with fail
          refine (HT0.out w1 P1.out).mono ?_
          rintro e w2 ⟨rfl, hs2, hk2⟩
          have P2 := Lib.hid hs2
          have K2 := Lib.hid (K1.out.trans hk2)
          clear hs2 hk2
          go_wp2_with fail
          refine (HB1.out w2 P2.out).mono ?_
          rintro e w3 ⟨rfl, hs3, hk3⟩
          have P3 := Lib.hid hs3
          have K3 := Lib.hid (K2.out.trans hk3)
          clear hs3 hk3
          go_wp2_with fail
          refine (HY1.out w3 P3.out).mono ?_
          rintro e w4 ⟨rfl, hs4, hk4⟩
          have P4 := Lib.hid (HN.out w4 hs4 (K3.out.trans hk4))
          clear hs4 hk4
          go_wp2_with fail
          go_ret2
          exact ⟨ret_pair rfl rfl, P4.out⟩
        · rw [decide_eq_false hc] at hc1
          rw [if_pos (by omega)] at hnm
          rw [nameV_of hnm]
          have HN := Lib.hid (fun k w' => named_err (k := k) (t := t) (w := w) (w' := w') hnm (by decide))
          clear hnm hx hhd hk2 hb0 l1 l1' hf hb hc h0 ha
          generalize s.extract 0 (Fl.k1 s.data.toList) = x1 at *
          generalize Fl.k1 s.data.toList = j1 at *
          generalize Fl.k2 s.data.toList = j2 at *
          go_enter Tryd.func16, Tryd.ntmps16
          go_wp2_with fail
          refine HB0.out.mono ?_
          rintro e w1 ⟨rfl, hs1, hk1⟩
          have P1 := Lib.hid hs1
          have K1 := Lib.hid hk1
          clear hs1 hk1
          go_wp2_with fail
          refine (HT0.out w1 P1.out).mono ?_
          rintro e w2 ⟨rfl, hs2, hk2⟩
          have P2 := Lib.hid hs2
          have K2 := Lib.hid (K1.out.trans hk2)
          clear hs2 hk2
          go_wp2_with fail
          refine (HB1.out w2 P2.out).mono ?_
          rintro e w3 ⟨rfl, hs3, hk3⟩
          have P3 := Lib.hid hs3
          have K3 := Lib.hid (K2.out.trans hk3)
          clear hs3 hk3
          go_wp2_with fail
          refine (HY1.out w3 P3.out).mono ?_
          rintro e w4 ⟨rfl, hs4, hk4⟩
          have P4 := Lib.hid (HN.out _ w4 hs4 (K3.out.trans hk4))
          clear hs4 hk4
          go_wp2_with fail
          go_ret2
          exact ⟨ret_pair rfl rfl, P4.out⟩
      · rw [decide_eq_false hb] at HY1 hhd
        rw [if_neg hb] at HY1
        rw [hhd, if_pos rfl] at hnm
        rw [nameV_of hnm]
        have HN := Lib.hid (fun k w' => named_err (k := k) (t := t) (w := w) (w' := w') hnm (by decide))
        clear hnm hx hhd hk2 hb0 l1 l1' hf hb h0 ha
        generalize s.extract 0 (Fl.k1 s.data.toList) = x1 at *
        generalize Fl.k1 s.data.toList = j1 at *
        generalize Fl.k2 s.data.toList = j2 at *
        go_enter Tryd.func16, Tryd.ntmps16
        go_wp2_with fail
        refine HB0.out.mono ?_
        rintro e w1 ⟨rfl, hs1, hk1⟩
        have P1 := Lib.hid hs1
        have K1 := Lib.hid hk1
        clear hs1 hk1
        go_wp2_with fail
        refine (HT0.out w1 P1.out).mono ?_
        rintro e w2 ⟨rfl, hs2, hk2⟩
        have P2 := Lib.hid hs2
        have K2 := Lib.hid (K1.out.trans hk2)
        clear hs2 hk2
        go_wp2_with fail
        refine (HB1.out w2 P2.out).mono ?_
        rintro e w3 ⟨rfl, hs3, hk3⟩
        have P3 := Lib.hid hs3
        have K3 := Lib.hid (K2.out.trans hk3)
        clear hs3 hk3
        go_wp2_with fail
        refine (HY1.out w3 P3.out).mono ?_
        rintro e w4 ⟨rfl, hs4, hk4⟩
        have P4 := Lib.hid (HN.out _ w4 hs4 (K3.out.trans hk4))
        clear hs4 hk4
        go_wp2_with fail
        go_ret2
        exact ⟨ret_pair rfl rfl, P4.out⟩
    · rw [decide_eq_false ha] at HT0 hhd
      rw [Bool.false_and] at hhd
      rw [hhd, if_pos rfl] at hnm
      rw [nameV_of hnm]
      have HN := Lib.hid (fun k w' => named_err (k := k) (t := t) (w := w) (w' := w') hnm (by decide))
      clear hnm hx hhd hk2 hb0 l1 l1' hf h0 ha
      generalize s.extract 0 (Fl.k1 s.data.toList) = x1 at *
      generalize Fl.k1 s.data.toList = j1 at *
      generalize Fl.k2 s.data.toList = j2 at *
      go_enter Tryd.func16, Tryd.ntmps16
      go_wp2_with fail
      refine HB0.out.mono ?_
      rintro e w1 ⟨rfl, hs1, hk1⟩
      have P1 := Lib.hid hs1
      have K1 := Lib.hid hk1
      clear hs1 hk1
      go_wp2_with fail
      refine (HT0.out w1 P1.out).mono ?_
      rintro e w2 ⟨rfl, hs2, hk2⟩
      have P2 := Lib.hid hs2
      have K2 := Lib.hid (K1.out.trans hk2)
      clear hs2 hk2
      go_wp2_with fail
      refine (HB1.out w2 P2.out).mono ?_
      rintro e w3 ⟨rfl, hs3, hk3⟩
      have P3 := Lib.hid hs3
      have K3 := Lib.hid (K2.out.trans hk3)
      clear hs3 hk3
      go_wp2_with fail
      have P4 := Lib.hid (HN.out _ w3 P3.out K3.out)
      go_ret2
      exact ⟨ret_pair rfl rfl, P4.out⟩
  · have hf : s.data.toList.takeWhile Cm.bl ≠ [] := fun e => by rw [e] at hb0; exact h0 hb0
    have HN := Lib.hid (show Fl.nameC s.data.toList = ([], 23) by unfold Fl.nameC; rw [if_pos hf])
    rw [nameV_of HN.out]
    rw [decide_eq_false h0] at hc0
    have HB0 := Lib.hid (HB.out 0 w HS.out)
    generalize s.extract 0 (0 + runLen B.bla s 0) = x at *
    clear hb0 HB
    go_enter Tryd.func16, Tryd.ntmps16
    go_wp2_with fail
    refine HB0.out.mono ?_
    rintro e w1 ⟨rfl, hs1, hk1⟩
    have HR := Lib.hid (named_err HN.out (by decide) hs1 hk1)
    clear hs1 hk1
    go_wp2_with fail
    go_ret2
    exact ⟨ret_pair rfl rfl, HR.out⟩
/-- What a line's field gives. -/
def fV (x : List UInt8 × List UInt8 × Int) : Value := .tuple #[fF ⟨x.1.toArray⟩ ⟨x.2.1.toArray⟩, .int .i64 x.2.2]
theorem parse_world {w w1 w3 : World} {o : Obj} (h : Below w.heap.size w w1) (hk : Kept (· = w1.heap.size) (w1.alloc o) w3) : Below w.heap.size w w3 := by
  have h1 : Below w1.heap.size (w1.alloc o) w3 := (hk.mono (fun k _ hh => by omega)).below (by simp)
  exact below_then h (((Below.refl w1.heap.size w1).alloc (Nat.le_refl _) _).trans h1)
theorem rest_value (s : ByteArray) (k : Nat) : (restS s k).data.toList.all Fl.vl = (s.data.toList.drop k).all Fl.vl := by rw [restS_list]
theorem rest_trim (s : ByteArray) (k : Nat) : trimB [32, 9] (restS s k) = ⟨(Cm.trim (s.data.toList.drop k)).toArray⟩ := by
  unfold trimB
  rw [restS_list]; rfl
theorem rest_le (s : ByteArray) (k : Nat) : (restS s k).size ≤ s.size := by unfold restS; simp
set_option maxHeartbeats 1600000 in
theorem FParse_any (s : ByteArray) (w : World) (hs : s.size ≤ 100000) :
    Calls Tryd.prog 8 #[.string s] w fun e w' => e = .returned (fV (Fl.parseD s.data.toList)) ∧ Below w.heap.size w w' := by
  rw [← Fl.parse_eq]
  have HE := Lib.hid (fun w1 => Ends_any s w1 hs)
  have HN := Lib.hid (fun t w1 hh => readName_any t s w1 hh hs)
  have HR := Lib.hid (fun t k w1 (hh : Scn t s k w1) => Rest_some t s k w1 hh)
  have hp : Fl.parseC s.data.toList = _ := rfl
  conv at hp => rhs; unfold Fl.parseC
  cases h1 : s.data.toList.any Fl.en
  · rw [h1] at HE
    rw [h1, if_neg (by decide)] at hp
    clear h1
    by_cases h2 : (Fl.nameC s.data.toList).2 = 0
    · rw [if_neg (fun hh => hh h2)] at hp
      have HA := Lib.hid (fun w1 => AllVl_any (restS s (Fl.k2 s.data.toList + 1)) w1 (Nat.le_trans (rest_le _ _) hs))
      rw [rest_value] at HA
      have HT := Lib.hid (fun w1 => Trim_any ⟨#[32, 9]⟩ (restS s (Fl.k2 s.data.toList + 1)) [32, 9] rfl (by decide) (by decide +kernel) w1 (Nat.le_trans (rest_le _ _) hs))
      rw [rest_trim] at HT
      cases h3 : (s.data.toList.drop (Fl.k2 s.data.toList + 1)).all Fl.vl
      · rw [h3] at hp HA
        rw [if_pos rfl] at hp
        rw [hp]
        unfold nameV at HN
        rw [h2] at HN
        have HK := Lib.hid (fun w w1 w2 (hh : Named w1.heap.size s (w1.alloc (.cells #[.string s, .int .i64 0] 49)) w2) => (⟨by obtain ⟨⟨k, hk, he⟩, _⟩ := hh; rw [← he h2]; exact hk, fun hb => parse_world hb hh.2⟩ : Scn w1.heap.size s (Fl.k2 s.data.toList + 1) w2 ∧ (Below w.heap.size w w1 → Below w.heap.size w w2)))
        have HR2 := Lib.hid (fun t w1 hh => HR.out t (Fl.k2 s.data.toList + 1) w1 hh)
        clear HR hp h3 h2 HT
        generalize restS s (Fl.k2 s.data.toList + 1) = r at *
        generalize (Fl.nameC s.data.toList).1 = nm at *
        unfold fV fF
        obtain ⟨W0, hW0⟩ : ∃ W0, w.alloc (.cells #[.string ⟨#[]⟩, .string ⟨#[]⟩] 25) = W0 := ⟨_, rfl⟩
        have hF0 : FldAt W0 w.heap.size ⟨#[]⟩ ⟨#[]⟩ := by rw [← hW0]; exact fldAt_new _ _ _
        have hbw : Below w.heap.size w W0 := by rw [← hW0]; exact (by repeat (first | with_reducible exact Below.refl _ _ | with_reducible assumption | (with_reducible refine Below.setCell ?_ ?_ _; rotate_left; · (simp <;> omega)) | (with_reducible refine Below.alloc ?_ ?_ _; rotate_left; · (simp <;> omega)) | with_reducible refine Below.drew ?_))
        have HF := Lib.hid hF0
        have HBW := Lib.hid hbw
        clear hF0 hbw
        go_enter Tryd.func8, Tryd.ntmps8
        go_wp2_with fail
        refine (HE.out W0).mono ?_
        rintro e w1 ⟨rfl, hb1⟩
        have B1 := Lib.hid hb1
        clear hb1
        go_wp2_with fail
        refine (New_any s _).mono ?_
        rintro e w2 ⟨rfl, rfl⟩
        go_wp2_with fail
        refine (HN.out w1.heap.size _ (scn_new s w1)).mono ?_
        rintro e w3 ⟨rfl, hn3⟩
        have P3 := Lib.hid (HK.out W0 w1 w3 hn3).1
        have B3 := Lib.hid ((HK.out W0 w1 w3 hn3).2 B1.out)
        clear hn3
        go_wp2_with fail
        refine (HR2.out w1.heap.size w3 P3.out).mono ?_
        rintro e w4 ⟨rfl, n4, rfl⟩
        go_wp2_with fail
        refine (HA.out (w3.drewN n4)).mono ?_
        rintro e w5 ⟨rfl, hb5⟩
        have B5 := Lib.hid (below_then (B3.out.trans (below_drewN _ _ n4)) hb5)
        clear hb5
        obtain ⟨c0, c1, f0, f1, l0⟩ := HF.out.stay B5.out
        have hb9 := below_then HBW.out B5.out
        go_wp2_with fail
        refine bodyPost_ret (v := .tuple #[.agg #[.string ⟨#[]⟩, .string ⟨#[]⟩], .int .i64 25]) (by simp [results, Tryd.results8, go_sem, c0, c1]) rfl ⟨rfl, ?_⟩
        exact (by repeat (first | with_reducible exact Below.refl _ _ | with_reducible assumption | with_reducible refine below_allocT ?_ _ | with_reducible refine Below.drew ?_ | with_reducible refine below_drewT ?_ _ | (with_reducible refine Below.setCell ?_ ?_ _; rotate_left; · first | exact Nat.le_refl _ | omega | (simp <;> omega)) | (with_reducible refine Below.alloc ?_ ?_ _; rotate_left; · first | omega | (simp <;> omega))))
      · rw [h3] at hp HA
        rw [if_neg (by decide)] at hp
        rw [hp]
        unfold nameV at HN
        rw [h2] at HN
        have HK := Lib.hid (fun w w1 w2 (hh : Named w1.heap.size s (w1.alloc (.cells #[.string s, .int .i64 0] 49)) w2) => (⟨by obtain ⟨⟨k, hk, he⟩, _⟩ := hh; rw [← he h2]; exact hk, fun hb => parse_world hb hh.2⟩ : Scn w1.heap.size s (Fl.k2 s.data.toList + 1) w2 ∧ (Below w.heap.size w w1 → Below w.heap.size w w2)))
        have HR2 := Lib.hid (fun t w1 hh => HR.out t (Fl.k2 s.data.toList + 1) w1 hh)
        clear HR hp h3 h2
        generalize restS s (Fl.k2 s.data.toList + 1) = r at *
        generalize Cm.trim (s.data.toList.drop (Fl.k2 s.data.toList + 1)) = tr at *
        generalize (Fl.nameC s.data.toList).1 = nm at *
        unfold fV fF
        obtain ⟨W0, hW0⟩ : ∃ W0, w.alloc (.cells #[.string ⟨#[]⟩, .string ⟨#[]⟩] 25) = W0 := ⟨_, rfl⟩
        have hF0 : FldAt W0 w.heap.size ⟨#[]⟩ ⟨#[]⟩ := by rw [← hW0]; exact fldAt_new _ _ _
        have hbw : Below w.heap.size w W0 := by rw [← hW0]; exact (by repeat (first | with_reducible exact Below.refl _ _ | with_reducible assumption | (with_reducible refine Below.setCell ?_ ?_ _; rotate_left; · (simp <;> omega)) | (with_reducible refine Below.alloc ?_ ?_ _; rotate_left; · (simp <;> omega)) | with_reducible refine Below.drew ?_))
        have HF := Lib.hid hF0
        have HBW := Lib.hid hbw
        clear hF0 hbw
        go_enter Tryd.func8, Tryd.ntmps8
        go_wp2_with fail
        refine (HE.out W0).mono ?_
        rintro e w1 ⟨rfl, hb1⟩
        have B1 := Lib.hid hb1
        clear hb1
        go_wp2_with fail
        refine (New_any s _).mono ?_
        rintro e w2 ⟨rfl, rfl⟩
        go_wp2_with fail
        refine (HN.out w1.heap.size _ (scn_new s w1)).mono ?_
        rintro e w3 ⟨rfl, hn3⟩
        have P3 := Lib.hid (HK.out W0 w1 w3 hn3).1
        have B3 := Lib.hid ((HK.out W0 w1 w3 hn3).2 B1.out)
        clear hn3
        go_wp2_with fail
        refine (HR2.out w1.heap.size w3 P3.out).mono ?_
        rintro e w4 ⟨rfl, n4, rfl⟩
        go_wp2_with fail
        refine (HA.out (w3.drewN n4)).mono ?_
        rintro e w5 ⟨rfl, hb5⟩
        have B5 := Lib.hid (below_then (B3.out.trans (below_drewN _ _ n4)) hb5)
        clear hb5
        go_wp2_with fail
        refine (HT.out _).mono ?_
        rintro e w6 ⟨rfl, hb6⟩
        have B6 := Lib.hid (below_then B5.out hb6)
        clear hb6
        obtain ⟨c0, c1, f0, f1, l0⟩ := HF.out.stay B6.out
        have hb9 := below_then HBW.out B6.out
        go_wp2_with fail
        refine bodyPost_ret (v := .tuple #[.agg #[.string ⟨nm.toArray⟩, .string ⟨tr.toArray⟩], .int .i64 0]) (by simp [results, Tryd.results8, go_sem, c0, c1]) rfl ⟨rfl, ?_⟩
        exact (by repeat (first | with_reducible exact Below.refl _ _ | with_reducible assumption | with_reducible refine below_allocT ?_ _ | with_reducible refine Below.drew ?_ | with_reducible refine below_drewT ?_ _ | (with_reducible refine Below.setCell ?_ ?_ _; rotate_left; · first | exact Nat.le_refl _ | omega | (simp <;> omega)) | (with_reducible refine Below.alloc ?_ ?_ _; rotate_left; · first | omega | (simp <;> omega))))
    · rw [if_pos h2] at hp
      rw [hp]
      unfold nameV at HN
      generalize (Fl.nameC s.data.toList).1 = nm at *
      generalize (Fl.nameC s.data.toList).2 = k at *
      have hk2 : (k == 0) = false := by simpa using h2
      clear HR hp h2
      unfold fV fF
      obtain ⟨W0, hW0⟩ : ∃ W0, w.alloc (.cells #[.string ⟨#[]⟩, .string ⟨#[]⟩] 25) = W0 := ⟨_, rfl⟩
      have hF0 : FldAt W0 w.heap.size ⟨#[]⟩ ⟨#[]⟩ := by rw [← hW0]; exact fldAt_new _ _ _
      have hbw : Below w.heap.size w W0 := by rw [← hW0]; exact (by repeat (first | with_reducible exact Below.refl _ _ | with_reducible assumption | (with_reducible refine Below.setCell ?_ ?_ _; rotate_left; · (simp <;> omega)) | (with_reducible refine Below.alloc ?_ ?_ _; rotate_left; · (simp <;> omega)) | with_reducible refine Below.drew ?_))
      have HF := Lib.hid hF0
      have HBW := Lib.hid hbw
      clear hF0 hbw
      go_enter Tryd.func8, Tryd.ntmps8
      go_wp2_with fail
      refine (HE.out W0).mono ?_
      rintro e w1 ⟨rfl, hb1⟩
      have B1 := Lib.hid hb1
      clear hb1
      go_wp2_with fail
      refine (New_any s _).mono ?_
      rintro e w2 ⟨rfl, rfl⟩
      go_wp2_with fail
      refine (HN.out w1.heap.size _ (scn_new s w1)).mono ?_
      rintro e w3 ⟨rfl, hn3⟩
      have B3 := Lib.hid (parse_world B1.out hn3.2)
      clear hn3
      obtain ⟨c0, c1, f0, f1, l0⟩ := HF.out.stay B3.out
      have hb9 := below_then HBW.out B3.out
      go_wp2_with fail
      refine bodyPost_ret (v := .tuple #[.agg #[.string ⟨#[]⟩, .string ⟨#[]⟩], .int .i64 k]) (by simp [results, Tryd.results8, go_sem, c0, c1]) rfl ⟨rfl, ?_⟩
      exact (by repeat (first | with_reducible exact Below.refl _ _ | with_reducible assumption | with_reducible refine below_allocT ?_ _ | with_reducible refine Below.drew ?_ | with_reducible refine below_drewT ?_ _ | (with_reducible refine Below.setCell ?_ ?_ _; rotate_left; · first | exact Nat.le_refl _ | omega | (simp <;> omega)) | (with_reducible refine Below.alloc ?_ ?_ _; rotate_left; · first | omega | (simp <;> omega))))
  · rw [h1] at HE
    rw [h1, if_pos rfl] at hp
    rw [hp]
    clear hp h1 HN HR
    unfold fV fF
    obtain ⟨W0, hW0⟩ : ∃ W0, w.alloc (.cells #[.string ⟨#[]⟩, .string ⟨#[]⟩] 25) = W0 := ⟨_, rfl⟩
    have hF0 : FldAt W0 w.heap.size ⟨#[]⟩ ⟨#[]⟩ := by rw [← hW0]; exact fldAt_new _ _ _
    have hbw : Below w.heap.size w W0 := by rw [← hW0]; exact (by repeat (first | with_reducible exact Below.refl _ _ | with_reducible assumption | (with_reducible refine Below.setCell ?_ ?_ _; rotate_left; · (simp <;> omega)) | (with_reducible refine Below.alloc ?_ ?_ _; rotate_left; · (simp <;> omega)) | with_reducible refine Below.drew ?_))
    have HF := Lib.hid hF0
    have HBW := Lib.hid hbw
    clear hF0 hbw
    go_enter Tryd.func8, Tryd.ntmps8
    go_wp2_with fail
    refine (HE.out W0).mono ?_
    rintro e w1 ⟨rfl, hb1⟩
    have B1 := Lib.hid hb1
    clear hb1
    obtain ⟨c0, c1, f0, f1, l0⟩ := HF.out.stay B1.out
    have hb9 := below_then HBW.out B1.out
    go_wp2_with fail
    refine bodyPost_ret (v := .tuple #[.agg #[.string ⟨#[]⟩, .string ⟨#[]⟩], .int .i64 24]) (by simp [results, Tryd.results8, go_sem, c0, c1]) rfl ⟨rfl, ?_⟩
    exact (by repeat (first | with_reducible exact Below.refl _ _ | with_reducible assumption | with_reducible refine below_allocT ?_ _ | with_reducible refine Below.drew ?_ | with_reducible refine below_drewT ?_ _ | (with_reducible refine Below.setCell ?_ ?_ _; rotate_left; · first | exact Nat.le_refl _ | omega | (simp <;> omega)) | (with_reducible refine Below.alloc ?_ ?_ _; rotate_left; · first | omega | (simp <;> omega))))
end Go.Proofs.YtchhjmdbjndckaaDoor
