/- Contracts and lemmas that the claim rests on: PrC. -/
import Derived.Test.YtjgjdcikeagibaaGPrB
/- The program's Parse: its contract. -/
namespace Go.Proofs.Ytjgjdcikeagibaa
open Go.RowKit

namespace Pm
theorem beg_byte (s : ByteArray) (k : Nat) (c : UInt8) : begAt s k ⟨#[c]⟩ = decide (k < s.size ∧ byteAt s k = (c.toNat : Int)) := by
  unfold begAt beg byteAt
  rw [restS_list]
  show [c].isPrefixOf _ = _
  by_cases hk : k < s.size
  · rw [Qd.drop_at s k hk]
    by_cases hc : c = s.data.toList.getD k 0
    · rw [decide_eq_true ⟨hk, by rw [hc]⟩]
      simp [List.isPrefixOf, hc]
    · rw [decide_eq_false (by
        rintro ⟨_, h⟩
        apply hc
        apply UInt8.toNat_inj.1
        omega)]
      show (c == s.data.toList.getD k 0 && _) = false
      rw [beq_eq_false_iff_ne.2 hc]
      rfl
  · rw [Qd.drop_out s k hk, decide_eq_false (by rintro ⟨h, _⟩; exact hk h)]
    rfl
/-- The parts of a param that stands at k. -/
theorem pr_no (s : ByteArray) (k : Nat) (h : ¬ 0 < runLen B.tok s k) : pr s k = none := by
  unfold pr
  rw [if_neg (fun h1 => h h1.1)]
theorem pr_mark (s : ByteArray) (k : Nat) (h : begAt s (k + runLen B.tok s k) eqs = false) : pr s k = none := by
  unfold eqs at h
  rw [beg_byte, decide_eq_false_iff_not] at h
  unfold pr
  rw [if_neg (fun h1 => h ⟨h1.2.1.1, by rw [h1.2.1.2]; rfl⟩)]
theorem pr_word (s : ByteArray) (k : Nat) (h0 : 0 < runLen B.tok s k) (h : begAt s (k + runLen B.tok s k) eqs = true) :
    pr s k = if wok s (k + runLen B.tok s k + 1) = true then some ((s.extract k (k + runLen B.tok s k), wtxt s (k + runLen B.tok s k + 1)), runLen B.tok s k + 1 + wlen s (k + runLen B.tok s k + 1)) else none := by
  unfold eqs at h
  rw [beg_byte, decide_eq_true_eq, n61] at h
  unfold pr
  by_cases hw : wok s (k + runLen B.tok s k + 1) = true
  · rw [if_pos ⟨h0, h, hw⟩, if_pos hw]
  · rw [if_neg (fun h1 => hw h1.2.2), if_neg hw]
theorem bt_is (s : ByteArray) (k : Nat) : bt s k = if begAt s (k + runLen B.bla s k) semi = true then some (runLen B.bla s k + 1 + runLen B.bla s (k + runLen B.bla s k + 1)) else none := by
  unfold semi
  rw [beg_byte, n59]
  unfold bt
  simp only [decide_eq_true_eq]
end Pm
/-- What the reader's param hands back. -/
def Param_ (v : Value) (s : ByteArray) (k : Nat) (w : World) (e : Ending) (w' : World) : Prop :=
  ∃ nm vl j, e = .returned (.tuple #[.agg #[.string nm, .string vl], .bool (Pm.pr s k).isSome]) ∧ IsScan v s j w' ∧ Kept (ownScan v) w w' ∧ (∀ p n, Pm.pr s k = some (p, n) → (nm, vl) = p ∧ j = k + n)
theorem Param_.no {v : Value} {s : ByteArray} {k : Nat} {w : World} {nm vl : ByteArray} {j : Nat} {w' : World} {e : Ending} (h : Pm.pr s k = none) (he : e = .returned (.tuple #[.agg #[.string nm, .string vl], .bool false])) (hs : IsScan v s j w') (hk : Kept (ownScan v) w w') : Param_ v s k w e w' := by
  refine ⟨nm, vl, j, ?_, hs, hk, ?_⟩
  · rw [h]; exact he
  · rw [h]; intro p n h; cases h
theorem Param_.yes {v : Value} {s : ByteArray} {k : Nat} {w : World} {nm vl : ByteArray} {n j : Nat} {w' : World} {e : Ending} (h : Pm.pr s k = some ((nm, vl), n)) (he : e = .returned (.tuple #[.agg #[.string nm, .string vl], .bool true])) (hj : j = k + n) (hs : IsScan v s j w') (hk : Kept (ownScan v) w w') : Param_ v s k w e w' := by
  refine ⟨nm, vl, j, ?_, hs, hk, ?_⟩
  · rw [h]; exact he
  · rw [h]; rintro p n' h; cases h; exact ⟨rfl, hj⟩
/-- The reader's param at work: its result's cells. -/
structure Pq (v : Value) (s : ByteArray) (w : World) (j : Nat) (wr : World) : Prop where
  scan : IsScan v s j wr
  box : wr.cell? ⟨w.heap.size, 0, none⟩ = some v
  c0 : wr.cell? ⟨w.heap.size + 1, 0, none⟩ = some (.string ⟨#[]⟩)
  c1 : wr.cell? ⟨w.heap.size + 1, 1, none⟩ = some (.string ⟨#[]⟩)
  f0 : wr.frozen? ⟨w.heap.size + 1, 0, none⟩ = false
  f1 : wr.frozen? ⟨w.heap.size + 1, 1, none⟩ = false
  kept : Kept (ownScan v) w wr
  lt : w.heap.size + 2 ≤ wr.heap.size
  own : ∀ i, ownScan v i → i < w.heap.size
theorem Pq.scan_ {v : Value} {s : ByteArray} {w : World} {j j' : Nat} {wr w' : World} (h : Pq v s w j wr) (hs : IsScan v s j' w') (hk : Kept (ownScan v) wr w') : Pq v s w j' w' := by
  have hl := h.lt
  have hn : ¬ ownScan v (w.heap.size + 1) := fun e => by have := h.own _ e; omega
  exact ⟨hs, hk.at_cell (by omega) (fun e => by have := h.own _ e; omega) h.box, hk.at_cell (by omega) hn h.c0, hk.at_cell (by omega) hn h.c1, hk.at_frozen (by omega) hn h.f0, hk.at_frozen (by omega) hn h.f1, h.kept.trans hk, Nat.le_trans hl hk.size, h.own⟩
theorem Pq.done {v : Value} {s : ByteArray} {w : World} {j : Nat} {wr : World} (h : Pq v s w j wr) (nm vl : ByteArray) :
    IsScan v s j ((wr.setCell ⟨w.heap.size + 1, 0, none⟩ (.string nm)).setCell ⟨w.heap.size + 1, 1, none⟩ (.string vl)) ∧ Kept (ownScan v) w ((wr.setCell ⟨w.heap.size + 1, 0, none⟩ (.string nm)).setCell ⟨w.heap.size + 1, 1, none⟩ (.string vl)) := by
  have hk : Kept (fun i => i = w.heap.size + 1) wr ((wr.setCell ⟨w.heap.size + 1, 0, none⟩ (.string nm)).setCell ⟨w.heap.size + 1, 1, none⟩ (.string vl)) := ((Kept.refl (fun i => i = w.heap.size + 1) wr).setCellL (p := ⟨w.heap.size + 1, 0, none⟩) rfl (.string nm)).setCellL (p := ⟨w.heap.size + 1, 1, none⟩) rfl (.string vl)
  refine ⟨h.scan.kept hk (fun i hi hn => by have := h.own i hi; omega), ?_⟩
  exact (h.kept.setCellR (by show w.heap.size ≤ w.heap.size + 1; omega) _).setCellR (by show w.heap.size ≤ w.heap.size + 1; omega) _
set_option maxHeartbeats 1000000 in
theorem param_v (v : Value) (s : ByteArray) (k : Nat) (w : World) (h : IsScan v s k w) (hs : s.size ≤ 100000) :
    Calls Try.prog 18 #[.agg #[v]] w (Param_ v s k w) := by
  have hown : ∀ i, ownScan v i → i < w.heap.size := fun i hi => h.own_lt hi
  have hle := h.le
  have hp0 : ∀ o o', o = .cells #[v] 47 → o' = .cells #[.string ⟨#[]⟩, .string ⟨#[]⟩] 41 → Pq v s w k ((w.alloc o).alloc o') := by
    rintro o o' rfl rfl
    exact ⟨h.below (by repeat (first | with_reducible exact Below.refl _ _ | with_reducible assumption | (with_reducible refine Below.setCell ?_ ?_ _; rotate_left; · (simp <;> omega)) | (with_reducible refine Below.alloc ?_ ?_ _; rotate_left; · (simp <;> omega)) | with_reducible refine Below.drew ?_)), by simp [go_sem], by simp [go_sem], by simp [go_sem], by simp [go_sem], by simp [go_sem], (by repeat (first | with_reducible exact Kept.refl _ _ | with_reducible assumption | (with_reducible refine Kept.setCellL ?_ ?_ _; rotate_left; · (simp <;> omega)) | with_reducible refine Kept.alloc ?_ _ | with_reducible refine Kept.drew ?_ | with_reducible refine Kept.drewN ?_ _)), by simp, hown⟩
  have HP := Lib.hid (hp0 _ _ rfl rfl)
  have hm : s.size ≤ maxLen := by unfold maxLen; omega
  have HM := Lib.hid hm
  clear h hp0 hown hm
  by_cases h0 : 0 < runLen B.tok s k
  · have hd : Hid (decide (0 < runLen B.tok s k) = true) := decide_eq_true h0
    cases hb : begAt s (k + runLen B.tok s k) Pm.eqs
    · have HN := Lib.hid (Pm.pr_mark s k hb)
      have HB := Lib.hid hb
      clear h0 hb hle
      go_enter Try.func18, Try.ntmps18
      go_wp2_with fail
      refine (Token_v v s k _ HP.out.scan hs).mono ?_
      rintro e w1 ⟨rfl, hs1, hk1⟩
      rw [hd.out]
      have HP1 := Lib.hid (HP.out.scan_ hs1 hk1)
      have box1 := HP1.out.box
      clear hs1 hk1 HP
      go_wp2_with fail
      refine (Text_v v s _ Pm.eqs _ HP1.out.scan HM.out (by decide)).mono ?_
      rintro e w2 ⟨rfl, hs2, hk2⟩
      rw [HB.out] at hs2 ⊢
      have HP2 := Lib.hid (HP1.out.scan_ hs2 hk2)
      have c0 := HP2.out.c0
      have c1 := HP2.out.c1
      have f0 := HP2.out.f0
      have f1 := HP2.out.f1
      have l0 := HP2.out.lt
      clear hs2 hk2 HP1
      go_wp2_with fail
      obtain ⟨q1, q2⟩ := HP2.out.done ⟨#[]⟩ ⟨#[]⟩
      exact bodyPost_ret (v := .tuple #[.agg #[.string ⟨#[]⟩, .string ⟨#[]⟩], .bool false]) (by simp [results, Try.results18, go_sem, c0, c1]) rfl (Param_.no HN.out rfl q1 q2)
    · have hw := Pm.pr_word s k h0 hb
      have HB := Lib.hid hb
      have HX := Lib.hid (cut_size s k _ (runLen_le B.tok s k hle))
      clear h0 hb hle
      obtain ⟨nm, hnm⟩ : ∃ nm, s.extract k (k + runLen B.tok s k) = nm := ⟨_, rfl⟩
      obtain ⟨j, hj⟩ : ∃ j, k + runLen B.tok s k = j := ⟨_, rfl⟩
      rw [hnm, hj] at hw
      rw [hj] at HB
      have HNM := Lib.hid hnm
      have HJ := Lib.hid hj
      clear hnm hj
      obtain ⟨vl, hvl⟩ : ∃ vl, wtxt s (j + 1) = vl := ⟨_, rfl⟩
      obtain ⟨m, hm⟩ : ∃ m, wlen s (j + 1) = m := ⟨_, rfl⟩
      rw [hvl, hm] at hw
      have HVL := Lib.hid hvl
      have HML := Lib.hid hm
      clear hvl hm
      cases hwk : wok s (j + 1)
      · rw [hwk, if_neg (by simp)] at hw
        have HW := Lib.hid hw
        have HK := Lib.hid hwk
        clear hw hwk
        go_enter Try.func18, Try.ntmps18
        go_wp2_with fail
        refine (Token_v v s k _ HP.out.scan hs).mono ?_
        rintro e w1 ⟨rfl, hs1, hk1⟩
        rw [hd.out, HNM.out]
        rw [HJ.out] at hs1
        have HP1 := Lib.hid (HP.out.scan_ hs1 hk1)
        have box1 := HP1.out.box
        clear hs1 hk1 HP
        go_wp2_with fail
        refine (Text_v v s _ Pm.eqs _ HP1.out.scan HM.out (by decide)).mono ?_
        rintro e w2 ⟨rfl, hs2, hk2⟩
        rw [HB.out] at hs2 ⊢
        have hs2' : IsScan v s (j + 1) w2 := hs2
        have HP2 := Lib.hid (HP1.out.scan_ hs2' hk2)
        have box2 := HP2.out.box
        clear hs2 hs2' hk2 HP1
        go_wp2_with fail
        refine (Word_v v s _ _ HP2.out.scan hs).mono ?_
        rintro e w3 ⟨rfl, hs3, hk3⟩
        rw [HK.out, HVL.out]
        have HP3 := Lib.hid (HP2.out.scan_ hs3 hk3)
        have c0 := HP3.out.c0
        have c1 := HP3.out.c1
        have f0 := HP3.out.f0
        have f1 := HP3.out.f1
        have l0 := HP3.out.lt
        clear hs3 hk3 HP2
        go_wp2_with fail
        obtain ⟨q1, q2⟩ := HP3.out.done nm vl
        exact bodyPost_ret (v := .tuple #[.agg #[.string nm, .string vl], .bool false]) (by simp [results, Try.results18, go_sem, c0, c1]) rfl (Param_.no HW.out rfl q1 q2)
      · rw [hwk, if_pos rfl] at hw
        have HW := Lib.hid hw
        have HK := Lib.hid hwk
        clear hw hwk
        go_enter Try.func18, Try.ntmps18
        go_wp2_with fail
        refine (Token_v v s k _ HP.out.scan hs).mono ?_
        rintro e w1 ⟨rfl, hs1, hk1⟩
        rw [hd.out, HNM.out]
        rw [HJ.out] at hs1
        have HP1 := Lib.hid (HP.out.scan_ hs1 hk1)
        have box1 := HP1.out.box
        clear hs1 hk1 HP
        go_wp2_with fail
        refine (Text_v v s _ Pm.eqs _ HP1.out.scan HM.out (by decide)).mono ?_
        rintro e w2 ⟨rfl, hs2, hk2⟩
        rw [HB.out] at hs2 ⊢
        have hs2' : IsScan v s (j + 1) w2 := hs2
        have HP2 := Lib.hid (HP1.out.scan_ hs2' hk2)
        have box2 := HP2.out.box
        clear hs2 hs2' hk2 HP1
        go_wp2_with fail
        refine (Word_v v s _ _ HP2.out.scan hs).mono ?_
        rintro e w3 ⟨rfl, hs3, hk3⟩
        rw [HK.out, HVL.out]
        rw [HML.out] at hs3
        have HP3 := Lib.hid (HP2.out.scan_ hs3 hk3)
        have c0 := HP3.out.c0
        have c1 := HP3.out.c1
        have f0 := HP3.out.f0
        have f1 := HP3.out.f1
        have l0 := HP3.out.lt
        clear hs3 hk3 HP2
        go_wp2_with fail
        obtain ⟨q1, q2⟩ := HP3.out.done nm vl
        exact bodyPost_ret (v := .tuple #[.agg #[.string nm, .string vl], .bool true]) (by simp [results, Try.results18, go_sem, c0, c1]) rfl (Param_.yes HW.out rfl (by have := HJ.out; omega) q1 q2)
  · have HN := Lib.hid (Pm.pr_no s k h0)
    have hd : Hid (decide (0 < runLen B.tok s k) = false) := decide_eq_false h0
    clear h0 hle
    go_enter Try.func18, Try.ntmps18
    go_wp2_with fail
    refine (Token_v v s k _ HP.out.scan hs).mono ?_
    rintro e w1 ⟨rfl, hs1, hk1⟩
    rw [hd.out]
    have HP1 := Lib.hid (HP.out.scan_ hs1 hk1)
    have c0 := HP1.out.c0
    have c1 := HP1.out.c1
    have f0 := HP1.out.f0
    have f1 := HP1.out.f1
    have l0 := HP1.out.lt
    clear hs1 hk1 HP
    go_wp2_with fail
    obtain ⟨q1, q2⟩ := HP1.out.done ⟨#[]⟩ ⟨#[]⟩
    exact bodyPost_ret (v := .tuple #[.agg #[.string ⟨#[]⟩, .string ⟨#[]⟩], .bool false]) (by simp [results, Try.results18, go_sem, c0, c1]) rfl (Param_.no HN.out rfl q1 q2)

theorem between_v (v : Value) (s : ByteArray) (k : Nat) (w : World) (h : IsScan v s k w) (hs : s.size ≤ 100000) :
    Calls Try.prog 20 #[.agg #[v]] w fun e w' => ∃ j, e = .returned (.bool (Pm.bt s k).isSome) ∧ IsScan v s j w' ∧ Kept (ownScan v) w w' ∧ ∀ m, Pm.bt s k = some m → j = k + m := by
  have hown : ∀ i, ownScan v i → i < w.heap.size := fun i hi => h.own_lt hi
  have hr0 : Rs v s w (w.heap.size + 1) k (w.alloc (.cells #[v] 47)) := ⟨h.below (by repeat (first | with_reducible exact Below.refl _ _ | with_reducible assumption | (with_reducible refine Below.setCell ?_ ?_ _; rotate_left; · (simp <;> omega)) | (with_reducible refine Below.alloc ?_ ?_ _; rotate_left; · (simp <;> omega)) | with_reducible refine Below.drew ?_)), by simp [go_sem], (by repeat (first | with_reducible exact Kept.refl _ _ | with_reducible assumption | (with_reducible refine Kept.setCellL ?_ ?_ _; rotate_left; · (simp <;> omega)) | with_reducible refine Kept.alloc ?_ _ | with_reducible refine Kept.drew ?_ | with_reducible refine Kept.drewN ?_ _)), by omega, hown⟩
  have HR := Lib.hid hr0
  have hm : s.size ≤ maxLen := by unfold maxLen; omega
  have HM := Lib.hid hm
  have hb := Pm.bt_is s k
  clear h hown hr0 hm
  obtain ⟨j, hj⟩ : ∃ j, k + runLen B.bla s k = j := ⟨_, rfl⟩
  rw [hj] at hb
  have HJ := Lib.hid hj
  clear hj
  cases hg : begAt s j Pm.semi
  · rw [hg, if_neg (by simp)] at hb
    have HB := Lib.hid hb
    have HG := Lib.hid hg
    clear hb hg
    go_enter Try.func20, Try.ntmps20
    go_wp2_with fail
    refine (Blanks_v v s k _ HR.out.scan hs).mono ?_
    rintro e w1 ⟨rfl, hs1, hk1⟩
    rw [HJ.out] at hs1 ⊢
    have HR1 := Lib.hid (HR.out.scan_ hs1 hk1)
    have box1 := HR1.out.box
    clear hs1 hk1 HR
    go_wp2_with fail
    refine (Text_v v s _ Pm.semi _ HR1.out.scan HM.out (by decide)).mono ?_
    rintro e w2 ⟨rfl, hs2, hk2⟩
    rw [HG.out] at hs2 ⊢
    have HR2 := Lib.hid (HR1.out.scan_ hs2 hk2)
    have box2 := HR2.out.box
    clear hs2 hk2 HR1
    go_wp2_with fail
    refine (Blanks_v v s _ _ HR2.out.scan hs).mono ?_
    rintro e w3 ⟨rfl, hs3, hk3⟩
    have HR3 := Lib.hid (HR2.out.scan_ hs3 hk3)
    clear hs3 hk3 HR2
    go_wp2_with fail
    go_ret
    rw [HB.out]
    exact ⟨_, rfl, HR3.out.scan, HR3.out.kept, fun m h => by cases h⟩
  · rw [hg, if_pos rfl] at hb
    have HB := Lib.hid hb
    have HG := Lib.hid hg
    clear hb hg
    go_enter Try.func20, Try.ntmps20
    go_wp2_with fail
    refine (Blanks_v v s k _ HR.out.scan hs).mono ?_
    rintro e w1 ⟨rfl, hs1, hk1⟩
    rw [HJ.out] at hs1 ⊢
    have HR1 := Lib.hid (HR.out.scan_ hs1 hk1)
    have box1 := HR1.out.box
    clear hs1 hk1 HR
    go_wp2_with fail
    refine (Text_v v s _ Pm.semi _ HR1.out.scan HM.out (by decide)).mono ?_
    rintro e w2 ⟨rfl, hs2, hk2⟩
    rw [HG.out] at hs2 ⊢
    have hs2' : IsScan v s (j + 1) w2 := hs2
    have HR2 := Lib.hid (HR1.out.scan_ hs2' hk2)
    have box2 := HR2.out.box
    clear hs2 hs2' hk2 HR1
    go_wp2_with fail
    refine (Blanks_v v s _ _ HR2.out.scan hs).mono ?_
    rintro e w3 ⟨rfl, hs3, hk3⟩
    have HR3 := Lib.hid (HR2.out.scan_ hs3 hk3)
    clear hs3 hk3 HR2
    go_wp2_with fail
    go_ret
    rw [HB.out]
    exact ⟨_, rfl, HR3.out.scan, HR3.out.kept, fun m h => by cases h; have := HJ.out; omega⟩
end Go.Proofs.Ytjgjdcikeagibaa
