/- Contracts and lemmas that the claim rests on: HoG. -/
import Derived.Test.YtnpbnlphmngbdaaGreatDoorGHoE
import Derived.Test.YtnpbnlphmngbdaaGreatDoorGHoF
import Derived.Test.YtnpbnlphmngbdaaGreatDoorGNum
import Derived.Test.YtnpbnlphmngbdaaGreatDoorGSegA
/- Numbers and groups: decimal, isGroup, Four, groups: contracts. -/
namespace Go.Proofs.YtnpbnlphmngbdaaGreatDoor
open Go.RowKit Go.Shelf
attribute [local go_sem] Oper.semAt_some

set_option maxHeartbeats 800000 in
theorem decimal_any (s : ByteArray) (most : Int) (h0 : -9223372036854775808 ≤ most) (h1 : most < 9223372036854775808) (w : World) (hs : s.size ≤ 90000) (ht : Tabs w) :
    Calls Tryz.prog 76 #[.string s, .int .i64 most] w fun e w' => e = .returned (.tuple #[.int .i64 (Nu.rd 10 most s.data.toList).1, .bool (Hp.okD most s.data.toList)]) ∧ Below w.heap.size w w' := by
  have HD := Lib.hid (Decimal_any most h0 h1 s w hs)
  have hr0 := Hp.rd_nonneg most s.data.toList
  have hr1 : (Nu.rd 10 most s.data.toList).1 < 9223372036854775808 := by
    unfold Nu.rd
    split
    · decide
    · split
      · decide
      · rename_i h; show (Nu.val 10 s.data.toList : Int) < _; omega
  have HT := Lib.hid (fun w' (h : Below w.heap.size w w') => Text_any (Nu.rd 10 most s.data.toList).1 hr1 w' (ht.stay h))
  have he : ∃ r, Hp.okD most s.data.toList = (decide ((Nu.rd 10 most s.data.toList).2 = 0) && r) ∧ r = ((Nu.tx 10 (Nu.rd 10 most s.data.toList).1).toList == s.toList) := by
    refine ⟨_, ?_, rfl⟩
    unfold Hp.okD
    congr 1
    obtain ⟨k, hk⟩ := Int.eq_ofNat_of_zero_le hr0
    rw [hk, ByteArray.toList_eq, ByteArray.toList_eq, show ((k : Int).toNat) = k from rfl, show Nu.tx 10 ((k : Nat) : Int) = Nu.tx 10 (k : Int) from rfl, Hp.tx_list, Bool.eq_iff_iff]
    simp
  obtain ⟨r, he1, he2⟩ := he
  rw [he1]
  have HE := Lib.hid he2.symm
  clear he1 he2 h0 h1 hr0 hr1 ht
  generalize Nu.rd 10 most s.data.toList = q at *
  go_enter Tryz.func76, Tryz.ntmps76
  go_wp2_with fail
  refine HD.out.mono ?_
  rintro e w1 ⟨rfl, hb1⟩
  by_cases hz : q.2 = 0
  · have hz' : (q.2 == 0) = true := by simpa using hz
    go_wp2_with fail
    refine (HT.out _ hb1).mono ?_
    rintro e w2 ⟨rfl, hb2⟩
    have he3 := HE.out
    go_wp2_with fail
    go_ret2
    exact ⟨ret_pair rfl (by rw [hz]; simp), hb1.trans (hb2.mono hb1.size)⟩
  · have hz' : (q.2 == 0) = false := by simpa using hz
    go_wp2_with fail
    go_ret2
    exact ⟨ret_pair rfl (by rw [decide_eq_false hz]; rfl), hb1⟩
set_option maxHeartbeats 800000 in
theorem isGroup_any (s : ByteArray) (w : World) (hs : s.size ≤ 1000) :
    Calls Tryz.prog 112 #[.string s] w fun e w' => e = .returned (.bool (Hp.grp s.data.toList)) ∧ Below w.heap.size w w' := by
  have HA := Lib.hid (AllHex_any s w hs)
  have hz : Hp.grp s.data.toList = (!s.toList.isEmpty && decide ((s.size : Int) ≤ 4) && s.data.toList.all Hp.hx) := by
    unfold Hp.grp
    rw [ByteArray.toList_eq]
    congr 2
    rw [decide_eq_decide]
    have : s.data.toList.length = s.size := by simp
    omega
  rw [hz]
  clear hz
  generalize s.data.toList.all Hp.hx = r at *
  go_enter Tryz.func112, Tryz.ntmps112
  go_wp2_with (go_at_call 116; refine HA.out.mono ?_; rintro e w1 ⟨rfl, hb1⟩)
  all_goals
    go_ret
    simp_all
    try first | exact Below.refl _ _ | exact ⟨fun h => absurd h (by omega), Below.refl _ _⟩
set_option maxRecDepth 100000 in
set_option maxHeartbeats 2000000 in
theorem Four_any (s : ByteArray) (w : World) (hs : s.size ≤ 1000) (ht : Tabs w) :
    Calls Tryz.prog 74 #[.string s] w fun e w' => e = .returned (.bool (Hp.fourL s.data.toList)) ∧ Below w.heap.size w w' := by
  refine (callsIn_wide (n := 6)).1 ?_
  refine callsIn_of_wp_marks Tryz.func74 rfl trivial ?_ rfl
  simp only [Tryz.ntmps74, List.size_toArray, List.length_cons, List.length_nil, Nat.reduceAdd, Nat.reduceSub, Array.replicate_succ, Array.replicate_zero, List.push_toArray, List.append_toArray, List.nil_append, List.cons_append]
  gi_wp2_with (refine ⟨trivial, ?_⟩; gi_at_call 92; refine (callsIn_wide.2 (numbers_any _ _ _)).mono ?_; rintro e w' ⟨rfl, rfl⟩)
  obtain ⟨W0, hW0⟩ : ∃ W0, (((w.alloc (.cells #[.bool false] 4)).alloc (.cells #[.int .i64 0] 3)).alloc (.cells #[.string s] 9)).alloc (.cells #[.string ⟨#[46]⟩] 9) = W0 := ⟨_, rfl⟩
  rw [hW0]
  have hB0 : Below w.heap.size w W0 := by rw [← hW0]; exact (by repeat (first | with_reducible exact Below.refl _ _ | with_reducible assumption | (with_reducible refine Below.setCell ?_ ?_ _; rotate_left; · (simp <;> omega)) | (with_reducible refine Below.alloc ?_ ?_ _; rotate_left; · (simp <;> omega)) | with_reducible refine Below.drew ?_))
  have hsz : W0.heap.size = w.heap.size + 4 := by rw [← hW0]; simp
  have c0 : W0.cell? ⟨w.heap.size, 0, none⟩ = some (.bool false) := by rw [← hW0]; simp [go_sem]
  have f0 : W0.frozen? ⟨w.heap.size, 0, none⟩ = false := by rw [← hW0]; simp [go_sem]
  have c1 : W0.cell? ⟨w.heap.size + 1, 0, none⟩ = some (.int .i64 0) := by rw [← hW0]; simp [go_sem]
  have f1 : W0.frozen? ⟨w.heap.size + 1, 0, none⟩ = false := by rw [← hW0]; simp [go_sem]
  have c2 : W0.cell? ⟨w.heap.size + 1 + 1, 0, none⟩ = some (.string s) := by rw [← hW0]; simp [go_sem]
  have c3 : W0.cell? ⟨w.heap.size + 1 + 1 + 1, 0, none⟩ = some (.string ⟨#[46]⟩) := by rw [← hW0]; simp [go_sem]
  clear hW0
  have hN := Hp.txts_few 46 s hs
  refine wpIn_rangeFunc_ownF rfl (by omega) (gf := 113) (lb := #[.pointer (some ⟨w.heap.size + 1 + 1, 0, none⟩), .pointer (some ⟨w.heap.size + 1 + 1 + 1, 0, none⟩)]) rfl trivial (enters_of Tryz.func113 (by kernel_rfl) rfl)
    (numbers_stops 5 (by omega) (w.heap.size + 1 + 1) (w.heap.size + 1 + 1 + 1) s 46 hs W0 c2 c3) (fun h k => h.trans k) (fun W l o o' hl _ _ _ => Kept.putObj W l o' ⟨by omega, by omega⟩) (Below.refl _ _) (fun _ => rfl)
    (fun pre W => (pre.all (fun x => Hp.okD 255 x.1.data.toList) = true ∧ W.cell? ⟨w.heap.size, 0, none⟩ = some (.bool false) ∧ W.frozen? ⟨w.heap.size, 0, none⟩ = false ∧ W.cell? ⟨w.heap.size + 1, 0, none⟩ = some (.int .i64 pre.length) ∧ W.frozen? ⟨w.heap.size + 1, 0, none⟩ = false) ∧ Below w.heap.size w W)
    (fun c pre W => (c = .ret ∧ pre.all (fun x => Hp.okD 255 x.1.data.toList) = false ∧ W.cell? ⟨w.heap.size, 0, none⟩ = some (.bool false)) ∧ Below w.heap.size w W)
    (OwnFrom.and (Own.from (fun s A B row hs hg hr => ⟨hs.1, cell_kept hs.2.1 hg hr, (frozen_kept hs.2.1 hg hr).trans hs.2.2.1, cell_kept hs.2.2.2.1 hg hr, (frozen_kept hs.2.2.2.1 hg hr).trans hs.2.2.2.2⟩) _) (ownFrom_below (Nat.le_refl _) (by omega)))
    (fun c => OwnFrom.and (Own.from (fun s A B row hs hg hr => ⟨hs.1, hs.2.1, cell_kept hs.2.2 hg hr⟩) _) (ownFrom_below (Nat.le_refl _) (by omega)))
    ⟨⟨rfl, c0, f0, c1, f1⟩, hB0⟩
    (fun x => { tmps := #[.string s, undef, .pointer (some ⟨w.heap.size, 0, none⟩), .pointer (some ⟨w.heap.size + 1, 0, none⟩), .string x.1, undef, undef, .string s, .func (.func 113) #[] #[.pointer (some ⟨w.heap.size + 1 + 1, 0, none⟩), .pointer (some ⟨w.heap.size + 1 + 1 + 1, 0, none⟩)], .string x.1, undef, undef, undef, undef, undef, undef, undef, undef, undef, undef, undef], defers := [] }) ?assign ?body ?done ?stop
  case assign =>
    intro l x W K hK
    gi_wp2
    exact hK
  case body =>
    rintro l pre x W ⟨⟨hp, hc0, hf0, hc1, hf1⟩, hB⟩ hlen
    have HB := Lib.hid hB
    have HP := Lib.hid hp
    have hlt0 := lt_of_cell hc0
    have hlt1 := lt_of_cell hc1
    simp only at hlt0 hlt1
    have HD := Lib.hid (decimal_any x.1 255 (by omega) (by omega) W (by have := x.2; omega) (ht.stay hB))
    clear hB hp ht c0 c1 c2 c3 f0 f1 hB0
    cases hok : Hp.okD 255 x.1.data.toList
    · rw [hok] at HD
      gi_wp2_with (refine ⟨trivial, ?_⟩; gi_at_call 76; refine (CallsIn.inRound l (callsIn_wide.2 HD.out)).mono ?_; rintro e w1 ⟨rfl, hb1⟩; have d0 := below_cell hb1 hlt0 hc0; have g0 := below_frozen hb1 hlt0 hf0; have HB1 := Lib.hid hb1; clear hb1)
      exact ⟨(KeepsOthers.of_below HB1.out).trans (KeepsOthers.setCell _ _ _), ⟨rfl, by rw [List.all_append]; simp [hok], World.cell?_setCell_same' _ _ _ (by rw [d0]; rfl)⟩, (HB.out.trans (HB1.out.mono HB.out.size)).setCell (p := ⟨w.heap.size, 0, none⟩) (Nat.le_refl _) _⟩
    · rw [hok] at HD
      gi_wp2_with (refine ⟨trivial, ?_⟩; gi_at_call 76; refine (CallsIn.inRound l (callsIn_wide.2 HD.out)).mono ?_; rintro e w1 ⟨rfl, hb1⟩; have d1 := below_cell hb1 hlt1 hc1; have g1 := below_frozen hb1 hlt1 hf1; have d0 := below_cell hb1 hlt0 hc0; have g0 := below_frozen hb1 hlt0 hf0; have HB1 := Lib.hid hb1; clear hb1)
      exact ⟨(KeepsOthers.of_below HB1.out).trans (KeepsOthers.setCell _ _ _), (Kept.of_below HB1.out).setCellL (p := ⟨w.heap.size + 1, 0, none⟩) ⟨by simp, by simp⟩ _, ⟨by rw [List.all_append, HP.out]; simp [hok], by simp [go_sem, d0], by simp [go_sem, g0], by rw [World.cell?_setCell_same' _ _ _ (by rw [d1]; rfl)]; simp, by simp [go_sem, g1]⟩, (HB.out.trans (HB1.out.mono HB.out.size)).setCell (p := ⟨w.heap.size + 1, 0, none⟩) (by simp) _⟩
  case done =>
    rintro D ys W hD rfl ⟨⟨hp, hc0, hf0, hc1, hf1⟩, hB⟩ hK
    have hres : Hp.fourL s.data.toList = (((Hp.txts 46 s).length : Int) == 4) := by
      unfold Hp.fourL
      rw [← Hp.txts_all _ 46 s hs, hp, ← Hp.txts_len, Bool.eq_iff_iff]
      simp
      omega
    gi_wp2
    obtain ⟨r, hr⟩ : ∃ r, (((Hp.txts 46 s).length : Int) == 4) = r := ⟨_, rfl⟩
    rw [hr] at hres ⊢
    have hK' := (KeepsOthers.setCell W ⟨w.heap.size, 0, none⟩ (.bool r)).same D _ hK rfl
    refine ⟨by simp, .inl ⟨_, _, rfl, run_takeDeferred hK', ?_⟩⟩
    have hc5 := cell_kept (World.cell?_setCell_same' W ⟨w.heap.size, 0, none⟩ (.bool r) (by rw [hc0]; rfl)) (grownBy_putObj' _ D (.deferred none)) (fun r e => by cases e; exact ⟨_, hK', rfl⟩)
    refine ⟨.bool r, ?_, by rw [hres], (hB.setCell (p := ⟨w.heap.size, 0, none⟩) (Nat.le_refl _) _).trans (belowK_b (w := w) (Nat.le_refl _) _ D _ _ (by omega) hK' rfl rfl)⟩
    simp [results, Tryz.f74, go_sem, hc5]
  case stop =>
    rintro D c pre W hD hpre ⟨⟨rfl, hno, hc0⟩, hB⟩ hK
    have hres : Hp.fourL s.data.toList = false := by
      unfold Hp.fourL
      rw [Hp.txts_no hs hpre hno]; rfl
    gi_wp2
    refine ⟨by simp, .inl ⟨_, _, rfl, run_takeDeferred hK, ?_⟩⟩
    have hc5 := cell_kept hc0 (grownBy_putObj' _ D (.deferred none)) (fun r e => by cases e; exact ⟨_, hK, rfl⟩)
    refine ⟨.bool false, ?_, by rw [hres], hB.trans (belowK_b (w := w) (Nat.le_refl _) W D _ _ (by omega) hK rfl rfl)⟩
    simp [results, Tryz.f74, go_sem, hc5]
end Go.Proofs.YtnpbnlphmngbdaaGreatDoor
