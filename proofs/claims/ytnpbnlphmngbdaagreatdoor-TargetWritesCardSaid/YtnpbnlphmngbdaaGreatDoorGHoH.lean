/- Contracts and lemmas that the claim rests on: HoH. -/
import Derived.Test.YtnpbnlphmngbdaaGreatDoorGHoG
/- groups: its contract. -/
namespace Go.Proofs.YtnpbnlphmngbdaaGreatDoor
open Go.RowKit Go.Shelf
attribute [local go_sem] Oper.semAt_some

namespace Hp
theorem grs_nil : grs [] = some 0 := rfl
theorem grs_yes {l : List UInt8} (h : l ≠ []) (g : (parts 58 l).all grp = true) : grs l = some (parts 58 l).length := by
  unfold grs As; rw [if_neg h, if_pos g]
theorem grs_no {l : List UInt8} (h : l ≠ []) (g : (parts 58 l).all grp = false) : grs l = none := by
  unfold grs As; rw [if_neg h, if_neg (by rw [g]; simp)]
end Hp
set_option maxRecDepth 100000 in
set_option maxHeartbeats 2000000 in
theorem groups_any (s : ByteArray) (w : World) (hs : s.size ≤ 1000) :
    Calls Tryz.prog 91 #[.string s] w fun e w' => e = .returned (.tuple #[.int .i64 (((Hp.grs s.data.toList).getD 0 : Nat) : Int), .bool (Hp.grs s.data.toList).isSome]) ∧ Below w.heap.size w w' := by
  cases hne : s.toList.isEmpty with
  | true =>
    have he : s.data.toList = [] := by rw [ByteArray.toList_eq] at hne; simpa using hne
    rw [he, Hp.grs_nil]
    go_enter Tryz.func91, Tryz.ntmps91
    go_wp2_with fail
    refine bodyPost_ret (v := .tuple #[.int .i64 0, .bool true]) (by simp [results, Tryz.f91, go_sem]) rfl ?_
    exact ⟨rfl, (by repeat (first | with_reducible exact Below.refl _ _ | with_reducible assumption | (with_reducible refine Below.setCell ?_ ?_ _; rotate_left; · (simp <;> omega)) | (with_reducible refine Below.alloc ?_ ?_ _; rotate_left; · (simp <;> omega)) | with_reducible refine Below.drew ?_))⟩
  | false =>
    have he : s.data.toList ≠ [] := by rw [ByteArray.toList_eq] at hne; simpa using hne
    refine (callsIn_wide (n := 6)).1 ?_
    refine callsIn_of_wp_marks Tryz.func91 rfl trivial ?_ rfl
    simp only [Tryz.ntmps91, List.size_toArray, List.length_cons, List.length_nil, Nat.reduceAdd, Nat.reduceSub, Array.replicate_succ, Array.replicate_zero, List.push_toArray, List.append_toArray, List.nil_append, List.cons_append]
    gi_wp2_with (refine ⟨trivial, ?_⟩; gi_at_call 92; refine (callsIn_wide.2 (numbers_any _ _ _)).mono ?_; rintro e w' ⟨rfl, rfl⟩)
    obtain ⟨W0, hW0⟩ : ∃ W0, ((((w.alloc (.cells #[.int .i64 0] 3)).alloc (.cells #[.bool false] 4)).alloc (.cells #[.int .i64 0] 3)).alloc (.cells #[.string s] 9)).alloc (.cells #[.string ⟨#[58]⟩] 9) = W0 := ⟨_, rfl⟩
    rw [hW0]
    have hB0 : Below w.heap.size w W0 := by rw [← hW0]; exact (by repeat (first | with_reducible exact Below.refl _ _ | with_reducible assumption | (with_reducible refine Below.setCell ?_ ?_ _; rotate_left; · (simp <;> omega)) | (with_reducible refine Below.alloc ?_ ?_ _; rotate_left; · (simp <;> omega)) | with_reducible refine Below.drew ?_))
    have hsz : W0.heap.size = w.heap.size + 5 := by rw [← hW0]; simp
    have c0 : W0.cell? ⟨w.heap.size, 0, none⟩ = some (.int .i64 0) := by rw [← hW0]; simp [go_sem]
    have f0 : W0.frozen? ⟨w.heap.size, 0, none⟩ = false := by rw [← hW0]; simp [go_sem]
    have c1 : W0.cell? ⟨w.heap.size + 1, 0, none⟩ = some (.bool false) := by rw [← hW0]; simp [go_sem]
    have f1 : W0.frozen? ⟨w.heap.size + 1, 0, none⟩ = false := by rw [← hW0]; simp [go_sem]
    have c2 : W0.cell? ⟨w.heap.size + 1 + 1, 0, none⟩ = some (.int .i64 0) := by rw [← hW0]; simp [go_sem]
    have f2 : W0.frozen? ⟨w.heap.size + 1 + 1, 0, none⟩ = false := by rw [← hW0]; simp [go_sem]
    have c3 : W0.cell? ⟨w.heap.size + 1 + 1 + 1, 0, none⟩ = some (.string s) := by rw [← hW0]; simp [go_sem]
    have c4 : W0.cell? ⟨w.heap.size + 1 + 1 + 1 + 1, 0, none⟩ = some (.string ⟨#[58]⟩) := by rw [← hW0]; simp [go_sem]
    clear hW0
    have hN := Hp.txts_few 58 s hs
    refine wpIn_rangeFunc_ownF rfl (by omega) (gf := 113) (lb := #[.pointer (some ⟨w.heap.size + 1 + 1 + 1, 0, none⟩), .pointer (some ⟨w.heap.size + 1 + 1 + 1 + 1, 0, none⟩)]) rfl trivial (enters_of Tryz.func113 (by kernel_rfl) rfl)
      (numbers_stops 5 (by omega) (w.heap.size + 1 + 1 + 1) (w.heap.size + 1 + 1 + 1 + 1) s 58 hs W0 c3 c4) (fun h k => h.trans k) (fun W l o o' hl _ _ _ => Kept.putObj W l o' ⟨by omega, by omega⟩) (Below.refl _ _) (fun _ => rfl)
      (fun pre W => (pre.all (fun x => Hp.grp x.1.data.toList) = true ∧ W.cell? ⟨w.heap.size, 0, none⟩ = some (.int .i64 0) ∧ W.frozen? ⟨w.heap.size, 0, none⟩ = false ∧ W.cell? ⟨w.heap.size + 1, 0, none⟩ = some (.bool false) ∧ W.frozen? ⟨w.heap.size + 1, 0, none⟩ = false ∧ W.cell? ⟨w.heap.size + 1 + 1, 0, none⟩ = some (.int .i64 pre.length) ∧ W.frozen? ⟨w.heap.size + 1 + 1, 0, none⟩ = false) ∧ Below w.heap.size w W)
      (fun c pre W => (c = .ret ∧ pre.all (fun x => Hp.grp x.1.data.toList) = false ∧ W.cell? ⟨w.heap.size, 0, none⟩ = some (.int .i64 0) ∧ W.cell? ⟨w.heap.size + 1, 0, none⟩ = some (.bool false)) ∧ Below w.heap.size w W)
      (OwnFrom.and (Own.from (fun s A B row hs hg hr => ⟨hs.1, cell_kept hs.2.1 hg hr, (frozen_kept hs.2.1 hg hr).trans hs.2.2.1, cell_kept hs.2.2.2.1 hg hr, (frozen_kept hs.2.2.2.1 hg hr).trans hs.2.2.2.2.1, cell_kept hs.2.2.2.2.2.1 hg hr, (frozen_kept hs.2.2.2.2.2.1 hg hr).trans hs.2.2.2.2.2.2⟩) _) (ownFrom_below (Nat.le_refl _) (by omega)))
      (fun c => OwnFrom.and (Own.from (fun s A B row hs hg hr => ⟨hs.1, hs.2.1, cell_kept hs.2.2.1 hg hr, cell_kept hs.2.2.2 hg hr⟩) _) (ownFrom_below (Nat.le_refl _) (by omega)))
      ⟨⟨rfl, c0, f0, c1, f1, c2, f2⟩, hB0⟩
      (fun x => { tmps := #[.string s, undef, .pointer (some ⟨w.heap.size, 0, none⟩), .pointer (some ⟨w.heap.size + 1, 0, none⟩), .pointer (some ⟨w.heap.size + 1 + 1, 0, none⟩), .string x.1, .string s, .bool false, .string s, .func (.func 113) #[] #[.pointer (some ⟨w.heap.size + 1 + 1 + 1, 0, none⟩), .pointer (some ⟨w.heap.size + 1 + 1 + 1 + 1, 0, none⟩)], .string x.1, undef, undef, undef, undef, undef, undef], defers := [] }) ?assign ?body ?done ?stop
    case assign =>
      intro l x W K hK
      gi_wp2
      exact hK
    case body =>
      rintro l pre x W ⟨⟨hp, hc0, hf0, hc1, hf1, hc2, hf2⟩, hB⟩ hlen
      have HB := Lib.hid hB
      have HP := Lib.hid hp
      have hlt0 := lt_of_cell hc0
      have hlt1 := lt_of_cell hc1
      have hlt2 := lt_of_cell hc2
      simp only at hlt0 hlt1 hlt2
      have HD := Lib.hid (isGroup_any x.1 W x.2)
      clear hB hp c0 c1 c2 c3 c4 f0 f1 f2 hB0
      cases hok : Hp.grp x.1.data.toList
      · rw [hok] at HD
        gi_wp2_with (refine ⟨trivial, ?_⟩; gi_at_call 112; refine (CallsIn.inRound l (callsIn_wide.2 HD.out)).mono ?_; rintro e w1 ⟨rfl, hb1⟩; have d0 := below_cell hb1 hlt0 hc0; have g0 := below_frozen hb1 hlt0 hf0; have d1 := below_cell hb1 hlt1 hc1; have g1 := below_frozen hb1 hlt1 hf1; have HB1 := Lib.hid hb1; clear hb1)
        exact ⟨((KeepsOthers.of_below HB1.out).trans (KeepsOthers.setCell _ _ _)).trans (KeepsOthers.setCell _ _ _), ⟨rfl, by rw [List.all_append]; simp [hok], by simp [go_sem, d0], by simp [go_sem, d1]⟩, ((HB.out.trans (HB1.out.mono HB.out.size)).setCell (p := ⟨w.heap.size, 0, none⟩) (Nat.le_refl _) _).setCell (p := ⟨w.heap.size + 1, 0, none⟩) (by simp) _⟩
      · rw [hok] at HD
        gi_wp2_with (refine ⟨trivial, ?_⟩; gi_at_call 112; refine (CallsIn.inRound l (callsIn_wide.2 HD.out)).mono ?_; rintro e w1 ⟨rfl, hb1⟩; have d2 := below_cell hb1 hlt2 hc2; have g2 := below_frozen hb1 hlt2 hf2; have d1 := below_cell hb1 hlt1 hc1; have g1 := below_frozen hb1 hlt1 hf1; have d0 := below_cell hb1 hlt0 hc0; have g0 := below_frozen hb1 hlt0 hf0; have HB1 := Lib.hid hb1; clear hb1)
        exact ⟨(KeepsOthers.of_below HB1.out).trans (KeepsOthers.setCell _ _ _), (Kept.of_below HB1.out).setCellL (p := ⟨w.heap.size + 1 + 1, 0, none⟩) ⟨by simp, by simp⟩ _, ⟨by rw [List.all_append, HP.out]; simp [hok], by simp [go_sem, d0], by simp [go_sem, g0], by simp [go_sem, d1], by simp [go_sem, g1], by rw [World.cell?_setCell_same' _ _ _ (by rw [d2]; rfl)]; simp, by simp [go_sem, g2]⟩, (HB.out.trans (HB1.out.mono HB.out.size)).setCell (p := ⟨w.heap.size + 1 + 1, 0, none⟩) (by simp; omega) _⟩
    case done =>
      rintro D ys W hD rfl ⟨⟨hp, hc0, hf0, hc1, hf1, hc2, hf2⟩, hB⟩ hK
      have hres : Hp.grs s.data.toList = some (Hp.txts 58 s).length := by
        rw [Hp.txts_len]
        exact Hp.grs_yes he (by rw [← Hp.txts_all _ 58 s hs]; exact hp)
      gi_wp2
      have hK' := ((KeepsOthers.setCell W ⟨w.heap.size, 0, none⟩ (.int .i64 (Hp.txts 58 s).length)).trans (KeepsOthers.setCell _ ⟨w.heap.size + 1, 0, none⟩ (.bool true))).same D _ hK rfl
      refine ⟨by simp, .inl ⟨_, _, rfl, run_takeDeferred hK', ?_⟩⟩
      have hc5 := cell_kept (show ((W.setCell ⟨w.heap.size, 0, none⟩ (.int .i64 (Hp.txts 58 s).length)).setCell ⟨w.heap.size + 1, 0, none⟩ (.bool true)).cell? ⟨w.heap.size, 0, none⟩ = some (.int .i64 (Hp.txts 58 s).length) from by simp [go_sem, hc0]) (grownBy_putObj' _ D (.deferred none)) (fun r e => by cases e; exact ⟨_, hK', rfl⟩)
      have hc6 := cell_kept (show ((W.setCell ⟨w.heap.size, 0, none⟩ (.int .i64 (Hp.txts 58 s).length)).setCell ⟨w.heap.size + 1, 0, none⟩ (.bool true)).cell? ⟨w.heap.size + 1, 0, none⟩ = some (.bool true) from by simp [go_sem, hc1]) (grownBy_putObj' _ D (.deferred none)) (fun r e => by cases e; exact ⟨_, hK', rfl⟩)
      refine ⟨.tuple #[.int .i64 (Hp.txts 58 s).length, .bool true], ?_, by rw [hres]; rfl, ((hB.setCell (p := ⟨w.heap.size, 0, none⟩) (Nat.le_refl _) _).setCell (p := ⟨w.heap.size + 1, 0, none⟩) (by simp) _).trans (belowK_b (w := w) (Nat.le_refl _) _ D _ _ (by omega) hK' rfl rfl)⟩
      simp [results, Tryz.f91, go_sem, hc5, hc6]
    case stop =>
      rintro D c pre W hD hpre ⟨⟨rfl, hno, hc0, hc1⟩, hB⟩ hK
      have hres : Hp.grs s.data.toList = none := Hp.grs_no he (Hp.txts_no hs hpre hno)
      gi_wp2
      refine ⟨by simp, .inl ⟨_, _, rfl, run_takeDeferred hK, ?_⟩⟩
      have hc5 := cell_kept hc0 (grownBy_putObj' _ D (.deferred none)) (fun r e => by cases e; exact ⟨_, hK, rfl⟩)
      have hc6 := cell_kept hc1 (grownBy_putObj' _ D (.deferred none)) (fun r e => by cases e; exact ⟨_, hK, rfl⟩)
      refine ⟨.tuple #[.int .i64 0, .bool false], ?_, by rw [hres]; rfl, hB.trans (belowK_b (w := w) (Nat.le_refl _) W D _ _ (by omega) hK rfl rfl)⟩
      simp [results, Tryz.f91, go_sem, hc5, hc6]
end Go.Proofs.YtnpbnlphmngbdaaGreatDoor
