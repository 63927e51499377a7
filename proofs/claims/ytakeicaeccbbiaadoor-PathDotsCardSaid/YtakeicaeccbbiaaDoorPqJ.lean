/- The document's Dots: its contract. -/
import Derived.Test.YtakeicaeccbbiaaDoorPqA
import Derived.Test.YtakeicaeccbbiaaDoorSegA
import Derived.OwnWalk
namespace Go.Proofs.YtakeicaeccbbiaaDoor
open Go.RowKit

namespace Pq
/-- What the document's Dots has at a place of its walk. -/
def outK (Sg : List (List UInt8)) (k : Nat) : List (List UInt8) := if k = Sg.length + 1 then doneK (runK ([], false) Sg) else (runK ([], false) (Sg.take (k - 1))).1
theorem outK_one {Sg : List (List UInt8)} (h : Sg ≠ []) : outK Sg 1 = [] := by
  have := List.length_pos_iff.2 h
  unfold outK
  rw [if_neg (by omega)]; rfl
theorem outK_end (Sg : List (List UInt8)) : outK Sg (Sg.length + 1) = doneK (runK ([], false) Sg) := by unfold outK; rw [if_pos rfl]
theorem outK_next (Sg : List (List UInt8)) (k : Nat) (h1 : 1 ≤ k) (hk : k < Sg.length + 1) : outK Sg (k + 1) = if k = Sg.length then doneK (stepK (outK Sg k) (Sg.getD (k - 1) [])) else (stepK (outK Sg k) (Sg.getD (k - 1) [])).1 := by
  have e : runK ([], false) (Sg.take k) = stepK (outK Sg k) (Sg.getD (k - 1) []) := by
    unfold outK
    rw [if_neg (by omega)]
    have e1 : Sg.take k = Sg.take (k - 1) ++ [Sg.getD (k - 1) []] := by
      have hlt : k - 1 < Sg.length := by omega
      conv => lhs; rw [show k = (k - 1) + 1 by omega, List.take_succ_eq_append_getElem hlt]
      rw [Hp.getD_is Sg [] (k - 1) hlt]
    rw [e1, run_snoc]
  rw [← e]
  conv => lhs; unfold outK
  by_cases hl : k = Sg.length
  · rw [if_pos (by omega), if_pos hl, List.take_of_length_le (by omega)]
  · rw [if_neg (by omega), if_neg hl]; rfl
theorem next_plain {K : List (List UInt8)} {g : List UInt8} (h1 : g ≠ [46]) (h2 : g ≠ [46, 46]) : doneK (stepK K g) = K ++ [g] ∧ (stepK K g).1 = K ++ [g] := by
  unfold stepK; rw [if_neg h1, if_neg h2]; exact ⟨rfl, rfl⟩
theorem next_one {K : List (List UInt8)} {g : List UInt8} (h1 : g = [46]) : doneK (stepK K g) = K ++ [[]] ∧ (stepK K g).1 = K := by
  unfold stepK; rw [if_pos h1]; exact ⟨rfl, rfl⟩
theorem next_two {K : List (List UInt8)} {g : List UInt8} (h1 : g ≠ [46]) (h2 : g = [46, 46]) : doneK (stepK K g) = K.dropLast ++ [[]] ∧ (stepK K g).1 = K.dropLast := by
  unfold stepK; rw [if_neg h1, if_pos h2]; exact ⟨rfl, rfl⟩
theorem flat_take_leK (K : List (List UInt8)) (j : Nat) : (flatK (K.take j)).length ≤ (flatK K).length := by
  conv => rhs; rw [← List.take_append_drop j K, flatK_append, List.length_append]
  omega
theorem flat_take_next (K : List (List UInt8)) (j : Nat) (h : j < K.length) : flatK (K.take (j + 1)) = flatK (K.take j) ++ 47 :: K.getD j [] := by
  rw [List.take_succ_eq_append_getElem h, flatK_snoc, Hp.getD_is K [] j h]
/-- The bytes of texts. -/
def bsL (O : List ByteArray) : List (List UInt8) := O.map fun x => x.data.toList
theorem bsL_snoc (O : List ByteArray) (x : ByteArray) : bsL (O ++ [x]) = bsL O ++ [x.data.toList] := by unfold bsL; simp
theorem bsL_last (O : List ByteArray) : bsL O.dropLast = (bsL O).dropLast := by unfold bsL; rw [List.map_dropLast]
theorem bsL_len (O : List ByteArray) : (bsL O).length = O.length := by unfold bsL; simp
theorem bsL_at (O : List ByteArray) (k : Nat) (h : k < O.length) : (O.getD k ByteArray.empty).data.toList = (bsL O).getD k [] := by
  rw [getD_at O k h, Hp.getD_is _ [] k (by rw [bsL_len]; exact h)]
  unfold bsL; simp
end Pq
/-- A row of texts, cut shorter by one. -/
theorem own_shorter {w : World} {B : Nat} {a : Option Addr} {n c : Nat} {O : List ByteArray} (h : w.ownsRow B 9 1 (.slice a (n + 1) c) (n + 1) (O.map Value.string)) : w.ownsRow B 9 1 (.slice a n c) n (O.dropLast.map Value.string) := by
  have hl := own_len h
  refine ⟨by rw [List.length_map, List.length_dropLast]; omega, ?_⟩
  rcases h.2 with ⟨h1, h0⟩ | ⟨g, c', cur, h1, h0, hg, h2, h3, h4, h5⟩
  · omega
  · cases h1
    refine .inr ⟨g, c, cur, rfl, h0, hg, by omega, h3, h4, ?_⟩
    rw [List.map_dropLast, ← h5, List.dropLast_eq_take, List.take_take]
    congr 1
    have := h.1
    rw [h5]
    omega
theorem own_cap {w : World} {B : Nat} {a : Option Addr} {n c : Nat} {xs : List Value} {t z : Nat} (h : w.ownsRow B t z (.slice a n c) n xs) : n ≤ c ∧ c ≤ 9223372036854775807 := by
  rcases h.2 with ⟨h1, h0⟩ | ⟨g, c', cur, h1, h0, hg, h2, h3, _⟩
  · cases h1; omega
  · cases h1; unfold maxLen at h3; omega
/-- Between two rounds of the document's Dots. -/
structure OutAt (w w1 : World) (Sg : List (List UInt8)) (k : Nat) (O : List ByteArray) (a : Option Addr) (n c : Nat) (wr : World) : Prop where
  own : wr.ownsRow w1.heap.size 9 1 (.slice a n c) n (O.map Value.string)
  below : Below w1.heap.size w1 wr
  is : Pq.bsL O = Pq.outK Sg k
  small : O.length ≤ k
set_option maxRecDepth 4000 in
set_option maxHeartbeats 3200000 in
theorem RPDots_any (s : ByteArray) (r : List UInt8) (hr : s.data.toList = 47 :: r) (w : World) (hs : s.size ≤ 1000) (hpath : Pq.pathL s.data.toList = true) :
    Calls Tryd.prog 17 #[.string s] w fun e w' => e = .returned (.string ⟨(Pq.dotsL s.data.toList).toArray⟩) ∧ Below w.heap.size w w' := by
  have HP := Lib.hid (Parts_any s 47 47 rfl w hs)
  have hpf := Hp.ptxt_few 47 s hs
  have hparts : Hp.parts 47 s.data.toList = [] :: Pq.segs s.data.toList := by rw [hr]; exact Pq.parts_path r
  have hpl := Hp.ptxt_len 47 s hs
  rw [hparts, List.length_cons] at hpl
  have hat0 := Hp.ptxt_at 47 s hs
  rw [hparts] at hat0
  have HAt := Lib.hid hat0
  have HSm := Lib.hid (Hp.ptxt_small 47 s)
  have HD : Hid (Pq.dotsL s.data.toList = Pq.flatK (Pq.doneK (Pq.runK ([], false) (Pq.segs s.data.toList)))) := rfl
  have hdl := Pq.dots_len hpath
  have hsl : s.data.toList.length = s.size := by simp
  have hne := Pq.segs_ne s.data.toList
  generalize Pq.dotsL s.data.toList = d at *
  generalize Pq.segs s.data.toList = Sg at *
  generalize Hp.ptxt 47 s = L at *
  clear hparts hat0 hpath hr
  go_enter Tryd.func17, Tryd.ntmps17
  go_wp2_with fail
  refine HP.out.mono ?_
  rintro e w1 ⟨a, n, c, rfl, ho1, hb1⟩
  have hn1 := own_len ho1
  have hz := own_strs ho1 (by omega)
  have HZ := Lib.hid hz
  have HB1 := Lib.hid hb1
  clear ho1 hb1 hz
  obtain ⟨N, hN⟩ : ∃ N, Sg.length = N := ⟨_, rfl⟩
  obtain rfl : n = N + 1 := by omega
  go_wp2_with fail
  go_loopw [3, 5] (fun o i wr => ∃ (k : Nat) (O : List ByteArray) (a' : Option Addr) (n' c' : Nat), 1 ≤ k ∧ k ≤ N + 1 ∧ o = .slice a' n' c' ∧ i = .int .i64 k ∧ OutAt w w1 Sg k O a' n' c' wr) (fun _ i _ => N + 1 - (intOf i).toNat)
  case atStart => exact ⟨1, [], none, 0, 0, by omega, by omega, rfl, rfl, World.ownsRow_nil _ _ _ _, Below.refl _ _, (Pq.outK_one hne).symm, by simp⟩
  case round =>
    obtain ⟨k, O, a', n', c', hk1, hk, rfl, rfl, hout⟩ := hrel
    have hlen := own_len hout.own
    have hsm := hout.small
    have HO := Lib.hid hout
    clear hout
    by_cases hlt : k < N + 1
    · have hkl : k < L.length := by omega
      have hx := HZ.out.below HO.out.below
      rcases hx.2 with ⟨-, h0⟩ | ⟨x, rfl, hxl, hcells⟩
      · exact absurd h0 (by omega)
      have hc := hcells k hlt
      have hat := HAt.out k hkl
      have hsz : (L.getD k ByteArray.empty).size ≤ 1000 := HSm.out _ (by rw [getD_at L k hkl]; exact List.getElem_mem _)
      obtain ⟨g, hg⟩ : ∃ g, L.getD k ByteArray.empty = g := ⟨_, rfl⟩
      rw [hg] at hc hat hsz
      have hat2 : g.data.toList = Sg.getD (k - 1) [] := by
        rw [hat]
        obtain ⟨j, rfl⟩ : ∃ j, k = j + 1 := ⟨k - 1, by omega⟩
        rfl
      have hnext := Pq.outK_next Sg k hk1 (by omega)
      rw [← hat2, ← HO.out.is, hN] at hnext
      clear hcells hx hat hat2 hg
      have HNX := Lib.hid hnext
      clear hnext
      by_cases d1 : g.data.toList = [46]
      · have e1 : (g.toList == [46]) = true := by rw [ByteArray.toList_eq, d1]; rfl
        have e2 : (g.toList == [46, 46]) = false := by rw [ByteArray.toList_eq, d1]; rfl
        obtain ⟨n1, n2⟩ := Pq.next_one (K := Pq.bsL O) d1
        by_cases hl : k = N
        · subst hl
          have HNL : Hid (Pq.outK Sg (k + 1) = Pq.doneK (Pq.stepK (Pq.bsL O) g.data.toList)) := by show _ = _; rw [HNX.out, if_pos rfl]
          go_wp2_with (at_builtin; refine wpList_append_text _ rfl _ _ rfl w1.heap.size _ n' O rfl (World.ownsRow.alloc HO.out.own _) wr.heap.size 1 ⟨#[]⟩ rfl ?_ ?_ ?_ ?_)
          all_goals first | (simp [go_sem]; done) | omega | (have := HO.out.below.size; simp; omega) | skip
          intro a4 c4 w4 ho4 hg4 hn4
          have HB4 := Lib.hid (row_grown HO.out.own (Nat.le_refl _) HO.out.below _ hg4)
          have ho5 : w4.ownsRow w1.heap.size 9 1 (.slice a4 (n' + 1) c4) (n' + 1) ((O ++ [(⟨#[]⟩ : ByteArray)]).map Value.string) := by simpa using ho4
          have HO4 := Lib.hid ho5
          clear ho4 ho5 hg4 hn4
          go_wp2_with fail
          go_roundw
          case rel => exact ⟨k + 1, O ++ [⟨#[]⟩], a4, n' + 1, c4, by omega, by omega, rfl, by go_num, HO4.out, HB4.out, by rw [HNL.out]; exact (Pq.bsL_snoc _ _).trans ((congrArg (· ++ [[]]) rfl).trans n1.symm), by first | (simp; done) | (simp; omega)⟩
          case measure => first | (simp [intOf]; done) | (simp [intOf]; omega)
        · have hq : ((k : Int) == (N : Int)) = false := by rw [beq_eq_false_iff_ne]; omega
          have HNM : Hid (Pq.outK Sg (k + 1) = (Pq.stepK (Pq.bsL O) g.data.toList).1) := by show _ = _; rw [HNX.out, if_neg hl]
          go_wp2_with fail
          go_roundw
          case rel => exact ⟨k + 1, O, a', n', c', by omega, by omega, rfl, by go_num, HO.out.own, HO.out.below, by rw [HNM.out]; exact (rfl : _ = _).trans n2.symm, by first | omega | (simp; omega)⟩
          case measure => first | (simp [intOf]; done) | (simp [intOf]; omega)
      · by_cases d2 : g.data.toList = [46, 46]
        · have e1 : (g.toList == [46]) = false := by rw [ByteArray.toList_eq, d2]; rfl
          have e2 : (g.toList == [46, 46]) = true := by rw [ByteArray.toList_eq, d2]; rfl
          obtain ⟨n1, n2⟩ := Pq.next_two (K := Pq.bsL O) d1 d2
          rcases Nat.eq_zero_or_pos n' with rfl | hpos
          · obtain rfl : O = [] := List.eq_nil_of_length_eq_zero (by omega)
            have HOB : Hid (Pq.bsL [] = (Pq.bsL []).dropLast) := rfl
            by_cases hl : k = N
            · subst hl
              have HNL : Hid (Pq.outK Sg (k + 1) = Pq.doneK (Pq.stepK (Pq.bsL []) g.data.toList)) := by show _ = _; rw [HNX.out, if_pos rfl]
              go_wp2_with (at_builtin; refine wpList_append_text _ rfl _ _ rfl w1.heap.size _ 0 [] rfl (World.ownsRow.alloc HO.out.own _) wr.heap.size 1 ⟨#[]⟩ rfl ?_ ?_ ?_ ?_)
              all_goals first | (simp [go_sem]; done) | omega | (have := HO.out.below.size; simp; omega) | skip
              intro a4 c4 w4 ho4 hg4 hn4
              have HB4 := Lib.hid (row_grown HO.out.own (Nat.le_refl _) HO.out.below _ hg4)
              have ho5 : w4.ownsRow w1.heap.size 9 1 (.slice a4 (0 + 1) c4) (0 + 1) (([] ++ [(⟨#[]⟩ : ByteArray)]).map Value.string) := by simpa using ho4
              have HO4 := Lib.hid ho5
              clear ho4 ho5 hg4 hn4
              go_wp2_with fail
              go_roundw
              case rel => exact ⟨k + 1, [] ++ [⟨#[]⟩], a4, 0 + 1, c4, by omega, by omega, rfl, by go_num, HO4.out, HB4.out, by rw [HNL.out]; exact (Pq.bsL_snoc _ _).trans ((congrArg (· ++ [[]]) HOB.out).trans n1.symm), by first | (simp; done) | (simp; omega)⟩
              case measure => first | (simp [intOf]; done) | (simp [intOf]; omega)
            · have hq : ((k : Int) == (N : Int)) = false := by rw [beq_eq_false_iff_ne]; omega
              have HNM : Hid (Pq.outK Sg (k + 1) = (Pq.stepK (Pq.bsL []) g.data.toList).1) := by show _ = _; rw [HNX.out, if_neg hl]
              go_wp2_with fail
              go_roundw
              case rel => exact ⟨k + 1, [], a', 0, c', by omega, by omega, rfl, by go_num, HO.out.own, HO.out.below, by rw [HNM.out]; exact (HOB.out : _ = _).trans n2.symm, by first | omega | (simp; omega)⟩
              case measure => first | (simp [intOf]; done) | (simp [intOf]; omega)
          · obtain ⟨m, rfl⟩ : ∃ m, n' = m + 1 := ⟨n' - 1, by omega⟩
            have HOB : Hid (Pq.bsL O.dropLast = (Pq.bsL O).dropLast) := Pq.bsL_last O
            have HS := Lib.hid (own_shorter HO.out.own)
            have hcp : (m : Int) + 1 ≤ c' ∧ (c' : Int) ≤ 9223372036854775807 := by have := own_cap HO.out.own; omega
            have hcp1 : (m : Int) ≤ c' := by omega
            have hcp0 : (0 : Int) ≤ m := by omega
            have hdl2 : O.dropLast.length = m := by rw [List.length_dropLast]; omega
            by_cases hl : k = N
            · subst hl
              have HNL : Hid (Pq.outK Sg (k + 1) = Pq.doneK (Pq.stepK (Pq.bsL O) g.data.toList)) := by show _ = _; rw [HNX.out, if_pos rfl]
              go_wp2_with (at_builtin; refine wpList_append_text _ rfl _ _ rfl w1.heap.size _ m O.dropLast rfl (World.ownsRow.alloc HS.out _) wr.heap.size 1 ⟨#[]⟩ rfl ?_ ?_ ?_ ?_)
              all_goals first | (simp [go_sem]; done) | omega | (have := HO.out.below.size; simp; omega) | skip
              intro a4 c4 w4 ho4 hg4 hn4
              have HB4 := Lib.hid (row_grown HS.out (Nat.le_refl _) HO.out.below _ hg4)
              have ho5 : w4.ownsRow w1.heap.size 9 1 (.slice a4 (m + 1) c4) (m + 1) ((O.dropLast ++ [(⟨#[]⟩ : ByteArray)]).map Value.string) := by simpa using ho4
              have HO4 := Lib.hid ho5
              clear ho4 ho5 hg4 hn4
              go_wp2_with fail
              go_roundw
              case rel => exact ⟨k + 1, O.dropLast ++ [⟨#[]⟩], a4, m + 1, c4, by omega, by omega, rfl, by go_num, HO4.out, HB4.out, by rw [HNL.out]; exact (Pq.bsL_snoc _ _).trans ((congrArg (· ++ [[]]) HOB.out).trans n1.symm), by first | (simp; done) | (simp; omega)⟩
              case measure => first | (simp [intOf]; done) | (simp [intOf]; omega)
            · have hq : ((k : Int) == (N : Int)) = false := by rw [beq_eq_false_iff_ne]; omega
              have HNM : Hid (Pq.outK Sg (k + 1) = (Pq.stepK (Pq.bsL O) g.data.toList).1) := by show _ = _; rw [HNX.out, if_neg hl]
              go_wp2_with fail
              go_roundw
              case rel => exact ⟨k + 1, O.dropLast, a', m, c', by omega, by omega, rfl, by go_num, HS.out, HO.out.below, by rw [HNM.out]; exact (HOB.out : _ = _).trans n2.symm, by first | omega | (simp; omega)⟩
              case measure => first | (simp [intOf]; done) | (simp [intOf]; omega)
        · have e1 : (g.toList == [46]) = false := by rw [ByteArray.toList_eq, beq_eq_false_iff_ne]; exact d1
          have e2 : (g.toList == [46, 46]) = false := by rw [ByteArray.toList_eq, beq_eq_false_iff_ne]; exact d2
          obtain ⟨n1, n2⟩ := Pq.next_plain (K := Pq.bsL O) d1 d2
          have HN3 : Hid (Pq.outK Sg (k + 1) = Pq.bsL O ++ [g.data.toList]) := by
            show _ = _
            rw [HNX.out]
            split
            · exact n1
            · exact n2
          go_wp2_with (at_builtin; refine wpList_append_text _ rfl _ _ rfl w1.heap.size _ n' O rfl (World.ownsRow.alloc HO.out.own _) wr.heap.size 1 g rfl ?_ ?_ ?_ ?_)
          all_goals first | (simp [go_sem]; done) | omega | (have := HO.out.below.size; simp; omega) | skip
          intro a4 c4 w4 ho4 hg4 hn4
          have HB4 := Lib.hid (row_grown HO.out.own (Nat.le_refl _) HO.out.below _ hg4)
          have ho5 : w4.ownsRow w1.heap.size 9 1 (.slice a4 (n' + 1) c4) (n' + 1) ((O ++ [g]).map Value.string) := by simpa using ho4
          have HO4 := Lib.hid ho5
          clear ho4 ho5 hg4 hn4
          go_wp2_with fail
          go_roundw
          case rel => exact ⟨k + 1, O ++ [g], a4, n' + 1, c4, by omega, by omega, rfl, by go_num, HO4.out, HB4.out, by rw [Pq.bsL_snoc, HN3.out], by simp; omega⟩
          case measure => first | (simp [intOf]; done) | (simp [intOf]; omega)
    · obtain rfl : k = N + 1 := by omega
      have hK : Pq.bsL O = Pq.doneK (Pq.runK ([], false) Sg) := by rw [HO.out.is, ← hN]; exact Pq.outK_end Sg
      have hd : d = Pq.flatK (Pq.bsL O) := by rw [hK]; exact HD.out
      have hK0 : Pq.bsL O ≠ [] := by rw [hK]; exact Pq.done_ne (Pq.run_ne Sg _ (by simp))
      have hdn : d ≠ [] := by
        obtain ⟨g, G, hg⟩ := List.exists_cons_of_ne_nil hK0
        rw [hd, hg, Pq.flatK_cons]; simp
      have HKD := Lib.hid hd
      have HDN := Lib.hid hdn
      have hz5 := own_strs HO.out.own (by omega)
      have HZ5 := Lib.hid hz5
      have hdl9 : d.length ≤ 1001 := by omega
      clear hz5 hK hd hK0 hdn
      go_wp2_with fail
      go_loopw [6, 7] (fun S i w5 => ∃ (j : Nat) (S' : ByteArray), j ≤ n' ∧ S = .string S' ∧ i = .int .i64 j ∧ S'.data.toList = Pq.flatK ((Pq.bsL O).take j) ∧ ∃ q, w5 = wr.drewN q) (fun _ i _ => n' - (intOf i).toNat)
      case atStart => exact ⟨0, ⟨#[]⟩, Nat.zero_le _, rfl, rfl, rfl, 0, rfl⟩
      case round =>
        obtain ⟨j, S, hj, rfl, rfl, hS, q, rfl⟩ := hrel
        have hSl : S.size ≤ 1001 := by
          have e1 : S.data.toList.length = S.size := by simp
          have e2 := Pq.flat_take_leK (Pq.bsL O) j
          rw [← hS, ← HKD.out] at e2
          omega
        have HS := Lib.hid hS
        clear hS
        by_cases hjt : j < n'
        · have hjl : j < O.length := by omega
          rcases HZ5.out.2 with ⟨-, h0⟩ | ⟨y, rfl, hyl, hcells⟩
          · exact absurd h0 (by omega)
          have hc := hcells j hjt
          have hat := Pq.bsL_at O j hjl
          have hnx := Pq.flat_take_next (Pq.bsL O) j (by rw [Pq.bsL_len]; exact hjl)
          obtain ⟨g, hg⟩ : ∃ g, O.getD j ByteArray.empty = g := ⟨_, rfl⟩
          rw [hg] at hc hat
          rw [← hat, ← HS.out] at hnx
          have hgl : g.size ≤ 1001 := by
            have e1 : g.data.toList.length = g.size := by simp
            have e2 := Pq.flat_take_leK (Pq.bsL O) (j + 1)
            rw [hnx, ← HKD.out, List.length_append, List.length_cons] at e2
            omega
          have hz1 : (S ++ ⟨#[47]⟩ : ByteArray).size = S.size + 1 := by rw [size_append]; rfl
          have HNX := Lib.hid hnx
          clear hcells hat hnx hg
          go_wp2_with fail
          go_roundw
          case rel => exact ⟨j + 1, S ++ ⟨#[47]⟩ ++ g, by omega, rfl, by go_num, by rw [HNX.out, list_append, list_append]; simp, q, rfl⟩
          case measure => simp [intOf]; omega
        · obtain rfl : j = n' := by omega
          have hfin : S.data.toList = d := by rw [HS.out, HKD.out, List.take_of_length_le (by rw [Pq.bsL_len]; omega)]
          have hne9 : S.toList.isEmpty = false := by
            rw [ByteArray.toList_eq, hfin]
            simpa using HDN.out
          have HF : Hid ((⟨d.toArray⟩ : ByteArray) = S) := by
            show _ = _
            rw [← hfin]
          clear hfin
          go_wp2_with fail
          go_ret
          exact ⟨congrArg (fun x => Ending.returned (.string x)) HF.out.symm, (HB1.out.trans (HO.out.below.mono HB1.out.size)).trans (below_drewN _ _ q)⟩
end Go.Proofs.YtakeicaeccbbiaaDoor
