/- The law RefSwaps: its walk. -/
import Derived.Test.YtnnhlkbjdfgcaaaUrX
namespace Go.Proofs.Ytnnhlkbjdfgcaaa
open Go.RowKit
set_option maxRecDepth 10000 in
set_option maxHeartbeats 1600000 in
theorem swaps11_core (s0 : ByteArray) (a : Option Addr) (len cp : Nat) (l : List Pair) (w : World) (h0 : s0.size ≤ maxLen) (hz : IsParams w a len l) (hbig : ∀ p ∈ l, p.1.size ≤ maxLen ∧ p.2.size ≤ maxLen) (hm : MaxL w) :
    Calls Try.prog 5 #[.string s0, .slice a len cp] w fun e w' => e = .returned (.bool true) ∧ Below w.heap.size w w' := by
  have HW := Lib.hid (awake11_any w hm)
  have HF := Lib.hid (fun w1 => few11_any s0 w1 h0)
  have hzs := few11_size s0
  generalize few11 s0 = s at *
  have hl := hz.small
  have HZ := Lib.hid hz
  have HL := Lib.hid hbig
  clear hz hbig hm
  obtain ⟨i0, hi, hz0, hz1, hz2⟩ := info_parts info_swap
  go_enter Try.func5, Try.ntmps5
  go_wp2_with (first | (go_at_call 6; refine HW.out.mono ?_; rintro e w1 ⟨rfl, hb1⟩; have HB1 := Lib.hid hb1; clear hb1) | (go_at_call 7; refine (HF.out _).mono ?_; rintro e w2 ⟨rfl, hw2⟩; rw [hw2]; clear hw2))
  have HZ1 := Lib.hid (HZ.out.below HB1.out)
  go_loopw [5, 6] (fun o i wr => ∃ (k : Nat) (a1 : Option Addr) (c1 : Nat), k ≤ len ∧ k ≤ 8 ∧ i = .int .i64 k ∧ o = .slice a1 k c1 ∧ Hid (OwnS wr w1.heap.size (.slice a1 k c1) k ((l.take k).map Ur.cutS)) ∧ Hid (Below w1.heap.size w1 wr)) (fun _ i _ => len - (intOf i).toNat)
  case atStart => exact ⟨0, none, 0, Nat.zero_le _, Nat.zero_le _, rfl, rfl, OwnS.nil _ _, Below.refl _ _⟩
  case round =>
    obtain ⟨k, a1, c1, hk, hk6, rfl, rfl, HO, HB⟩ := hrel
    by_cases hlt : k < len ∧ k < 8
    · obtain ⟨hlt, h6⟩ := hlt
      rcases (HZ1.out.below HB.out).2 with ⟨rfl, rfl⟩ | ⟨x, rfl, hxl, hcells⟩
      · omega
      have hz8 := HZ1.out
      obtain ⟨d0, d1⟩ := hcells k hlt
      have hkl : k < l.length := by rw [HZ.out.1]; exact hlt
      have hsn := Ur.cutS_next l k hkl
      obtain ⟨q0, q1⟩ := HL.out _ (at_mem l k hkl)
      clear hcells
      generalize at_ l k = p at *
      obtain ⟨F0, T0⟩ := p
      have FF := Lib.hid (fun w1 => few11_any F0 w1 q0)
      have FT := Lib.hid (fun w1 => few11_any T0 w1 q1)
      change (l.take k).map Ur.cutS ++ [(few11 F0, few11 T0)] = _ at hsn
      generalize few11 F0 = t at *
      generalize few11 T0 = u at *
      have HSN := Lib.hid hsn
      have hbs := HB.out.size
      have hxb : (x.add (k * 2)).block < w1.heap.size := by
        rcases hz8.2 with ⟨h, _⟩ | ⟨y, hy, _, hc⟩
        · cases h
        · cases hy
          exact lt_of_cell (hc k hlt).1
      have hrow : some (x.add (k * 2)).block ≠ (Value.slice a1 k c1).ownBlock := by
        intro e
        have := (World.ownsRow.lt HO.out _ e.symm).1
        omega
      have hnw := World.new_ne wr _ d0
      have hk0 : (0 : Int) ≤ (k : Int) := Int.natCast_nonneg _
      have hk1 : (k : Int) < (len : Int) := by omega
      clear hz8 hsn q0 q1
      go_wp2_with fail
      go_region_held_law (fun w' => w'.cell? (x.add (k * 2)) = some (.string F0) ∧ w'.cell? ⟨(x.add (k * 2)).block, (x.add (k * 2)).off + 1, none⟩ = some (.string T0))
        (first
          | go_keep
          | (go_split_ands
             refine ⟨?_, ?_⟩
             · (rw [hg2.cell_far (x.add (k * 2)) (by simp; omega) hrow]; assumption)
             · (rw [hg2.cell_far ⟨(x.add (k * 2)).block, (x.add (k * 2)).off + 1, none⟩ (by simp; omega) hrow]; assumption)))
        (first
          | (refine step_append_own (by rfl) _ _ 38 (by rfl) w1.heap.size 40 i0 _ 2 32 Try.underlying38 hi hz0 hz1 hz2 rfl (by omega) (.slice a1 k c1) k _ (by rfl) (World.ownsRow.alloc (w := wr.drew) HO.out _) ⟨wr.heap.size, 0, none⟩ 1 1 [.string t, .string u] (by rfl) (by rfl) (by intro j u hj; rcases j with _ | _ | j <;> simp at hj <;> subst hj <;> simp [go_sem]) (by intro u hu; simp at hu; rcases hu with rfl | rfl <;> rfl) (by unfold maxLen; omega) (by omega) (by simp; omega) ?_; intro v2 w2 ho2 hg2)
          | (go_simp; go_at_call_of 7 F0; refine (FF.out _).mono ?_; rintro e wx ⟨rfl, hwx⟩; rw [hwx]; clear hwx wx)
          | (go_simp; go_at_call_of 7 T0; refine (FT.out _).mono ?_; rintro e wx ⟨rfl, hwx⟩; rw [hwx]; clear hwx wx))
      all_goals
        obtain ⟨a2, c2, rfl, _⟩ := own_form ho2
        have ho3 : OwnS w2 w1.heap.size (.slice a2 (k + 1) c2) (k + 1) ((l.take (k + 1)).map Ur.cutS) := by
          rw [← HSN.out]
          show w2.ownsRow _ _ _ _ _ _
          rw [cellsP_app]
          exact ho2
        have HO3 := Lib.hid ho3
        have HB3 : Hid (Below w1.heap.size w1 w2) := (HB.out.drew.alloc (by simp; omega) _).grown hg2 (by simp; omega) (fun k hk => (World.ownsRow.lt HO.out k hk).1)
        clear hg2 HB HO ho2 ho3 d0 d1
        go_wp2
        exact ⟨⟨k + 1, a2, c2, by omega, by omega, by go_num, rfl, HO3, HB3⟩, by simp [intOf]; omega⟩
    · have hex : ¬ k < len ∨ (k < len ∧ ¬ k < 8) := by omega
      have hE : (l.take k).map Ur.cutS = Ur.fewS11 l := by
        have hl2 := HZ.out.1
        unfold Ur.fewS11
        rcases hex with h1 | ⟨h1, h2⟩
        · rw [List.take_of_length_le (by omega), List.take_of_length_le (by omega)]
        · rw [show k = 8 from by omega]
      rw [hE] at HO
      clear hE
      have HSZ := Ur.fewS11_size l
      generalize Ur.fewS11 l = m at *
      have HM := Lib.hid (OwnS.params HO.out)
      have HS1 := Lib.hid (fun w2 (h : Below wr.heap.size wr w2) => USwap_any s a1 k c1 m w2 (HM.out.below h) (by omega) HSZ)
      have HS2 := Lib.hid (fun w2 (h : Below wr.heap.size wr w2) => RSwap_any s a1 k c1 m w2 (HM.out.below h) (by omega) HSZ)
      have HS3 := Lib.hid (fun w2 => USwap_any s none 0 0 [] w2 (IsParams.none _) (by omega) (by intro p hp; cases hp))
      change Hid (∀ w2, Calls _ _ _ w2 fun e w' => e = .returned (.tuple #[.string s, .bool false]) ∧ _) at HS3
      have hk0 : ∀ b1 : Bool, True := fun _ => trivial
      rcases ho : Ur.swapL s.data.toList (m.map Ur.pl) with _ | r
      · rw [ho] at HS1 HS2
        change Hid (∀ w2, Below wr.heap.size wr w2 → Calls _ _ _ w2 fun e w' => e = .returned (.tuple #[.string s, .bool false]) ∧ _) at HS1 HS2
        clear hk0 HSZ HO HL hzs ho
        rcases hex with h1 | ⟨h1, h2⟩
        · go_wp2_with fail
          refine (HS1.out _ (Below.refl _ _)).mono ?_
          rintro e w2 ⟨rfl, hb2⟩
          have HB2 := Lib.hid hb2
          clear hb2
          go_wp2_with fail
          refine (HS2.out _ HB2.out).mono ?_
          rintro e w3 ⟨rfl, hb3⟩
          have HB3 := Lib.hid (below_then HB2.out hb3)
          clear hb3
          go_wp2_with fail
          refine (HS3.out _).mono ?_
          rintro e w4 ⟨rfl, hb4⟩
          have HB4 := Lib.hid (below_then HB3.out hb4)
          clear hb4
          go_wp2_with fail
          go_ret
          exact ⟨rfl, HB1.out.trans ((HB.out.trans (HB4.out.mono HB.out.size)).mono HB1.out.size)⟩
        · go_wp2_with fail
          refine (HS1.out _ (Below.refl _ _)).mono ?_
          rintro e w2 ⟨rfl, hb2⟩
          have HB2 := Lib.hid hb2
          clear hb2
          go_wp2_with fail
          refine (HS2.out _ HB2.out).mono ?_
          rintro e w3 ⟨rfl, hb3⟩
          have HB3 := Lib.hid (below_then HB2.out hb3)
          clear hb3
          go_wp2_with fail
          refine (HS3.out _).mono ?_
          rintro e w4 ⟨rfl, hb4⟩
          have HB4 := Lib.hid (below_then HB3.out hb4)
          clear hb4
          go_wp2_with fail
          go_ret
          exact ⟨rfl, HB1.out.trans ((HB.out.trans (HB4.out.mono HB.out.size)).mono HB1.out.size)⟩
      · rw [ho] at HS1 HS2
        change Hid (∀ w2, Below wr.heap.size wr w2 → Calls _ _ _ w2 fun e w' => e = .returned (.tuple #[.string ⟨r.toArray⟩, .bool true]) ∧ _) at HS1 HS2
        generalize (⟨r.toArray⟩ : ByteArray) = R at *
        clear hk0 HSZ HO HL hzs ho
        rcases hex with h1 | ⟨h1, h2⟩
        · go_wp2_with fail
          refine (HS1.out _ (Below.refl _ _)).mono ?_
          rintro e w2 ⟨rfl, hb2⟩
          have HB2 := Lib.hid hb2
          clear hb2
          go_wp2_with fail
          refine (HS2.out _ HB2.out).mono ?_
          rintro e w3 ⟨rfl, hb3⟩
          have HB3 := Lib.hid (below_then HB2.out hb3)
          clear hb3
          go_wp2_with fail
          refine (HS3.out _).mono ?_
          rintro e w4 ⟨rfl, hb4⟩
          have HB4 := Lib.hid (below_then HB3.out hb4)
          clear hb4
          go_wp2_with fail
          go_ret
          exact ⟨rfl, HB1.out.trans ((HB.out.trans (HB4.out.mono HB.out.size)).mono HB1.out.size)⟩
        · go_wp2_with fail
          refine (HS1.out _ (Below.refl _ _)).mono ?_
          rintro e w2 ⟨rfl, hb2⟩
          have HB2 := Lib.hid hb2
          clear hb2
          go_wp2_with fail
          refine (HS2.out _ HB2.out).mono ?_
          rintro e w3 ⟨rfl, hb3⟩
          have HB3 := Lib.hid (below_then HB2.out hb3)
          clear hb3
          go_wp2_with fail
          refine (HS3.out _).mono ?_
          rintro e w4 ⟨rfl, hb4⟩
          have HB4 := Lib.hid (below_then HB3.out hb4)
          clear hb4
          go_wp2_with fail
          go_ret
          exact ⟨rfl, HB1.out.trans ((HB.out.trans (HB4.out.mono HB.out.size)).mono HB1.out.size)⟩
end Go.Proofs.Ytnnhlkbjdfgcaaa
