/- Contracts and lemmas that the claim rests on: TgL. -/
import Derived.Test.YtnpbnlphmngbdaaGreatDoorGTgK
import Derived.Test.YtnpbnlphmngbdaaGreatDoorGTgG
import Derived.Test.YtnpbnlphmngbdaaGreatDoorGHoT
import Derived.LoopN
/- The document's Parse of what begins with http and is no origin: its contract. -/
namespace Go.Proofs.YtnpbnlphmngbdaaGreatDoor
open Go.RowKit

namespace Tg
theorem drop_atT (s : ByteArray) (k : Nat) (h : k < s.size) : s.data.toList.drop k = s[k] :: s.data.toList.drop (k + 1) := by
  rw [List.drop_eq_getElem_cons (by simpa using h)]; rfl
theorem host_at (s : ByteArray) (k : Nat) (h : k < s.size) : hostN (s.data.toList.drop k) = if s[k] = 47 ∨ s[k] = 63 then 0 else hostN (s.data.toList.drop (k + 1)) + 1 := by
  rw [drop_atT s k h, hostN]
theorem beh_no {s r : List UInt8} (h : Hp.prs (r.take (hostN r)) = none) : beh s r = none := by unfold beh; rw [h]
theorem beh_yes {s r : List UInt8} {h : Int × List UInt8 × Int} (e : Hp.prs (r.take (hostN r)) = some h) : beh s r = rest (T.a2 s h) (r.drop (hostN r)) := by unfold beh; rw [e]
theorem beh_end {s r : List UInt8} {h : Int × List UInt8 × Int} (e : Hp.prs (r.take (hostN r)) = some h) (d : r.drop (hostN r) = []) : beh s r = some (T.a2 s h) := by rw [beh_yes e, d]; rfl
theorem beh_ask {s r q : List UInt8} {h : Int × List UInt8 × Int} (e : Hp.prs (r.take (hostN r)) = some h) (d : r.drop (hostN r) = 63 :: q) : beh s r = if Pq.queryL q then some ((T.a2 s h).put [] q true) else none := by rw [beh_yes e, d, rest, if_pos rfl]
theorem beh_way {s r q : List UInt8} {h : Int × List UInt8 × Int} (e : Hp.prs (r.take (hostN r)) = some h) (d : r.drop (hostN r) = 47 :: q) : beh s r = get (origR (T.a2 s h) (47 :: q)) := by rw [beh_yes e, d, rest, if_neg (by decide), origR_get]
end Tg
set_option maxHeartbeats 4000000 in
theorem RTParse_http (m s : ByteArray) (w : World) (hs : s.size ≤ 900) (e1 : (m.toList == [67, 79, 78, 78, 69, 67, 84]) = false)
    (_e4 : (s.toList == [42]) = false ∨ ((s.toList == [42]) = true ∧ (m.toList == [79, 80, 84, 73, 79, 78, 83]) = false)) (hog : Tg.orig Tg.T.o1 s.data.toList = none) (c7 : B.fold (s.data.toList.take 7) = Tg.http ++ Tg.sep) :
    Calls Tryz.prog 8 #[.string m, .string s] w fun e w' => e = .returned (parV (Tg.beh Tg.http (s.data.toList.drop 7))) ∧ Below w.heap.size w w' := by
  have hb0 : ∀ o, Below w.heap.size w (w.alloc o) := fun o => (Below.refl _ _).alloc (Nat.le_refl _) _
  have HB0 := Lib.hid hb0
  have HT0 := Lib.hid (tgAt_new w 0 ⟨#[]⟩ 0 ⟨#[]⟩ 0 ⟨#[]⟩ ⟨#[]⟩ false)
  have HO := Lib.hid (fun w1 => ROrigin_t Tg.T.o1 s w1 (by omega) rfl)
  have HOY := Lib.hid (fun t s w1 h1 h2 => ROrigin_t t s w1 h1 h2)
  clear hb0
  rw [← Tg.origR_get] at hog
  unfold Tg.get at hog
  generalize Tg.origR Tg.T.o1 s.data.toList = X at *
  rw [show tgV Tg.T.o1 = tv 1 ⟨#[]⟩ 0 ⟨#[]⟩ 0 ⟨#[]⟩ ⟨#[]⟩ false from rfl] at HO
  obtain ⟨⟨k1, sch1, ⟨hk1, nm1, p1⟩, pa1, qu1, ha1⟩, b1⟩ := X
  cases b1
  case true => cases hog
  unfold tgV at HO
  simp only at HO
  generalize (⟨sch1.toArray⟩ : ByteArray) = S1 at *
  generalize (⟨nm1.toArray⟩ : ByteArray) = N1 at *
  generalize (⟨pa1.toArray⟩ : ByteArray) = PA1 at *
  generalize (⟨qu1.toArray⟩ : ByteArray) = QU1 at *
  unfold tv at HO
  have hz : s.data.toList.length = s.size := by simp
  have h7 : 7 ≤ s.size := by
    have := congrArg List.length c7
    rw [B.fold_length, List.length_take, hz] at this
    have e : (Tg.http ++ Tg.sep).length = 7 := rfl
    omega
  have h7' : (7 : Int) ≤ s.size := by omega
  have e4' : (s.toList == [42]) = false := by
    rw [eq_list, decide_eq_false_iff_not]
    intro h
    have := congrArg List.length h
    rw [hz] at this
    simp at this
    omega
  have HF7 := Lib.hid (fun w1 => RFold_any (s.extract 0 7) w1 (by simp [ByteArray.size_extract]; omega))
  have hf7 : ((B.foldS (s.extract 0 7)).toList == ((⟨#[104, 116, 116, 112]⟩ : ByteArray) ++ ⟨#[58, 47, 47]⟩).toList) = true := by
    rw [ByteArray.toList_eq, ByteArray.toList_eq, list_append]
    unfold B.foldS
    rw [Hp.ext_start, c7]; rfl
  obtain ⟨X7, hX7⟩ : ∃ X, s.extract 0 7 = X := ⟨_, rfl⟩
  rw [hX7] at HF7 hf7
  generalize B.foldS X7 = F7 at *
  obtain ⟨Y, hY⟩ : ∃ Y, s.extract 7 s.size = Y := ⟨_, rfl⟩
  have hYl : Y.data.toList = s.data.toList.drop 7 := by rw [← hY, Hp.ext_end]
  have hYz : Y.size ≤ 900 := by rw [← hY]; simp [ByteArray.size_extract]; omega
  rw [← hYl]
  have hYn : Y.data.toList.length = Y.size := by simp
  obtain ⟨V, hV⟩ : ∃ V, parV (Tg.beh Tg.http Y.data.toList) = V := ⟨_, rfl⟩
  rw [hV]
  have HV := Lib.hid hV
  clear hV
  clear c7 hYl _e4 hog
  go_enter Tryz.func8, Tryz.ntmps8
  go_wp2_with fail
  refine (HO.out _).mono ?_
  rintro e w1 ⟨rfl, hb1⟩
  have HT1 := Lib.hid (HT0.out.below hb1 (by simp))
  have HB1 := Lib.hid ((HB0.out (.cells #[.int .i64 0, .string ⟨#[]⟩, .int .i64 0, .string ⟨#[]⟩, .int .i64 0, .string ⟨#[]⟩, .string ⟨#[]⟩, .bool false] 29)).trans (hb1.mono (by simp)))
  clear hb1
  go_wp2_with fail
  generalize hW : (w1.alloc (.cells #[.int .i64 k1, .string S1, .int .i64 hk1, .string N1, .int .i64 p1, .string PA1, .string QU1, .bool ha1] 29)).alloc (.cells #[.string ⟨#[104, 116, 116, 112]⟩, .string ⟨#[104, 116, 116, 112, 115]⟩] 9) = Wa
  have hBW : Below w1.heap.size w1 Wa := by rw [← hW]; exact ((Below.refl _ _).alloc (Nat.le_refl _) _).alloc (by simp) _
  have HTa := Lib.hid (HT1.out.below hBW HT1.out.lt)
  have HBa := Lib.hid (HB1.out.trans (hBW.mono HB1.out.size))
  have xa0 : Wa.cell? ⟨w1.heap.size + 1, 0, none⟩ = some (.string ⟨#[104, 116, 116, 112]⟩) := by rw [← hW]; simp [go_sem]
  have xa1 : Wa.cell? ⟨w1.heap.size + 1, 1, none⟩ = some (.string ⟨#[104, 116, 116, 112, 115]⟩) := by rw [← hW]; simp [go_sem]
  have hza : w1.heap.size + 1 < Wa.heap.size := by rw [← hW]; simp
  have hw1 : w.heap.size ≤ w1.heap.size := HB1.out.size
  clear hW hBW HT1 HB1 HO HT0 HB0
  refine wp_loop_rounds 1 ?_
  rw [rounds_succ]
  go_wp2_with fail
  refine (HF7.out _).mono ?_
  rintro e Wb ⟨rfl, n7, hw7⟩
  have xb0 : Wb.cell? ⟨w1.heap.size + 1, 0, none⟩ = some (.string ⟨#[104, 116, 116, 112]⟩) := by rw [hw7]; simp [go_sem, xa0]
  have xb1 : Wb.cell? ⟨w1.heap.size + 1, 1, none⟩ = some (.string ⟨#[104, 116, 116, 112, 115]⟩) := by rw [hw7]; simp [go_sem, xa1]
  have hB7 : Below Wa.heap.size Wa Wb := by rw [hw7]; exact below_drewN _ _ _
  have HTb := Lib.hid (HTa.out.below hB7 HTa.out.lt)
  have HBb := Lib.hid (HBa.out.trans (hB7.mono HBa.out.size))
  have hzb : w1.heap.size + 1 < Wb.heap.size := Nat.lt_of_lt_of_le hza hB7.size
  clear hw7 hB7 HTa HBa xa0 xa1 hza
  clear xb0 xb1 hzb
  go_wp2_with fail
  go_loopw [13] (fun i wr => ∃ k : Nat, k ≤ Y.size ∧ i = .int .i64 k ∧ k + Tg.hostN (Y.data.toList.drop k) = Tg.hostN Y.data.toList ∧ wr = Wb) (fun i _ => Y.size - (intOf i).toNat)
  case atStart => exact ⟨0, Nat.zero_le _, rfl, by rw [List.drop_zero]; omega, rfl⟩
  case round =>
    obtain ⟨k, hk, rfl, hno, hw⟩ := hrel
    subst hw
    by_cases hlt : k < Y.size
    · rw [Tg.host_at Y k hlt] at hno
      by_cases h47 : Y[k] = 47
      · rw [if_pos (.inl h47)] at hno
        have hkN : Tg.hostN Y.data.toList = k := by omega
        have b47 : (Y[k].toNat : Int) = 47 := by rw [h47]; rfl
        clear hno
        have HPk := Lib.hid (fun w1 => RHParse_any (Y.extract 0 k) w1 (by simp [ByteArray.size_extract]; omega))
        rw [Hp.prs_eq, Hp.ext_start] at HPk
        obtain ⟨Xk, hXk⟩ : ∃ X, Y.extract 0 k = X := ⟨_, rfl⟩
        rw [hXk] at HPk
        have hk1 : (k : Int) ≤ Y.size := by omega
        obtain ⟨o, ho⟩ : ∃ o, Hp.prs (Y.data.toList.take k) = o := ⟨_, rfl⟩
        rw [ho] at HPk
        cases o with
        | none =>
          have HVN := Lib.hid (show V = parV none by rw [← HV.out, Tg.beh_no (by rw [hkN]; exact ho)])
          unfold prsV hostV at HPk
          simp only at HPk
          clear ho hkN
          go_wp2_with fail
          refine (HPk.out _).mono ?_
          rintro e W3 ⟨rfl, hb3⟩
          have HT3 := Lib.hid (HTb.out.below hb3 HTb.out.lt)
          have HB3 := Lib.hid (HBb.out.trans (hb3.mono HBb.out.size))
          have hwW := HB3.out.size
          clear hb3
          obtain ⟨d0, d1, d2, d3, d4, d5, d6, d7, g0, g1, g2, g3, g4, g5, g6, g7, l2⟩ := HT3.out
          go_wp2_with fail
          refine bodyPost_ret (v := .tuple #[tv 0 ⟨#[]⟩ 0 ⟨#[]⟩ 0 ⟨#[]⟩ ⟨#[]⟩ false, .int .i64 20]) (by simp [results, tv, Tryz.results8, go_sem, l2, d0, d1, d2, d3, d4, d5, d6, d7]) rfl ⟨by rw [HVN.out]; rfl, ?_⟩
          exact (putT_below HB3.out (Nat.le_refl _) _ _ _ _ _ _ _ _).alloc (by simp; omega) _
        | some x =>
          obtain ⟨kh, nmh, ph⟩ := x
          have hdr : Y.data.toList.drop (Tg.hostN Y.data.toList) = 47 :: Y.data.toList.drop (k + 1) := by rw [hkN, Tg.drop_atT Y k hlt, h47]
          have hbeh := Tg.beh_way (s := Tg.http) (h := (kh, nmh, ph)) (by rw [hkN]; exact ho) hdr
          have HOk := Lib.hid (fun w1 => HOY.out (Tg.T.a2 Tg.http (kh, nmh, ph)) (Y.extract k Y.size) w1 (by simp [ByteArray.size_extract]; omega) rfl)
          have hYk : (Y.extract k Y.size).data.toList = 47 :: Y.data.toList.drop (k + 1) := by rw [Hp.ext_end, Tg.drop_atT Y k hlt, h47]
          rw [hYk, show tgV (Tg.T.a2 Tg.http (kh, nmh, ph)) = tv 2 ⟨#[104, 116, 116, 112]⟩ kh ⟨nmh.toArray⟩ ph ⟨#[]⟩ ⟨#[]⟩ false from rfl] at HOk
          generalize Tg.origR (Tg.T.a2 Tg.http (kh, nmh, ph)) (47 :: Y.data.toList.drop (k + 1)) = Z at *
          obtain ⟨⟨k2, sch2, ⟨hk2, nm2, p2⟩, pa2, qu2, ha2⟩, b2⟩ := Z
          obtain ⟨Qk, hQk⟩ : ∃ X, Y.extract k Y.size = X := ⟨_, rfl⟩
          rw [hQk] at HOk
          unfold prsV hostV at HPk
          unfold tgV at HOk
          simp only at HPk HOk
          have hk3 : (k : Int) < Y.size := by omega
          clear ho hkN hdr hYk
          cases b2
          · have HVN := Lib.hid (show V = parV none by rw [← HV.out, hbeh]; rfl)
            generalize (⟨nmh.toArray⟩ : ByteArray) = NH at *
            generalize (⟨sch2.toArray⟩ : ByteArray) = S2 at *
            generalize (⟨nm2.toArray⟩ : ByteArray) = N2 at *
            generalize (⟨pa2.toArray⟩ : ByteArray) = PA2 at *
            generalize (⟨qu2.toArray⟩ : ByteArray) = QU2 at *
            unfold tv at HOk
            clear hbeh
            go_wp2_with fail
            refine (HPk.out _).mono ?_
            rintro e W3 ⟨rfl, hb3⟩
            have HT3 := Lib.hid (HTb.out.below hb3 HTb.out.lt)
            have HB3 := Lib.hid (HBb.out.trans (hb3.mono HBb.out.size))
            have hwW := HB3.out.size
            clear hb3
            go_wp2_with fail
            generalize hW4 : (W3.alloc (.cells #[.int .i64 kh, .string NH, .int .i64 ph] 27)).alloc (.cells #[.int .i64 2, .string ⟨#[104, 116, 116, 112]⟩, .int .i64 kh, .string NH, .int .i64 ph, .string ⟨#[]⟩, .string ⟨#[]⟩, .bool false] 29) = W4
            have hB4 : Below W3.heap.size W3 W4 := by rw [← hW4]; exact ((Below.refl _ _).alloc (Nat.le_refl _) _).alloc (by simp) _
            have HT4 := Lib.hid (HT3.out.below hB4 HT3.out.lt)
            have HB4 := Lib.hid (HB3.out.trans (hB4.mono HB3.out.size))
            have HU4 := Lib.hid (show TgAt W4 (W3.heap.size + 1) 2 ⟨#[104, 116, 116, 112]⟩ kh NH ph ⟨#[]⟩ ⟨#[]⟩ false by
              have := tgAt_new (W3.alloc (.cells #[.int .i64 kh, .string NH, .int .i64 ph] 27)) 2 ⟨#[104, 116, 116, 112]⟩ kh NH ph ⟨#[]⟩ ⟨#[]⟩ false
              rw [World.size_alloc, hW4] at this
              exact this)
            have hne : w.heap.size ≠ W3.heap.size + 1 := by omega
            clear hW4 hB4 HT3 HB3
            obtain ⟨c0, c1, c2, c3, c4, c5, c6, c7, f0, f1, f2, f3, f4, f5, f6, f7, l3⟩ := HU4.out
            first
              | go_region_with (go_at_call 15; refine (HOk.out _).mono ?_; rintro e W5 ⟨rfl, hb5⟩; have HT5 := Lib.hid (HT4.out.below ((Below.refl W4.heap.size W4).drew.trans (hb5.mono (by simp))) HT4.out.lt); have HB5 := Lib.hid (HB4.out.drew.trans (hb5.mono (by simp; exact HB4.out.size))); have HU5 := Lib.hid (HU4.out.below ((Below.refl W4.heap.size W4).drew.trans (hb5.mono (by simp))) HU4.out.lt); obtain ⟨c0, c1, c2, c3, c4, c5, c6, c7, f0, f1, f2, f3, f4, f5, f6, f7, l3⟩ := HU5.out; obtain ⟨d0, d1, d2, d3, d4, d5, d6, d7, g0, g1, g2, g3, g4, g5, g6, g7, l2⟩ := HT5.out; clear hb5)
              | fail
            generalize hW6 : ((((((((W5.setCell ⟨W3.heap.size + 1, 0, none⟩ (.int .i64 k2)).setCell ⟨W3.heap.size + 1, 1, none⟩ (.string S2)).setCell ⟨W3.heap.size + 1, 2, none⟩ (.int .i64 hk2)).setCell ⟨W3.heap.size + 1, 3, none⟩ (.string N2)).setCell ⟨W3.heap.size + 1, 4, none⟩ (.int .i64 p2)).setCell ⟨W3.heap.size + 1, 5, none⟩ (.string PA2)).setCell ⟨W3.heap.size + 1, 6, none⟩ (.string QU2)).setCell ⟨W3.heap.size + 1, 7, none⟩ (.bool ha2)) = W6
            have HW6 := Lib.hid (show putT W5 (W3.heap.size + 1) k2 S2 hk2 N2 p2 PA2 QU2 ha2 = W6 from hW6)
            clear hW6 c0 c1 c2 c3 c4 c5 c6 c7 f0 f1 f2 f3 f4 f5 f6 f7 l3 d0 d1 d2 d3 d4 d5 d6 d7 g0 g1 g2 g3 g4 g5 g6 g7 l2
            have hT6 := HT5.out.other (b := W3.heap.size + 1) hne k2 S2 hk2 N2 p2 PA2 QU2 ha2
            have hU6 := HU5.out.put k2 S2 hk2 N2 p2 PA2 QU2 ha2
            have HB6 := Lib.hid (putT_belowP (b := W3.heap.size + 1) (k := k2) (sch := S2) (hk := hk2) (nm := N2) (p := p2) (pa := PA2) (qu := QU2) (ha := ha2) HB5.out (by omega))
            rw [HW6.out] at hT6 hU6 HB6
            obtain ⟨c0, c1, c2, c3, c4, c5, c6, c7, f0, f1, f2, f3, f4, f5, f6, f7, l3⟩ := hU6
            obtain ⟨d0, d1, d2, d3, d4, d5, d6, d7, g0, g1, g2, g3, g4, g5, g6, g7, l2⟩ := hT6
            go_wp2_with fail
            refine bodyPost_ret (v := .tuple #[tv 0 ⟨#[]⟩ 0 ⟨#[]⟩ 0 ⟨#[]⟩ ⟨#[]⟩ false, .int .i64 20]) (by simp [results, tv, Tryz.results8, go_sem, d0, d1, d2, d3, d4, d5, d6, d7]) rfl ⟨by rw [HVN.out]; rfl, ?_⟩
            exact putT_below HB6.out (Nat.le_refl _) _ _ _ _ _ _ _ _
          · have HVN := Lib.hid (show V = .tuple #[tv k2 ⟨sch2.toArray⟩ hk2 ⟨nm2.toArray⟩ p2 ⟨pa2.toArray⟩ ⟨qu2.toArray⟩ ha2, .int .i64 0] by rw [← HV.out, hbeh]; rfl)
            generalize (⟨nmh.toArray⟩ : ByteArray) = NH at *
            generalize (⟨sch2.toArray⟩ : ByteArray) = S2 at *
            generalize (⟨nm2.toArray⟩ : ByteArray) = N2 at *
            generalize (⟨pa2.toArray⟩ : ByteArray) = PA2 at *
            generalize (⟨qu2.toArray⟩ : ByteArray) = QU2 at *
            unfold tv at HOk
            clear hbeh
            go_wp2_with fail
            refine (HPk.out _).mono ?_
            rintro e W3 ⟨rfl, hb3⟩
            have HT3 := Lib.hid (HTb.out.below hb3 HTb.out.lt)
            have HB3 := Lib.hid (HBb.out.trans (hb3.mono HBb.out.size))
            have hwW := HB3.out.size
            clear hb3
            go_wp2_with fail
            generalize hW4 : (W3.alloc (.cells #[.int .i64 kh, .string NH, .int .i64 ph] 27)).alloc (.cells #[.int .i64 2, .string ⟨#[104, 116, 116, 112]⟩, .int .i64 kh, .string NH, .int .i64 ph, .string ⟨#[]⟩, .string ⟨#[]⟩, .bool false] 29) = W4
            have hB4 : Below W3.heap.size W3 W4 := by rw [← hW4]; exact ((Below.refl _ _).alloc (Nat.le_refl _) _).alloc (by simp) _
            have HT4 := Lib.hid (HT3.out.below hB4 HT3.out.lt)
            have HB4 := Lib.hid (HB3.out.trans (hB4.mono HB3.out.size))
            have HU4 := Lib.hid (show TgAt W4 (W3.heap.size + 1) 2 ⟨#[104, 116, 116, 112]⟩ kh NH ph ⟨#[]⟩ ⟨#[]⟩ false by
              have := tgAt_new (W3.alloc (.cells #[.int .i64 kh, .string NH, .int .i64 ph] 27)) 2 ⟨#[104, 116, 116, 112]⟩ kh NH ph ⟨#[]⟩ ⟨#[]⟩ false
              rw [World.size_alloc, hW4] at this
              exact this)
            have hne : w.heap.size ≠ W3.heap.size + 1 := by omega
            clear hW4 hB4 HT3 HB3
            obtain ⟨c0, c1, c2, c3, c4, c5, c6, c7, f0, f1, f2, f3, f4, f5, f6, f7, l3⟩ := HU4.out
            first
              | go_region_with (go_at_call 15; refine (HOk.out _).mono ?_; rintro e W5 ⟨rfl, hb5⟩; have HT5 := Lib.hid (HT4.out.below ((Below.refl W4.heap.size W4).drew.trans (hb5.mono (by simp))) HT4.out.lt); have HB5 := Lib.hid (HB4.out.drew.trans (hb5.mono (by simp; exact HB4.out.size))); have HU5 := Lib.hid (HU4.out.below ((Below.refl W4.heap.size W4).drew.trans (hb5.mono (by simp))) HU4.out.lt); obtain ⟨c0, c1, c2, c3, c4, c5, c6, c7, f0, f1, f2, f3, f4, f5, f6, f7, l3⟩ := HU5.out; obtain ⟨d0, d1, d2, d3, d4, d5, d6, d7, g0, g1, g2, g3, g4, g5, g6, g7, l2⟩ := HT5.out; clear hb5)
              | fail
            generalize hW6 : ((((((((W5.setCell ⟨W3.heap.size + 1, 0, none⟩ (.int .i64 k2)).setCell ⟨W3.heap.size + 1, 1, none⟩ (.string S2)).setCell ⟨W3.heap.size + 1, 2, none⟩ (.int .i64 hk2)).setCell ⟨W3.heap.size + 1, 3, none⟩ (.string N2)).setCell ⟨W3.heap.size + 1, 4, none⟩ (.int .i64 p2)).setCell ⟨W3.heap.size + 1, 5, none⟩ (.string PA2)).setCell ⟨W3.heap.size + 1, 6, none⟩ (.string QU2)).setCell ⟨W3.heap.size + 1, 7, none⟩ (.bool ha2)) = W6
            have HW6 := Lib.hid (show putT W5 (W3.heap.size + 1) k2 S2 hk2 N2 p2 PA2 QU2 ha2 = W6 from hW6)
            clear hW6 c0 c1 c2 c3 c4 c5 c6 c7 f0 f1 f2 f3 f4 f5 f6 f7 l3 d0 d1 d2 d3 d4 d5 d6 d7 g0 g1 g2 g3 g4 g5 g6 g7 l2
            have hT6 := HT5.out.other (b := W3.heap.size + 1) hne k2 S2 hk2 N2 p2 PA2 QU2 ha2
            have hU6 := HU5.out.put k2 S2 hk2 N2 p2 PA2 QU2 ha2
            have HB6 := Lib.hid (putT_belowP (b := W3.heap.size + 1) (k := k2) (sch := S2) (hk := hk2) (nm := N2) (p := p2) (pa := PA2) (qu := QU2) (ha := ha2) HB5.out (by omega))
            rw [HW6.out] at hT6 hU6 HB6
            obtain ⟨c0, c1, c2, c3, c4, c5, c6, c7, f0, f1, f2, f3, f4, f5, f6, f7, l3⟩ := hU6
            obtain ⟨d0, d1, d2, d3, d4, d5, d6, d7, g0, g1, g2, g3, g4, g5, g6, g7, l2⟩ := hT6
            go_wp2_with fail
            refine bodyPost_ret (v := .tuple #[tv k2 S2 hk2 N2 p2 PA2 QU2 ha2, .int .i64 0]) (by simp [results, tv, Tryz.results8, go_sem, d0, d1, d2, d3, d4, d5, d6, d7]) rfl ⟨by rw [HVN.out], ?_⟩
            exact putT_below HB6.out (Nat.le_refl _) _ _ _ _ _ _ _ _
      · by_cases h63 : Y[k] = 63
        · rw [if_pos (.inr h63)] at hno
          have hkN : Tg.hostN Y.data.toList = k := by omega
          have b63 : (Y[k].toNat : Int) = 63 := by rw [h63]; rfl
          clear hno
          have HPk := Lib.hid (fun w1 => RHParse_any (Y.extract 0 k) w1 (by simp [ByteArray.size_extract]; omega))
          rw [Hp.prs_eq, Hp.ext_start] at HPk
          obtain ⟨Xk, hXk⟩ : ∃ X, Y.extract 0 k = X := ⟨_, rfl⟩
          rw [hXk] at HPk
          have hk1 : (k : Int) ≤ Y.size := by omega
          obtain ⟨o, ho⟩ : ∃ o, Hp.prs (Y.data.toList.take k) = o := ⟨_, rfl⟩
          rw [ho] at HPk
          cases o with
          | none =>
            have HVN := Lib.hid (show V = parV none by rw [← HV.out, Tg.beh_no (by rw [hkN]; exact ho)])
            unfold prsV hostV at HPk
            simp only at HPk
            clear ho hkN
            go_wp2_with fail
            refine (HPk.out _).mono ?_
            rintro e W3 ⟨rfl, hb3⟩
            have HT3 := Lib.hid (HTb.out.below hb3 HTb.out.lt)
            have HB3 := Lib.hid (HBb.out.trans (hb3.mono HBb.out.size))
            have hwW := HB3.out.size
            clear hb3
            obtain ⟨d0, d1, d2, d3, d4, d5, d6, d7, g0, g1, g2, g3, g4, g5, g6, g7, l2⟩ := HT3.out
            go_wp2_with fail
            refine bodyPost_ret (v := .tuple #[tv 0 ⟨#[]⟩ 0 ⟨#[]⟩ 0 ⟨#[]⟩ ⟨#[]⟩ false, .int .i64 20]) (by simp [results, tv, Tryz.results8, go_sem, l2, d0, d1, d2, d3, d4, d5, d6, d7]) rfl ⟨by rw [HVN.out]; rfl, ?_⟩
            exact (putT_below HB3.out (Nat.le_refl _) _ _ _ _ _ _ _ _).alloc (by simp; omega) _
          | some x =>
            obtain ⟨kh, nmh, ph⟩ := x
            have hdr : Y.data.toList.drop (Tg.hostN Y.data.toList) = 63 :: Y.data.toList.drop (k + 1) := by rw [hkN, Tg.drop_atT Y k hlt, h63]
            have hbeh := Tg.beh_ask (s := Tg.http) (h := (kh, nmh, ph)) (by rw [hkN]; exact ho) hdr
            have HQk := Lib.hid (fun w1 => RPQuery_any (Y.extract (k + 1) Y.size) w1 (by simp [ByteArray.size_extract]; omega))
            rw [Hp.ext_end] at HQk
            have hQl : (Y.extract (k + 1) Y.size) = ⟨(Y.data.toList.drop (k + 1)).toArray⟩ := bytes_eq (by rw [Hp.ext_end])
            generalize Y.data.toList.drop (k + 1) = q at *
            obtain ⟨Qk, hQk⟩ : ∃ X, Y.extract (k + 1) Y.size = X := ⟨_, rfl⟩
            rw [hQk] at HQk hQl
            unfold prsV hostV at HPk
            simp only at HPk
            generalize hbq : Pq.queryL q = bq at *
            have hk2 : (k : Int) + 1 ≤ Y.size := by omega
            have hk3 : (k : Int) < Y.size := by omega
            clear ho hkN hdr
            cases bq
            · have HVN := Lib.hid (show V = parV none by rw [← HV.out, hbeh, if_neg (by simp)])
              generalize (⟨nmh.toArray⟩ : ByteArray) = NH at *
              clear hbeh hQl hbq
              go_wp2_with fail
              refine (HPk.out _).mono ?_
              rintro e W3 ⟨rfl, hb3⟩
              have HT3 := Lib.hid (HTb.out.below hb3 HTb.out.lt)
              have HB3 := Lib.hid (HBb.out.trans (hb3.mono HBb.out.size))
              have hwW := HB3.out.size
              clear hb3
              obtain ⟨d0, d1, d2, d3, d4, d5, d6, d7, g0, g1, g2, g3, g4, g5, g6, g7, l2⟩ := HT3.out
              go_wp2_with (go_at_call 17; refine (HQk.out _).mono ?_; rintro e W4 ⟨rfl, hw4⟩; subst hw4)
              refine bodyPost_ret (v := .tuple #[tv 0 ⟨#[]⟩ 0 ⟨#[]⟩ 0 ⟨#[]⟩ ⟨#[]⟩ false, .int .i64 20]) (by simp [results, tv, Tryz.results8, go_sem, l2, d0, d1, d2, d3, d4, d5, d6, d7]) rfl ⟨by rw [HVN.out]; rfl, ?_⟩
              exact ((putT_below HB3.out (Nat.le_refl _) _ _ _ _ _ _ _ _).alloc (by simp; omega) _).alloc (by simp; omega) _
            · have HVN := Lib.hid (show V = .tuple #[tv 2 ⟨#[104, 116, 116, 112]⟩ kh ⟨nmh.toArray⟩ ph ⟨#[]⟩ Qk true, .int .i64 0] by rw [← HV.out, hbeh, if_pos rfl, hQl]; rfl)
              generalize (⟨nmh.toArray⟩ : ByteArray) = NH at *
              clear hbeh hQl hbq
              go_wp2_with fail
              refine (HPk.out _).mono ?_
              rintro e W3 ⟨rfl, hb3⟩
              have HT3 := Lib.hid (HTb.out.below hb3 HTb.out.lt)
              have HB3 := Lib.hid (HBb.out.trans (hb3.mono HBb.out.size))
              have hwW := HB3.out.size
              clear hb3
              obtain ⟨d0, d1, d2, d3, d4, d5, d6, d7, g0, g1, g2, g3, g4, g5, g6, g7, l2⟩ := HT3.out
              go_wp2_with (go_at_call 17; refine (HQk.out _).mono ?_; rintro e W4 ⟨rfl, hw4⟩; subst hw4)
              refine bodyPost_ret (v := .tuple #[tv 2 ⟨#[104, 116, 116, 112]⟩ kh NH ph ⟨#[]⟩ Qk true, .int .i64 0]) (by simp [results, tv, Tryz.results8, go_sem, l2, d0, d1, d2, d3, d4, d5, d6, d7]) rfl ⟨by rw [HVN.out], ?_⟩
              exact ((putT_below HB3.out (Nat.le_refl _) _ _ _ _ _ _ _ _).alloc (by simp; omega) _).alloc (by simp; omega) _
        · rw [if_neg (by rintro (h | h); exact h47 h; exact h63 h)] at hno
          have b47 : ¬ (Y[k].toNat : Int) = 47 := fun e => h47 (UInt8.toNat_inj.1 (by show Y[k].toNat = 47; omega))
          have b63 : ¬ (Y[k].toNat : Int) = 63 := fun e => h63 (UInt8.toNat_inj.1 (by show Y[k].toNat = 63; omega))
          have Hno := Lib.hid hno
          clear hno
          go_wp2_with fail
          exact ⟨⟨k + 1, by omega, by go_num, by have := Hno.out; omega, trivial⟩, by simp [intOf]; omega⟩
    · obtain rfl : k = Y.size := by omega
      have hkN : Tg.hostN Y.data.toList = Y.size := by
        rw [← hno, List.drop_of_length_le (by omega)]; rfl
      clear hno
      have HPk := Lib.hid (fun w1 => RHParse_any (Y.extract 0 Y.size) w1 (by simp; omega))
      rw [Hp.prs_eq, Hp.ext_start] at HPk
      obtain ⟨Xk, hXk⟩ : ∃ X, Y.extract 0 Y.size = X := ⟨_, rfl⟩
      rw [hXk] at HPk
      have hXY : Y = Xk := by rw [← hXk]; exact (bytes_eq (by rw [Hp.ext_start, List.take_of_length_le (by omega)])).symm
      subst hXY
      clear hXk
      obtain ⟨o, ho⟩ : ∃ o, Hp.prs (Y.data.toList.take Y.size) = o := ⟨_, rfl⟩
      rw [ho] at HPk
      cases o with
      | none =>
        have HVN := Lib.hid (show V = parV none by rw [← HV.out, Tg.beh_no (by rw [hkN]; exact ho)])
        unfold prsV hostV at HPk
        simp only at HPk
        clear ho hkN
        go_wp2_with fail
        refine (HPk.out _).mono ?_
        rintro e W3 ⟨rfl, hb3⟩
        have HT3 := Lib.hid (HTb.out.below hb3 HTb.out.lt)
        have HB3 := Lib.hid (HBb.out.trans (hb3.mono HBb.out.size))
        have hwW := HB3.out.size
        clear hb3
        obtain ⟨d0, d1, d2, d3, d4, d5, d6, d7, g0, g1, g2, g3, g4, g5, g6, g7, l2⟩ := HT3.out
        go_wp2_with fail
        refine bodyPost_ret (v := .tuple #[tv 0 ⟨#[]⟩ 0 ⟨#[]⟩ 0 ⟨#[]⟩ ⟨#[]⟩ false, .int .i64 20]) (by simp [results, tv, Tryz.results8, go_sem, l2, d0, d1, d2, d3, d4, d5, d6, d7]) rfl ⟨by rw [HVN.out]; rfl, ?_⟩
        exact (putT_below HB3.out (Nat.le_refl _) _ _ _ _ _ _ _ _).alloc (by simp; omega) _
      | some x =>
        obtain ⟨kh, nmh, ph⟩ := x
        have hdr : Y.data.toList.drop (Tg.hostN Y.data.toList) = [] := by rw [hkN, List.drop_of_length_le (by omega)]
        have HVN := Lib.hid (show V = .tuple #[tv 2 ⟨#[104, 116, 116, 112]⟩ kh ⟨nmh.toArray⟩ ph ⟨#[]⟩ ⟨#[]⟩ false, .int .i64 0] by rw [← HV.out, Tg.beh_end (h := (kh, nmh, ph)) (by rw [hkN]; exact ho) hdr]; rfl)
        unfold prsV hostV at HPk
        simp only at HPk
        generalize (⟨nmh.toArray⟩ : ByteArray) = NH at *
        clear ho hkN hdr
        go_wp2_with fail
        refine (HPk.out _).mono ?_
        rintro e W3 ⟨rfl, hb3⟩
        have HT3 := Lib.hid (HTb.out.below hb3 HTb.out.lt)
        have HB3 := Lib.hid (HBb.out.trans (hb3.mono HBb.out.size))
        have hwW := HB3.out.size
        clear hb3
        obtain ⟨d0, d1, d2, d3, d4, d5, d6, d7, g0, g1, g2, g3, g4, g5, g6, g7, l2⟩ := HT3.out
        go_wp2_with fail
        refine bodyPost_ret (v := .tuple #[tv 2 ⟨#[104, 116, 116, 112]⟩ kh NH ph ⟨#[]⟩ ⟨#[]⟩ false, .int .i64 0]) (by simp [results, tv, Tryz.results8, go_sem, l2, d0, d1, d2, d3, d4, d5, d6, d7]) rfl ⟨by rw [HVN.out], ?_⟩
        exact ((putT_below HB3.out (Nat.le_refl _) _ _ _ _ _ _ _ _).alloc (by simp; omega) _).alloc (by simp; omega) _
end Go.Proofs.YtnpbnlphmngbdaaGreatDoor
