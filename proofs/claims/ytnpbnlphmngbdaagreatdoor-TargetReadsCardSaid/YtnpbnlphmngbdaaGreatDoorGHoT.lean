/- Contracts and lemmas that the claim rests on: HoT. -/
import Derived.Test.YtnpbnlphmngbdaaGreatDoorGHoS
/- The document's Parse: its contract. -/
namespace Go.Proofs.YtnpbnlphmngbdaaGreatDoor
open Go.RowKit

namespace Hp
theorem prsR_yes {l : List UInt8} (h : (hostL l).1 ≠ 0) : prsR l = some ((hostL l).1, (hostL l).2, -1) := by unfold prsR; rw [if_pos h]
theorem prsR_none {l : List UInt8} (h : (hostL l).1 = 0) (h2 : 58 ∉ l) : prsR l = none := by unfold prsR; rw [if_neg (by simpa using h), if_pos h2]
theorem prsR_at {s : ByteArray} {k : Nat} (h : (hostL s.data.toList).1 = 0) (hk : k < s.size) (hc : s[k] = 58) (hq : 58 ∉ s.data.toList.drop (k + 1)) :
    prsR s.data.toList = if (hostL (s.data.toList.take k)).1 = 0 ∨ smallV 65535 (s.data.toList.drop (k + 1)) < 0 then none else some ((hostL (s.data.toList.take k)).1, (hostL (s.data.toList.take k)).2, smallV 65535 (s.data.toList.drop (k + 1))) := by
  have e : s.data.toList = s.data.toList.take k ++ 58 :: s.data.toList.drop (k + 1) := by
    conv => lhs; rw [B.cutB s k hk, hc]
  have hl : lastC s.data.toList = k + 1 := by
    conv => lhs; rw [e]
    rw [lastC_at hq, List.length_take]
    simp
    omega
  have h58 : ¬ 58 ∉ s.data.toList := by
    intro g
    apply g
    rw [e]
    simp
  unfold prsR
  rw [if_neg (by simpa using h), if_neg h58, hl, Nat.add_sub_cancel]
theorem free_more {s : ByteArray} {k : Nat} (hk : k < s.size) (hc : s[k] ≠ 58) (hq : 58 ∉ s.data.toList.drop (k + 1)) : 58 ∉ s.data.toList.drop k := by
  rw [drop_at s k hk]
  intro g
  rcases List.mem_cons.1 g with g | g
  · exact hc g.symm
  · exact hq g
end Hp
set_option maxHeartbeats 4000000 in
theorem RHParse_any (s : ByteArray) (w : World) (hs : s.size ≤ 900) :
    Calls Tryz.prog 14 #[.string s] w fun e w' => e = .returned (prsV (Hp.prsR s.data.toList)) ∧ Below w.heap.size w w' := by
  have HOF := Lib.hid (fun w1 => Rof_any s w1 hs)
  have hpy := fun h => Hp.prsR_yes (l := s.data.toList) h
  have hpn := fun h h2 => Hp.prsR_none (l := s.data.toList) h h2
  have hpa := fun k h hk hc hq => Hp.prsR_at (s := s) (k := k) h hk hc hq
  generalize Hp.prsR s.data.toList = O at *
  generalize Hp.hostL s.data.toList = H at *
  obtain ⟨kd, nm⟩ := H
  simp only at HOF hpy hpn hpa
  have hb0 : ∀ o, Below w.heap.size w (w.alloc o) := fun o => (Below.refl _ _).alloc (Nat.le_refl _) _
  have HB0 := Lib.hid hb0
  clear hb0
  have HBa := Lib.hid (Below.refl (w.heap.size + 1) (w.alloc (.cells #[.int .i64 0, .string ⟨#[]⟩, .int .i64 0] 27)))
  by_cases h0 : kd = 0
  · have HPN := Lib.hid (fun h2 => hpn h0 h2)
    have HPA := Lib.hid (fun k hk hc hq => hpa k h0 hk hc hq)
    subst h0
    rw [if_pos rfl] at HOF
    clear hpy hpn hpa
    go_enter Tryz.func14, Tryz.ntmps14
    go_wp2_with fail
    refine (HOF.out _).mono ?_
    rintro e w2 ⟨rfl, hb2⟩
    have HB2 := Lib.hid (HBa.out.trans (hb2.mono (by simp)))
    have hl2 : w.heap.size < w2.heap.size := by have := hb2.size; simp at this; omega
    clear hb2
    unfold hostV
    go_wp2_with fail
    obtain ⟨W2, hW2⟩ : ∃ W2, w2.alloc (.cells #[.int .i64 0, .string ⟨nm.toArray⟩, .int .i64 0] 27) = W2 := ⟨_, rfl⟩
    rw [hW2]
    have HBV := Lib.hid (show Below (w.heap.size + 1) (w.alloc (.cells #[.int .i64 0, .string ⟨#[]⟩, .int .i64 0] 27)) W2 by rw [← hW2]; exact HB2.out.alloc (by omega) _)
    have hz2 : W2.heap.size = w2.heap.size + 1 := by rw [← hW2]; simp
    have y0 : W2.cell? ⟨w2.heap.size, 0, none⟩ = some (.int .i64 0) := by rw [← hW2]; simp [go_sem]
    have y1 : W2.cell? ⟨w2.heap.size, 1, none⟩ = some (.string ⟨nm.toArray⟩) := by rw [← hW2]; simp [go_sem]
    have y2 : W2.cell? ⟨w2.heap.size, 2, none⟩ = some (.int .i64 0) := by rw [← hW2]; simp [go_sem]
    have q0 : W2.frozen? ⟨w2.heap.size, 0, none⟩ = false := by rw [← hW2]; simp [go_sem]
    have q1 : W2.frozen? ⟨w2.heap.size, 1, none⟩ = false := by rw [← hW2]; simp [go_sem]
    have q2 : W2.frozen? ⟨w2.heap.size, 2, none⟩ = false := by rw [← hW2]; simp [go_sem]
    have HBW := Lib.hid ((HB0.out (.cells #[.int .i64 0, .string ⟨#[]⟩, .int .i64 0] 27)).trans (HBV.out.mono (by simp)))
    clear hW2 HB2 HBa HOF
    go_loopw [5] (fun i wr => ∃ k : Nat, k ≤ s.size ∧ i = .int .i64 ((k : Int) - 1) ∧ 58 ∉ s.data.toList.drop k ∧ wr = W2) (fun i _ => (intOf i + 1).toNat)
    case atStart => exact ⟨s.size, Nat.le_refl _, rfl, by rw [List.drop_of_length_le (by simp)]; exact List.not_mem_nil, rfl⟩
    case round =>
      obtain ⟨k, hk, rfl, hfree, hw⟩ := hrel
      obtain rfl : W2 = wr := hw.symm
      cases k with
      | zero =>
        have HE := Lib.hid (HPN.out (by simpa using hfree))
        clear hfree
        have z0 := (HBV.out.cell (p := ⟨w.heap.size, 0, none⟩) (by simp)).trans (show (w.alloc (.cells #[.int .i64 0, .string ⟨#[]⟩, .int .i64 0] 27)).cell? ⟨w.heap.size, 0, none⟩ = some (.int .i64 0) by simp [go_sem])
        have g0 := (HBV.out.frozen (p := ⟨w.heap.size, 0, none⟩) (by simp)).trans (show (w.alloc (.cells #[.int .i64 0, .string ⟨#[]⟩, .int .i64 0] 27)).frozen? ⟨w.heap.size, 0, none⟩ = false by simp [go_sem])
        have z1 := (HBV.out.cell (p := ⟨w.heap.size, 1, none⟩) (by simp)).trans (show (w.alloc (.cells #[.int .i64 0, .string ⟨#[]⟩, .int .i64 0] 27)).cell? ⟨w.heap.size, 1, none⟩ = some (.string ⟨#[]⟩) by simp [go_sem])
        have g1 := (HBV.out.frozen (p := ⟨w.heap.size, 1, none⟩) (by simp)).trans (show (w.alloc (.cells #[.int .i64 0, .string ⟨#[]⟩, .int .i64 0] 27)).frozen? ⟨w.heap.size, 1, none⟩ = false by simp [go_sem])
        have z2 := (HBV.out.cell (p := ⟨w.heap.size, 2, none⟩) (by simp)).trans (show (w.alloc (.cells #[.int .i64 0, .string ⟨#[]⟩, .int .i64 0] 27)).cell? ⟨w.heap.size, 2, none⟩ = some (.int .i64 0) by simp [go_sem])
        have g2 := (HBV.out.frozen (p := ⟨w.heap.size, 2, none⟩) (by simp)).trans (show (w.alloc (.cells #[.int .i64 0, .string ⟨#[]⟩, .int .i64 0] 27)).frozen? ⟨w.heap.size, 2, none⟩ = false by simp [go_sem])
        go_wp2_with fail
        refine bodyPost_ret (v := .tuple #[hostV 0 ⟨#[]⟩ 0, .int .i64 27]) (by simp [results, hostV, Tryz.results14, go_sem, z0, z1, z2]) rfl ⟨by rw [HE.out]; rfl, ?_⟩
        exact below3 HBW.out (Nat.le_refl _) _ _ _
      | succ k =>
        have hkl : k < s.size := by omega
        by_cases hc : s[k] = 58
        · have hc' : (s[k].toNat : Int) = 58 := by rw [hc]; rfl
          have HE := Lib.hid (HPA.out k hkl hc hfree)
          have HO2 := Lib.hid (fun w1 => Rof_any (s.extract 0 k) w1 (by simp [ByteArray.size_extract]; omega))
          rw [Hp.ext_start] at HO2
          have HSm := Lib.hid (fun w1 => Small_any (s.extract (k + 1) s.size) 65535 (by omega) w1 (by simp [ByteArray.size_extract]; omega))
          rw [Hp.ext_end] at HSm
          have hv := Hp.smallV_sign 65535 (s.data.toList.drop (k + 1))
          clear hc hfree
          generalize Hp.hostL (s.data.toList.take k) = H2 at *
          obtain ⟨k2, n2⟩ := H2
          simp only at HO2 HE
          obtain ⟨pp, hpp⟩ : ∃ pp, (if k2 = 0 then (0 : Int) else -1) = pp := ⟨_, rfl⟩
          rw [hpp] at HO2
          clear hpp hv
          generalize Hp.smallV 65535 (s.data.toList.drop (k + 1)) = v at *
          unfold hostV at HO2
          go_wp2_with fail
          refine (HO2.out _).mono ?_
          rintro e w3 ⟨rfl, hb3⟩
          have hl3 : w2.heap.size < w3.heap.size := by have := hb3.size; omega
          have x0 := (hb3.cell (p := ⟨w2.heap.size, 0, none⟩) (by simp; omega)).trans y0
          have r0 := (hb3.frozen (p := ⟨w2.heap.size, 0, none⟩) (by simp; omega)).trans q0
          have x1 := (hb3.cell (p := ⟨w2.heap.size, 1, none⟩) (by simp; omega)).trans y1
          have r1 := (hb3.frozen (p := ⟨w2.heap.size, 1, none⟩) (by simp; omega)).trans q1
          have x2 := (hb3.cell (p := ⟨w2.heap.size, 2, none⟩) (by simp; omega)).trans y2
          have r2 := (hb3.frozen (p := ⟨w2.heap.size, 2, none⟩) (by simp; omega)).trans q2
          have HBX := Lib.hid (HBV.out.trans (hb3.mono (by omega)))
          have HBY := Lib.hid (HBW.out.trans (hb3.mono (by omega)))
          clear hb3 y0 y1 y2 q0 q1 q2
          have z0 := (HBX.out.cell (p := ⟨w.heap.size, 0, none⟩) (by simp)).trans (show (w.alloc (.cells #[.int .i64 0, .string ⟨#[]⟩, .int .i64 0] 27)).cell? ⟨w.heap.size, 0, none⟩ = some (.int .i64 0) by simp [go_sem])
          have g0 := (HBX.out.frozen (p := ⟨w.heap.size, 0, none⟩) (by simp)).trans (show (w.alloc (.cells #[.int .i64 0, .string ⟨#[]⟩, .int .i64 0] 27)).frozen? ⟨w.heap.size, 0, none⟩ = false by simp [go_sem])
          have z1 := (HBX.out.cell (p := ⟨w.heap.size, 1, none⟩) (by simp)).trans (show (w.alloc (.cells #[.int .i64 0, .string ⟨#[]⟩, .int .i64 0] 27)).cell? ⟨w.heap.size, 1, none⟩ = some (.string ⟨#[]⟩) by simp [go_sem])
          have g1 := (HBX.out.frozen (p := ⟨w.heap.size, 1, none⟩) (by simp)).trans (show (w.alloc (.cells #[.int .i64 0, .string ⟨#[]⟩, .int .i64 0] 27)).frozen? ⟨w.heap.size, 1, none⟩ = false by simp [go_sem])
          have z2 := (HBX.out.cell (p := ⟨w.heap.size, 2, none⟩) (by simp)).trans (show (w.alloc (.cells #[.int .i64 0, .string ⟨#[]⟩, .int .i64 0] 27)).cell? ⟨w.heap.size, 2, none⟩ = some (.int .i64 0) by simp [go_sem])
          have g2 := (HBX.out.frozen (p := ⟨w.heap.size, 2, none⟩) (by simp)).trans (show (w.alloc (.cells #[.int .i64 0, .string ⟨#[]⟩, .int .i64 0] 27)).frozen? ⟨w.heap.size, 2, none⟩ = false by simp [go_sem])
          by_cases hk0 : k2 = 0
          · subst hk0
            rw [if_pos (.inl rfl)] at HE
            go_wp2_with fail
            refine (HSm.out _).mono ?_
            rintro e w4 ⟨rfl, m4, hw4⟩
            have hne : ¬ w.heap.size = w2.heap.size := by omega
            have hne' : ¬ w2.heap.size = w.heap.size := by omega
            have u0 : w4.cell? ⟨w2.heap.size, 0, none⟩ = some (.int .i64 0) := by rw [hw4]; simp [go_sem, x0]
            have t0 : w4.frozen? ⟨w2.heap.size, 0, none⟩ = false := by rw [hw4]; simp [go_sem, r0]
            have u1 : w4.cell? ⟨w2.heap.size, 1, none⟩ = some (.string ⟨n2.toArray⟩) := by rw [hw4]; simp [go_sem, x1]
            have t1 : w4.frozen? ⟨w2.heap.size, 1, none⟩ = false := by rw [hw4]; simp [go_sem, r1]
            have u2 : w4.cell? ⟨w2.heap.size, 2, none⟩ = some (.int .i64 pp) := by rw [hw4]; simp [go_sem, x2]
            have t2 : w4.frozen? ⟨w2.heap.size, 2, none⟩ = false := by rw [hw4]; simp [go_sem, r2]
            have a0 : w4.cell? ⟨w.heap.size, 0, none⟩ = some (.int .i64 0) := by rw [hw4]; simp [go_sem, z0]
            have b0 : w4.frozen? ⟨w.heap.size, 0, none⟩ = false := by rw [hw4]; simp [go_sem, g0]
            have a1 : w4.cell? ⟨w.heap.size, 1, none⟩ = some (.string ⟨#[]⟩) := by rw [hw4]; simp [go_sem, z1]
            have b1 : w4.frozen? ⟨w.heap.size, 1, none⟩ = false := by rw [hw4]; simp [go_sem, g1]
            have a2 : w4.cell? ⟨w.heap.size, 2, none⟩ = some (.int .i64 0) := by rw [hw4]; simp [go_sem, z2]
            have b2 : w4.frozen? ⟨w.heap.size, 2, none⟩ = false := by rw [hw4]; simp [go_sem, g2]
            have HBZ := Lib.hid (show Below w.heap.size w w4 by rw [hw4]; exact (below3 HBY.out (by omega) _ _ _).trans (below_drewN _ _ m4))
            have hl4 : w2.heap.size < w4.heap.size := by rw [hw4]; simp; omega
            clear hw4 x0 x1 x2 r0 r1 r2 z0 z1 z2 g0 g1 g2
            go_wp2_with fail
            refine bodyPost_ret (v := .tuple #[hostV 0 ⟨#[]⟩ 0, .int .i64 27]) (by simp [results, hostV, Tryz.results14, go_sem, a0, a1, a2]) rfl ⟨by rw [HE.out]; rfl, ?_⟩
            exact below3 HBZ.out (Nat.le_refl _) _ _ _
          · by_cases hv0 : v < 0
            · rw [if_pos (.inr hv0)] at HE
              go_wp2_with fail
              refine (HSm.out _).mono ?_
              rintro e w4 ⟨rfl, m4, hw4⟩
              have hne : ¬ w.heap.size = w2.heap.size := by omega
              have hne' : ¬ w2.heap.size = w.heap.size := by omega
              have u0 : w4.cell? ⟨w2.heap.size, 0, none⟩ = some (.int .i64 k2) := by rw [hw4]; simp [go_sem, x0]
              have t0 : w4.frozen? ⟨w2.heap.size, 0, none⟩ = false := by rw [hw4]; simp [go_sem, r0]
              have u1 : w4.cell? ⟨w2.heap.size, 1, none⟩ = some (.string ⟨n2.toArray⟩) := by rw [hw4]; simp [go_sem, x1]
              have t1 : w4.frozen? ⟨w2.heap.size, 1, none⟩ = false := by rw [hw4]; simp [go_sem, r1]
              have u2 : w4.cell? ⟨w2.heap.size, 2, none⟩ = some (.int .i64 pp) := by rw [hw4]; simp [go_sem, x2]
              have t2 : w4.frozen? ⟨w2.heap.size, 2, none⟩ = false := by rw [hw4]; simp [go_sem, r2]
              have a0 : w4.cell? ⟨w.heap.size, 0, none⟩ = some (.int .i64 0) := by rw [hw4]; simp [go_sem, z0]
              have b0 : w4.frozen? ⟨w.heap.size, 0, none⟩ = false := by rw [hw4]; simp [go_sem, g0]
              have a1 : w4.cell? ⟨w.heap.size, 1, none⟩ = some (.string ⟨#[]⟩) := by rw [hw4]; simp [go_sem, z1]
              have b1 : w4.frozen? ⟨w.heap.size, 1, none⟩ = false := by rw [hw4]; simp [go_sem, g1]
              have a2 : w4.cell? ⟨w.heap.size, 2, none⟩ = some (.int .i64 0) := by rw [hw4]; simp [go_sem, z2]
              have b2 : w4.frozen? ⟨w.heap.size, 2, none⟩ = false := by rw [hw4]; simp [go_sem, g2]
              have HBZ := Lib.hid (show Below w.heap.size w w4 by rw [hw4]; exact (below3 HBY.out (by omega) _ _ _).trans (below_drewN _ _ m4))
              have hl4 : w2.heap.size < w4.heap.size := by rw [hw4]; simp; omega
              clear hw4 x0 x1 x2 r0 r1 r2 z0 z1 z2 g0 g1 g2
              go_wp2_with fail
              refine bodyPost_ret (v := .tuple #[hostV 0 ⟨#[]⟩ 0, .int .i64 27]) (by simp [results, hostV, Tryz.results14, go_sem, a0, a1, a2]) rfl ⟨by rw [HE.out]; rfl, ?_⟩
              exact below3 HBZ.out (Nat.le_refl _) _ _ _
            · rw [if_neg (by rintro (h | h); exact hk0 h; exact hv0 h)] at HE
              have hv1 : 0 ≤ v := by omega
              go_wp2_with fail
              refine (HSm.out _).mono ?_
              rintro e w4 ⟨rfl, m4, hw4⟩
              have hne : ¬ w.heap.size = w2.heap.size := by omega
              have hne' : ¬ w2.heap.size = w.heap.size := by omega
              have u0 : w4.cell? ⟨w2.heap.size, 0, none⟩ = some (.int .i64 k2) := by rw [hw4]; simp [go_sem, x0]
              have t0 : w4.frozen? ⟨w2.heap.size, 0, none⟩ = false := by rw [hw4]; simp [go_sem, r0]
              have u1 : w4.cell? ⟨w2.heap.size, 1, none⟩ = some (.string ⟨n2.toArray⟩) := by rw [hw4]; simp [go_sem, x1]
              have t1 : w4.frozen? ⟨w2.heap.size, 1, none⟩ = false := by rw [hw4]; simp [go_sem, r1]
              have u2 : w4.cell? ⟨w2.heap.size, 2, none⟩ = some (.int .i64 pp) := by rw [hw4]; simp [go_sem, x2]
              have t2 : w4.frozen? ⟨w2.heap.size, 2, none⟩ = false := by rw [hw4]; simp [go_sem, r2]
              have a0 : w4.cell? ⟨w.heap.size, 0, none⟩ = some (.int .i64 0) := by rw [hw4]; simp [go_sem, z0]
              have b0 : w4.frozen? ⟨w.heap.size, 0, none⟩ = false := by rw [hw4]; simp [go_sem, g0]
              have a1 : w4.cell? ⟨w.heap.size, 1, none⟩ = some (.string ⟨#[]⟩) := by rw [hw4]; simp [go_sem, z1]
              have b1 : w4.frozen? ⟨w.heap.size, 1, none⟩ = false := by rw [hw4]; simp [go_sem, g1]
              have a2 : w4.cell? ⟨w.heap.size, 2, none⟩ = some (.int .i64 0) := by rw [hw4]; simp [go_sem, z2]
              have b2 : w4.frozen? ⟨w.heap.size, 2, none⟩ = false := by rw [hw4]; simp [go_sem, g2]
              have HBZ := Lib.hid (show Below w.heap.size w w4 by rw [hw4]; exact (below3 HBY.out (by omega) _ _ _).trans (below_drewN _ _ m4))
              have hl4 : w2.heap.size < w4.heap.size := by rw [hw4]; simp; omega
              clear hw4 x0 x1 x2 r0 r1 r2 z0 z1 z2 g0 g1 g2
              go_wp2_with fail
              refine bodyPost_ret (v := .tuple #[hostV k2 ⟨n2.toArray⟩ v, .int .i64 0]) (by simp [results, hostV, Tryz.results14, go_sem, a0, a1, a2]) rfl ⟨by rw [HE.out]; rfl, ?_⟩
              exact below3 (HBZ.out.setCell (p := ⟨w2.heap.size, 2, none⟩) (by simp; omega) _) (Nat.le_refl _) _ _ _
        · have hc' : ¬ (s[k].toNat : Int) = 58 := fun e => byte_not (d := 58) rfl (fun e2 => hc (byte_of (d := 58) rfl e2)) (byte_of (d := 58) rfl e)
          have HF := Lib.hid (Hp.free_more hkl hc hfree)
          clear hc hfree
          go_wp2_with fail
          exact ⟨⟨k, by omega, by go_num, HF.out, trivial⟩, by simp [intOf]⟩
  · have HE := Lib.hid (hpy h0)
    have h0' : ¬ kd = 0 := h0
    rw [if_neg h0] at HOF
    clear hpy hpn hpa h0
    go_enter Tryz.func14, Tryz.ntmps14
    go_wp2_with fail
    refine (HOF.out _).mono ?_
    rintro e w2 ⟨rfl, hb2⟩
    have HB2 := Lib.hid (HBa.out.trans (hb2.mono (by simp)))
    have hl2 : w.heap.size < w2.heap.size := by have := hb2.size; simp at this; omega
    have hbx := (HB0.out (.cells #[.int .i64 0, .string ⟨#[]⟩, .int .i64 0] 27)).trans (hb2.mono (by simp))
    have HBX := Lib.hid hbx
    clear hb2 hbx
    have z0 := (HB2.out.cell (p := ⟨w.heap.size, 0, none⟩) (by simp)).trans (show (w.alloc (.cells #[.int .i64 0, .string ⟨#[]⟩, .int .i64 0] 27)).cell? ⟨w.heap.size, 0, none⟩ = some (.int .i64 0) by simp [go_sem])
    have g0 := (HB2.out.frozen (p := ⟨w.heap.size, 0, none⟩) (by simp)).trans (show (w.alloc (.cells #[.int .i64 0, .string ⟨#[]⟩, .int .i64 0] 27)).frozen? ⟨w.heap.size, 0, none⟩ = false by simp [go_sem])
    have z1 := (HB2.out.cell (p := ⟨w.heap.size, 1, none⟩) (by simp)).trans (show (w.alloc (.cells #[.int .i64 0, .string ⟨#[]⟩, .int .i64 0] 27)).cell? ⟨w.heap.size, 1, none⟩ = some (.string ⟨#[]⟩) by simp [go_sem])
    have g1 := (HB2.out.frozen (p := ⟨w.heap.size, 1, none⟩) (by simp)).trans (show (w.alloc (.cells #[.int .i64 0, .string ⟨#[]⟩, .int .i64 0] 27)).frozen? ⟨w.heap.size, 1, none⟩ = false by simp [go_sem])
    have z2 := (HB2.out.cell (p := ⟨w.heap.size, 2, none⟩) (by simp)).trans (show (w.alloc (.cells #[.int .i64 0, .string ⟨#[]⟩, .int .i64 0] 27)).cell? ⟨w.heap.size, 2, none⟩ = some (.int .i64 0) by simp [go_sem])
    have g2 := (HB2.out.frozen (p := ⟨w.heap.size, 2, none⟩) (by simp)).trans (show (w.alloc (.cells #[.int .i64 0, .string ⟨#[]⟩, .int .i64 0] 27)).frozen? ⟨w.heap.size, 2, none⟩ = false by simp [go_sem])
    unfold hostV
    go_wp2_with fail
    refine bodyPost_ret (v := .tuple #[hostV kd ⟨nm.toArray⟩ (-1), .int .i64 0]) (by simp [results, hostV, Tryz.results14, go_sem, z0, z1, z2, hl2]) rfl ⟨by rw [HE.out]; rfl, ?_⟩
    exact (below3 HBX.out (Nat.le_refl _) _ _ _).alloc (by simp; omega) _
end Go.Proofs.YtnpbnlphmngbdaaGreatDoor
