/- Contracts and lemmas that the claim rests on: PrM. -/
import Derived.Test.YtjgjdcikeagibaaGPrL
import Derived.Deep.CutRange
/- The law ParamsSets: its walk. -/
namespace Go.Proofs.Ytjgjdcikeagibaa
open Go.RowKit

set_option maxHeartbeats 1000000 in
set_option maxRecDepth 10000 in
theorem sets7_core (a : Option Addr) (len cp : Nat) (t0 v0 : ByteArray) (l0 : List Pair) (w : World) (hz : IsParams w a len l0) (h0 : t0.size ≤ maxLen) (h1 : v0.size ≤ maxLen) :
    Calls Try.prog 5 #[.slice a len cp, .string t0, .string v0] w fun e w' => e = .returned (.bool true) ∧ Below w.heap.size w w' := by
  unfold maxLen at h0 h1
  have HZ := Lib.hid hz
  clear hz
  obtain ⟨t, ht⟩ : ∃ t, t0.extract 0 (min (t0.size : Int) 30).toNat = t := ⟨_, rfl⟩
  obtain ⟨v, hv⟩ : ∃ v, v0.extract 0 (min (v0.size : Int) 30).toNat = v := ⟨_, rfl⟩
  have htz : t.size ≤ 30 := by
    rw [← ht]
    simp
    omega
  have hvz : v.size ≤ 30 := by
    rw [← hv]
    simp
    omega
  have hm0 : (0 : Int) ≤ min (t0.size : Int) 30 := by omega
  have hm1 : min (t0.size : Int) 30 ≤ (t0.size : Int) := by omega
  have hm2 : (0 : Int) ≤ min (v0.size : Int) 30 := by omega
  have hm3 : min (v0.size : Int) 30 ≤ (v0.size : Int) := by omega
  go_enter Try.func5, Try.ntmps5
  go_wp2_with fail
  refine (awake7_any _).mono ?_
  rintro e w1 ⟨rfl, hb1⟩
  have HB1 := Lib.hid hb1
  clear hb1
  go_upto_region 3 with fail
  go_cut [0, 1, 2] from 15 to 26 (fun sl st sv wx => st = .string t ∧ sv = .string v ∧ Below w.heap.size w wx ∧ ∃ (a2 : Option Addr) (n c : Nat), sl = .slice a2 n c ∧ OwnP wx w1.heap.size (.slice a2 n c) n (Pm.fewP l0))
  case first =>
    go_region_with (go_at_call 11; refine (few7_any a len cp l0 _ (HZ.out.below (HB1.out.trans (below_drewN _ _ 1)))).mono ?_; rintro e w2 ⟨a2, n, c, rfl, ho2, hb2⟩)
    all_goals
      have HB2 : Hid (Below w.heap.size w w2) := below_then HB1.out ((below_drewN _ _ 1).trans hb2)
      have HO2 := Lib.hid ho2
      clear hb2 ho2
      go_wp2_with fail
      go_meet
      exact ⟨rfl, rfl, HB2.out, a2, n, c, rfl, HO2.out⟩
  case rest =>
    clear ht hv hm0 hm1 hm2 hm3 h0 h1 HB1 HZ
    obtain ⟨rfl, rfl, hb2, a2, n, c, rfl, ho2⟩ := hcut
    have hsz := Pm.fewP_size l0
    have hlen := Pm.fewP_len l0
    obtain ⟨l, hl⟩ : ∃ l, Pm.fewP l0 = l := ⟨_, rfl⟩
    rw [hl] at hsz hlen ho2
    have hll := ho2.len
    have hn : n ≤ 8 := by omega
    obtain ⟨hnc, hc0⟩ := OwnP.cap ho2
    have HMM : Hid (∀ p ∈ l, p.1.size ≤ 1000 ∧ p.2.size ≤ 1000) := fun p hp => ⟨by have := (hsz p hp).1; omega, by have := (hsz p hp).2; omega⟩
    have HPA := Lib.hid ho2.params
    have HB := Lib.hid hb2
    have HC0 := Lib.hid hc0
    clear hsz hlen hl hb2 ho2 hll hc0
    rcases Pm.plc_cases t l with ⟨hno, hplc⟩ | ⟨K, hK, hplc, hnoK, hsK⟩
    · have hgot := Pm.got_end (t := t) (l := l) (k := l.length) (by omega) (by rw [List.take_length]; exact hno)
      have HI : Hid ((Pm.got t l).isSome = false) := by show _ = _; rw [hgot]; rfl
      have HV : Hid (Pm.gV t l = ⟨#[]⟩) := by show _ = _; unfold Pm.gV; rw [hgot]; rfl
      have HP := Lib.hid hplc
      clear hno hplc hgot
      go_wp2_with fail
      refine (Get7_any t a2 n c l _ HPA.out (by omega) HMM.out (by omega)).mono ?_
      rintro e w3 ⟨rfl, hb3⟩
      rw [HV.out, HI.out]
      have HB3 := Lib.hid (below_then HB.out hb3)
      have HPA3 := Lib.hid (HPA.out.below hb3)
      clear hb3 HB HPA
      go_wp2_with fail
      refine (R7Place_any t a2 n c l _ HPA3.out (by omega) HMM.out (by omega)).mono ?_
      rintro e w4 ⟨rfl, q, rfl⟩
      rw [HP.out]
      have HB4 : Hid (Below w.heap.size w (w3.drewN q)) := HB3.out.trans (below_drewN _ _ q)
      have HPA4 := Lib.hid (HPA3.out.below (below_drewN _ _ q))
      clear HB3 HPA3
      go_wp2_with fail
      refine (Set7_any t v _ n c l _ HPA4.out (by omega) HMM.out (by omega)).mono ?_
      rintro e w5 ⟨a5, n5, c5, rfl, ho5, hb5⟩
      have HB5 := Lib.hid (below_then HB4.out hb5)
      have HPA5 := Lib.hid (HPA4.out.below hb5)
      have hn5 : n5 ≤ 9 := by
        have e1 := ho5.len
        have e2 := Pm.setR_len t v l
        have e3 := HPA4.out.1
        omega
      have HO5 := Lib.hid ho5.params
      have hms := Pm.setR_size t v l (by omega) (by omega) HMM.out
      obtain ⟨hg1, hg2⟩ := Pm.setR_got t v l
      obtain ⟨R, hR⟩ : ∃ R, Pm.setR t v l = R := ⟨_, rfl⟩
      rw [hR] at HO5 hms hg1 hg2
      have HR := Lib.hid hR
      have HMS := Lib.hid hms
      have HG1 := Lib.hid hg1
      have HG2 := Lib.hid hg2
      clear ho5 hb5 hms hg1 hg2 hR HB4 HPA4
      go_wp2_with fail
      refine (Get7_any t a5 n5 c5 R _ HO5.out (by omega) HMS.out (by omega)).mono ?_
      rintro e w6 ⟨rfl, hb6⟩
      rw [HG1.out, HG2.out]
      have HB6 := Lib.hid (below_then HB5.out hb6)
      have HPA6 := Lib.hid (HPA5.out.below hb6)
      have HO6 := Lib.hid (HO5.out.below hb6)
      clear hb6 HB5 HPA5 HO5
      go_wp2_with fail
      refine (R7Set_any t v _ n c l _ HPA6.out hnc HC0.out (by omega) HMM.out (by omega)).mono ?_
      rintro e w7 ⟨a7, n7, c7, rfl, ho7, hb7⟩
      rw [HR.out] at ho7
      have HB7 := Lib.hid (below_then HB6.out hb7)
      have HO7 := Lib.hid (HO6.out.below hb7)
      have HP7 := Lib.hid ho7.params
      clear hb7 ho7 HB6 HPA6 HO6
      go_wp2_with fail
      refine (R7Same_any a5 n5 c5 R a7 n7 c7 R w7 HO7.out HP7.out).mono ?_
      rintro e w8 ⟨rfl, q8, rfl⟩
      rw [decide_eq_true rfl]
      go_wp2_with fail
      go_ret
      exact ⟨rfl, HB7.out.trans (below_drewN _ _ q8)⟩
    · have hgot := Pm.got_at hK hnoK hsK
      obtain ⟨p, hpk⟩ : ∃ p, at_ l K = p := ⟨_, rfl⟩
      obtain ⟨nm, vl⟩ := p
      rw [hpk] at hgot
      have HI : Hid ((Pm.got t l).isSome = true) := by show _ = _; rw [hgot]; rfl
      have HV : Hid (Pm.gV t l = vl) := by show _ = _; unfold Pm.gV; rw [hgot]
      have HP := Lib.hid hplc
      have HPK := Lib.hid hpk
      have hKn : K < n := by rw [← HPA.out.1]; exact hK
      clear hplc hgot hnoK hsK hpk hK
      go_wp2_with fail
      refine (Get7_any t a2 n c l _ HPA.out (by omega) HMM.out (by omega)).mono ?_
      rintro e w3 ⟨rfl, hb3⟩
      rw [HV.out, HI.out]
      have HB3 := Lib.hid (below_then HB.out hb3)
      have HPA3 := Lib.hid (HPA.out.below hb3)
      clear hb3 HB HPA
      go_wp2_with fail
      refine (R7Place_any t a2 n c l _ HPA3.out (by omega) HMM.out (by omega)).mono ?_
      rintro e w4 ⟨rfl, q, rfl⟩
      rw [HP.out]
      have HB4 : Hid (Below w.heap.size w (w3.drewN q)) := HB3.out.trans (below_drewN _ _ q)
      have HPA4 := Lib.hid (HPA3.out.below (below_drewN _ _ q))
      rcases HPA3.out.2 with ⟨_, h⟩ | ⟨x, rfl, hxl, hcells⟩
      · omega
      obtain ⟨d0, d1⟩ := hcells K hKn
      rw [HPK.out] at d0 d1
      clear HB3 HPA3 hcells
      go_wp2_with fail
      refine (Set7_any t v _ n c l _ HPA4.out (by omega) HMM.out (by omega)).mono ?_
      rintro e w5 ⟨a5, n5, c5, rfl, ho5, hb5⟩
      have HB5 := Lib.hid (below_then HB4.out hb5)
      have HPA5 := Lib.hid (HPA4.out.below hb5)
      have hn5 : n5 ≤ 9 := by
        have e1 := ho5.len
        have e2 := Pm.setR_len t v l
        have e3 := HPA4.out.1
        omega
      have HO5 := Lib.hid ho5.params
      have hms := Pm.setR_size t v l (by omega) (by omega) HMM.out
      obtain ⟨hg1, hg2⟩ := Pm.setR_got t v l
      obtain ⟨R, hR⟩ : ∃ R, Pm.setR t v l = R := ⟨_, rfl⟩
      rw [hR] at HO5 hms hg1 hg2
      have HR := Lib.hid hR
      have HMS := Lib.hid hms
      have HG1 := Lib.hid hg1
      have HG2 := Lib.hid hg2
      clear ho5 hb5 hms hg1 hg2 hR HB4 HPA4
      go_wp2_with fail
      refine (Get7_any t a5 n5 c5 R _ HO5.out (by omega) HMS.out (by omega)).mono ?_
      rintro e w6 ⟨rfl, hb6⟩
      rw [HG1.out, HG2.out]
      have HB6 := Lib.hid (below_then HB5.out hb6)
      have HPA6 := Lib.hid (HPA5.out.below hb6)
      have HO6 := Lib.hid (HO5.out.below hb6)
      clear hb6 HB5 HPA5 HO5
      go_wp2_with fail
      refine (R7Set_any t v _ n c l _ HPA6.out hnc HC0.out (by omega) HMM.out (by omega)).mono ?_
      rintro e w7 ⟨a7, n7, c7, rfl, ho7, hb7⟩
      rw [HR.out] at ho7
      have HB7 := Lib.hid (below_then HB6.out hb7)
      have HO7 := Lib.hid (HO6.out.below hb7)
      have HP7 := Lib.hid ho7.params
      clear hb7 ho7 HB6 HPA6 HO6
      go_wp2_with fail
      refine (R7Same_any a5 n5 c5 R a7 n7 c7 R w7 HO7.out HP7.out).mono ?_
      rintro e w8 ⟨rfl, q8, rfl⟩
      rw [decide_eq_true rfl]
      go_wp2_with fail
      go_ret
      exact ⟨rfl, HB7.out.trans (below_drewN _ _ q8)⟩
end Go.Proofs.Ytjgjdcikeagibaa
