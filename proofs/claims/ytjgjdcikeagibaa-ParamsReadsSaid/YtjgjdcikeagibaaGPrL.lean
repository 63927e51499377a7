/- Contracts and lemmas that the claim rests on: PrL. -/
import Derived.Test.YtjgjdcikeagibaaGPrK
/- The laws ParamsReads and ParamsWrites: their walks. -/
namespace Go.Proofs.Ytjgjdcikeagibaa
open Go.RowKit

set_option maxHeartbeats 1000000 in
set_option maxRecDepth 10000 in
theorem reads7_core (s0 : ByteArray) (w : World) (h0 : s0.size ≤ maxLen) :
    Calls Try.prog 3 #[.string s0] w fun e w' => e = .returned (.bool true) ∧ Below w.heap.size w w' := by
  unfold maxLen at h0
  obtain ⟨s, hs⟩ : ∃ s, s0.extract 0 (min (s0.size : Int) 200).toNat = s := ⟨_, rfl⟩
  have hsz : s.size ≤ 200 := by
    rw [← hs]
    simp
    omega
  have hm0 : (0 : Int) ≤ min (s0.size : Int) 200 := by omega
  have hm1 : min (s0.size : Int) 200 ≤ (s0.size : Int) := by omega
  go_enter Try.func3, Try.ntmps3
  go_wp2_with fail
  refine (awake7_any _).mono ?_
  rintro e w1 ⟨rfl, hb1⟩
  have HB1 := Lib.hid hb1
  clear hb1
  go_wp2_with fail
  refine (Parse_any s _ (by omega)).mono ?_
  rintro e w3 ⟨a, n, c, rfl, ho3, hb3⟩
  have HB3 := Lib.hid (below_then HB1.out hb3)
  have HO3 := Lib.hid ho3
  clear hb3 ho3 HB1 hs hm0 hm1 h0
  obtain ⟨E1, hE1⟩ : ∃ E : Int, (if (Pm.ps s 0).isSome then 0 else 2) = E := ⟨_, rfl⟩
  rw [hE1]
  have HE1 := Lib.hid hE1
  clear hE1
  go_wp2_with fail
  refine (R7Parse_any s _ (by omega)).mono ?_
  rintro e w4 ⟨b, m, d, rfl, ho4, hb4⟩
  rw [HE1.out]
  have HB4 := Lib.hid (below_then HB3.out hb4)
  have HO34 := Lib.hid (HO3.out.below hb4)
  have HO4 := Lib.hid ho4
  clear hb4 ho4 HO3 HB3
  go_wp2_with fail
  refine (R7Same_any a n c _ b m d _ w4 HO34.out.params HO4.out.params).mono ?_
  rintro e w5 ⟨rfl, q, rfl⟩
  rw [decide_eq_true rfl]
  clear HO4
  have HB5 : Hid (Below w.heap.size w (w4.drewN q)) := HB4.out.trans (below_drewN _ _ q)
  have HO5 := Lib.hid (HO34.out.below (below_drewN _ _ q))
  clear HB4 HO34
  cases hA : Pm.ps s 0 with
  | none =>
    have e1 : E1 = 2 := by rw [← HE1.out, hA]; rfl
    subst e1
    clear hA HO5
    go_wp2_with fail
    go_ret
    exact ⟨rfl, HB5.out⟩
  | some l =>
    have e1 : E1 = 0 := by rw [← HE1.out, hA]; rfl
    subst e1
    obtain ⟨hok, hsum⟩ := Pm.ps_ok hA
    have hS : Pm.Sum 200 l := by
      unfold Pm.Sum
      omega
    have hmem := hS.mem
    have htz := hS.text
    have hlen := hS.len
    have HPS := Lib.hid (Pm.ps_text l hok)
    have HR := Lib.hid (Pm.r_yes hok)
    have ho := HO5.out
    rw [hA] at ho
    have ho' : OwnP (w4.drewN q) w1.heap.size (.slice a n c) n l := ho
    have HPA := Lib.hid ho'.params
    have HPL : Hid (∀ x, a = some x → x.block < (w4.drewN q).heap.size) := fun x hx => (ho'.lt x hx).2
    have hn : n ≤ 200 := by have := ho'.len; omega
    have HMM : Hid (∀ p ∈ l, p.1.size ≤ 1000 ∧ p.2.size ≤ 1000) := fun p hp => ⟨by have := (hmem p hp).1; omega, by have := (hmem p hp).2; omega⟩
    clear hA HO5 ho ho' hok hsum hS hmem HE1 hlen
    obtain ⟨T, hT⟩ : ∃ T, Pm.textR l = T := ⟨_, rfl⟩
    rw [hT] at HPS HR htz
    clear hT
    go_wp2_with fail
    refine (Text7_any a n c l _ HPA.out (by omega) HMM.out).mono ?_
    rintro e w6 ⟨rfl, hb6⟩
    rw [HR.out.1, HR.out.2]
    have HB6 := Lib.hid (below_then HB5.out hb6)
    have HPA6 := Lib.hid (HPA.out.below hb6)
    clear hb6 HB5 HPA
    go_wp2_with fail
    refine (Parse_any T _ (by omega)).mono ?_
    rintro e w7 ⟨a7, n7, c7, rfl, ho7, hb7⟩
    rw [HPS.out] at ho7 ⊢
    have HB7 := Lib.hid (below_then HB6.out hb7)
    have HPA7 := Lib.hid (HPA6.out.below hb7)
    have HO7 : Hid (OwnP w7 w6.heap.size (.slice a7 n7 c7) n7 l) := ho7
    clear hb7 ho7 HB6 HPA6
    go_wp2_with fail
    refine (R7Same_any a7 n7 c7 l a n c l w7 HO7.out.params HPA7.out).mono ?_
    rintro e w8 ⟨rfl, q8, rfl⟩
    rw [decide_eq_true rfl]
    go_wp2_with fail
    go_ret
    exact ⟨rfl, HB7.out.trans (below_drewN _ _ q8)⟩

theorem few_sum (l : List Pair) : Pm.Sum 500 (Pm.fewP l) := by
  have h1 := Pm.fewP_len l
  have h2 := Pm.fewP_size l
  have h3 : ∀ m : List Pair, (∀ p ∈ m, p.1.size ≤ 30 ∧ p.2.size ≤ 30) → Pm.Sum (61 * m.length) m := by
    intro m
    induction m with
    | nil => intro _; exact Nat.zero_le _
    | cons p r ih =>
      intro h
      have h4 := ih (fun p hp => h p (List.mem_cons_of_mem _ hp))
      have h5 := h p (List.mem_cons_self ..)
      unfold Pm.Sum at h4 ⊢
      rw [List.map_cons, List.sum_cons, List.length_cons]
      omega
  have h4 := h3 _ h2
  unfold Pm.Sum at h4 ⊢
  omega
set_option maxHeartbeats 1000000 in
theorem writes7_core (a : Option Addr) (len cp : Nat) (l0 : List Pair) (w : World) (hz : IsParams w a len l0) :
    Calls Try.prog 4 #[.slice a len cp] w fun e w' => e = .returned (.bool true) ∧ Below w.heap.size w w' := by
  have HZ := Lib.hid hz
  clear hz
  go_enter Try.func4, Try.ntmps4
  go_wp2_with fail
  refine (awake7_any _).mono ?_
  rintro e w1 ⟨rfl, hb1⟩
  have HB1 := Lib.hid hb1
  have HZ1 := Lib.hid (HZ.out.below hb1)
  clear hb1 HZ
  go_wp2_with fail
  refine (few7_any a len cp l0 _ HZ1.out).mono ?_
  rintro e w2 ⟨a2, n, c, rfl, ho2, hb2⟩
  have hS := few_sum l0
  have hsz := Pm.fewP_size l0
  obtain ⟨l, hl⟩ : ∃ l, Pm.fewP l0 = l := ⟨_, rfl⟩
  rw [hl] at hS hsz ho2
  have htz := hS.text
  have hlen := Pm.fewP_len l0
  rw [hl] at hlen
  have hn : n ≤ 8 := by have := ho2.len; omega
  have HPA := Lib.hid ho2.params
  have HMM : Hid (∀ p ∈ l, p.1.size ≤ 1000 ∧ p.2.size ≤ 1000) := fun p hp => ⟨by have := (hsz p hp).1; omega, by have := (hsz p hp).2; omega⟩
  have HB2 := Lib.hid (below_then HB1.out hb2)
  clear hb2 HB1 HZ1 ho2 hl hS hsz hlen
  go_wp2_with fail
  refine (Text7_any a2 n c l _ HPA.out (by omega) HMM.out).mono ?_
  rintro e w3 ⟨rfl, hb3⟩
  have HB3 := Lib.hid (below_then HB2.out hb3)
  have HPA3 := Lib.hid (HPA.out.below hb3)
  clear hb3 HB2 HPA
  obtain ⟨T, hT⟩ : ∃ T, Pm.rT l = T := ⟨_, rfl⟩
  obtain ⟨E, hE⟩ : ∃ E, Pm.rE l = E := ⟨_, rfl⟩
  rw [hT, hE]
  have HT := Lib.hid hT
  have HE := Lib.hid hE
  clear hT hE
  go_wp2_with fail
  refine (R7Text_any a2 n c l _ HPA3.out (by omega) HMM.out).mono ?_
  rintro e w4 ⟨rfl, q, rfl⟩
  rw [HT.out, HE.out]
  have HB4 : Hid (Below w.heap.size w (w3.drewN q)) := HB3.out.trans (below_drewN _ _ q)
  have HPA4 := Lib.hid (HPA3.out.below (below_drewN _ _ q))
  clear HB3 HPA3
  cases hok : Pm.okR l
  · have h1 := Pm.r_no hok
    have e1 : E = 2 := by rw [← HE.out, h1.2]
    have e2 : T = ⟨#[]⟩ := by rw [← HT.out, h1.1]; rfl
    subst e1
    have htz2 : T.size ≤ 100000 := by rw [e2]; decide
    clear h1 hok e2 HT HE htz
    go_wp2_with fail
    refine (Parse_any T _ htz2).mono ?_
    rintro e w5 ⟨a5, n5, c5, rfl, ho5, hb5⟩
    have HB5 := Lib.hid (below_then HB4.out hb5)
    clear ho5 hb5
    go_wp2_with fail
    all_goals
      go_ret
      exact ⟨rfl, HB5.out⟩
  · have h1 := Pm.r_yes hok
    have e1 : E = 0 := by rw [← HE.out, h1.2]
    subst e1
    have e2 : Pm.textR l = T := by rw [← HT.out, h1.1]
    have hps := Pm.ps_text l hok
    rw [e2] at hps htz
    have HPS := Lib.hid hps
    clear h1 hok e2 hps HT HE
    go_wp2_with fail
    refine (Parse_any T _ (by omega)).mono ?_
    rintro e w5 ⟨a5, n5, c5, rfl, ho5, hb5⟩
    rw [HPS.out] at ho5 ⊢
    have HB5 := Lib.hid (below_then HB4.out hb5)
    have HPA5 := Lib.hid (HPA4.out.below hb5)
    have HO5 : Hid (OwnP w5 (w3.drewN q).heap.size (.slice a5 n5 c5) n5 l) := ho5
    clear hb5 ho5 HB4 HPA4
    go_wp2_with fail
    refine (R7Same_any a2 n c l a5 n5 c5 l w5 HPA5.out HO5.out.params).mono ?_
    rintro e w6 ⟨rfl, q6, rfl⟩
    rw [decide_eq_true rfl]
    go_wp2_with fail
    go_ret
    exact ⟨rfl, HB5.out.trans (below_drewN _ _ q6)⟩
end Go.Proofs.Ytjgjdcikeagibaa
