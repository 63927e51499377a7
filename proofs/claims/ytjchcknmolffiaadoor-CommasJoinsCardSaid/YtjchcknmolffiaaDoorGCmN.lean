/- Contracts and lemmas that the claim rests on: CmN. -/
import Derived.Test.YtjchcknmolffiaaDoorGCmM
/- The law CommasBack: its walk. -/
namespace Go.Proofs.YtjchcknmolffiaaDoor
open Go.RowKit

/-- A row of texts, appended to one that is the call's own, at a guard that holds. -/
theorem wpList_append_row (w : World) {ops : Array Oper} {rest : List Oper} {o : Oper} {a : Act} {Q : Exit → Act → World → Prop} (hw : Region.wanted o (yielded ops a.tmps) = true) (s x : Operand)
    (ho : o.op = .call { callee := .builtin .append, args := #[s, x], argTypes := #[22, 22] }) (base : Nat)
    (v : Value) (n : Nat) (l : List ByteArray) (hs : a.eval s = v) (hown : w.ownsRow base 9 1 v n (l.map Value.string))
    (b : Option Addr) (m c : Nat) (ys : List ByteArray) (hx : a.eval x = .slice b m c) (hz : IsTexts w b m ys) (hcp : b = none → c = 0)
    (hn : n + m ≤ 200000000) (hbase : base ≤ w.heap.size)
    (h : ∀ a' n' c' w', w'.ownsRow base 9 1 (.slice a' n' c') n' ((l ++ ys).map Value.string) → w.grownBy w' v.ownBlock → wpList Tryd.prog ops Q rest (a.put o.dst (.slice a' n' c')) w') : wpList Tryd.prog ops Q (o :: rest) a w := by
  obtain ⟨i0, hi, hz0, hz1, hz2⟩ := info_parts info_string
  refine wpList_step fun K hK => ?_
  rw [if_pos hw]
  rcases hz.2 with ⟨rfl, rfl⟩ | ⟨y, rfl, _, hc⟩
  · obtain rfl := hcp rfl
    obtain rfl := List.eq_nil_of_length_eq_zero hz.1
    have hr := run_append_owned_none (P := Tryd.prog) (w := w) base 22 o.type 9 i0 1 Tryd.underlying22 hi v n _ hown
    obtain ⟨a', c', rfl, _⟩ := own_form hown
    unfold Oper.wp execOp
    simp only [ho, resolve, invoke, builtin, Sem.run_bind, Sem.run_pure, Result.andThen_ok, List.map_toArray, List.map_cons, List.map_nil, hs, hx, hr]
    exact hK _ _ (h a' n c' w (by simpa using hown) ⟨rfl, rfl, rfl, Nat.le_refl _, fun _ _ _ => rfl⟩)
  · have hl := hz.1
    obtain ⟨v', w', hr, h2, h3, _⟩ := run_append_own (P := Tryd.prog) w base 22 o.type 9 i0 _ 1 16 Tryd.underlying22 hi hz0 hz1 hz2 rfl (by omega) v n _ hown y m c (ys.map Value.string) (by simp [hl])
      (by
        intro j u hj
        rw [List.getElem?_map] at hj
        obtain ⟨z, hz, rfl⟩ := Option.map_eq_some_iff.1 hj
        obtain ⟨hjl, hz⟩ := List.getElem?_eq_some_iff.1 hz
        rw [hc j (by omega), getD_at ys j hjl, hz])
      (by
        intro u hu
        obtain ⟨z, _, rfl⟩ := List.mem_map.1 hu
        rfl)
      (by unfold maxLen; omega) (by omega) hbase
    obtain ⟨a', c', rfl, _⟩ := own_form h2
    unfold Oper.wp execOp
    simp only [ho, resolve, invoke, builtin, Sem.run_bind, Sem.run_pure, Result.andThen_ok, List.map_toArray, List.map_cons, List.map_nil, hs, hx, hr]
    exact hK _ _ (h a' _ c' w' (by rw [List.map_append]; exact h2) h3)

set_option maxHeartbeats 1000000 in
set_option maxRecDepth 10000 in
theorem back6_core (s0 t0 : ByteArray) (w : World) (h0 : s0.size ≤ maxLen) (h1 : t0.size ≤ maxLen) :
    Calls Tryd.prog 5 #[.string s0, .string t0] w fun e w' => e = .returned (.bool true) ∧ Below w.heap.size w w' := by
  unfold maxLen at h0 h1
  obtain ⟨s, hs⟩ : ∃ s, s0.extract 0 (min (s0.size : Int) 80).toNat = s := ⟨_, rfl⟩
  obtain ⟨t, ht⟩ : ∃ t, t0.extract 0 (min (t0.size : Int) 80).toNat = t := ⟨_, rfl⟩
  have hsz : s.size ≤ 80 := by
    rw [← hs]
    simp
    omega
  have htz : t.size ≤ 80 := by
    rw [← ht]
    simp
    omega
  have hm0 : (0 : Int) ≤ min (s0.size : Int) 80 := by omega
  have hm1 : min (s0.size : Int) 80 ≤ (s0.size : Int) := by omega
  have hm2 : (0 : Int) ≤ min (t0.size : Int) 80 := by omega
  have hm3 : min (t0.size : Int) 80 ≤ (t0.size : Int) := by omega
  go_enter Tryd.func5, Tryd.ntmps5
  go_wp2_with fail
  refine (awake6_any _).mono ?_
  rintro e w1 ⟨rfl, hb1⟩
  have HB1 := Lib.hid hb1
  clear hb1
  go_wp2_with fail
  go_region
  clear hs ht hm0 hm1 hm2 hm3 h0 h1
  have HB2 : Hid (Below w.heap.size w w1.drew) := HB1.out.trans (below_drewN _ _ 1)
  clear HB1
  go_wp2_with fail
  refine (Split_any s _ (by omega)).mono ?_
  rintro e w3 ⟨a, n, c, rfl, ho3, hb3⟩
  have HB3 := Lib.hid (below_then HB2.out hb3)
  have HO3 := Lib.hid ho3
  clear hb3 ho3 HB2
  obtain ⟨E1, hE1⟩ : ∃ E : Int, (if (Cm.es s 0).isSome then 0 else 2) = E := ⟨_, rfl⟩
  rw [hE1]
  have HE1 := Lib.hid hE1
  clear hE1
  go_wp2_with fail
  refine (Split_any t _ (by omega)).mono ?_
  rintro e w4 ⟨b, m, d, rfl, ho4, hb4⟩
  have HB4 := Lib.hid (below_then HB3.out hb4)
  have HO34 := Lib.hid (own_kept (P := fun _ => False) HO3.out (Kept.of_below hb4) (fun _ _ h => h))
  have HO4 := Lib.hid ho4
  clear hb4 ho4 HO3 HB3
  obtain ⟨E2, hE2⟩ : ∃ E : Int, (if (Cm.es t 0).isSome then 0 else 2) = E := ⟨_, rfl⟩
  rw [hE2]
  have HE2 := Lib.hid hE2
  clear hE2
  cases hA : Cm.es s 0 with
  | none =>
    have e1 : E1 = 2 := by rw [← HE1.out, hA]; rfl
    subst e1
    clear hA HO34 HO4
    go_wp2_with fail
    go_ret
    exact ⟨rfl, HB4.out⟩
  | some A =>
    have e1 : E1 = 0 := by rw [← HE1.out, hA]; rfl
    subst e1
    cases hB : Cm.es t 0 with
    | none =>
      have e2 : E2 = 2 := by rw [← HE2.out, hB]; rfl
      subst e2
      clear hA hB HO34 HO4
      go_wp2_with fail
      go_ret
      exact ⟨rfl, HB4.out⟩
    | some B' =>
      have e2 : E2 = 0 := by rw [← HE2.out, hB]; rfl
      subst e2
      obtain ⟨hA1, hA2, hA3⟩ := Cm.join_le s A hsz hA
      obtain ⟨hB1, hB2, hB3⟩ := Cm.join_le t B' htz hB
      have hAZ := Cm.app_le s t B' hsz htz hB
      have HJ := Lib.hid (Cm.es_join hA)
      have HP := Lib.hid (Cm.es_app hA hB)
      have ho34 := HO34.out
      rw [hA] at ho34
      have ho4 := HO4.out
      rw [hB] at ho4
      obtain ⟨hn, htA, hcA, hxA, hncA⟩ := row_facts ho34 (by show A.length ≤ 1000; omega)
      obtain ⟨hm, htB, hcB, hxB, hncB⟩ := row_facts ho4 (by show B'.length ≤ 1000; omega)
      have HTA : Hid (IsTexts w4 a n A) := htA
      have HTB : Hid (IsTexts w4 b m B') := htB
      have HXA := Lib.hid hxA
      have HXB := Lib.hid hxB
      have hn' : A.length = n := hn.symm
      have hm' : B'.length = m := hm.symm
      clear ho34 ho4 htA htB hxA hxB HO34 HO4 hA hB hn hm HE1 HE2
      obtain ⟨J, hJ⟩ : ∃ J, joinB cmB A = J := ⟨_, rfl⟩
      obtain ⟨P, hP⟩ : ∃ P, Cm.app s B' = P := ⟨_, rfl⟩
      rw [hJ] at HJ hA3
      rw [hP] at HP hAZ
      have HJJ := Lib.hid hJ
      have HPP := Lib.hid hP
      clear hJ hP
      go_wp2_with fail
      refine (CJoin_any a n c A w4 HTA.out HXA.out hncA (by omega) (by omega)).mono ?_
      rintro e w5 ⟨rfl, hb5⟩
      rw [HJJ.out]
      have HF5 := Lib.hid hb5
      clear hb5
      go_wp2_with fail
      refine (Split_any J _ (by omega)).mono ?_
      rintro e w6 ⟨a6, n6, c6, rfl, ho6, hb6⟩
      rw [HJ.out] at ho6 ⊢
      have HF6 := Lib.hid (below_then HF5.out hb6)
      have HT6 := Lib.hid (own_strs ho6 (by have h2 := own_len ho6; have h3 : (some A).getD [] = A := rfl; rw [h3] at h2; omega))
      clear hb6 ho6 HF5
      go_wp2_with fail
      refine (Append_any s b m d B' w6 (HTB.out.below HF6.out) (fun x hx => ⟨(HXB.out x hx).1, Nat.lt_of_lt_of_le (HXB.out x hx).2 HF6.out.size⟩) hncB (by omega) (by omega) (by omega)).mono ?_
      rintro e w7 ⟨rfl, hb7⟩
      rw [HPP.out]
      have HF7 := Lib.hid (below_then HF6.out hb7)
      have HT7 := Lib.hid (HT6.out.below hb7)
      clear hb7 HF6 HT6
      go_wp2_with fail
      refine (Split_any P _ (by omega)).mono ?_
      rintro e w8 ⟨a8, n8, c8, rfl, ho8, hb8⟩
      rw [HP.out] at ho8 ⊢
      have HF8 := Lib.hid (below_then HF7.out hb8)
      have HT8 := Lib.hid (HT7.out.below hb8)
      have hxy : ∀ x, a8 = some x → x.block < w8.heap.size := fun x hx => by
        subst hx
        exact (ho8.lt x.block rfl).2
      have HXY := Lib.hid hxy
      have HTP := Lib.hid (own_strs ho8 (by have h2 := own_len ho8; have h3 : (some (A ++ B')).getD [] = A ++ B' := rfl; rw [h3, List.length_append] at h2; omega))
      clear hb8 ho8 HF7 HT7 hxy
      go_wp2_with fail
      refine (RSame_any a6 n6 c6 A a n c A w8 HT8.out (HTA.out.below HF8.out)).mono ?_
      rintro e w9 ⟨rfl, q, rfl⟩
      rw [show decide (A = A) = true from decide_eq_true rfl]
      have hmade : ∀ o, o = .cells #[] 9 → ((w8.drewN q).alloc o).ownsRow w8.heap.size 9 1 (.slice (some ⟨w8.heap.size, 0, none⟩) 0 0) 0 (([] : List ByteArray).map Value.string) := by
        rintro o rfl
        exact World.ownsRow_made (w8.drewN q) #[] 0 (Nat.le_refl _) (by decide) rfl
      have HMD := Lib.hid (hmade _ rfl)
      go_wp2_with (at_builtin; refine wpList_append_row _ ?hw _ _ rfl w8.heap.size _ _ [] rfl HMD.out a n c A rfl ?hz hcA ?hn ?hb ?_)
      case hz => exact HTA.out.below (HF8.out.trans ((below_drewN _ _ q).trans ((Below.refl _ _).alloc (by have := HF8.out.size; simp; omega) _)))
      case hn => omega
      case hb => simp
      intro a10 n10 c10 w10 ho10 hg10
      have hk10 : Kept (fun k => w8.heap.size ≤ k) w8 w10 := Kept.grown (((Kept.refl _ w8).drewN q).alloc _) hg10 (fun k hk => by simp only [Value.ownBlock, Option.some.injEq] at hk; exact .inr (by omega))
      have HL10 := Lib.hid (own_len (x := A) ho10)
      have HS10 := Lib.hid hk10.size
      have HTB10 := Lib.hid ((HTB.out.below HF8.out).kept hk10 (fun x hx hge => by have h1 := (HXB.out x hx).2; have h2 := HF8.out.size; omega))
      have HO10 : Hid (w10.ownsRow w8.heap.size 9 1 (.slice a10 n10 c10) n10 (A.map Value.string)) := ho10
      have HK10 := Lib.hid hk10
      clear ho10 hg10 hmade HMD hk10
      go_wp2_with (at_builtin; refine wpList_append_row _ ?hw2 _ _ rfl w8.heap.size _ _ A rfl HO10.out b m d B' rfl ?hz2 hcB ?hn2 ?hb2 ?_)
      case hz2 => exact HTB10.out
      case hn2 => have := HL10.out; omega
      case hb2 => exact HS10.out
      intro a11 n11 c11 w11 ho11 hg11
      have hk11 : Kept (fun k => w8.heap.size ≤ k) w8 w11 := Kept.grown HK10.out hg11 (fun k hk => .inl (HO10.out.lt k hk).1)
      have ho12 : w11.ownsRow w8.heap.size 9 1 (.slice a11 n11 c11) n11 ((A ++ B').map Value.string) := by simpa using ho11
      have HT11 := Lib.hid (own_strs ho12 (by have hl11 := own_len ho12; rw [List.length_append] at hl11; omega))
      have HT12 := Lib.hid (HTP.out.kept hk11 (fun x hx hge => by have h1 := HXY.out x hx; omega))
      have HB11 : Hid (Below w.heap.size w w11) := (below_then HB4.out HF8.out).trans ((hk11.below (Nat.le_refl _)).mono (by have h1 := HB4.out.size; have h2 := HF8.out.size; omega))
      clear ho11 ho12 hg11 hk11 HK10 HO10
      go_wp2_with fail
      refine (RSame_any a8 n8 c8 (A ++ B') a11 n11 c11 (A ++ B') w11 HT12.out HT11.out).mono ?_
      rintro e w12 ⟨rfl, q2, rfl⟩
      rw [show decide (A ++ B' = A ++ B') = true from decide_eq_true rfl]
      go_wp2_with fail
      go_ret
      exact ⟨rfl, HB11.out.trans (below_drewN _ _ q2)⟩
end Go.Proofs.YtjchcknmolffiaaDoor
