/- Contracts and lemmas that the claim rests on: PrI. -/
import Derived.Test.YtjgjdcikeagibaaGPrH
/- The document's Same and Set: contracts. -/
namespace Go.Proofs.Ytjgjdcikeagibaa
open Go.RowKit

theorem cellsP_one : ∀ (l : List Pair) (u : Value), u ∈ cellsP l → u.oneCell' = true
  | [], u, h => by cases h
  | p :: r, u, h => by
    rcases List.mem_cons.1 h with rfl | h
    · rfl
    · rcases List.mem_cons.1 h with rfl | h
      · rfl
      · exact cellsP_one r u h
theorem add_one2 (x : Addr) (j : Nat) : x.add (j + 1) = ⟨(x.add j).block, (x.add j).off + 1, none⟩ := by
  unfold Addr.add
  rw [if_neg (Nat.succ_ne_zero j)]
  by_cases h : j = 0
  · subst h; rfl
  · rw [if_neg h]
    show (⟨_, _, _⟩ : Addr) = ⟨_, _, _⟩
    rw [Nat.add_assoc]
namespace Pm
theorem same_no {xs ys : List Pair} {k : Nat} (h : at_ xs k ≠ at_ ys k) : decide (xs = ys) = false := by
  rw [decide_eq_false_iff_not]
  rintro rfl
  exact h rfl
theorem same_next {xs ys : List Pair} {k : Nat} (h0 : xs.take k = ys.take k) (h1 : k < xs.length) (h2 : k < ys.length) (h : at_ xs k = at_ ys k) : xs.take (k + 1) = ys.take (k + 1) := by
  rw [← at_take xs k h1, ← at_take ys k h2, h0, h]
theorem same_yes {xs ys : List Pair} {k : Nat} (h0 : xs.take k = ys.take k) (h1 : xs.length ≤ k) (h2 : ys.length ≤ k) : decide (xs = ys) = true := by
  rw [List.take_of_length_le h1, List.take_of_length_le h2] at h0
  exact decide_eq_true h0
theorem text_ne {x y : ByteArray} (h : x ≠ y) : ¬ x.toList = y.toList := by
  intro e
  rw [ByteArray.toList_eq, ByteArray.toList_eq] at e
  exact h (bytes_eq e)
end Pm
set_option maxHeartbeats 1000000 in
theorem R7Same_any (a : Option Addr) (n c : Nat) (xs : List Pair) (b : Option Addr) (m d : Nat) (ys : List Pair) (w : World) (hx : IsParams w a n xs) (hy : IsParams w b m ys) :
    Calls Try.prog 9 #[.slice a n c, .slice b m d] w fun e w' => e = .returned (.bool (decide (xs = ys))) ∧ ∃ q, w' = w.drewN q := by
  have hn := hx.1
  have hm := hy.1
  have hns := hx.small
  have hms := hy.small
  by_cases hl : n = m
  · subst hl
    have HX := Lib.hid hx
    have HY := Lib.hid hy
    clear hx hy
    go_enter Try.func9, Try.ntmps9
    go_wp2_with fail
    go_loopw [5] (fun i wr => ∃ k : Nat, k ≤ n ∧ i = .int .i64 k ∧ xs.take k = ys.take k ∧ ∃ q, wr = w.drewN q) (fun i _ => n - (intOf i).toNat)
    case atStart => exact ⟨0, Nat.zero_le _, rfl, rfl, 0, rfl⟩
    case round =>
      obtain ⟨k, hk, rfl, hsame, q, rfl⟩ := hrel
      have HS := Lib.hid hsame
      clear hsame
      by_cases hlt : k < n
      · rcases HX.out.2 with ⟨_, h0⟩ | ⟨x, rfl, hxl, hxc⟩
        · omega
        rcases HY.out.2 with ⟨_, h0⟩ | ⟨y, rfl, hyl, hyc⟩
        · omega
        obtain ⟨c1, c2⟩ := hxc k hlt
        obtain ⟨c3, c4⟩ := hyc k hlt
        clear hxc hyc
        by_cases he : at_ xs k = at_ ys k
        · have HN := Lib.hid (Pm.same_next HS.out (by omega) (by omega) he)
          rw [← he] at c3 c4
          generalize at_ xs k = p at *
          obtain ⟨nm, vl⟩ := p
          clear he
          go_wp2_with fail
          go_region
          go_wp2_with fail
          go_roundw
          case rel => exact ⟨k + 1, by omega, by go_num, HN.out, q + 1, rfl⟩
          case measure => simp [intOf]; omega
        · have HN := Lib.hid (Pm.same_no he)
          generalize at_ xs k = p at *
          generalize at_ ys k = u at *
          obtain ⟨nm, vl⟩ := p
          obtain ⟨nm2, vl2⟩ := u
          by_cases h1 : nm = nm2
          · have h2 : vl ≠ vl2 := fun h2 => he (by rw [h1, h2])
            subst h1
            have hne := Pm.text_ne h2
            clear he h2
            go_wp2_with fail
            go_region
            go_wp2_with fail
            go_ret
            exact ⟨ret_bool HN.out.symm, q + 1, rfl⟩
          · have hne := Pm.text_ne h1
            clear he h1
            go_wp2_with fail
            go_region
            go_wp2_with fail
            go_ret
            exact ⟨ret_bool HN.out.symm, q + 1, rfl⟩
      · have HN := Lib.hid (Pm.same_yes HS.out (by omega) (by omega))
        go_wp2_with fail
        go_ret
        exact ⟨ret_bool HN.out.symm, q, rfl⟩
  · have hne : ((n : Int) != (m : Int)) = true := by rw [bne_iff_ne]; omega
    have HN : Hid (decide (xs = ys) = false) := by
      show _ = _
      rw [decide_eq_false_iff_not]
      rintro rfl
      omega
    go_enter Try.func9, Try.ntmps9
    go_wp2_with fail
    go_ret
    exact ⟨ret_bool HN.out.symm, 0, rfl⟩

/-- A row of params, appended to one that is the call's own. -/
theorem wpList_append_params (w : World) {ops : Array Oper} {rest : List Oper} {o : Oper} {a : Act} {Q : Exit → Act → World → Prop} (hgd : o.guard = none) (s x : Operand)
    (ho : o.op = .call { callee := .builtin .append, args := #[s, x], argTypes := #[23, 23] }) (base : Nat)
    (v : Value) (n : Nat) (l : List Pair) (hs : a.eval s = v) (hown : OwnP w base v n l)
    (b : Option Addr) (m c : Nat) (ys : List Pair) (hx : a.eval x = .slice b m c) (hz : IsParams w b m ys) (hcp : b = none → c = 0)
    (hn : n + m ≤ 200000000) (hbase : base ≤ w.heap.size)
    (h : ∀ a' n' c' w', OwnP w' base (.slice a' n' c') n' (l ++ ys) → w.grownBy w' v.ownBlock → wpList Try.prog ops Q rest (a.put o.dst (.slice a' n' c')) w') : wpList Try.prog ops Q (o :: rest) a w := by
  obtain ⟨i0, hi, hz0, hz1, hz2⟩ := info_parts info_param
  refine wpList_plain hgd fun K hK => ?_
  rcases hz.2 with ⟨rfl, rfl⟩ | ⟨y, rfl, _, hc⟩
  · obtain rfl := hcp rfl
    obtain rfl := List.eq_nil_of_length_eq_zero hz.1
    have hr := run_append_owned_none (P := Try.prog) (w := w) base 23 o.type 41 i0 2 Try.underlying23 hi v n _ hown
    obtain ⟨a', c', rfl, _⟩ := own_form hown
    unfold Oper.wp execOp
    simp only [ho, resolve, invoke, builtin, Sem.run_bind, Sem.run_pure, Result.andThen_ok, List.map_toArray, List.map_cons, List.map_nil, hs, hx, hr]
    exact hK _ _ (h a' n c' w (by rw [List.append_nil]; exact hown) ⟨rfl, rfl, rfl, Nat.le_refl _, fun _ _ _ => rfl⟩)
  · have hl := hz.1
    obtain ⟨v', w', hr, h2, h3, _⟩ := run_append_own (P := Try.prog) w base 23 o.type 41 i0 _ 2 32 Try.underlying23 hi hz0 hz1 hz2 rfl (by omega) v n _ hown y m c (cellsP ys) (by rw [cellsP_len, hl])
      (by
        intro j u hj
        have hjl : j < ys.length * 2 := by rw [← cellsP_len]; exact (List.getElem?_eq_some_iff.1 hj).1
        obtain ⟨i, hi2⟩ : ∃ i, j = i * 2 ∨ j = i * 2 + 1 := ⟨j / 2, by omega⟩
        have hil : i < ys.length := by omega
        obtain ⟨c0, c1⟩ := cellsP_at ys i hil
        obtain ⟨d0, d1⟩ := hc i (by omega)
        rcases hi2 with rfl | rfl
        · rw [c0] at hj
          cases hj
          exact d0
        · rw [c1] at hj
          cases hj
          rw [add_one2]
          exact d1)
      (by
        intro u hu
        exact cellsP_one ys u hu)
      (by unfold maxLen; omega) (by omega) hbase
    obtain ⟨a', c', rfl, _⟩ := own_form h2
    have h5 : OwnP w' base (.slice a' (n + m) c') (n + m) (l ++ ys) := by
      show w'.ownsRow _ _ _ _ _ _
      rw [cellsP_app]
      exact h2
    unfold Oper.wp execOp
    simp only [ho, resolve, invoke, builtin, Sem.run_bind, Sem.run_pure, Result.andThen_ok, List.map_toArray, List.map_cons, List.map_nil, hs, hx, hr]
    exact hK _ _ (h a' _ c' w' h5 h3)

namespace Pm
theorem plc_cases (t : ByteArray) (l : List Pair) : (l.any (sm t) = false ∧ plc t l = -1) ∨ ∃ K : Nat, K < l.length ∧ plc t l = K ∧ (l.take K).any (sm t) = false ∧ sm t (at_ l K) = true := by
  cases h : l.findIdx? (sm t) with
  | none =>
    refine .inl ⟨?_, by unfold plc; rw [h]⟩
    rw [List.findIdx?_eq_none_iff] at h
    rw [List.any_eq_false]
    intro x hx
    rw [h x hx]
    simp
  | some K =>
    refine .inr ⟨K, ?_⟩
    rw [List.findIdx?_eq_some_iff_getElem] at h
    obtain ⟨h1, h2, h3⟩ := h
    refine ⟨h1, ?_, ?_, by rw [at_get l K h1]; exact h2⟩
    · have : l.findIdx? (sm t) = some K := List.findIdx?_eq_some_iff_getElem.2 ⟨h1, h2, h3⟩
      unfold plc
      rw [this]
    · rw [List.any_eq_false]
      intro x hx
      obtain ⟨j, hj, rfl⟩ := List.mem_take_iff_getElem.1 hx
      exact h3 j (by omega)
theorem plc_one (t : ByteArray) (p : Pair) : plc t [p] = if sm t p then 0 else -1 := by
  cases h : sm t p
  · exact plc_end (k := 1) (by simp) (by simp [h])
  · exact plc_at (k := 0) (l := [p]) (by simp) rfl h
theorem any_le {t : ByteArray} {l : List Pair} {k K : Nat} (h : k ≤ K) (h0 : (l.take K).any (sm t) = false) : (l.take k).any (sm t) = false := by
  rw [List.any_eq_false] at h0 ⊢
  intro x hx
  refine h0 x ?_
  have e : l.take k = (l.take K).take k := by rw [List.take_take, Nat.min_eq_left h]
  rw [e] at hx
  exact List.mem_of_mem_take hx
theorem any_gt {t : ByteArray} {l : List Pair} {k K : Nat} (hK : K < l.length) (h : K < k) (h1 : sm t (at_ l K) = true) : (l.take k).any (sm t) = true := by
  rw [List.any_eq_true]
  refine ⟨at_ l K, ?_, h1⟩
  rw [at_get l K hK]
  exact List.mem_take_iff_getElem.2 ⟨K, by omega, rfl⟩
theorem setR_made {t v : ByteArray} {l : List Pair} (h : l.any (sm t) = false) : l ++ [(t, v)] = setR t v l := by
  unfold setR
  rw [h]; rfl
end Pm
theorem drew_new (w : World) (q : Nat) (c0 c1 : Value) (t : TypeId) : ((w.drewN q).alloc (.cells #[c0, c1] t)).cell? ⟨w.heap.size, 0, none⟩ = some c0 ∧ ((w.drewN q).alloc (.cells #[c0, c1] t)).cell? ⟨w.heap.size, 1, none⟩ = some c1 := by
  have h : ∀ W : World, (W.alloc (.cells #[c0, c1] t)).cell? ⟨W.heap.size, 0, none⟩ = some c0 ∧ (W.alloc (.cells #[c0, c1] t)).cell? ⟨W.heap.size, 1, none⟩ = some c1 := fun W => ⟨by simp [go_sem], by simp [go_sem]⟩
  exact h (w.drewN q)
theorem one_param {w : World} {x : Addr} {len : Nat} {l : List Pair} (h : IsParams w (some x) len l) (k : Nat) (hk : k < len) : IsParams w (some (x.add (k * 2))) 1 [at_ l k] := by
  rcases h.2 with ⟨h, _⟩ | ⟨y, hy, hl, hc⟩
  · cases h
  · cases hy
    refine ⟨rfl, .inr ⟨_, rfl, by omega, fun i hi => ?_⟩⟩
    obtain rfl : i = 0 := by omega
    have e : (x.add (k * 2)).add (0 * 2) = x.add (k * 2) := add_nil0 _
    rw [e]
    exact hc k hk

set_option maxHeartbeats 1000000 in
theorem R7Set_any (t v : ByteArray) (a : Option Addr) (len cp : Nat) (l : List Pair) (w : World) (hz : IsParams w a len l) (hcp : len ≤ cp) (hc0 : a = none → cp = 0) (hl : len ≤ 1000) (hp : ∀ p ∈ l, p.1.size ≤ 1000 ∧ p.2.size ≤ 1000) (ht : t.size ≤ 1000) :
    Calls Try.prog 16 #[.slice a len cp, .string t, .string v] w (Made_ (Pm.setR t v l) w) := by
  have HZ := Lib.hid hz
  have HPP := Lib.hid hp
  clear hz hp
  rcases Pm.plc_cases t l with ⟨hno, hplc⟩ | ⟨K, hK, hplc, hnoK, hsK⟩
  · have HR := Lib.hid (Pm.setR_made (v := v) hno)
    have HPL := Lib.hid hplc
    clear hno hplc
    go_enter Try.func16, Try.ntmps16
    go_wp2_with fail
    refine (R7Place_any t a len cp l _ HZ.out hl HPP.out ht).mono ?_
    rintro e w1 ⟨rfl, q, rfl⟩
    rw [HPL.out]
    have hmade : ∀ o, o = .cells #[] 41 → OwnP ((w.drewN q).alloc o) w.heap.size (.slice (some ⟨w.heap.size, 0, none⟩) 0 0) 0 [] := by
      rintro o rfl
      exact OwnP.made (w.drewN q) #[] 0 w.heap.size (Nat.le_refl _) (by decide) rfl
    have HMD := Lib.hid (hmade _ rfl)
    have hzz : ∀ o, IsParams ((w.drewN q).alloc o) a len l := fun o => HZ.out.below ((below_drewN w.heap.size w q).alloc (Nat.le_refl _) o)
    have HZZ := Lib.hid hzz
    clear hmade hzz
    go_wp2_with (at_builtin; refine wpList_append_params _ rfl _ _ rfl w.heap.size _ _ [] rfl HMD.out a len cp l rfl (HZZ.out _) hc0 (by omega) (by simp) ?_)
    intro a10 n10 c10 w10 ho10 hg10
    have ho10 : OwnP w10 w.heap.size (.slice a10 n10 c10) n10 l := ho10
    have hk10 : Kept (fun k => w.heap.size ≤ k) w w10 := Kept.grown (((Kept.refl _ w).drewN q).alloc _) hg10 (fun k hk => by simp only [Value.ownBlock, Option.some.injEq] at hk; exact .inr (by omega))
    have hn10 := ho10.len
    have HO10 := Lib.hid ho10
    have HB10 := Lib.hid (hk10.below (Nat.le_refl _))
    have hll := HZ.out.1
    clear ho10 hg10 hk10 HMD HZZ
    go_wp2_with (at_builtin; refine wpList_append_param _ rfl _ _ rfl w.heap.size _ _ _ rfl (HO10.out.alloc _) _ 1 (t, v) rfl (by simp [go_sem]) (by simp [go_sem]) (by omega) (by have := HB10.out.size; simp; omega) ?_)
    intro a11 c11 w11 ho11 hg11 _
    have HB11 := Lib.hid (HO10.out.grown (Nat.le_refl _) HB10.out _ hg11)
    rw [HR.out] at ho11
    have HO11 := Lib.hid ho11
    clear ho11 hg11 HB10 HO10
    go_wp2_with fail
    go_ret
    exact ⟨_, _, _, rfl, HO11.out, HB11.out⟩
  · have HPL := Lib.hid hplc
    have HNK := Lib.hid hnoK
    have HSK := Lib.hid hsK
    clear hplc hnoK hsK
    have hKlen : K < len := by rw [← HZ.out.1]; exact hK
    go_enter Try.func16, Try.ntmps16
    go_wp2_with fail
    refine (R7Place_any t a len cp l _ HZ.out hl HPP.out ht).mono ?_
    rintro e w1 ⟨rfl, q, rfl⟩
    rw [HPL.out]
    go_wp2_with fail
    go_loopw [8, 9] (fun row i wr => ∃ (k : Nat) (a1 : Option Addr) (n1 c1 : Nat), k ≤ len ∧ i = .int .i64 k ∧ row = .slice a1 n1 c1 ∧ OwnP wr w.heap.size (.slice a1 n1 c1) n1 (Pm.stl t v false (l.take k)) ∧ Below w.heap.size w wr) (fun _ i _ => len - (intOf i).toNat)
    case atStart => exact ⟨0, _, _, _, Nat.zero_le _, rfl, rfl, OwnP.nil _ _, below_drewN _ _ q⟩
    case round =>
      obtain ⟨k, a1, n1, c1, hk, rfl, rfl, ho, hb⟩ := hrel
      have HO := Lib.hid ho
      have HB := Lib.hid hb
      have hn1 : n1 ≤ k := by
        have h1 := ho.len
        have h2 := Pm.stl_len t v false (l.take k)
        have h3 : (l.take k).length ≤ k := by rw [List.length_take]; omega
        omega
      clear ho hb
      by_cases hlt : k < len
      · have hkl : k < l.length := by rw [HZ.out.1]; exact hlt
        cases a with
        | none =>
          rcases HZ.out.2 with ⟨_, h⟩ | ⟨x, h, _⟩
          · omega
          · cases h
        | some x =>
        have hzr := HZ.out.below HB.out
        have hone := one_param hzr k hlt
        rcases hzr.2 with ⟨h, _⟩ | ⟨y, hy, hxl, hcells⟩
        · cases h
        cases hy
        obtain ⟨d0, d1⟩ := hcells k hlt
        obtain ⟨p, hpk⟩ : ∃ p, at_ l k = p := ⟨_, rfl⟩
        obtain ⟨nm, vl⟩ := p
        have hsz := HPP.out _ (at_mem l k hkl)
        rw [hpk] at d0 d1 hsz hone
        have HONE := Lib.hid hone
        clear hcells hzr hone
        by_cases hkK : k = K
        · have hst := Pm.stl_first (v := v) hkl (by rw [hkK]; exact HSK.out) (by rw [hkK]; exact HNK.out)
          rw [hpk] at hst
          have HST := Lib.hid hst.1
          have hq : ((k : Int) == (K : Int)) = true := by rw [hkK]; simp
          clear hst hpk hkK
          go_wp2_with (at_builtin; refine wpList_append_param _ rfl _ _ rfl w.heap.size _ _ _ rfl (HO.out.alloc _) _ 1 (nm, v) rfl (by simp [go_sem]) (by simp [go_sem]) (by omega) (by have := HB.out.size; simp; omega) ?_)
          intro a4 c4 w4 ho4 hg4 _
          have HB4 := Lib.hid (HO.out.grown (Nat.le_refl _) HB.out _ hg4)
          have ho5 : OwnP w4 w.heap.size (.slice a4 (n1 + 1) c4) (n1 + 1) (Pm.stl t v false (l.take (k + 1))) := by rw [← HST.out]; exact ho4
          have HO4 := Lib.hid ho5
          clear ho4 ho5 hg4 HB HO
          go_wp2_with fail
          go_roundw
          case rel => exact ⟨k + 1, _, _, _, by omega, by go_num, rfl, HO4.out, HB4.out⟩
          case measure => simp [intOf]; omega
        · have hq : ((k : Int) == (K : Int)) = false := by rw [beq_eq_false_iff_ne]; omega
          have hpl := Pm.plc_one t (nm, vl)
          cases hs : Pm.sm t (nm, vl)
          · rw [hs] at hpl
            have HPL1 : Hid (Pm.plc t [(nm, vl)] = -1) := hpl
            have hst := Pm.stl_other (v := v) hkl (by rw [hpk]; exact hs)
            rw [hpk] at hst
            have HST := Lib.hid hst.1
            clear hst hpk hs hpl
            go_wp2_with fail
            refine (R7Place_any t _ 1 _ [(nm, vl)] _ HONE.out (by omega) (by intro p hp; rw [List.mem_singleton] at hp; subst hp; exact hsz) ht).mono ?_
            rintro e w2 ⟨rfl, q2, rfl⟩
            rw [HPL1.out]
            have HO2 := Lib.hid (HO.out.below (below_drewN _ _ q2))
            have HB2 : Hid (Below w.heap.size w (wr.drewN q2)) := HB.out.trans (below_drewN _ _ q2)
            go_wp2_with (at_builtin; refine wpList_append_param _ rfl _ _ rfl w.heap.size _ _ _ rfl (HO2.out.alloc _) _ 1 (nm, vl) rfl (drew_new wr q2 _ _ _).1 (drew_new wr q2 _ _ _).2 (by omega) (by have := HB.out.size; simp; omega) ?_)
            intro a4 c4 w4 ho4 hg4 _
            have HB4 := Lib.hid (HO2.out.grown (Nat.le_refl _) HB2.out _ hg4)
            have ho5 : OwnP w4 w.heap.size (.slice a4 (n1 + 1) c4) (n1 + 1) (Pm.stl t v false (l.take (k + 1))) := by rw [← HST.out]; exact ho4
            have HO4 := Lib.hid ho5
            clear ho4 ho5 hg4 HB HO HO2 HB2
            go_wp2_with fail
            go_roundw
            case rel => exact ⟨k + 1, _, _, _, by omega, by go_num, rfl, HO4.out, HB4.out⟩
            case measure => simp [intOf]; omega
          · rw [hs] at hpl
            have HPL1 : Hid (Pm.plc t [(nm, vl)] = 0) := hpl
            have hKk : K < k := by
              by_cases h : K < k
              · exact h
              · exfalso
                have h2 := Pm.none_next (t := t) (k := K) hK HNK.out
                have h3 := Pm.any_le (t := t) (l := l) (k := k + 1) (K := K) (by omega) HNK.out
                rw [← at_take l k hkl, List.any_append, hpk] at h3
                simp [hs] at h3
            have hst := Pm.stl_again (v := v) hkl (by rw [hpk]; exact hs) (Pm.any_gt hK hKk HSK.out)
            have HST := Lib.hid hst.1
            clear hst hpk hs hpl
            go_wp2_with fail
            refine (R7Place_any t _ 1 _ [(nm, vl)] _ HONE.out (by omega) (by intro p hp; rw [List.mem_singleton] at hp; subst hp; exact hsz) ht).mono ?_
            rintro e w2 ⟨rfl, q2, rfl⟩
            rw [HPL1.out]
            have ho2 := HO.out.below (below_drewN _ _ q2)
            rw [HST.out] at ho2
            have HO2 := Lib.hid ho2
            have HB2 : Hid (Below w.heap.size w (wr.drewN q2)) := HB.out.trans (below_drewN _ _ q2)
            clear ho2 HO HB
            go_wp2_with fail
            go_roundw
            case rel => exact ⟨k + 1, _, _, _, by omega, by go_num, rfl, HO2.out, HB2.out⟩
            case measure => simp [intOf]; omega
      · obtain rfl : k = len := by omega
        have hkl : ¬ k < l.length := by rw [HZ.out.1]; omega
        have hR := Pm.setR_yes (v := v) hkl (Pm.any_gt hK hKlen HSK.out)
        have ho := HO.out
        rw [hR] at ho
        have HO2 := Lib.hid ho
        clear ho hR HO
        go_wp2_with fail
        go_ret
        exact ⟨_, _, _, rfl, HO2.out, HB.out⟩
end Go.Proofs.Ytjgjdcikeagibaa
