/- Contracts and lemmas that the claim rests on: PrF. -/
import Derived.Test.YtjgjdcikeagibaaGPrE
import Derived.OwnWalk
/- text and Text, of the program and of the document: contracts. -/
namespace Go.Proofs.Ytjgjdcikeagibaa
open Go.RowKit

namespace Pm
theorem okP_name (p : Pair) (h : tokS p.1 = false) : okP p = false := by unfold okP; rw [h]; rfl
theorem okP_value (p : Pair) (h : okV p.2 = false) : okP p = false := by unfold okP; rw [h, Bool.and_false]
theorem okP_both (p : Pair) (h : tokS p.1 = true) (hv : okV p.2 = true) : okP p = true := by unfold okP; rw [h, hv]; rfl
theorem eE_yes (v : ByteArray) (h : okV v = true) : eE v = 0 := by rw [eE_ok, h]; rfl
theorem eE_no (v : ByteArray) (h : okV v = false) : eE v = 2 := by rw [eE_ok, h]; rfl
def tT (p : Pair) : ByteArray := if okP p then one p else ByteArray.empty
def tE (p : Pair) : Int := if okP p then 0 else 2
/-- A row's text, and the error. -/
def rT (l : List Pair) : ByteArray := if okR l then textR l else ByteArray.empty
def rE (l : List Pair) : Int := if okR l then 0 else 2
theorem r_no {l : List Pair} (h : okR l = false) : rT l = ByteArray.empty ∧ rE l = 2 := by unfold rT rE; rw [h]; exact ⟨rfl, rfl⟩
theorem r_yes {l : List Pair} (h : okR l = true) : rT l = textR l ∧ rE l = 0 := by unfold rT rE; rw [h]; exact ⟨rfl, rfl⟩
theorem okR_at {l : List Pair} {k : Nat} (hk : k < l.length) (h : okP (at_ l k) = false) : okR l = false := by
  unfold okR
  have : l.all okP = false := by
    cases e : l.all okP
    · rfl
    · rw [List.all_eq_true.1 e _ (at_mem l k hk)] at h
      cases h
  rw [this, Bool.and_false]
theorem all_next {l : List Pair} {k : Nat} (hk : k < l.length) (h0 : (l.take k).all okP = true) (h : okP (at_ l k) = true) : (l.take (k + 1)).all okP = true := by
  rw [← at_take l k hk, List.all_append, h0]
  simp [h]
theorem okR_end {l : List Pair} {k : Nat} (hk : ¬ k < l.length) (hl : l ≠ []) (h0 : (l.take k).all okP = true) : okR l = true := by
  rw [List.take_of_length_le (by omega)] at h0
  unfold okR
  rw [h0, Bool.and_true]
  cases l with
  | nil => exact absurd rfl hl
  | cons a r => rfl
theorem one_take {l : List Pair} {k : Nat} (hk : k < l.length) : (l.take k).map one ++ [one (at_ l k)] = (l.take (k + 1)).map one := by
  rw [← at_take l k hk, List.map_append]; rfl
theorem flat_le (l : List Pair) (h : ∀ p ∈ l, p.1.size ≤ 1000 ∧ p.2.size ≤ 1000) : (flat (l.map one)).length ≤ 3003 * l.length := by
  induction l with
  | nil => exact Nat.zero_le _
  | cons q r ih =>
    have h1 := ih (fun p hp => h p (List.mem_cons_of_mem _ hp))
    have h2 := one_size q
    have h3 := h q (List.mem_cons_self ..)
    rw [List.map_cons, List.length_cons]
    unfold Go.Proofs.Ytjgjdcikeagibaa.flat at h1 ⊢
    rw [List.flatMap_cons, List.length_append]
    have e : (one q).data.toList.length = (one q).size := by simp
    rw [e]
    omega
end Pm

theorem add_nil0 (x : Addr) : x.add 0 = x := by unfold Addr.add; simp
theorem text1_any (nm vl : ByteArray) (w : World) (hn : nm.size ≤ 10000) (hv : vl.size ≤ 10000) :
    Calls Try.prog 24 #[.agg #[.string nm, .string vl]] w fun e w' => e = .returned (.tuple #[.string (Pm.tT (nm, vl)), .int .i64 (Pm.tE (nm, vl))]) ∧ Below w.heap.size w w' := by
  cases ht : tokS nm
  · have h0 := Pm.okP_name (nm, vl) ht
    have e1 : Hid (Pm.tT (nm, vl) = ByteArray.empty) := by show _ = _; unfold Pm.tT; rw [h0]; rfl
    have e2 : Hid (Pm.tE (nm, vl) = 2) := by show _ = _; unfold Pm.tE; rw [h0]; rfl
    have HT := Lib.hid ht
    clear ht h0
    rw [e1.out, e2.out]
    go_enter Try.func24, Try.ntmps24
    go_wp2_with fail
    refine (Token_any nm _ (by omega)).mono ?_
    rintro e w1 ⟨rfl, hb1⟩
    rw [HT.out]
    have HB1 : Hid (Below w.heap.size w w1) := Below.trans (by repeat (first | with_reducible exact Below.refl _ _ | with_reducible assumption | (with_reducible refine Below.setCell ?_ ?_ _; rotate_left; · (simp <;> omega)) | (with_reducible refine Below.alloc ?_ ?_ _; rotate_left; · (simp <;> omega)) | with_reducible refine Below.drew ?_)) (hb1.mono (by simp))
    clear hb1
    go_wp2_with fail
    go_ret2
    exact ⟨rfl, HB1.out⟩
  · cases hok : Pm.okV vl
    · have h0 := Pm.okP_value (nm, vl) hok
      have e1 : Hid (Pm.tT (nm, vl) = ByteArray.empty) := by show _ = _; unfold Pm.tT; rw [h0]; rfl
      have e2 : Hid (Pm.tE (nm, vl) = 2) := by show _ = _; unfold Pm.tE; rw [h0]; rfl
      have e3 := Lib.hid (Pm.eE_no vl hok)
      have HT := Lib.hid ht
      clear ht h0 hok
      rw [e1.out, e2.out]
      go_enter Try.func24, Try.ntmps24
      go_wp2_with fail
      refine (Token_any nm _ (by omega)).mono ?_
      rintro e w1 ⟨rfl, hb1⟩
      rw [HT.out]
      have c1 : w1.cell? ⟨w.heap.size, 1, none⟩ = some (.string vl) := below_cell hb1 (by simp) (by simp [go_sem])
      have HB1 : Hid (Below w.heap.size w w1) := Below.trans (by repeat (first | with_reducible exact Below.refl _ _ | with_reducible assumption | (with_reducible refine Below.setCell ?_ ?_ _; rotate_left; · (simp <;> omega)) | (with_reducible refine Below.alloc ?_ ?_ _; rotate_left; · (simp <;> omega)) | with_reducible refine Below.drew ?_)) (hb1.mono (by simp))
      clear hb1
      go_wp2_with fail
      refine (Either_any vl _ hv).mono ?_
      rintro e w2 ⟨rfl, hb2⟩
      rw [e3.out]
      have HB2 := Lib.hid (below_then HB1.out hb2)
      clear hb2
      go_wp2_with fail
      go_ret2
      exact ⟨rfl, HB2.out⟩
    · have h0 := Pm.okP_both (nm, vl) ht hok
      have e1 : Hid (Pm.tT (nm, vl) = (nm ++ Pm.eqs) ++ eT vl) := by show _ = _; unfold Pm.tT; rw [h0]; rfl
      have e2 : Hid (Pm.tE (nm, vl) = 0) := by show _ = _; unfold Pm.tE; rw [h0]; rfl
      have e3 := Lib.hid (Pm.eE_yes vl hok)
      have hz := Qd.eT_size vl
      have HT := Lib.hid ht
      clear ht h0 hok
      rw [e1.out, e2.out]
      obtain ⟨X, hX⟩ : ∃ X, eT vl = X := ⟨_, rfl⟩
      rw [hX] at hz ⊢
      have HX := Lib.hid hX
      clear hX e1
      go_enter Try.func24, Try.ntmps24
      go_wp2_with fail
      refine (Token_any nm _ (by omega)).mono ?_
      rintro e w1 ⟨rfl, hb1⟩
      rw [HT.out]
      have c0 : w1.cell? ⟨w.heap.size, 0, none⟩ = some (.string nm) := below_cell hb1 (by simp) (by simp [go_sem])
      have c1 : w1.cell? ⟨w.heap.size, 1, none⟩ = some (.string vl) := below_cell hb1 (by simp) (by simp [go_sem])
      have l1 : w.heap.size < w1.heap.size := lt_of_cell c0
      have HB1 : Hid (Below w.heap.size w w1) := Below.trans (by repeat (first | with_reducible exact Below.refl _ _ | with_reducible assumption | (with_reducible refine Below.setCell ?_ ?_ _; rotate_left; · (simp <;> omega)) | (with_reducible refine Below.alloc ?_ ?_ _; rotate_left; · (simp <;> omega)) | with_reducible refine Below.drew ?_)) (hb1.mono (by simp))
      clear hb1
      go_wp2_with fail
      refine (Either_any vl _ hv).mono ?_
      rintro e w2 ⟨rfl, hb2⟩
      rw [e3.out, HX.out]
      have c2 : w2.cell? ⟨w.heap.size, 0, none⟩ = some (.string nm) := below_cell hb2 l1 c0
      have HB2 := Lib.hid (below_then HB1.out hb2)
      clear hb2
      go_wp2_with fail
      go_ret2
      exact ⟨rfl, HB2.out⟩

set_option maxHeartbeats 1000000 in
theorem Text7_any (a : Option Addr) (len cp : Nat) (l : List Pair) (w : World) (hz : IsParams w a len l) (hl : len ≤ 1000) (hp : ∀ p ∈ l, p.1.size ≤ 1000 ∧ p.2.size ≤ 1000) :
    Calls Try.prog 10 #[.slice a len cp] w fun e w' => e = .returned (.tuple #[.string (Pm.rT l), .int .i64 (Pm.rE l)]) ∧ Below w.heap.size w w' := by
  have HZ := Lib.hid hz
  have HPP := Lib.hid hp
  clear hz hp
  by_cases h0 : len = 0
  · obtain rfl := h0
    obtain rfl := List.eq_nil_of_length_eq_zero HZ.out.1
    go_enter Try.func10, Try.ntmps10
    go_wp2_with fail
    go_ret2
    exact ⟨rfl, Below.refl _ _⟩
  have hne : l ≠ [] := by
    rintro rfl
    exact h0 HZ.out.1.symm
  have HNE := Lib.hid hne
  clear hne
  obtain ⟨i0, hi, hz0, hz1, hz2⟩ := info_parts info_string
  go_enter Try.func10, Try.ntmps10
  go_wp2_with (refine wpList_make_own _ rfl _ _ 53 rfl w.heap.size 9 i0 _ 1 Try.underlying53 hi hz0 hz1 .i64 .i64 _ len rfl rfl rfl (by rw [hz2]; omega) (by unfold maxLen; omega) (Nat.le_refl _) ?_)
  intro w1 ho1 hg1
  have HO1 := Lib.hid ho1
  have HB1 : Hid (Below w.heap.size w w1) := (Kept.grown (Kept.refl (fun k => w.heap.size ≤ k) w) hg1 (fun k hk => by cases hk)).below (Nat.le_refl _)
  clear ho1 hg1
  go_wp2_with fail
  go_loopw [4, 17] (fun row i wr => ∃ (k : Nat) (a1 : Option Addr) (c1 : Nat), k ≤ len ∧ i = .int .i64 k ∧ row = .slice a1 k c1 ∧ wr.ownsRow w.heap.size 9 1 (.slice a1 k c1) k (((l.take k).map Pm.one).map Value.string) ∧ Below w.heap.size w wr ∧ (l.take k).all Pm.okP = true) (fun _ i _ => len - (intOf i).toNat)
  case atStart => exact ⟨0, _, _, Nat.zero_le _, rfl, rfl, HO1.out, HB1.out, rfl⟩
  case round =>
    clear HO1 HB1
    obtain ⟨k, a1, c1, hk, rfl, rfl, ho, hb, hall⟩ := hrel
    have HO := Lib.hid ho
    have HB := Lib.hid hb
    have HA := Lib.hid hall
    clear ho hb hall
    by_cases hlt : k < len
    · have hkl : k < l.length := by rw [HZ.out.1]; exact hlt
      rcases (HZ.out.below HB.out).2 with ⟨rfl, rfl⟩ | ⟨x, rfl, hxl, hcells⟩
      · omega
      obtain ⟨d0, d1⟩ := hcells k hlt
      obtain ⟨p, hpk⟩ : ∃ p, at_ l k = p := ⟨_, rfl⟩
      obtain ⟨nm, vl⟩ := p
      have hsz := HPP.out _ (at_mem l k hkl)
      rw [hpk] at d0 d1 hsz
      clear hcells
      have HPK := Lib.hid hpk
      cases hok : Pm.okP (nm, vl)
      · have h1 := Pm.r_no (Pm.okR_at hkl (by rw [hpk]; exact hok))
        have e1 : Hid (Pm.tE (nm, vl) = 2) := by show _ = _; unfold Pm.tE; rw [hok]; rfl
        have HR := Lib.hid h1
        clear hok h1 hpk
        go_wp2_with fail
        refine (text1_any nm vl _ (by omega) (by omega)).mono ?_
        rintro e w2 ⟨rfl, hb2⟩
        rw [e1.out]
        have HB2 := Lib.hid ((HB.out.alloc HB.out.size _).trans (hb2.mono (by have := HB.out.size; simp; omega)))
        clear hb2
        go_wp2_with fail
        go_ret2
        rw [HR.out.1, HR.out.2]
        exact ⟨rfl, HB2.out⟩
      · have e1 : Hid (Pm.tE (nm, vl) = 0) := by show _ = _; unfold Pm.tE; rw [hok]; rfl
        have e2 : Hid (Pm.tT (nm, vl) = Pm.one (nm, vl)) := by show _ = _; unfold Pm.tT; rw [hok]; rfl
        have HN := Lib.hid (Pm.all_next hkl HA.out (by rw [hpk]; exact hok))
        have ht := Pm.one_take hkl
        rw [hpk] at ht
        obtain ⟨X, hX⟩ : ∃ X, Pm.one (nm, vl) = X := ⟨_, rfl⟩
        rw [hX] at ht e2
        have HT := Lib.hid ht
        clear hok ht hpk hX HA
        go_wp2_with fail
        refine (text1_any nm vl _ (by omega) (by omega)).mono ?_
        rintro e w2 ⟨rfl, hb2⟩
        rw [e1.out, e2.out]
        have HB2 := Lib.hid ((HB.out.alloc HB.out.size _).trans (hb2.mono (by have := HB.out.size; simp; omega)))
        have HO2 := Lib.hid (own_kept (P := fun _ => False) (World.ownsRow.alloc HO.out _) (Kept.of_below hb2) (fun _ _ h => h))
        clear hb2 HO HB
        go_wp2_with (at_builtin; refine wpList_append_text _ rfl _ _ rfl w.heap.size _ _ _ rfl (World.ownsRow.alloc (w := w2) HO2.out _) w2.heap.size 1 X rfl (by simp [go_sem]) (by omega) (by have := HB2.out.size; simp; omega) ?_)
        intro a4 c4 w4 ho4 hg4 _
        have HB4 : Hid (Below w.heap.size w w4) := row_grown HO2.out (Nat.le_refl _) HB2.out _ hg4
        have ho5 : w4.ownsRow w.heap.size 9 1 (.slice a4 (k + 1) c4) (k + 1) (((l.take (k + 1)).map Pm.one).map Value.string) := by rw [← HT.out]; simpa using ho4
        have HO4 := Lib.hid ho5
        clear ho4 ho5 hg4 HO2 HB2
        go_wp2_with fail
        go_roundw
        case rel => exact ⟨k + 1, a4, c4, by omega, by go_num, rfl, HO4.out, HB4.out, HN.out⟩
        case measure => simp [intOf]; omega
    · obtain rfl : k = len := by omega
      have hx : l.take k = l := List.take_of_length_le (by rw [HZ.out.1]; omega)
      have HR := Lib.hid (Pm.r_yes (Pm.okR_end (by rw [HZ.out.1]; exact hlt) HNE.out HA.out))
      have ho := HO.out
      rw [hx] at ho
      obtain ⟨h1, h2, h3, h4, h5⟩ := row_facts ho (by rw [List.length_map, HZ.out.1]; exact hl)
      have HT := Lib.hid h2
      have HX := Lib.hid h4
      have hfl := Pm.flat_le l HPP.out
      have hll := HZ.out.1
      clear ho h1 h2 h3 h4 hx HO HA
      go_wp2_with fail
      refine (QJoin_any Pm.semi a1 k c1 (l.map Pm.one) _ HT.out HX.out h5 (by omega) (by rw [List.length_map]; show 1 * l.length + _ ≤ _; omega)).mono ?_
      rintro e w2 ⟨rfl, hb2⟩
      have HB2 := Lib.hid (below_then HB.out hb2)
      clear hb2
      go_wp2_with fail
      go_ret2
      rw [HR.out.1, HR.out.2]
      exact ⟨rfl, HB2.out⟩

namespace Pm
theorem map_at (l : List Pair) (k : Nat) (h : k < l.length) : (l.map one).getD k ByteArray.empty = one (at_ l k) := by
  rw [getD_at _ k (by rw [List.length_map]; exact h), List.getElem_map, at_get l k h]
theorem text_first (l : List Pair) (h : 0 < l.length) (nm vl : ByteArray) (hp : at_ l 0 = (nm, vl)) : ((textR (l.take 0) ++ nm) ++ eqs) ++ eT vl = textR (l.take 1) := by
  have h1 := joinB_one semi (l.map one) (by rw [List.length_map]; exact h)
  rw [map_at l 0 h, hp, ← List.map_take] at h1
  unfold textR
  rw [← h1]
  show _ = _ ++ ((nm ++ eqs) ++ eT vl)
  rw [← ByteArray.append_assoc, ← ByteArray.append_assoc]
  rfl
theorem text_next (l : List Pair) (k : Nat) (h0 : 0 < k) (h : k < l.length) (nm vl : ByteArray) (hp : at_ l k = (nm, vl)) : (((textR (l.take k) ++ semi) ++ nm) ++ eqs) ++ eT vl = textR (l.take (k + 1)) := by
  have h1 := joinB_snoc semi (l.map one) k h0 (by rw [List.length_map]; exact h)
  rw [map_at l k h, hp, ← List.map_take, ← List.map_take] at h1
  unfold textR
  rw [← h1]
  show _ = _ ++ ((nm ++ eqs) ++ eT vl)
  rw [← ByteArray.append_assoc, ← ByteArray.append_assoc]
theorem text_le (l : List Pair) (h : ∀ p ∈ l, p.1.size ≤ 1000 ∧ p.2.size ≤ 1000) (k : Nat) (hk : k ≤ l.length) : (textR (l.take k)).size ≤ 3004 * k := by
  have h1 := joinB_le semi ((l.take k).map one)
  have h2 := flat_le (l.take k) (fun p hp => h p (List.mem_of_mem_take hp))
  have h3 : (l.take k).length = k := by rw [List.length_take]; omega
  rw [List.length_map, h3] at h1
  rw [h3] at h2
  have e : semi.size = 1 := rfl
  rw [e] at h1
  unfold textR
  omega
end Pm
set_option maxHeartbeats 1000000 in
theorem R7Text_any (a : Option Addr) (len cp : Nat) (l : List Pair) (w : World) (hz : IsParams w a len l) (hl : len ≤ 1000) (hp : ∀ p ∈ l, p.1.size ≤ 1000 ∧ p.2.size ≤ 1000) :
    Calls Try.prog 12 #[.slice a len cp] w fun e w' => e = .returned (.tuple #[.string (Pm.rT l), .int .i64 (Pm.rE l)]) ∧ ∃ n, w' = w.drewN n := by
  have HZ := Lib.hid hz
  have HPP := Lib.hid hp
  clear hz hp
  go_enter Try.func12, Try.ntmps12
  go_wp2_with fail
  go_loopw [4, 5] (fun s i wr => ∃ k : Nat, k ≤ len ∧ i = .int .i64 k ∧ s = .string (Pm.textR (l.take k)) ∧ (∃ n, wr = w.drewN n) ∧ (l.take k).all Pm.okP = true) (fun _ i _ => len - (intOf i).toNat)
  case atStart => exact ⟨0, Nat.zero_le _, rfl, rfl, ⟨0, rfl⟩, rfl⟩
  case round =>
    obtain ⟨k, hk, rfl, rfl, ⟨n, rfl⟩, hall⟩ := hrel
    have HA := Lib.hid hall
    have htl := Pm.text_le l HPP.out k (by rw [HZ.out.1]; exact hk)
    clear hall
    by_cases hlt : k < len
    · have hkl : k < l.length := by rw [HZ.out.1]; exact hlt
      rcases HZ.out.2 with ⟨rfl, rfl⟩ | ⟨x, rfl, hxl, hcells⟩
      · omega
      obtain ⟨d0, d1⟩ := hcells k hlt
      obtain ⟨p, hpk⟩ : ∃ p, at_ l k = p := ⟨_, rfl⟩
      obtain ⟨nm, vl⟩ := p
      have hsz := HPP.out _ (at_mem l k hkl)
      rw [hpk] at d0 d1 hsz
      clear hcells
      cases hov : Pm.okV vl
      · have h1 := Pm.r_no (Pm.okR_at hkl (by rw [hpk]; exact Pm.okP_value (nm, vl) hov))
        have HR := Lib.hid h1
        have HE := Lib.hid (Pm.eE_no vl hov)
        clear h1 hov hpk
        generalize Pm.textR (l.take k) = S at *
        go_wp2_with fail
        refine (REither_any vl _ (by omega)).mono ?_
        rintro e w2 ⟨rfl, n2, rfl⟩
        rw [HE.out]
        go_wp2_with fail
        go_ret2
        rw [HR.out.1, HR.out.2]
        exact ⟨rfl, n + n2, rfl⟩
      · have HE := Lib.hid (Pm.eE_yes vl hov)
        cases hot : tokS nm
        · have h1 := Pm.r_no (Pm.okR_at hkl (by rw [hpk]; exact Pm.okP_name (nm, vl) hot))
          have HR := Lib.hid h1
          have HT := Lib.hid hot
          clear h1 hov hot hpk
          generalize Pm.textR (l.take k) = S at *
          go_wp2_with fail
          refine (REither_any vl _ (by omega)).mono ?_
          rintro e w2 ⟨rfl, n2, rfl⟩
          rw [HE.out]
          go_wp2_with fail
          refine (RToken_any nm _ (by unfold maxLen; omega)).mono ?_
          rintro e w2 ⟨rfl, rfl⟩
          rw [HT.out]
          go_wp2_with fail
          go_ret2
          rw [HR.out.1, HR.out.2]
          exact ⟨rfl, n + n2, rfl⟩
        · have HN := Lib.hid (Pm.all_next hkl HA.out (by rw [hpk]; exact Pm.okP_both (nm, vl) hot hov))
          have HT := Lib.hid hot
          have hez := Qd.eT_size vl
          by_cases hk0 : k = 0
          · subst hk0
            have hx := Pm.text_first l hkl nm vl hpk
            obtain ⟨X, hX⟩ : ∃ X, eT vl = X := ⟨_, rfl⟩
            rw [hX] at hx hez
            have HX := Lib.hid hX
            have HF := Lib.hid hx
            have d2 : w.cell? x = some (.string nm) := by rw [Nat.zero_mul, add_nil0] at d0; exact d0
            have d3 : w.cell? ⟨x.block, x.off + 1, none⟩ = some (.string vl) := by rw [Nat.zero_mul, add_nil0] at d1; exact d1
            clear hov hot hpk hX hx
            generalize Pm.textR (l.take 0) = S at *
            go_wp2_with fail
            refine (REither_any vl _ (by omega)).mono ?_
            rintro e w2 ⟨rfl, n2, rfl⟩
            rw [HE.out, HX.out]
            go_wp2_with fail
            refine (RToken_any nm _ (by unfold maxLen; omega)).mono ?_
            rintro e w2 ⟨rfl, rfl⟩
            rw [HT.out]
            go_wp2_with fail
            exact ⟨⟨1, by omega, rfl, congrArg Value.string HF.out, ⟨n + n2, rfl⟩, HN.out⟩, by simp [intOf]; omega⟩
          · have hx := Pm.text_next l k (by omega) hkl nm vl hpk
            obtain ⟨X, hX⟩ : ∃ X, eT vl = X := ⟨_, rfl⟩
            rw [hX] at hx hez
            have HX := Lib.hid hX
            have HF := Lib.hid hx
            clear hov hot hpk hX hx
            generalize Pm.textR (l.take k) = S at *
            go_wp2_with fail
            refine (REither_any vl _ (by omega)).mono ?_
            rintro e w2 ⟨rfl, n2, rfl⟩
            rw [HE.out, HX.out]
            go_wp2_with fail
            refine (RToken_any nm _ (by unfold maxLen; omega)).mono ?_
            rintro e w2 ⟨rfl, rfl⟩
            rw [HT.out]
            go_wp2_with fail
            exact ⟨⟨k + 1, by omega, by go_num, congrArg Value.string HF.out, ⟨n + n2, rfl⟩, HN.out⟩, by simp [intOf]; omega⟩
    · obtain rfl : k = len := by omega
      by_cases hk0 : k = 0
      · subst hk0
        obtain rfl := List.eq_nil_of_length_eq_zero HZ.out.1
        go_wp2_with fail
        go_ret2
        exact ⟨rfl, n, rfl⟩
      · have hx : l.take k = l := List.take_of_length_le (by rw [HZ.out.1]; omega)
        have HR := Lib.hid (Pm.r_yes (Pm.okR_end (by rw [HZ.out.1]; exact hlt) (by rintro rfl; exact hk0 HZ.out.1.symm) HA.out))
        rw [hx]
        obtain ⟨T, hT⟩ : ∃ T, Pm.textR l = T := ⟨_, rfl⟩
        rw [hT] at HR ⊢
        clear hT htl hx
        go_wp2_with fail
        go_ret2
        rw [HR.out.1, HR.out.2]
        exact ⟨rfl, n, rfl⟩
end Go.Proofs.Ytjgjdcikeagibaa
