/- Contracts and lemmas that the claim rests on: PrG. -/
import Derived.Test.YtjgjdcikeagibaaGPrF
import Derived.Deep.RegionWith
/- named, Get and the document's Place: contracts. -/
namespace Go.Proofs.Ytjgjdcikeagibaa
open Go.RowKit

set_option maxHeartbeats 1000000 in
theorem named1_any (nm vl F : ByteArray) (b : Nat) (w : World) (hc : w.cell? ⟨b, 0, none⟩ = some (.string F)) (hn : nm.size ≤ 100000) :
    Calls Try.prog 43 #[.agg #[.string nm, .string vl], .pointer (some ⟨b, 0, none⟩)] w fun e w' => e = .returned (.bool ((B.foldS nm).toList == F.toList)) ∧ Below w.heap.size w w' := by
  have hlt := lt_of_cell hc
  simp only at hlt
  have hb0 : ∀ o, Below w.heap.size w (w.alloc o) := fun o => (Below.refl _ _).alloc (Nat.le_refl _) _
  have HB0 := Lib.hid hb0
  clear hb0
  obtain ⟨G, hG⟩ : ∃ G, B.foldS nm = G := ⟨_, rfl⟩
  have HG := Lib.hid hG
  rw [hG]
  clear hG
  go_enter Try.func43, Try.ntmps43
  go_wp2_with fail
  go_region_with (go_at_call 42; refine (Fold_any nm _ hn).mono ?_; rintro e w1 ⟨rfl, hb1⟩; rw [HG.out]; have c1 : w1.cell? ⟨b, 0, none⟩ = some (.string F) := below_cell hb1 (by simp; omega) (by simp [go_sem, hc, hlt]); have HB1 : Hid (Below w.heap.size w w1) := Below.trans ((HB0.out _).trans (below_drewN _ _ 1)) (hb1.mono (by simp)); clear hb1)
  all_goals
    go_wp2_with fail
    go_ret
    exact ⟨rfl, HB1.out⟩
theorem enters_named1 (args : Array Value) (w : World) : (callFunc 43 args).run Try.prog w = .ok (.enter 43 args) w := by
  exact enters_of Try.func43 (by kernel_rfl) rfl args w
theorem named_any (t : ByteArray) (w : World) (ht : t.size ≤ 100000) :
    Calls Try.prog 28 #[.string t] w fun e w' => ∃ b, e = .returned (.func (.func 43) #[] #[.pointer (some ⟨b, 0, none⟩)]) ∧ w.heap.size ≤ b ∧ w'.cell? ⟨b, 0, none⟩ = some (.string (B.foldS t)) ∧ Below w.heap.size w w' := by
  obtain ⟨F, hF⟩ : ∃ F, B.foldS t = F := ⟨_, rfl⟩
  have HF := Lib.hid hF
  rw [hF]
  clear hF
  go_enter Try.func28, Try.ntmps28
  go_wp2_with fail
  refine (Fold_any t _ ht).mono ?_
  rintro e w1 ⟨rfl, hb1⟩
  rw [HF.out]
  have HB1 := Lib.hid hb1
  clear hb1
  go_wp2_with fail
  go_ret
  exact ⟨_, rfl, HB1.out.size, by simp [go_sem], HB1.out.alloc HB1.out.size _⟩

namespace Pm
/-- Is a param of a name? -/
def sm (t : ByteArray) (p : Pair) : Bool := sameS p.1 t
/-- The first param of a name; its place. -/
def got (t : ByteArray) (l : List Pair) : Option Pair := l.find? (sm t)
def plc (t : ByteArray) (l : List Pair) : Int := match l.findIdx? (sm t) with | some k => (k : Int) | none => -1
def gV (t : ByteArray) (l : List Pair) : ByteArray := match got t l with | some p => p.2 | none => ByteArray.empty
theorem none_next {t : ByteArray} {l : List Pair} {k : Nat} (hk : k < l.length) (h0 : (l.take k).any (sm t) = false) (h : sm t (at_ l k) = false) : (l.take (k + 1)).any (sm t) = false := by
  rw [← at_take l k hk, List.any_append, h0]
  simp [h]
theorem got_at {t : ByteArray} {l : List Pair} {k : Nat} (hk : k < l.length) (h0 : (l.take k).any (sm t) = false) (h : sm t (at_ l k) = true) : got t l = some (at_ l k) := by
  unfold got
  rw [List.any_eq_false] at h0
  conv => lhs; rw [← List.take_append_drop k l]
  rw [List.find?_append, List.find?_eq_none.2 (fun x hx => by have := h0 x hx; exact this), at_drop l k hk, List.find?_cons_of_pos h]
  rfl
theorem got_end {t : ByteArray} {l : List Pair} {k : Nat} (hk : ¬ k < l.length) (h0 : (l.take k).any (sm t) = false) : got t l = none := by
  rw [List.take_of_length_le (by omega), List.any_eq_false] at h0
  exact List.find?_eq_none.2 (fun x hx => by have := h0 x hx; exact this)
theorem plc_at {t : ByteArray} {l : List Pair} {k : Nat} (hk : k < l.length) (h0 : (l.take k).any (sm t) = false) (h : sm t (at_ l k) = true) : plc t l = k := by
  have h1 : l.findIdx? (sm t) = some k := by
    rw [List.findIdx?_eq_some_iff_getElem]
    refine ⟨hk, by rw [← at_get l k hk]; exact h, fun j hj => ?_⟩
    rw [List.any_eq_false] at h0
    exact h0 _ (List.mem_take_iff_getElem.2 ⟨j, by omega, rfl⟩)
  unfold plc
  rw [h1]
theorem plc_end {t : ByteArray} {l : List Pair} {k : Nat} (hk : ¬ k < l.length) (h0 : (l.take k).any (sm t) = false) : plc t l = -1 := by
  rw [List.take_of_length_le (by omega), List.any_eq_false] at h0
  have h1 : l.findIdx? (sm t) = none := List.findIdx?_eq_none_iff.2 (fun x hx => by simpa using h0 x hx)
  unfold plc
  rw [h1]
theorem sm_yes {t : ByteArray} {p : Pair} {F : ByteArray} (hF : B.foldS t = F) : ((B.foldS p.1).toList == F.toList) = sm t p := by
  rw [← hF, sameS_eq]; rfl
end Pm

set_option maxHeartbeats 1000000 in
theorem Get7_any (t : ByteArray) (a : Option Addr) (len cp : Nat) (l : List Pair) (w : World) (hz : IsParams w a len l) (hl : len ≤ 1000) (hp : ∀ p ∈ l, p.1.size ≤ 1000 ∧ p.2.size ≤ 1000) (ht : t.size ≤ 1000) :
    Calls Try.prog 13 #[.string t, .slice a len cp] w fun e w' => e = .returned (.tuple #[.string (Pm.gV t l), .bool (Pm.got t l).isSome]) ∧ Below w.heap.size w w' := by
  have HZ := Lib.hid hz
  have HPP := Lib.hid hp
  clear hz hp
  obtain ⟨F, hF⟩ : ∃ F, B.foldS t = F := ⟨_, rfl⟩
  have HF := Lib.hid hF
  clear hF
  go_enter Try.func13, Try.ntmps13
  go_wp2_with fail
  refine (named_any t _ (by omega)).mono ?_
  rintro e w1 ⟨b, rfl, hbw, hcb, hb1⟩
  rw [HF.out] at hcb
  have HCB := Lib.hid hcb
  have HBW := Lib.hid hbw
  have HB1 := Lib.hid hb1
  clear hb1 hcb hbw
  go_wp2_with fail
  go_loopw [13] (fun i wr => ∃ k : Nat, k ≤ len ∧ i = .int .i64 k ∧ (l.take k).any (Pm.sm t) = false ∧ wr.cell? ⟨b, 0, none⟩ = some (.string F) ∧ Below w.heap.size w wr) (fun i _ => len - (intOf i).toNat)
  case atStart => exact ⟨0, Nat.zero_le _, rfl, rfl, HCB.out, HB1.out⟩
  case round =>
    clear HB1 HCB
    obtain ⟨k, hk, rfl, hno, hcb, hb⟩ := hrel
    have HB := Lib.hid hb
    have HNO := Lib.hid hno
    have HCB := Lib.hid hcb
    have hblt : b < wr.heap.size := lt_of_cell hcb
    clear hb hno hcb
    by_cases hlt : k < len
    · have hkl : k < l.length := by rw [HZ.out.1]; exact hlt
      rcases (HZ.out.below HB.out).2 with ⟨rfl, rfl⟩ | ⟨x, rfl, hxl, hcells⟩
      · omega
      obtain ⟨d0, d1⟩ := hcells k hlt
      obtain ⟨p, hpk⟩ : ∃ p, at_ l k = p := ⟨_, rfl⟩
      obtain ⟨nm, vl⟩ := p
      have hsz := HPP.out _ (at_mem l k hkl)
      rw [hpk] at d0 d1 hsz
      clear hcells
      have hsm := Pm.sm_yes (p := (nm, vl)) HF.out
      have HS := Lib.hid hsm
      clear hsm
      cases hs : Pm.sm t (nm, vl)
      · have HN := Lib.hid (Pm.none_next hkl HNO.out (by rw [hpk]; exact hs))
        have HSS := Lib.hid hs
        clear hs hpk
        go_wp2_with fail
        refine (named1_any nm vl F b _ ?hc1 (by omega)).mono ?_
        case hc1 => exact below_cell ((Below.refl _ _).alloc (Nat.le_refl _) _) hblt HCB.out
        rintro e w2 ⟨rfl, hb2⟩
        rw [HS.out, HSS.out]
        have HB2 := Lib.hid ((HB.out.alloc HB.out.size _).trans (hb2.mono (by have := HB.out.size; simp; omega)))
        have HC2 := Lib.hid (below_cell hb2 (b := b) (i := 0) (by simp; omega) (below_cell ((Below.refl _ _).alloc (Nat.le_refl _) _) hblt HCB.out))
        clear hb2
        go_wp2_with fail
        go_roundw
        case rel => exact ⟨k + 1, by omega, by go_num, HN.out, HC2.out, HB2.out⟩
        case measure => simp [intOf]; omega
      · have HG := Lib.hid (Pm.got_at hkl HNO.out (by rw [hpk]; exact hs))
        have HSS := Lib.hid hs
        have HPK := Lib.hid hpk
        clear hs hpk
        go_wp2_with fail
        refine (named1_any nm vl F b _ ?hc2 (by omega)).mono ?_
        case hc2 => exact below_cell ((Below.refl _ _).alloc (Nat.le_refl _) _) hblt HCB.out
        rintro e w2 ⟨rfl, hb2⟩
        rw [HS.out, HSS.out]
        have HB2 := Lib.hid ((HB.out.alloc HB.out.size _).trans (hb2.mono (by have := HB.out.size; simp; omega)))
        have c2 := below_cell hb2 (b := wr.heap.size) (i := 1) (x := some (.string vl)) (by simp) (by simp [go_sem])
        clear hb2
        go_wp2_with fail
        go_ret2
        unfold Pm.gV
        rw [HG.out, HPK.out]
        exact ⟨rfl, HB2.out⟩
    · have HG := Lib.hid (Pm.got_end (by rw [HZ.out.1]; exact hlt) HNO.out)
      go_wp2_with fail
      go_ret2
      unfold Pm.gV
      rw [HG.out]
      exact ⟨rfl, HB.out⟩
end Go.Proofs.Ytjgjdcikeagibaa
