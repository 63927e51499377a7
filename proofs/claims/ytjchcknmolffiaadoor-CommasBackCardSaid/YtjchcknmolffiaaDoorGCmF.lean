/- Contracts and lemmas that the claim rests on: CmF. -/
import Derived.Test.YtjchcknmolffiaaDoorGCmE
import Derived.Test.YtjchcknmolffiaaDoorGQuil
/- Has, Join and Append: contracts. -/
namespace Go.Proofs.YtjchcknmolffiaaDoor
open Go.RowKit

namespace Cm
theorem toks_one (s : ByteArray) : ((toks [s]).getD []).length ≤ s.size + 1 ∧ ∀ y ∈ (toks [s]).getD [], y.size ≤ s.size := by
  cases he : es s 0 with
  | none => rw [toks_bad s [] he]; exact ⟨Nat.zero_le _, fun y hy => by cases hy⟩
  | some x =>
    obtain ⟨h1, h2⟩ := es_len s x he
    cases hx : x.all tokS
    · rw [toks_no s [] x he hx]; exact ⟨Nat.zero_le _, fun y hy => by cases hy⟩
    · rw [toks_yes s [] x he hx]
      have e : (toks []).map (x ++ ·) = some x := by simp [toks]
      rw [e]
      exact ⟨h1, h2⟩
/-- Is a token in a list, in lists? -/
def hasIn (t s : ByteArray) : Bool := ((toks [s]).getD []).any fun x => sameS x t
def has (t : ByteArray) (ss : List ByteArray) : Bool := ss.any (hasIn t)
theorem any_take {α : Type} (p : α → Bool) (l : List α) (k : Nat) (h : k < l.length) (h0 : (l.take k).any p = false) (h1 : p l[k] = false) : (l.take (k + 1)).any p = false := by
  rw [List.take_succ_eq_append_getElem h, List.any_append, h0]
  simp [h1]
theorem any_at {α : Type} (p : α → Bool) (l : List α) (k : Nat) (h : k < l.length) (h1 : p l[k] = true) : l.any p = true := List.any_eq_true.2 ⟨_, List.getElem_mem h, h1⟩
theorem any_end {α : Type} (p : α → Bool) (l : List α) (k : Nat) (h : ¬ k < l.length) (h0 : (l.take k).any p = false) : l.any p = false := by rwa [List.take_of_length_le (by omega)] at h0
end Cm

set_option maxHeartbeats 1000000 in
theorem Has_any (t : ByteArray) (a : Option Addr) (len cp : Nat) (ss : List ByteArray) (w : World) (hz : IsTexts w a len ss) (hl : len ≤ 1000) (hss : ∀ s ∈ ss, s.size ≤ 100000) (ht : t.size ≤ 100000) :
    Calls Tryd.prog 13 #[.string t, .slice a len cp] w fun e w' => e = .returned (.bool (Cm.has t ss)) ∧ Below w.heap.size w w' := by
  have HZ := Lib.hid hz
  have HSS := Lib.hid hss
  clear hz hss
  obtain ⟨F, hF⟩ : ∃ F, B.foldS t = F := ⟨_, rfl⟩
  have HF := Lib.hid hF
  clear hF
  go_enter Tryd.func13, Tryd.ntmps13
  go_wp2_with fail
  refine (Fold_any t _ ht).mono ?_
  rintro e w1 ⟨rfl, hb1⟩
  rw [HF.out]
  have HB1 := Lib.hid hb1
  clear hb1
  go_wp2_with fail
  go_loopw [16] (fun i wr => ∃ k : Nat, k ≤ len ∧ i = .int .i64 k ∧ (ss.take k).any (Cm.hasIn t) = false ∧ Below w.heap.size w wr) (fun i _ => len - (intOf i).toNat)
  case atStart => exact ⟨0, Nat.zero_le _, rfl, rfl, HB1.out⟩
  case round =>
    clear HB1
    obtain ⟨k, hk, rfl, hno, hb⟩ := hrel
    have HB := Lib.hid hb
    have HNO := Lib.hid hno
    clear hb hno
    by_cases hlt : k < len
    · have hkl : k < ss.length := by rw [HZ.out.1]; exact hlt
      rcases (HZ.out.below HB.out).2 with ⟨rfl, rfl⟩ | ⟨x, rfl, hxl, hcells⟩
      · omega
      have hc := hcells k hlt
      obtain ⟨s, hs⟩ : ∃ s, ss.getD k ByteArray.empty = s := ⟨_, rfl⟩
      rw [hs] at hc
      have hs2 : ss[k] = s := by rw [← getD_at ss k hkl]; exact hs
      have hsz : s.size ≤ 100000 := by rw [← hs2]; exact HSS.out _ (List.getElem_mem _)
      obtain ⟨hq1, hq2⟩ := Cm.toks_one s
      have HQ2 := Lib.hid hq2
      have HS := Lib.hid hs2
      obtain ⟨xs, hxs⟩ : ∃ xs, (Cm.toks [s]).getD [] = xs := ⟨_, rfl⟩
      obtain ⟨E, hE⟩ : ∃ E : Int, (if (Cm.toks [s]).isSome then 0 else 2) = E := ⟨_, rfl⟩
      have HE := Lib.hid hE
      have HXS := Lib.hid hxs
      rw [hxs] at HQ2 hq1
      clear hcells hs hs2 hq2 hxs hE
      go_wp2_with fail
      refine (Tokens_any (some ⟨wr.heap.size, 0, none⟩) 1 1 [s] _ (one_text _ _ _) (by omega) (by simpa using hsz)).mono ?_
      rintro e w2 ⟨b, m, d, rfl, ho2, hb2⟩
      rw [HE.out]
      rw [HXS.out] at ho2
      have hm : xs.length = m := own_len ho2
      have hb2' : Below w.heap.size w w2 := (HB.out.alloc HB.out.size _).trans (hb2.mono (by have := HB.out.size; simp; omega))
      have HB2 := Lib.hid hb2'
      have HT2 := Lib.hid (own_strs ho2 (by omega))
      clear hb2 hb2' ho2 hc
      go_wp2_with fail
      go_loopw [28] (fun i wi => ∃ q : Nat, q ≤ m ∧ i = .int .i64 q ∧ (xs.take q).any (fun x => sameS x t) = false ∧ Below w2.heap.size w2 wi) (fun i _ => m - (intOf i).toNat)
      case atStart => exact ⟨0, Nat.zero_le _, rfl, rfl, Below.refl _ _⟩
      case round =>
        obtain ⟨q, hq, rfl, hnq, hbi⟩ := hrel
        have HBI := Lib.hid hbi
        have HNQ := Lib.hid hnq
        clear hbi hnq
        by_cases hlq : q < m
        · have hql : q < xs.length := by omega
          rcases (HT2.out.below HBI.out).2 with ⟨rfl, rfl⟩ | ⟨y, rfl, hyl, hcells⟩
          · omega
          have hc := hcells q hlq
          obtain ⟨u, hu⟩ : ∃ u, xs.getD q ByteArray.empty = u := ⟨_, rfl⟩
          rw [hu] at hc
          have hu2 : xs[q] = u := by rw [← getD_at xs q hql]; exact hu
          have huz : u.size ≤ 100000 := by
            have := HQ2.out u (by rw [← hu2]; exact List.getElem_mem _)
            omega
          have HU := Lib.hid hu2
          obtain ⟨G, hG⟩ : ∃ G, B.foldS u = G := ⟨_, rfl⟩
          have HG := Lib.hid hG
          clear hcells hu hu2 hG
          cases hsame : sameS u t
          · have hq0 : (G.toList == F.toList) = false := by rw [← HG.out, ← HF.out, sameS_eq]; exact hsame
            have HN2 := Lib.hid (Cm.any_take (fun x => sameS x t) xs q hql HNQ.out (by rw [HU.out]; exact hsame))
            clear hsame
            go_wp2_with fail
            refine (Fold_any u _ huz).mono ?_
            rintro e w3 ⟨rfl, hb3⟩
            rw [HG.out]
            have HB3 := Lib.hid (below_then HBI.out hb3)
            clear hb3
            go_wp2_with fail
            go_roundw
            case rel => exact ⟨q + 1, by omega, by go_num, HN2.out, HB3.out⟩
            case measure => simp [intOf]; omega
          · have hq0 : (G.toList == F.toList) = true := by rw [← HG.out, ← HF.out, sameS_eq]; exact hsame
            have hin : Cm.hasIn t s = true := by
              unfold Cm.hasIn
              rw [HXS.out]
              exact Cm.any_at (fun x => sameS x t) xs q hql (by rw [HU.out]; exact hsame)
            have HH : Hid (Cm.has t ss = true) := Cm.any_at (Cm.hasIn t) ss k hkl (by rw [HS.out]; exact hin)
            clear hsame hin
            go_wp2_with fail
            refine (Fold_any u _ huz).mono ?_
            rintro e w3 ⟨rfl, hb3⟩
            rw [HG.out]
            have HB3 := Lib.hid (below_then HBI.out hb3)
            clear hb3
            go_wp2_with fail
            go_ret
            exact ⟨ret_bool HH.out.symm, below_then HB2.out HB3.out⟩
        · have hin : Cm.hasIn t s = false := by
            unfold Cm.hasIn
            rw [HXS.out]
            exact Cm.any_end (fun x => sameS x t) xs q (by omega) HNQ.out
          have HN2 := Lib.hid (Cm.any_take (Cm.hasIn t) ss k hkl HNO.out (by rw [HS.out]; exact hin))
          clear hin
          go_wp2_with fail
          go_roundw
          case rel => exact ⟨k + 1, by omega, by go_num, HN2.out, below_then HB2.out HBI.out⟩
          case measure => simp [intOf]; omega
    · have HH : Hid (Cm.has t ss = false) := Cm.any_end (Cm.hasIn t) ss k (by rw [HZ.out.1]; exact hlt) HNO.out
      go_wp2_with fail
      go_ret
      exact ⟨ret_bool HH.out.symm, HB.out⟩

/-- A comma and a blank. -/
def cmB : ByteArray := ⟨#[44, 32]⟩
theorem CJoin_any (a : Option Addr) (len cp : Nat) (ss : List ByteArray) (w : World) (hz : IsTexts w a len ss) (hx : ∀ x, a = some x → x = ⟨x.block, 0, none⟩ ∧ x.block < w.heap.size) (hcp : len ≤ cp) (hlen : len ≤ 1000000) (hb : 2 * ss.length + (flat ss).length ≤ 100000000) :
    Calls Tryd.prog 15 #[.slice a len cp] w fun e w' => e = .returned (.string (joinB cmB ss)) ∧ Below w.heap.size w w' := by
  have hJ := Lib.hid (QJoin_any cmB a len cp ss w hz hx hcp hlen hb)
  clear hz hx hcp hlen hb
  unfold cmB at hJ ⊢
  go_enter Tryd.func15, Tryd.ntmps15
  go_wp2_with fail
  refine hJ.out.mono ?_
  rintro e w1 ⟨rfl, hb1⟩
  go_wp2_with fail
  go_ret
  exact ⟨rfl, hb1⟩

namespace Cm
/-- Has a text nothing but blanks, tabs and commas? -/
def bare (s : ByteArray) : Bool := (trimB [32, 9, 44] s).toList.isEmpty
/-- A list's text with more elements. -/
def app (s : ByteArray) (ss : List ByteArray) : ByteArray := if ss.length = 0 then s else if bare s then joinB cmB ss else joinB cmB [trimRB [32, 9] s, joinB cmB ss]
end Cm
theorem join_size (ss : List ByteArray) : (joinB cmB ss).size ≤ 2 * ss.length + (flat ss).length := joinB_le cmB ss
theorem flat_two (x y : ByteArray) : (flat [x, y]).length = x.size + y.size := by
  unfold flat
  simp
theorem trimR_size (s : ByteArray) : (trimRB [32, 9] s).size ≤ s.size := by
  have h := Cm.R_le Cm.bl s.data.toList
  have e : (trimRB [32, 9] s).size = (Cm.R Cm.bl s.data.toList).length := by
    show ((Lib.trimRightS s.data.toList [32, 9]).toArray).size = _
    simp
    rfl
  rw [e]
  simpa using h

set_option maxHeartbeats 400000 in
theorem Append_any (s : ByteArray) (a : Option Addr) (len cp : Nat) (ss : List ByteArray) (w : World) (hz : IsTexts w a len ss) (hx : ∀ x, a = some x → x = ⟨x.block, 0, none⟩ ∧ x.block < w.heap.size) (hcp : len ≤ cp) (hlen : len ≤ 100000) (hs : s.size ≤ 100000) (hb : 2 * ss.length + (flat ss).length ≤ 10000000) :
    Calls Tryd.prog 17 #[.string s, .slice a len cp] w fun e w' => e = .returned (.string (Cm.app s ss)) ∧ Below w.heap.size w w' := by
  have hl := hz.1
  have HZ := Lib.hid hz
  have HX := Lib.hid hx
  have hjs := join_size ss
  clear hz hx
  by_cases h0 : len = 0
  · subst h0
    have HA : Hid (Cm.app s ss = s) := by show _ = _; unfold Cm.app; rw [if_pos hl]
    rw [HA.out]
    go_enter Tryd.func17, Tryd.ntmps17
    go_wp2_with fail
    go_ret
    exact ⟨rfl, Below.refl _ _⟩
  · have q0 : ((len : Int) == 0) = false := by rw [beq_eq_false_iff_ne]; omega
    obtain ⟨X, hX⟩ : ∃ X, trimB [32, 9, 44] s = X := ⟨_, rfl⟩
    have HXX := Lib.hid hX
    cases hbare : X.toList.isEmpty
    · have HA : Hid (Cm.app s ss = joinB cmB [trimRB [32, 9] s, joinB cmB ss]) := by
        show _ = _
        unfold Cm.app Cm.bare
        rw [if_neg (by omega), hX, hbare]; rfl
      rw [HA.out]
      have htz := trimR_size s
      obtain ⟨T, hT⟩ : ∃ T, trimRB [32, 9] s = T := ⟨_, rfl⟩
      obtain ⟨J, hJ⟩ : ∃ J, joinB cmB ss = J := ⟨_, rfl⟩
      have HT := Lib.hid hT
      have HJ := Lib.hid hJ
      rw [hT, hJ]
      rw [hT] at htz
      rw [hJ] at hjs
      clear hX hT hJ HA
      go_enter Tryd.func17, Tryd.ntmps17
      go_wp2_with fail
      refine (Trim_any ⟨#[32, 9, 44]⟩ s [32, 9, 44] rfl (by decide) (by decide) _ hs).mono ?_
      rintro e w1 ⟨rfl, hb1⟩
      rw [HXX.out]
      have HB1 := Lib.hid hb1
      clear hb1
      go_wp2_with fail
      refine (TrimRight_any ⟨#[32, 9]⟩ s [32, 9] rfl (by decide) (by decide) _ hs).mono ?_
      rintro e w2 ⟨rfl, hb2⟩
      rw [HT.out]
      have HB2 := Lib.hid (below_then HB1.out hb2)
      clear hb2 HB1
      go_wp2_with fail
      refine (CJoin_any a len cp ss _ (HZ.out.below HB2.out) (fun x hx => ⟨(HX.out x hx).1, by have h1 := (HX.out x hx).2; have h2 := HB2.out.size; omega⟩) hcp (by omega) (by omega)).mono ?_
      rintro e w3 ⟨rfl, hb3⟩
      rw [HJ.out]
      have HB3 := Lib.hid (below_then HB2.out hb3)
      clear hb3 HB2
      go_wp2_with fail
      refine (CJoin_any (some ⟨w3.heap.size, 0, none⟩) 2 2 [T, J] _ (two_texts _ _ _ _) (fun x hx => by cases hx; exact ⟨rfl, by simp⟩) (by omega) (by omega) (by rw [flat_two]; simp only [List.length_cons, List.length_nil]; omega)).mono ?_
      rintro e w4 ⟨rfl, hb4⟩
      have hb5 : Below w.heap.size w w4 := (HB3.out.alloc HB3.out.size _).trans (hb4.mono (by have := HB3.out.size; simp; omega))
      clear hb4
      go_wp2_with fail
      go_ret
      exact ⟨rfl, hb5⟩
    · have HA : Hid (Cm.app s ss = joinB cmB ss) := by
        show _ = _
        unfold Cm.app Cm.bare
        rw [if_neg (by omega), hX, hbare]; rfl
      rw [HA.out]
      clear hX HA
      go_enter Tryd.func17, Tryd.ntmps17
      go_wp2_with fail
      refine (Trim_any ⟨#[32, 9, 44]⟩ s [32, 9, 44] rfl (by decide) (by decide) _ hs).mono ?_
      rintro e w1 ⟨rfl, hb1⟩
      rw [HXX.out]
      have HB1 := Lib.hid hb1
      clear hb1
      go_wp2_with fail
      refine (CJoin_any a len cp ss _ (HZ.out.below HB1.out) (fun x hx => ⟨(HX.out x hx).1, by have h1 := (HX.out x hx).2; have h2 := HB1.out.size; omega⟩) hcp (by omega) (by omega)).mono ?_
      rintro e w3 ⟨rfl, hb3⟩
      go_wp2_with fail
      go_ret
      exact ⟨rfl, below_then HB1.out hb3⟩
end Go.Proofs.YtjchcknmolffiaaDoor
