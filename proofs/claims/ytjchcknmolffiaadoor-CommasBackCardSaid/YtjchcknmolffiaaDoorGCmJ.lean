/- Contracts and lemmas that the claim rests on: CmJ. -/
import Derived.Test.YtjchcknmolffiaaDoorGCmI
/- The document's Tokens, Has and Same: contracts. -/
namespace Go.Proofs.YtjchcknmolffiaaDoor
open Go.RowKit

set_option maxHeartbeats 1000000 in
theorem RTokens_any (a : Option Addr) (len cp : Nat) (ss : List ByteArray) (w : World) (hz : IsTexts w a len ss) (hl : len ≤ 1000) (hss : ∀ s ∈ ss, s.size ≤ 100000) :
    Calls Tryd.prog 12 #[.slice a len cp] w (Lists_ (Cm.toks ss) w) := by
  have HZ := Lib.hid hz
  have HSS := Lib.hid hss
  clear hz hss
  go_enter Tryd.func12, Tryd.ntmps12
  go_wp2_with fail
  go_loopw [4, 5] (fun tok i wr => ∃ (k : Nat) (acc : List ByteArray) (a1 : Option Addr) (n1 c1 : Nat), k ≤ len ∧ i = .int .i64 k ∧ tok = .slice a1 n1 c1 ∧ wr.ownsRow w.heap.size 9 1 (.slice a1 n1 c1) n1 (acc.map Value.string) ∧ Below w.heap.size w wr ∧ Cm.Tk ss k acc) (fun _ i _ => len - (intOf i).toNat)
  case atStart => exact ⟨0, [], none, 0, 0, Nat.zero_le _, rfl, rfl, World.ownsRow_nil _ _ _ _, Below.refl _ _, Cm.Tk.start ss⟩
  case round =>
    obtain ⟨k, acc, a1, n1, c1, hk, rfl, rfl, ho, hb, htk⟩ := hrel
    have HO := Lib.hid ho
    have HB := Lib.hid hb
    have HT := Lib.hid htk
    have hfew := htk.few
    have hlen := own_len ho
    clear ho hb htk
    by_cases hlt : k < len
    · have hkl : k < ss.length := by rw [HZ.out.1]; exact hlt
      rcases (HZ.out.below HB.out).2 with ⟨rfl, rfl⟩ | ⟨x, rfl, hxl, hcells⟩
      · omega
      have hc := hcells k hlt
      obtain ⟨s, hs⟩ : ∃ s, ss.getD k ByteArray.empty = s := ⟨_, rfl⟩
      have hsz : s.size ≤ 100000 := by rw [← hs, getD_at ss k hkl]; exact HSS.out _ (List.getElem_mem _)
      rw [hs] at hc
      clear hcells
      cases he : Cm.es s 0 with
      | none =>
        have HE := Lib.hid (HT.out.bad hkl (by rw [hs]; exact he))
        have HN := Lib.hid he
        clear he hs
        go_wp2_with fail
        refine (RSplit_any s _ hsz).mono ?_
        rintro e w2 ⟨b, m, d, rfl, ho2, hb2⟩
        rw [HN.out]
        have HB2 := Lib.hid (below_then HB.out hb2)
        clear ho2 hb2
        go_wp2_with fail
        go_ret2
        exact Lists_.bad HE.out rfl HB2.out
      | some xs =>
        have HN := Lib.hid he
        obtain ⟨hxl2, hxz⟩ := Cm.es_len s xs he
        have HXZ := Lib.hid hxz
        have hT := HT.out
        have HS := Lib.hid hs
        clear he hxz hs
        go_wp2_with fail
        refine (RSplit_any s _ hsz).mono ?_
        rintro e w2 ⟨b, m, d, rfl, ho2, hb2⟩
        rw [HN.out] at ho2 ⊢
        have hm : xs.length = m := own_len ho2
        have HI : Hid (TkIn w acc a1 n1 c1 xs b m w2) := TkIn.first HO.out HB.out ho2 (by omega) hb2
        clear ho2 hb2 HO HB hc
        go_wp2_with fail
        go_loopw [4, 8] (fun tok i wi => ∃ (q : Nat) (a3 : Option Addr) (n3 c3 : Nat), q ≤ m ∧ i = .int .i64 q ∧ tok = .slice a3 n3 c3 ∧ (xs.take q).all tokS = true ∧ TkIn w (acc ++ xs.take q) a3 n3 c3 xs b m wi) (fun _ i _ => m - (intOf i).toNat)
        case atStart => exact ⟨0, a1, n1, c1, Nat.zero_le _, rfl, rfl, rfl, by rw [List.take_zero, List.append_nil]; exact HI.out⟩
        case round =>
          clear HI
          obtain ⟨q, a3, n3, c3, hq, rfl, rfl, hall, hin⟩ := hrel
          have HI := Lib.hid hin
          have HA := Lib.hid hall
          have hn3 := own_len hin.own
          rw [List.length_append, List.length_take] at hn3
          clear hin hall
          by_cases hlq : q < m
          · have hql : q < xs.length := by omega
            rcases HI.out.els.2 with ⟨rfl, rfl⟩ | ⟨y, rfl, hyl, hcells⟩
            · omega
            have hc := hcells q hlq
            obtain ⟨t, ht⟩ : ∃ t, xs.getD q ByteArray.empty = t := ⟨_, rfl⟩
            have htz : t.size ≤ 100000 := by
              have := HXZ.out (xs.getD q ByteArray.empty) (by rw [getD_at xs q hql]; exact List.getElem_mem _)
              rw [ht] at this
              omega
            rw [ht] at hc
            clear hcells
            cases hto : tokS t
            · have HE := Lib.hid (hT.no hkl (by rw [HS.out]; exact HN.out) (Cm.all_out xs q hql (by rw [ht]; exact hto)))
              have HTO := Lib.hid hto
              clear hto ht
              go_wp2_with fail
              refine (RToken_any t _ (by unfold maxLen; omega)).mono ?_
              rintro e w3 ⟨rfl, rfl⟩
              rw [HTO.out]
              have HI3 := HI
              go_wp2_with fail
              go_ret2
              exact Lists_.bad HE.out rfl HI3.out.below
            · have HTO := Lib.hid hto
              have hTT := Lib.hid (Cm.take_text xs q hql)
              rw [ht] at hTT
              have HAA := Lib.hid (Cm.all_take xs q hql HA.out (by rw [ht]; exact hto))
              clear hto ht
              go_wp2_with fail
              refine (RToken_any t _ (by unfold maxLen; omega)).mono ?_
              rintro e w3 ⟨rfl, rfl⟩
              rw [HTO.out]
              have HI3 := HI
              clear HI
              go_wp2_with (at_builtin; refine wpList_append_text _ rfl _ _ rfl w.heap.size _ _ _ rfl (World.ownsRow.alloc HI3.out.own _) wr.heap.size 1 t rfl ?c1 ?c2 ?c3 ?_)
              case c1 => simp [go_sem]
              case c2 => omega
              case c3 => have := HI3.out.below.size; simp; omega
              intro a4 c4 w4 ho4 hg4 hn4
              have ho5 : w4.ownsRow w.heap.size 9 1 (.slice a4 (n3 + 1) c4) (n3 + 1) ((acc ++ xs.take (q + 1)).map Value.string) := by rw [← hTT.out]; simpa using ho4
              have HI4 : Hid (TkIn w (acc ++ xs.take (q + 1)) a4 (n3 + 1) c4 xs (some y) m w4) := HI3.out.grow (Kept.grown ((Kept.refl _ wr).alloc _) hg4 (fun k hk => .inl hk)) ho5 (hn4.later (by simp))
              clear ho4 ho5 hg4 hn4 HI3
              go_wp2_with fail
              go_roundw
              case rel => exact ⟨q + 1, a4, n3 + 1, c4, by omega, by go_num, rfl, HAA.out, HI4.out⟩
              case measure => simp [intOf]; omega
          · have hx : xs.take q = xs := List.take_of_length_le (by omega)
            rw [hx] at HI HA
            have HT2 := Lib.hid (hT.yes hkl (by rw [HS.out]; exact HN.out) HA.out (by omega))
            clear hx
            go_wp2_with fail
            go_roundw
            case rel => exact ⟨k + 1, acc ++ xs, a3, n3, c3, by omega, by go_num, rfl, HI.out.own, HI.out.below, HT2.out⟩
            case measure => simp [intOf]; omega
    · have HE := Lib.hid (HT.out.done (by rw [HZ.out.1]; exact hlt))
      go_wp2_with fail
      go_ret2
      exact Lists_.ok HE.out rfl HO.out (Nat.le_refl _) HB.out

theorem add_nil (x : Addr) : x.add 0 = x := by unfold Addr.add; simp
theorem one_of {w : World} {x : Addr} {len : Nat} {ss : List ByteArray} (h : IsTexts w (some x) len ss) (k : Nat) (hk : k < len) : IsTexts w (some (x.add k)) 1 [ss.getD k ByteArray.empty] := by
  rcases h.2 with ⟨h, _⟩ | ⟨y, hy, hl, hc⟩
  · cases h
  · cases hy
    refine ⟨rfl, .inr ⟨_, rfl, by omega, fun i hi => ?_⟩⟩
    obtain rfl : i = 0 := by omega
    have e : (x.add k).add 0 = x.add k := add_nil _
    rw [e]
    exact hc k hk

set_option maxHeartbeats 1000000 in
theorem RHas_any (t : ByteArray) (a : Option Addr) (len cp : Nat) (ss : List ByteArray) (w : World) (hz : IsTexts w a len ss) (hcp : len ≤ cp) (hl : len ≤ 1000) (hss : ∀ s ∈ ss, s.size ≤ 100000) (ht : t.size ≤ 100000) :
    Calls Tryd.prog 14 #[.string t, .slice a len cp] w fun e w' => e = .returned (.bool (Cm.has t ss)) ∧ Below w.heap.size w w' := by
  have HZ := Lib.hid hz
  have HSS := Lib.hid hss
  clear hz hss
  obtain ⟨F, hF⟩ : ∃ F, B.foldS t = F := ⟨_, rfl⟩
  have HF := Lib.hid hF
  clear hF
  go_enter Tryd.func14, Tryd.ntmps14
  go_wp2_with fail
  go_loopw [5] (fun i wr => ∃ k : Nat, k ≤ len ∧ i = .int .i64 k ∧ (ss.take k).any (Cm.hasIn t) = false ∧ Below w.heap.size w wr) (fun i _ => len - (intOf i).toNat)
  case atStart => exact ⟨0, Nat.zero_le _, rfl, rfl, Below.refl _ _⟩
  case round =>
    obtain ⟨k, hk, rfl, hno, hb⟩ := hrel
    have HB := Lib.hid hb
    have HNO := Lib.hid hno
    clear hb hno
    by_cases hlt : k < len
    · have hkl : k < ss.length := by rw [HZ.out.1]; exact hlt
      cases a with
      | none =>
        have h3 := HZ.out.2
        rcases h3 with ⟨_, h⟩ | ⟨x, h, _⟩
        · omega
        · cases h
      | some x =>
      have hone := one_of (HZ.out.below HB.out) k hlt
      obtain ⟨s, hs⟩ : ∃ s, ss.getD k ByteArray.empty = s := ⟨_, rfl⟩
      rw [hs] at hone
      have HONE := Lib.hid hone
      have hs2 : ss[k] = s := by rw [← getD_at ss k hkl]; exact hs
      have hsz : s.size ≤ 100000 := by rw [← hs2]; exact HSS.out _ (List.getElem_mem _)
      obtain ⟨hq1, hq2⟩ := Cm.toks_one s
      have HQ2 := Lib.hid hq2
      have HS := Lib.hid hs2
      obtain ⟨xs, hxs⟩ : ∃ xs, (Cm.toks [s]).getD [] = xs := ⟨_, rfl⟩
      obtain ⟨E, hE⟩ : ∃ E : Int, (if (Cm.toks [s]).isSome then 0 else 2) = E := ⟨_, rfl⟩
      have HE := Lib.hid hE
      have HXS := Lib.hid hxs
      rw [hxs] at HQ2 hq1
      clear hs hs2 hq2 hxs hE hone
      go_wp2_with fail
      refine (RTokens_any (some (x.add k)) 1 (cp - k) [s] _ HONE.out (by omega) (by simpa using hsz)).mono ?_
      rintro e w2 ⟨b, m, d, rfl, ho2, hb2⟩
      rw [HE.out]
      rw [HXS.out] at ho2
      have hm : xs.length = m := own_len ho2
      have HB2 := Lib.hid (below_then HB.out hb2)
      have HT2 := Lib.hid (own_strs ho2 (by omega))
      clear hb2 ho2
      go_wp2_with fail
      go_loopw [8] (fun i wi => ∃ q : Nat, q ≤ m ∧ i = .int .i64 q ∧ (xs.take q).any (fun x => sameS x t) = false ∧ Below w2.heap.size w2 wi) (fun i _ => m - (intOf i).toNat)
      case atStart => exact ⟨0, Nat.zero_le _, rfl, rfl, Below.refl _ _⟩
      case round =>
        obtain ⟨q, hq, rfl, hnq, hbi⟩ := hrel
        have HBI := Lib.hid hbi
        have HNQ := Lib.hid hnq
        clear hbi hnq
        by_cases hlq : q < m
        · have hql : q < xs.length := by omega
          rcases (HT2.out.below HBI.out).2 with ⟨rfl, rfl⟩ | ⟨y, rfl, hyl, hcells⟩
          · omega
          have hc := hcells q hlq
          obtain ⟨u, hu⟩ : ∃ u, xs.getD q ByteArray.empty = u := ⟨_, rfl⟩
          rw [hu] at hc
          have hu2 : xs[q] = u := by rw [← getD_at xs q hql]; exact hu
          have huz : u.size ≤ 100000 := by
            have := HQ2.out u (by rw [← hu2]; exact List.getElem_mem _)
            omega
          have HU := Lib.hid hu2
          obtain ⟨G, hG⟩ : ∃ G, B.foldS u = G := ⟨_, rfl⟩
          have HG := Lib.hid hG
          clear hcells hu hu2 hG
          cases hsame : sameS u t
          · have hq0 : (G.toList == F.toList) = false := by rw [← HG.out, ← HF.out, sameS_eq]; exact hsame
            have HN2 := Lib.hid (Cm.any_take (fun x => sameS x t) xs q hql HNQ.out (by rw [HU.out]; exact hsame))
            clear hsame
            go_wp2_with fail
            refine (RFold_any u _ huz).mono ?_
            rintro e w3 ⟨rfl, n3, rfl⟩
            rw [HG.out]
            go_wp2_with fail
            refine (RFold_any t _ ht).mono ?_
            rintro e w3 ⟨rfl, n4, rfl⟩
            rw [HF.out]
            have HB3 : Hid (Below w2.heap.size w2 (wr.drewN (n3 + n4))) := HBI.out.trans (below_drewN _ _ (n3 + n4))
            go_wp2_with fail
            go_roundw
            case rel => exact ⟨q + 1, by omega, by go_num, HN2.out, HB3.out⟩
            case measure => simp [intOf]; omega
          · have hq0 : (G.toList == F.toList) = true := by rw [← HG.out, ← HF.out, sameS_eq]; exact hsame
            have hin : Cm.hasIn t s = true := by
              unfold Cm.hasIn
              rw [HXS.out]
              exact Cm.any_at (fun x => sameS x t) xs q hql (by rw [HU.out]; exact hsame)
            have HH : Hid (Cm.has t ss = true) := Cm.any_at (Cm.hasIn t) ss k hkl (by rw [HS.out]; exact hin)
            clear hsame hin
            go_wp2_with fail
            refine (RFold_any u _ huz).mono ?_
            rintro e w3 ⟨rfl, n3, rfl⟩
            rw [HG.out]
            go_wp2_with fail
            refine (RFold_any t _ ht).mono ?_
            rintro e w3 ⟨rfl, n4, rfl⟩
            rw [HF.out]
            have HB3 : Hid (Below w2.heap.size w2 (wr.drewN (n3 + n4))) := HBI.out.trans (below_drewN _ _ (n3 + n4))
            go_wp2_with fail
            go_ret
            exact ⟨ret_bool HH.out.symm, below_then HB2.out HB3.out⟩
        · have hin : Cm.hasIn t s = false := by
            unfold Cm.hasIn
            rw [HXS.out]
            exact Cm.any_end (fun x => sameS x t) xs q (by omega) HNQ.out
          have HN2 := Lib.hid (Cm.any_take (Cm.hasIn t) ss k hkl HNO.out (by rw [HS.out]; exact hin))
          clear hin
          go_wp2_with fail
          go_roundw
          case rel => exact ⟨k + 1, by omega, by go_num, HN2.out, below_then HB2.out HBI.out⟩
          case measure => simp [intOf]; omega
    · have HH : Hid (Cm.has t ss = false) := Cm.any_end (Cm.hasIn t) ss k (by rw [HZ.out.1]; exact hlt) HNO.out
      go_wp2_with fail
      go_ret
      exact ⟨ret_bool HH.out.symm, HB.out⟩

namespace Cm
theorem same_no {xs ys : List ByteArray} {k : Nat} (_h1 : k < xs.length) (_h2 : k < ys.length) (h : xs.getD k ByteArray.empty ≠ ys.getD k ByteArray.empty) : decide (xs = ys) = false := by
  rw [decide_eq_false_iff_not]
  rintro rfl
  exact h rfl
theorem same_next {xs ys : List ByteArray} {k : Nat} (h0 : xs.take k = ys.take k) (h1 : k < xs.length) (h2 : k < ys.length) (h : xs.getD k ByteArray.empty = ys.getD k ByteArray.empty) : xs.take (k + 1) = ys.take (k + 1) := by
  rw [getD_at xs k h1, getD_at ys k h2] at h
  rw [List.take_succ_eq_append_getElem h1, List.take_succ_eq_append_getElem h2, h0, h]
theorem same_yes {xs ys : List ByteArray} {k : Nat} (h0 : xs.take k = ys.take k) (h1 : xs.length ≤ k) (h2 : ys.length ≤ k) : decide (xs = ys) = true := by
  rw [List.take_of_length_le h1, List.take_of_length_le h2] at h0
  exact decide_eq_true h0
theorem text_ne {x y : ByteArray} (h : x ≠ y) : (x.toList == y.toList) = false := by
  rw [beq_eq_false_iff_ne]
  intro e
  rw [ByteArray.toList_eq, ByteArray.toList_eq] at e
  exact h (bytes_eq e)
end Cm
set_option maxHeartbeats 1000000 in
theorem RSame_any (a : Option Addr) (n c : Nat) (xs : List ByteArray) (b : Option Addr) (m d : Nat) (ys : List ByteArray) (w : World) (hx : IsTexts w a n xs) (hy : IsTexts w b m ys) :
    Calls Tryd.prog 10 #[.slice a n c, .slice b m d] w fun e w' => e = .returned (.bool (decide (xs = ys))) ∧ ∃ q, w' = w.drewN q := by
  have hn := hx.1
  have hm := hy.1
  have hns := hx.small
  have hms := hy.small
  by_cases hl : n = m
  · subst hl
    have HX := Lib.hid hx
    have HY := Lib.hid hy
    clear hx hy
    go_enter Tryd.func10, Tryd.ntmps10
    go_wp2_with fail
    go_loopw [5] (fun i wr => ∃ k : Nat, k ≤ n ∧ i = .int .i64 k ∧ xs.take k = ys.take k ∧ ∃ q, wr = w.drewN q) (fun i _ => n - (intOf i).toNat)
    case atStart => exact ⟨0, Nat.zero_le _, rfl, rfl, 0, rfl⟩
    case round =>
      obtain ⟨k, hk, rfl, hsame, q, rfl⟩ := hrel
      have HS := Lib.hid hsame
      clear hsame
      by_cases hlt : k < n
      · rcases HX.out.2 with ⟨_, h0⟩ | ⟨x, rfl, hxl, hxc⟩
        · omega
        rcases HY.out.2 with ⟨_, h0⟩ | ⟨y, rfl, hyl, hyc⟩
        · omega
        have c1 := hxc k hlt
        have c2 := hyc k hlt
        clear hxc hyc
        by_cases he : xs.getD k ByteArray.empty = ys.getD k ByteArray.empty
        · have HN := Lib.hid (Cm.same_next HS.out (by omega) (by omega) he)
          rw [← he] at c2
          generalize xs.getD k ByteArray.empty = t at *
          clear he
          go_wp2_with fail
          go_region
          go_wp2_with fail
          go_roundw
          case rel => exact ⟨k + 1, by omega, by go_num, HN.out, q + 1, rfl⟩
          case measure => simp [intOf]; omega
        · have HN := Lib.hid (Cm.same_no (by omega) (by omega) he)
          have hne := Cm.text_ne he
          generalize xs.getD k ByteArray.empty = t at *
          generalize ys.getD k ByteArray.empty = u at *
          clear he
          go_wp2_with fail
          go_region
          go_wp2_with fail
          go_ret
          exact ⟨ret_bool HN.out.symm, q + 1, rfl⟩
      · have HN := Lib.hid (Cm.same_yes HS.out (by omega) (by omega))
        go_wp2_with fail
        go_ret
        exact ⟨ret_bool HN.out.symm, q, rfl⟩
  · have hne : ((n : Int) != (m : Int)) = true := by rw [bne_iff_ne]; omega
    have HN : Hid (decide (xs = ys) = false) := by
      show _ = _
      rw [decide_eq_false_iff_not]
      rintro rfl
      omega
    go_enter Tryd.func10, Tryd.ntmps10
    go_wp2_with fail
    go_ret
    exact ⟨ret_bool HN.out.symm, 0, rfl⟩
end Go.Proofs.YtjchcknmolffiaaDoor
