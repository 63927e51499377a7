/- Contracts and lemmas that the claim rests on: CmK. -/
import Derived.Test.YtjchcknmolffiaaDoorGCmJ
/- The document's Append: its contract. -/
namespace Go.Proofs.YtjchcknmolffiaaDoor
open Go.RowKit

namespace Cm
theorem R_all (p : UInt8 → Bool) : ∀ l : List UInt8, l.all p = true → R p l = []
  | [], _ => rfl
  | c :: r, h => by
    rw [List.all_cons, Bool.and_eq_true] at h
    rw [R_cons, if_pos ⟨R_all p r h.2, h.1⟩]
theorem all_R (p : UInt8 → Bool) : ∀ l : List UInt8, R p l = [] → l.all p = true
  | [], _ => rfl
  | c :: r, h => by
    rw [R_cons] at h
    split at h
    · rename_i hc
      rw [List.all_cons, hc.2, all_R p r hc.1]; rfl
    · cases h
theorem all_L (p : UInt8 → Bool) : ∀ l : List UInt8, l.dropWhile p = [] → l.all p = true
  | [], _ => rfl
  | c :: r, h => by
    cases hc : p c
    · rw [List.dropWhile_cons_of_neg (by simp [hc])] at h; cases h
    · rw [List.dropWhile_cons_of_pos hc] at h
      rw [List.all_cons, hc, all_L p r h]; rfl
theorem trim_all (l cs : List UInt8) (h : l.all (cs.contains ·) = true) : Lib.trimS l cs = [] := by
  show (R (cs.contains ·) l).dropWhile (cs.contains ·) = []
  rw [R_all _ l h]; rfl
theorem all_trim (l cs : List UInt8) (h : Lib.trimS l cs = []) : l.all (cs.contains ·) = true := by
  have h' : (R (cs.contains ·) l).dropWhile (cs.contains ·) = [] := h
  have h2 := R_all _ _ (all_L _ _ h')
  rw [RR] at h2
  exact all_R _ _ h2
/-- A blank, a tab or a comma. -/
def sb (c : UInt8) : Bool := ([32, 9, 44] : List UInt8).contains c
theorem sb_is (c : UInt8) : sb c = (B.bla (c.toNat : Int) || decide ((c.toNat : Int) = 44)) := by
  have h : ∀ i : Fin 256, (sb (UInt8.ofNat i.val) == (B.bla ((UInt8.ofNat i.val).toNat : Int) || decide (((UInt8.ofNat i.val).toNat : Int) = 44))) = true := by decide +kernel
  have := h ⟨c.toNat, c.toNat_lt⟩
  simpa using this
theorem bare_yes (s : ByteArray) (h : s.data.toList.all sb = true) : bare s = true := by
  have e : (trimB [32, 9, 44] s).toList = [] := by
    rw [ByteArray.toList_eq]
    show (Lib.trimS s.data.toList [32, 9, 44]).toArray.toList = []
    rw [trim_all _ _ h]
  unfold bare
  rw [e]; rfl
theorem bare_no (s : ByteArray) (h : s.data.toList.all sb = false) : bare s = false := by
  cases hb : bare s
  · rfl
  · unfold bare at hb
    have e : (trimB [32, 9, 44] s).toList = Lib.trimS s.data.toList [32, 9, 44] := by
      rw [ByteArray.toList_eq]; rfl
    rw [e] at hb
    have h2 := all_trim s.data.toList [32, 9, 44] (by simpa using hb)
    have h3 : s.data.toList.all sb = true := h2
    rw [h] at h3
    cases h3
theorem R_ne (s : ByteArray) (k : Nat) (h : k < s.size) (hb : B.bla (s[k].toNat : Int) = false) : R bl s.data.toList ≠ [] := by
  intro e
  have h1 := all_R bl _ e
  have h2 := B.all_no bl s k h (by rw [bl_bla]; exact hb)
  rw [h2] at h1
  cases h1
theorem size_of_R (s x : ByteArray) (hne : R bl s.data.toList ≠ []) (h : R bl x.data.toList = R bl s.data.toList) : 0 < x.size := by
  rcases Nat.eq_zero_or_pos x.size with h0 | h0
  · exfalso
    have e : x.data.toList = [] := List.eq_nil_of_length_eq_zero (by have h2 : x.data.toList.length = x.size := by simp
                                                                     omega)
    rw [e] at h
    exact hne h.symm
  · exact h0
theorem trimRB_of (s x : ByteArray) (h : R bl x.data.toList = R bl s.data.toList) (h2 : R bl x.data.toList = x.data.toList) : trimRB [32, 9] s = x := by
  apply bytes_eq
  show R bl s.data.toList = _
  rw [← h, h2]
theorem join_two (x y : ByteArray) : joinB cmB [x, y] = (x ++ cmB) ++ y := by
  apply bytes_eq
  rw [joinB_list, list_append, list_append]
  show Lib.join (x.data.toList :: [y.data.toList]) cmB.data.toList = _
  rw [Lib.join_cons]
  simp [Lib.joinTail]
end Cm

set_option maxHeartbeats 1000000 in
theorem RAppend_any (s : ByteArray) (a : Option Addr) (len cp : Nat) (ss : List ByteArray) (w : World) (hz : IsTexts w a len ss) (hlen : len ≤ 100000) (hs : s.size ≤ 100000) (hb : 2 * ss.length + (flat ss).length ≤ 10000000) :
    Calls Tryd.prog 18 #[.string s, .slice a len cp] w fun e w' => e = .returned (.string (Cm.app s ss)) ∧ w = w' := by
  have hl := hz.1
  have hjs := join_size ss
  by_cases h0 : len = 0
  · subst h0
    have HA : Hid (Cm.app s ss = s) := by show _ = _; unfold Cm.app; rw [if_pos hl]
    rw [HA.out]
    clear hz
    go_enter Tryd.func18, Tryd.ntmps18
    go_wp2_with fail
    go_ret
    exact ⟨rfl, rfl⟩
  · have q0 : ((len : Int) == 0) = false := by rw [beq_eq_false_iff_ne]; omega
    have hJ := Lib.hid (RJoin_any cmB a len cp ss w hz (by have e : cmB.size = 2 := rfl; rw [e]; omega) (by decide))
    have HY : Hid (s.data.toList.all Cm.sb = true → Cm.app s ss = joinB cmB ss) := fun h => by
      unfold Cm.app
      rw [if_neg (by omega), Cm.bare_yes s h]; rfl
    have HN : Hid (s.data.toList.all Cm.sb = false → Cm.app s ss = (trimRB [32, 9] s ++ cmB) ++ joinB cmB ss) := fun h => by
      unfold Cm.app
      rw [if_neg (by omega), Cm.bare_no s h, ← Cm.join_two]; rfl
    obtain ⟨J, hJJ⟩ : ∃ J, joinB cmB ss = J := ⟨_, rfl⟩
    rw [hJJ] at hJ HY HN hjs
    clear hz hJJ
    unfold cmB at hJ HN
    go_enter Tryd.func18, Tryd.ntmps18
    go_wp2_with fail
    refine hJ.out.mono ?_
    rintro e w1 ⟨rfl, rfl⟩
    clear hJ
    go_wp2_with fail
    go_loop [0, 6] (fun v i => v = .string s ∧ ∃ k : Nat, k ≤ s.size ∧ i = .int .i64 k ∧ Hid ((s.data.toList.take k).all Cm.sb = true)) (fun _ i => s.size - (intOf i).toNat)
    case atStart => exact ⟨rfl, 0, Nat.zero_le _, rfl, rfl⟩
    case round =>
      obtain ⟨rfl, k, hk, rfl, HK⟩ := hrel
      by_cases hlt : k < s.size
      · have hby := B.toNat_le s[k]
        have hsb := Cm.sb_is s[k]
        by_cases h44 : (s[k].toNat : Int) = 44
        · have HK2 := Lib.hid (B.all_snoc Cm.sb s k hlt HK.out (by rw [hsb, h44]; decide))
          clear hsb
          go_wp2_with fail
          go_round
          case rel => exact ⟨rfl, k + 1, by omega, by go_num, HK2⟩
          case measure => simp [intOf]; omega
        · cases hbl : B.bla (s[k].toNat : Int)
          · have hno := B.all_no Cm.sb s k hlt (by rw [hsb, hbl, decide_eq_false h44]; rfl)
            have HE := Lib.hid (HN.out hno)
            have HRN := Lib.hid (Cm.R_ne s k hlt hbl)
            have HBL := Lib.hid hbl
            clear hsb hbl hno
            go_wp2_with fail
            refine (RBlank_any _ _).mono ?_
            rintro e w' ⟨rfl, rfl⟩
            rw [HBL.out]
            go_wp2_with fail
            go_loop [0] (fun v => ∃ x : ByteArray, v = .string x ∧ x.size ≤ s.size ∧ Hid (Cm.R Cm.bl x.data.toList = Cm.R Cm.bl s.data.toList)) (fun v => strLen v)
            case atStart => exact ⟨s, rfl, Nat.le_refl _, rfl⟩
            case round =>
              obtain ⟨x, rfl, hxz, HX⟩ := hrel
              obtain ⟨q, hq⟩ : ∃ q, x.size = q + 1 := ⟨x.size - 1, by have := Cm.size_of_R s x HRN.out HX.out; omega⟩
              have hby2 := B.toNat_le x[q]
              cases hbx : B.bla (x[q].toNat : Int)
              · have HT := Lib.hid (Cm.trimRB_of s x HX.out (Cm.dropR_no x q hq hbx))
                rw [HT.out] at HE
                have HBX := Lib.hid hbx
                clear hbx
                go_wp2_with fail
                refine (RBlank_any _ _).mono ?_
                rintro e w' ⟨rfl, rfl⟩
                rw [HBX.out]
                go_wp2_with fail
                go_ret
                rw [HE.out]
                exact ⟨rfl, rfl⟩
              · have HT := Lib.hid (Cm.dropR_yes x q hq hbx)
                have HBX := Lib.hid hbx
                clear hbx
                go_wp2_with fail
                refine (RBlank_any _ _).mono ?_
                rintro e w' ⟨rfl, rfl⟩
                rw [HBX.out]
                go_wp2_with fail
                go_round
                case rel => exact ⟨_, rfl, by simp; omega, HT.out.symm.trans HX.out⟩
                case measure => simp [strLen]; omega
          · have HK2 := Lib.hid (B.all_snoc Cm.sb s k hlt HK.out (by rw [hsb, hbl]; rfl))
            have HBL := Lib.hid hbl
            clear hsb hbl
            go_wp2_with fail
            refine (RBlank_any _ _).mono ?_
            rintro e w' ⟨rfl, rfl⟩
            rw [HBL.out]
            go_wp2_with fail
            go_round
            case rel => exact ⟨rfl, k + 1, by omega, by go_num, HK2⟩
            case measure => simp [intOf]; omega
      · have HE := Lib.hid (HY.out (B.all_yes Cm.sb s k hlt HK.out))
        go_wp2_with fail
        go_ret
        rw [HE.out]
        exact ⟨rfl, rfl⟩
end Go.Proofs.YtjchcknmolffiaaDoor
