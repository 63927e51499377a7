/- Contracts and lemmas that the claim rests on: CmH. -/
import Derived.Test.YtjchcknmolffiaaDoorGCmG
/- The document's Inner: its contract. -/
namespace Go.Proofs.YtjchcknmolffiaaDoor
open Go.RowKit

namespace Cm
theorem byte_is (s : ByteArray) (k : Nat) (h : k < s.size) : byteAt s k = (s[k].toNat : Int) := by
  unfold byteAt
  rw [Qd.byteAt_at s k h]
theorem Oc.plain {s : ByteArray} {k d j : Nat} (h : Oc s k d j) (hj : j < s.size) (h1 : byteAt s j ≠ 40) (h2 : byteAt s j ≠ 41) (h3 : byteAt s j ≠ 92) : Oc s k d (j + 1) := by
  have hge := h.ge
  have hf := h.few
  have hp := h.pos h1
  exact ⟨by omega, by omega, by omega, fun h0 => by omega, h.step (co_plain d s j hj h1 h2 h3)⟩
theorem Oc.never {s : ByteArray} {k d j : Nat} (h : Oc s k d j) (hj : ¬ j < s.size) : co false 0 s k = none := by rw [h.eq, co_end false d s j hj]; rfl
/-- Where the document's loop stands: within the comment, or past the end. -/
def InC (s : ByteArray) (d i : Nat) : Prop := Oc s 0 d i ∨ (i = s.size + 1 ∧ 1 ≤ d ∧ d ≤ s.size ∧ co false 0 s 0 = none)
/-- How many bytes the quoted text or the comment has that is next; 0: none. -/
def inn (s : ByteArray) (k : Nat) : Nat := (un s k).getD 0
theorem inn_mark (s : ByteArray) (k : Nat) (hk : k < s.size) (h : byteAt s k = 34) : inn s k = Qd.len (Qd.fr s k) := by
  unfold inn
  rw [un_mark s k hk h]
  cases Qd.fr s k <;> rfl
theorem inn_open (s : ByteArray) (k : Nat) (hk : k < s.size) (h : byteAt s k = 40) : inn s k = (co false 0 s k).getD 0 := by
  unfold inn
  rw [un_open s k hk h]
theorem un_rest (s : ByteArray) (k : Nat) : un (restS s k) 0 = un s k := by
  unfold un
  rw [restS_list, List.drop_zero]
theorem byte_rest (s : ByteArray) (k : Nat) (h : k < s.size) (h0 : 0 < (restS s k).size) : ((restS s k)[0].toNat : Int) = byteAt s k := by
  have e : byteAt (restS s k) 0 = byteAt s k := by
    unfold byteAt
    rw [restS_list, Qd.drop_at s k h]
    rfl
  rw [← e, byte_is _ 0 h0]
end Cm

set_option maxHeartbeats 1000000 in
theorem RInner_any (s : ByteArray) (w : World) (hs : s.size ≤ 100000) (h0 : 0 < s.size) (hb : (s[0].toNat : Int) = 34 ∨ (s[0].toNat : Int) = 40) :
    Calls Tryd.prog 23 #[.string s] w fun e w' => e = .returned (.int .i64 (Cm.inn s 0)) ∧ ∃ n, w' = w.drewN n := by
  by_cases h34 : (s[0].toNat : Int) = 34
  · have HI := Lib.hid (Cm.inn_mark s 0 h0 (by rw [Cm.byte_is s 0 h0]; exact h34))
    rw [HI.out]
    go_enter Tryd.func23, Tryd.ntmps23
    go_wp2_with fail
    refine (RFront_any s _ hs).mono ?_
    rintro e w1 ⟨rfl, n, rfl⟩
    go_wp2_with fail
    go_ret
    exact ⟨rfl, n, rfl⟩
  · have h40 : (s[0].toNat : Int) = 40 := hb.resolve_left h34
    have hb40 : byteAt s 0 = 40 := by rw [Cm.byte_is s 0 h0]; exact h40
    have HI := Lib.hid (Cm.inn_open s 0 h0 hb40)
    have HC : Hid (Cm.InC s 0 0) := .inl (Cm.Oc.start s 0 h0 hb40)
    have q34 : ((s[0].toNat : Int) == 34) = false := by rw [beq_eq_false_iff_ne]; exact h34
    clear hb hb40 h34
    rw [HI.out]
    go_enter Tryd.func23, Tryd.ntmps23
    go_wp2_with fail
    go_loop [5, 6] (fun d i => ∃ dn k : Nat, d = .int .i64 (dn : Int) ∧ i = .int .i64 (k : Int) ∧ Cm.InC s dn k) (fun _ i => s.size + 1 - (intOf i).toNat)
    case atStart => exact ⟨0, 0, rfl, rfl, HC.out⟩
    case round =>
      clear HC q34 h40
      obtain ⟨dn, k, rfl, rfl, hin⟩ := hrel
      rcases hin with hon | ⟨rfl, hd1, hd2, hno⟩
      · have hle := hon.le
        have hfew := hon.few
        have HO := Lib.hid hon
        clear hon
        by_cases hlt : k < s.size
        · have hby := B.toNat_le s[k]
          have hbk := Cm.byte_is s k hlt
          by_cases b40 : (s[k].toNat : Int) = 40
          · have HN : Hid (Cm.InC s (dn + 1) (k + 1)) := .inl (HO.out.deeper hlt (hbk.trans b40))
            have q1 : (((dn : Int) + 1) == 0) = false := by rw [beq_eq_false_iff_ne]; omega
            clear hbk
            go_wp2_with fail
            go_round
            case rel => exact ⟨dn + 1, k + 1, by go_num, by go_num, HN.out⟩
            case measure => simp [intOf]; omega
          · have n40 : byteAt s k ≠ 40 := by rw [hbk]; exact b40
            have hpos := HO.out.pos n40
            by_cases b41 : (s[k].toNat : Int) = 41
            · by_cases hd1 : dn = 1
              · subst hd1
                have HE := Lib.hid (HO.out.done hlt (hbk.trans b41))
                clear hbk n40
                go_wp2_with fail
                go_ret
                rw [HE.out]
                exact ⟨rfl, 0, rfl⟩
              · have HN : Hid (Cm.InC s (dn - 1) (k + 1)) := .inl (HO.out.higher hlt (hbk.trans b41) hd1)
                have q1 : (((dn : Int) - 1) == 0) = false := by rw [beq_eq_false_iff_ne]; omega
                clear hbk n40
                go_wp2_with fail
                go_round
                case rel => exact ⟨dn - 1, k + 1, by go_num, by go_num, HN.out⟩
                case measure => simp [intOf]; omega
            · have q0 : ((dn : Int) == 0) = false := by rw [beq_eq_false_iff_ne]; omega
              by_cases b92 : (s[k].toNat : Int) = 92
              · have HN : Hid (Cm.InC s dn (k + 2)) := by
                  by_cases hl2 : k + 1 < s.size
                  · exact .inl (HO.out.over hlt (hbk.trans b92) hl2)
                  · have h2 := HO.out.out hlt (hbk.trans b92) hl2
                    exact .inr ⟨by omega, by omega, by have := h2.few; omega, h2.never hl2⟩
                clear hbk n40
                go_wp2_with fail
                go_round
                case rel => exact ⟨dn, k + 2, rfl, by go_num, HN.out⟩
                case measure => simp [intOf]; omega
              · have HN : Hid (Cm.InC s dn (k + 1)) := .inl (HO.out.plain hlt n40 (by rw [hbk]; exact b41) (by rw [hbk]; exact b92))
                clear hbk n40
                go_wp2_with fail
                go_round
                case rel => exact ⟨dn, k + 1, rfl, by go_num, HN.out⟩
                case measure => simp [intOf]; omega
        · have HE := Lib.hid (HO.out.never hlt)
          go_wp2_with fail
          go_ret
          rw [HE.out]
          exact ⟨rfl, 0, rfl⟩
      · have HE := Lib.hid hno
        have hlt : ¬ s.size + 1 < s.size := by omega
        clear hno
        go_wp2_with fail
        go_ret
        rw [HE.out]
        exact ⟨rfl, 0, rfl⟩
end Go.Proofs.YtjchcknmolffiaaDoor
