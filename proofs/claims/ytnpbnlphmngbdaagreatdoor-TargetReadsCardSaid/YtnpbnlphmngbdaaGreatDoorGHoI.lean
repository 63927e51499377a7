/- Contracts and lemmas that the claim rests on: HoI. -/
import Derived.Test.YtnpbnlphmngbdaaGreatDoorGHoG
import Derived.Test.YtnpbnlphmngbdaaGreatDoorGOct
/- nameBytes, Name: contracts; the document's Name. -/
namespace Go.Proofs.YtnpbnlphmngbdaaGreatDoor
open Go.RowKit

namespace Hp
theorem list_cons (s : ByteArray) (h : 0 < s.size) : s.data.toList = s[0] :: s.data.toList.drop 1 := by
  have h' : 0 < s.data.toList.length := by simpa using h
  conv => lhs; rw [← List.drop_zero (l := s.data.toList), List.drop_eq_getElem_cons h']
  rfl
theorem nb_at (s : ByteArray) (h : 0 < s.size) : (nb s.data.toList : Int) = if B.unr (s[0].toNat : Int) || B.sub (s[0].toNat : Int) then 1 else if ((s[0].toNat : Int) == 37) && decide (3 ≤ (s.size : Int)) && (s.extract 1 3).data.toList.all hx then 3 else 0 := by
  have hl : (s.data.toList.drop 1).length + 1 = s.size := by simp; omega
  rw [list_cons s h, nb_cons]
  have e0 : okb s[0] = (B.unr (s[0].toNat : Int) || B.sub (s[0].toNat : Int)) := rfl
  rw [e0]
  cases (B.unr (s[0].toNat : Int) || B.sub (s[0].toNat : Int))
  · have e1 : decide (s[0].toNat = 37) = ((s[0].toNat : Int) == 37) := by
      rw [Bool.eq_iff_iff]; simp; omega
    have e2 : decide (2 ≤ (s.data.toList.drop 1).length) = decide (3 ≤ (s.size : Int)) := by
      rw [decide_eq_decide]; omega
    rw [e1, e2]
    have e3 : (decide (3 ≤ (s.size : Int)) && hx ((s.data.toList.drop 1).getD 0 0) && hx ((s.data.toList.drop 1).getD 1 0)) = (decide (3 ≤ (s.size : Int)) && (s.extract 1 3).data.toList.all hx) := by
      by_cases h3 : 3 ≤ (s.size : Int)
      · rw [decide_eq_true h3, Bool.true_and, Bool.true_and, ext_list]
        match hd : s.data.toList.drop 1, (by omega : 2 ≤ (s.data.toList.drop 1).length) with
        | x :: y :: t, _ => simp
      · rw [decide_eq_false h3]; rfl
    rw [Bool.and_assoc, Bool.and_assoc, ← Bool.and_assoc (decide (3 ≤ (s.size : Int))), e3, Bool.and_assoc]
    generalize ((s[0].toNat : Int) == 37 && (decide (3 ≤ (s.size : Int)) && (s.extract 1 3).data.toList.all hx)) = q
    cases q <;> rfl
  · rfl
end Hp
set_option maxHeartbeats 800000 in
theorem nameBytes_any (s : ByteArray) (w : World) (hp : 0 < s.size) (hs : s.size ≤ 1000) :
    Calls Tryz.prog 93 #[.string s] w fun e w' => e = .returned (.int .i64 (Hp.nb s.data.toList)) ∧ Below w.heap.size w w' := by
  have HA := Lib.hid (fun w => AllHex_any (s.extract 1 3) w (by simp [ByteArray.size_extract]; omega))
  rw [Hp.nb_at s hp]
  generalize (s.extract 1 3).data.toList.all Hp.hx = r at *
  go_enter Tryz.func93, Tryz.ntmps93
  go_wp2_with (first | (go_at_call 114; refine (IsUnreserved_any _ _).mono ?_; rintro e w' ⟨rfl, rfl⟩) | (go_at_call 115; refine (IsSub_any _ _).mono ?_; rintro e w' ⟨rfl, rfl⟩) | (go_at_call 116; refine (HA.out _).mono ?_; rintro e w1 ⟨rfl, hb1⟩))
  all_goals
    go_ret
    refine ⟨ret_int ?_, ?_⟩
    · simp_all
    · first | exact Below.refl _ _ | assumption
/-- The length of a text that a slot holds. -/
def sizeV : Value → Nat
  | .string t => t.size
  | _ => 0
set_option maxHeartbeats 800000 in
theorem Name_any (s : ByteArray) (w : World) (hs : s.size ≤ 1000) :
    Calls Tryz.prog 75 #[.string s] w fun e w' => e = .returned (.bool (Hp.nameL s.data.toList)) ∧ Below w.heap.size w w' := by
  have hz : Hp.nameL s.data.toList = (!s.toList.isEmpty && Hp.nmL s.data.toList) := by unfold Hp.nameL; rw [ByteArray.toList_eq]
  rw [hz]
  clear hz
  go_enter Tryz.func75, Tryz.ntmps75
  go_wp2_with fail
  · have h : s.toList.isEmpty = true := by first | assumption | simp_all
    go_ret
    exact ⟨ret_bool (by rw [h]; rfl), Below.refl _ _⟩
  · have hse : s.toList.isEmpty = false := by first | assumption | simp_all
    rw [hse]
    go_loopw [0, 3] (fun t _ wr => ∃ u : ByteArray, t = .string u ∧ u.size ≤ s.size ∧ Hp.nmL u.data.toList = Hp.nmL s.data.toList ∧ Below w.heap.size w wr) (fun t _ _ => sizeV t)
    case atStart => exact ⟨s, rfl, Nat.le_refl _, rfl, Below.refl _ _⟩
    case round =>
      obtain ⟨u, rfl, hus, hnm, hb⟩ := hrel
      have HB := Lib.hid hb
      have HN := Lib.hid hnm
      clear hb hnm
      cases hne : u.toList.isEmpty
      · have hpos : 0 < u.size := by
          rcases Nat.eq_zero_or_pos u.size with h | h
          · obtain rfl : u = ByteArray.empty := by simpa using h
            simp [ByteArray.toList_eq] at hne
          · exact h
        have hc := Lib.hid (nameBytes_any u wr hpos (by omega))
        by_cases h0 : Hp.nb u.data.toList = 0
        · have h0' : ((Hp.nb u.data.toList : Int) == 0) = true := by rw [h0]; rfl
          go_wp2_with (go_at_call 93; refine hc.out.mono ?_; rintro e w1 ⟨rfl, hb1⟩)
          go_ret
          exact ⟨ret_bool (by rw [hse, ← HN.out, Hp.nmL_none (by rw [ByteArray.toList_eq] at hne; simpa using hne) h0]; rfl), HB.out.trans (hb1.mono HB.out.size)⟩
        · have h0' : ((Hp.nb u.data.toList : Int) == 0) = false := by rw [beq_eq_false_iff_ne]; omega
          have hle : Hp.nb u.data.toList ≤ u.size := by have := Hp.nb_le u.data.toList; simpa using this
          have HM := Lib.hid (show Hp.nmL (u.extract (Hp.nb u.data.toList) u.size).data.toList = Hp.nmL s.data.toList by rw [Hp.ext_end, ← Hp.nmL_some h0, HN.out])
          go_wp2_with (go_at_call 93; refine hc.out.mono ?_; rintro e w1 ⟨rfl, hb1⟩)
          go_roundw
          case rel => exact ⟨_, rfl, by simp [ByteArray.size_extract]; omega, HM.out, HB.out.trans (hb1.mono HB.out.size)⟩
          case measure => simp [sizeV, ByteArray.size_extract]; omega
      · have hu : u.data.toList = [] := by rw [ByteArray.toList_eq] at hne; simpa using hne
        go_wp2_with fail
        go_ret
        exact ⟨ret_bool (by rw [hse, ← HN.out, hu, Hp.nmL_nil]; rfl), HB.out⟩
end Go.Proofs.YtnpbnlphmngbdaaGreatDoor
