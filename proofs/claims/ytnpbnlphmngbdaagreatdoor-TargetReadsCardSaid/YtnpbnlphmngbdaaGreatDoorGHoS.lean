/- Contracts and lemmas that the claim rests on: HoS. -/
import Derived.Test.YtnpbnlphmngbdaaGreatDoorGHoL
import Derived.Test.YtnpbnlphmngbdaaGreatDoorGHoR
/- The document's host: of: its contract. -/
namespace Go.Proofs.YtnpbnlphmngbdaaGreatDoor
open Go.RowKit

namespace Hp
theorem ofL_self (s : ByteArray) : (⟨s.data.toList.toArray⟩ : ByteArray) = s := (ofL _ _ rfl).symm
theorem last_at (s : ByteArray) (h : 0 < s.size) : s.data.toList.getLast? = some s[s.size - 1] := by
  have hl : s.data.toList.length = s.size := by simp
  rw [List.getLast?_eq_getElem?, hl, List.getElem?_eq_getElem (by omega)]
  rfl
theorem inn_parts {s : ByteArray} {m : List UInt8} (h : inn s.data.toList = some m) : s.size = m.length + 2 ∧ (∀ h0 : 0 < s.size, s[0] = 91 ∧ s[s.size - 1] = 93) := by
  have e := inn_some h
  have hl : s.data.toList.length = s.size := by simp
  have hz : s.size = m.length + 2 := by rw [← hl, e]; simp
  refine ⟨hz, fun h0 => ⟨?_, ?_⟩⟩
  · have e0 := list_cons s h0
    rw [e] at e0
    exact (List.cons.inj e0).1.symm
  · have e1 := last_at s h0
    rw [e] at e1
    have : (91 :: (m ++ [93]) : List UInt8).getLast? = some 93 := by
      rw [show (91 :: (m ++ [93]) : List UInt8) = (91 :: m) ++ [93] from rfl, List.getLast?_concat]
    rw [this] at e1
    exact (Option.some.inj e1).symm
theorem inn_yes (s : ByteArray) (h : 2 < s.size) (h0 : s[0] = 91) (h1 : s[s.size - 1] = 93) : inn s.data.toList = some (s.extract 1 (s.size - 1)).data.toList := by
  have e0 := list_cons s (by omega)
  have hl : s.data.toList.length = s.size := by simp
  have e2 : s.data.toList.drop 1 = (s.extract 1 (s.size - 1)).data.toList ++ [93] := by
    rw [ext_list]
    conv => lhs; rw [← List.take_append_drop (s.size - 1 - 1) (s.data.toList.drop 1), List.drop_drop]
    congr 1
    have e3 : 1 + (s.size - 1 - 1) = s.size - 1 := by omega
    rw [e3, drop_at s (s.size - 1) (by omega), h1, List.drop_of_length_le (by omega)]
  rw [e0, e2, h0, inn_of]
theorem inn_no1 (s : ByteArray) (h : 2 < s.size) (h1 : s[s.size - 1] ≠ 93) : (inn s.data.toList).any sixC = false := by
  cases e : inn s.data.toList with
  | none => rfl
  | some m => exact absurd ((inn_parts e).2 (by omega)).2 h1
theorem inn_no2 (s : ByteArray) (h : 2 < s.size) (h1 : s[0] ≠ 91) : (inn s.data.toList).any sixC = false := by
  cases e : inn s.data.toList with
  | none => rfl
  | some m => exact absurd ((inn_parts e).2 (by omega)).1 h1
theorem inn_no3 (s : ByteArray) (h : s.size ≤ 2) : (inn s.data.toList).any sixC = false := by
  cases e : inn s.data.toList with
  | none => rfl
  | some m =>
    have hz := (inn_parts e).1
    have : m = [] := List.eq_nil_of_length_eq_zero (by omega)
    subst this
    exact six_nil
end Hp
theorem byte_of {c d : UInt8} {n : Int} (hd : (d.toNat : Int) = n) (h : (c.toNat : Int) = n) : c = d := UInt8.toNat_inj.1 (by omega)
theorem byte_not {c d : UInt8} {n : Int} (hd : (d.toNat : Int) = n) (h : ¬ (c.toNat : Int) = n) : c ≠ d := by rintro rfl; exact h hd
set_option maxHeartbeats 2000000 in
theorem Rof_any (s : ByteArray) (w : World) (hs : s.size ≤ 900) :
    Calls Tryz.prog 27 #[.string s] w fun e w' => e = .returned (hostV (Hp.hostL s.data.toList).1 ⟨(Hp.hostL s.data.toList).2.toArray⟩ (if (Hp.hostL s.data.toList).1 = 0 then 0 else -1)) ∧ Below w.heap.size w w' := by
  have HREST := Lib.hid (fun h => Hp.host_rest (l := s.data.toList) h)
  have HSIX := Lib.hid (fun m h h6 => Hp.host_six (l := s.data.toList) (m := m) h h6)
  have H4 := Lib.hid (fun w1 => RFour_any s w1 (by omega))
  have HN := Lib.hid (fun w1 => RHName_any s w1 (by omega))
  have H6 := Lib.hid (fun w1 => RSix_any (s.extract 1 (s.size - 1)) w1 (by simp [ByteArray.size_extract]; omega))
  rw [← Hp.six_eq] at H6
  have HY := Lib.hid (fun (h : 2 < s.size) h0 h1 => Hp.inn_yes s h h0 h1)
  have HN1 := Lib.hid (fun (h : 2 < s.size) h1 => Hp.inn_no1 s h h1)
  have HN2 := Lib.hid (fun (h : 2 < s.size) h1 => Hp.inn_no2 s h h1)
  have HN3 := Lib.hid (fun h => Hp.inn_no3 s h)
  generalize Hp.hostL s.data.toList = H at *
  obtain ⟨V, hV⟩ : ∃ V, hostV H.1 ⟨H.2.toArray⟩ (if H.1 = 0 then 0 else -1) = V := ⟨_, rfl⟩
  rw [hV]
  have HV := Lib.hid hV
  clear hV
  generalize Hp.inn s.data.toList = I at *
  generalize Hp.fourL s.data.toList = b4 at *
  generalize Hp.nameL s.data.toList = bn at *
  obtain ⟨c, hc⟩ : ∃ c, s.extract 1 (s.size - 1) = c := ⟨_, rfl⟩
  rw [hc] at H6 HY
  generalize hb6 : Hp.sixC c.data.toList = b6 at *
  have H6Q := Lib.hid hb6
  clear hb6
  have hb0 : ∀ o, Below w.heap.size w (w.alloc o) := fun o => (Below.refl _ _).alloc (Nat.le_refl _) _
  have HB0 := Lib.hid hb0
  clear hb0
  have HBa := Lib.hid (Below.refl (w.heap.size + 1) (w.alloc (.cells #[.int .i64 0, .string ⟨#[]⟩, .int .i64 0] 27)))
  go_enter Tryz.func27, Tryz.ntmps27
  go_wp2_with fail
  · have q2 : (2 : Int) < (s.size : Int) := by assumption
    have q0 : (s[0].toNat : Int) = 91 := by assumption
    have q1 : (s[s.size - 1].toNat : Int) = 93 := by assumption
    have HI := Lib.hid (HY.out (by omega) (byte_of (d := 91) rfl q0) (byte_of (d := 93) rfl q1))
    refine (H6.out _).mono ?_
    rintro e w2 ⟨rfl, hb2⟩
    have HB2 := Lib.hid (HBa.out.trans (hb2.mono (by simp)))
    clear hb2
    cases b6
    · have HFA := Lib.hid (HREST.out (by rw [HI.out]; show Hp.sixC c.data.toList = false; exact H6Q.out))
      go_wp2_with fail
      refine (H4.out _).mono ?_
      rintro e w3 ⟨rfl, hb3⟩
      have HB3 := Lib.hid (HB2.out.trans (hb3.mono (by have := HB2.out.size; simp at this ⊢; try omega)))
      clear hb3
      cases b4
      · go_wp2_with fail
        refine (HN.out _).mono ?_
        rintro e w4 ⟨rfl, rfl⟩
        cases bn
        · skip
          have z0 := (HB3.out.cell (p := ⟨w.heap.size, 0, none⟩) (by simp)).trans (show (w.alloc (.cells #[.int .i64 0, .string ⟨#[]⟩, .int .i64 0] 27)).cell? ⟨w.heap.size, 0, none⟩ = some (.int .i64 0) by simp [go_sem])
          have g0 := (HB3.out.frozen (p := ⟨w.heap.size, 0, none⟩) (by simp)).trans (show (w.alloc (.cells #[.int .i64 0, .string ⟨#[]⟩, .int .i64 0] 27)).frozen? ⟨w.heap.size, 0, none⟩ = false by simp [go_sem])
          have z1 := (HB3.out.cell (p := ⟨w.heap.size, 1, none⟩) (by simp)).trans (show (w.alloc (.cells #[.int .i64 0, .string ⟨#[]⟩, .int .i64 0] 27)).cell? ⟨w.heap.size, 1, none⟩ = some (.string ⟨#[]⟩) by simp [go_sem])
          have g1 := (HB3.out.frozen (p := ⟨w.heap.size, 1, none⟩) (by simp)).trans (show (w.alloc (.cells #[.int .i64 0, .string ⟨#[]⟩, .int .i64 0] 27)).frozen? ⟨w.heap.size, 1, none⟩ = false by simp [go_sem])
          have z2 := (HB3.out.cell (p := ⟨w.heap.size, 2, none⟩) (by simp)).trans (show (w.alloc (.cells #[.int .i64 0, .string ⟨#[]⟩, .int .i64 0] 27)).cell? ⟨w.heap.size, 2, none⟩ = some (.int .i64 0) by simp [go_sem])
          have g2 := (HB3.out.frozen (p := ⟨w.heap.size, 2, none⟩) (by simp)).trans (show (w.alloc (.cells #[.int .i64 0, .string ⟨#[]⟩, .int .i64 0] 27)).frozen? ⟨w.heap.size, 2, none⟩ = false by simp [go_sem])
          go_wp2_with fail
          refine bodyPost_ret (v := hostV 0 ⟨#[]⟩ (0)) (by simp [results, hostV, Tryz.results27, go_sem, z0, z1, z2]) rfl ⟨?_, ?_⟩
          · rw [← HV.out, HFA.out]; rfl
          · exact below3 ((HB0.out _).trans (HB3.out.mono (by simp))) (Nat.le_refl _) _ _ _
        · skip
          have z0 := (HB3.out.cell (p := ⟨w.heap.size, 0, none⟩) (by simp)).trans (show (w.alloc (.cells #[.int .i64 0, .string ⟨#[]⟩, .int .i64 0] 27)).cell? ⟨w.heap.size, 0, none⟩ = some (.int .i64 0) by simp [go_sem])
          have g0 := (HB3.out.frozen (p := ⟨w.heap.size, 0, none⟩) (by simp)).trans (show (w.alloc (.cells #[.int .i64 0, .string ⟨#[]⟩, .int .i64 0] 27)).frozen? ⟨w.heap.size, 0, none⟩ = false by simp [go_sem])
          have z1 := (HB3.out.cell (p := ⟨w.heap.size, 1, none⟩) (by simp)).trans (show (w.alloc (.cells #[.int .i64 0, .string ⟨#[]⟩, .int .i64 0] 27)).cell? ⟨w.heap.size, 1, none⟩ = some (.string ⟨#[]⟩) by simp [go_sem])
          have g1 := (HB3.out.frozen (p := ⟨w.heap.size, 1, none⟩) (by simp)).trans (show (w.alloc (.cells #[.int .i64 0, .string ⟨#[]⟩, .int .i64 0] 27)).frozen? ⟨w.heap.size, 1, none⟩ = false by simp [go_sem])
          have z2 := (HB3.out.cell (p := ⟨w.heap.size, 2, none⟩) (by simp)).trans (show (w.alloc (.cells #[.int .i64 0, .string ⟨#[]⟩, .int .i64 0] 27)).cell? ⟨w.heap.size, 2, none⟩ = some (.int .i64 0) by simp [go_sem])
          have g2 := (HB3.out.frozen (p := ⟨w.heap.size, 2, none⟩) (by simp)).trans (show (w.alloc (.cells #[.int .i64 0, .string ⟨#[]⟩, .int .i64 0] 27)).frozen? ⟨w.heap.size, 2, none⟩ = false by simp [go_sem])
          go_wp2_with fail
          refine bodyPost_ret (v := hostV 1 s (-1)) (by simp [results, hostV, Tryz.results27, go_sem, z0, z1, z2]) rfl ⟨?_, ?_⟩
          · rw [← HV.out, HFA.out]; show _ = Ending.returned (hostV 1 ⟨s.data.toList.toArray⟩ (-1)); rw [Hp.ofL_self]
          · exact below3 ((HB0.out _).trans (HB3.out.mono (by simp))) (Nat.le_refl _) _ _ _
      · skip
        have z0 := (HB3.out.cell (p := ⟨w.heap.size, 0, none⟩) (by simp)).trans (show (w.alloc (.cells #[.int .i64 0, .string ⟨#[]⟩, .int .i64 0] 27)).cell? ⟨w.heap.size, 0, none⟩ = some (.int .i64 0) by simp [go_sem])
        have g0 := (HB3.out.frozen (p := ⟨w.heap.size, 0, none⟩) (by simp)).trans (show (w.alloc (.cells #[.int .i64 0, .string ⟨#[]⟩, .int .i64 0] 27)).frozen? ⟨w.heap.size, 0, none⟩ = false by simp [go_sem])
        have z1 := (HB3.out.cell (p := ⟨w.heap.size, 1, none⟩) (by simp)).trans (show (w.alloc (.cells #[.int .i64 0, .string ⟨#[]⟩, .int .i64 0] 27)).cell? ⟨w.heap.size, 1, none⟩ = some (.string ⟨#[]⟩) by simp [go_sem])
        have g1 := (HB3.out.frozen (p := ⟨w.heap.size, 1, none⟩) (by simp)).trans (show (w.alloc (.cells #[.int .i64 0, .string ⟨#[]⟩, .int .i64 0] 27)).frozen? ⟨w.heap.size, 1, none⟩ = false by simp [go_sem])
        have z2 := (HB3.out.cell (p := ⟨w.heap.size, 2, none⟩) (by simp)).trans (show (w.alloc (.cells #[.int .i64 0, .string ⟨#[]⟩, .int .i64 0] 27)).cell? ⟨w.heap.size, 2, none⟩ = some (.int .i64 0) by simp [go_sem])
        have g2 := (HB3.out.frozen (p := ⟨w.heap.size, 2, none⟩) (by simp)).trans (show (w.alloc (.cells #[.int .i64 0, .string ⟨#[]⟩, .int .i64 0] 27)).frozen? ⟨w.heap.size, 2, none⟩ = false by simp [go_sem])
        go_wp2_with fail
        refine bodyPost_ret (v := hostV 2 s (-1)) (by simp [results, hostV, Tryz.results27, go_sem, z0, z1, z2]) rfl ⟨?_, ?_⟩
        · rw [← HV.out, HFA.out]; show _ = Ending.returned (hostV 2 ⟨s.data.toList.toArray⟩ (-1)); rw [Hp.ofL_self]
        · exact below3 ((HB0.out _).trans (HB3.out.mono (by simp))) (Nat.le_refl _) _ _ _
    · have HFA := Lib.hid (HSIX.out _ HI.out H6Q.out)
      have z0 := (HB2.out.cell (p := ⟨w.heap.size, 0, none⟩) (by simp)).trans (show (w.alloc (.cells #[.int .i64 0, .string ⟨#[]⟩, .int .i64 0] 27)).cell? ⟨w.heap.size, 0, none⟩ = some (.int .i64 0) by simp [go_sem])
      have g0 := (HB2.out.frozen (p := ⟨w.heap.size, 0, none⟩) (by simp)).trans (show (w.alloc (.cells #[.int .i64 0, .string ⟨#[]⟩, .int .i64 0] 27)).frozen? ⟨w.heap.size, 0, none⟩ = false by simp [go_sem])
      have z1 := (HB2.out.cell (p := ⟨w.heap.size, 1, none⟩) (by simp)).trans (show (w.alloc (.cells #[.int .i64 0, .string ⟨#[]⟩, .int .i64 0] 27)).cell? ⟨w.heap.size, 1, none⟩ = some (.string ⟨#[]⟩) by simp [go_sem])
      have g1 := (HB2.out.frozen (p := ⟨w.heap.size, 1, none⟩) (by simp)).trans (show (w.alloc (.cells #[.int .i64 0, .string ⟨#[]⟩, .int .i64 0] 27)).frozen? ⟨w.heap.size, 1, none⟩ = false by simp [go_sem])
      have z2 := (HB2.out.cell (p := ⟨w.heap.size, 2, none⟩) (by simp)).trans (show (w.alloc (.cells #[.int .i64 0, .string ⟨#[]⟩, .int .i64 0] 27)).cell? ⟨w.heap.size, 2, none⟩ = some (.int .i64 0) by simp [go_sem])
      have g2 := (HB2.out.frozen (p := ⟨w.heap.size, 2, none⟩) (by simp)).trans (show (w.alloc (.cells #[.int .i64 0, .string ⟨#[]⟩, .int .i64 0] 27)).frozen? ⟨w.heap.size, 2, none⟩ = false by simp [go_sem])
      go_wp2_with fail
      refine bodyPost_ret (v := hostV 3 c (-1)) (by simp [results, hostV, Tryz.results27, go_sem, z0, z1, z2]) rfl ⟨?_, ?_⟩
      · rw [← HV.out, HFA.out]; show _ = Ending.returned (hostV 3 ⟨c.data.toList.toArray⟩ (-1)); rw [Hp.ofL_self]
      · exact below3 ((HB0.out _).trans (HB2.out.mono (by simp))) (Nat.le_refl _) _ _ _
  · have q2 : (2 : Int) < (s.size : Int) := by assumption
    have q1 : ¬ (s[s.size - 1].toNat : Int) = 93 := by assumption
    have HFA := Lib.hid (HREST.out (HN1.out (by omega) (byte_not (d := 93) rfl q1)))
    refine (H4.out _).mono ?_
    rintro e w2 ⟨rfl, hb2⟩
    have HB2 := Lib.hid (HBa.out.trans (hb2.mono (by have := HBa.out.size; simp at this ⊢; try omega)))
    clear hb2
    cases b4
    · go_wp2_with fail
      refine (HN.out _).mono ?_
      rintro e w3 ⟨rfl, rfl⟩
      cases bn
      · skip
        have z0 := (HB2.out.cell (p := ⟨w.heap.size, 0, none⟩) (by simp)).trans (show (w.alloc (.cells #[.int .i64 0, .string ⟨#[]⟩, .int .i64 0] 27)).cell? ⟨w.heap.size, 0, none⟩ = some (.int .i64 0) by simp [go_sem])
        have g0 := (HB2.out.frozen (p := ⟨w.heap.size, 0, none⟩) (by simp)).trans (show (w.alloc (.cells #[.int .i64 0, .string ⟨#[]⟩, .int .i64 0] 27)).frozen? ⟨w.heap.size, 0, none⟩ = false by simp [go_sem])
        have z1 := (HB2.out.cell (p := ⟨w.heap.size, 1, none⟩) (by simp)).trans (show (w.alloc (.cells #[.int .i64 0, .string ⟨#[]⟩, .int .i64 0] 27)).cell? ⟨w.heap.size, 1, none⟩ = some (.string ⟨#[]⟩) by simp [go_sem])
        have g1 := (HB2.out.frozen (p := ⟨w.heap.size, 1, none⟩) (by simp)).trans (show (w.alloc (.cells #[.int .i64 0, .string ⟨#[]⟩, .int .i64 0] 27)).frozen? ⟨w.heap.size, 1, none⟩ = false by simp [go_sem])
        have z2 := (HB2.out.cell (p := ⟨w.heap.size, 2, none⟩) (by simp)).trans (show (w.alloc (.cells #[.int .i64 0, .string ⟨#[]⟩, .int .i64 0] 27)).cell? ⟨w.heap.size, 2, none⟩ = some (.int .i64 0) by simp [go_sem])
        have g2 := (HB2.out.frozen (p := ⟨w.heap.size, 2, none⟩) (by simp)).trans (show (w.alloc (.cells #[.int .i64 0, .string ⟨#[]⟩, .int .i64 0] 27)).frozen? ⟨w.heap.size, 2, none⟩ = false by simp [go_sem])
        go_wp2_with fail
        refine bodyPost_ret (v := hostV 0 ⟨#[]⟩ (0)) (by simp [results, hostV, Tryz.results27, go_sem, z0, z1, z2]) rfl ⟨?_, ?_⟩
        · rw [← HV.out, HFA.out]; rfl
        · exact below3 ((HB0.out _).trans (HB2.out.mono (by simp))) (Nat.le_refl _) _ _ _
      · skip
        have z0 := (HB2.out.cell (p := ⟨w.heap.size, 0, none⟩) (by simp)).trans (show (w.alloc (.cells #[.int .i64 0, .string ⟨#[]⟩, .int .i64 0] 27)).cell? ⟨w.heap.size, 0, none⟩ = some (.int .i64 0) by simp [go_sem])
        have g0 := (HB2.out.frozen (p := ⟨w.heap.size, 0, none⟩) (by simp)).trans (show (w.alloc (.cells #[.int .i64 0, .string ⟨#[]⟩, .int .i64 0] 27)).frozen? ⟨w.heap.size, 0, none⟩ = false by simp [go_sem])
        have z1 := (HB2.out.cell (p := ⟨w.heap.size, 1, none⟩) (by simp)).trans (show (w.alloc (.cells #[.int .i64 0, .string ⟨#[]⟩, .int .i64 0] 27)).cell? ⟨w.heap.size, 1, none⟩ = some (.string ⟨#[]⟩) by simp [go_sem])
        have g1 := (HB2.out.frozen (p := ⟨w.heap.size, 1, none⟩) (by simp)).trans (show (w.alloc (.cells #[.int .i64 0, .string ⟨#[]⟩, .int .i64 0] 27)).frozen? ⟨w.heap.size, 1, none⟩ = false by simp [go_sem])
        have z2 := (HB2.out.cell (p := ⟨w.heap.size, 2, none⟩) (by simp)).trans (show (w.alloc (.cells #[.int .i64 0, .string ⟨#[]⟩, .int .i64 0] 27)).cell? ⟨w.heap.size, 2, none⟩ = some (.int .i64 0) by simp [go_sem])
        have g2 := (HB2.out.frozen (p := ⟨w.heap.size, 2, none⟩) (by simp)).trans (show (w.alloc (.cells #[.int .i64 0, .string ⟨#[]⟩, .int .i64 0] 27)).frozen? ⟨w.heap.size, 2, none⟩ = false by simp [go_sem])
        go_wp2_with fail
        refine bodyPost_ret (v := hostV 1 s (-1)) (by simp [results, hostV, Tryz.results27, go_sem, z0, z1, z2]) rfl ⟨?_, ?_⟩
        · rw [← HV.out, HFA.out]; show _ = Ending.returned (hostV 1 ⟨s.data.toList.toArray⟩ (-1)); rw [Hp.ofL_self]
        · exact below3 ((HB0.out _).trans (HB2.out.mono (by simp))) (Nat.le_refl _) _ _ _
    · skip
      have z0 := (HB2.out.cell (p := ⟨w.heap.size, 0, none⟩) (by simp)).trans (show (w.alloc (.cells #[.int .i64 0, .string ⟨#[]⟩, .int .i64 0] 27)).cell? ⟨w.heap.size, 0, none⟩ = some (.int .i64 0) by simp [go_sem])
      have g0 := (HB2.out.frozen (p := ⟨w.heap.size, 0, none⟩) (by simp)).trans (show (w.alloc (.cells #[.int .i64 0, .string ⟨#[]⟩, .int .i64 0] 27)).frozen? ⟨w.heap.size, 0, none⟩ = false by simp [go_sem])
      have z1 := (HB2.out.cell (p := ⟨w.heap.size, 1, none⟩) (by simp)).trans (show (w.alloc (.cells #[.int .i64 0, .string ⟨#[]⟩, .int .i64 0] 27)).cell? ⟨w.heap.size, 1, none⟩ = some (.string ⟨#[]⟩) by simp [go_sem])
      have g1 := (HB2.out.frozen (p := ⟨w.heap.size, 1, none⟩) (by simp)).trans (show (w.alloc (.cells #[.int .i64 0, .string ⟨#[]⟩, .int .i64 0] 27)).frozen? ⟨w.heap.size, 1, none⟩ = false by simp [go_sem])
      have z2 := (HB2.out.cell (p := ⟨w.heap.size, 2, none⟩) (by simp)).trans (show (w.alloc (.cells #[.int .i64 0, .string ⟨#[]⟩, .int .i64 0] 27)).cell? ⟨w.heap.size, 2, none⟩ = some (.int .i64 0) by simp [go_sem])
      have g2 := (HB2.out.frozen (p := ⟨w.heap.size, 2, none⟩) (by simp)).trans (show (w.alloc (.cells #[.int .i64 0, .string ⟨#[]⟩, .int .i64 0] 27)).frozen? ⟨w.heap.size, 2, none⟩ = false by simp [go_sem])
      go_wp2_with fail
      refine bodyPost_ret (v := hostV 2 s (-1)) (by simp [results, hostV, Tryz.results27, go_sem, z0, z1, z2]) rfl ⟨?_, ?_⟩
      · rw [← HV.out, HFA.out]; show _ = Ending.returned (hostV 2 ⟨s.data.toList.toArray⟩ (-1)); rw [Hp.ofL_self]
      · exact below3 ((HB0.out _).trans (HB2.out.mono (by simp))) (Nat.le_refl _) _ _ _
  · have q2 : (2 : Int) < (s.size : Int) := by assumption
    have q0 : ¬ (s[0].toNat : Int) = 91 := by assumption
    have HFA := Lib.hid (HREST.out (HN2.out (by omega) (byte_not (d := 91) rfl q0)))
    refine (H4.out _).mono ?_
    rintro e w2 ⟨rfl, hb2⟩
    have HB2 := Lib.hid (HBa.out.trans (hb2.mono (by have := HBa.out.size; simp at this ⊢; try omega)))
    clear hb2
    cases b4
    · go_wp2_with fail
      refine (HN.out _).mono ?_
      rintro e w3 ⟨rfl, rfl⟩
      cases bn
      · skip
        have z0 := (HB2.out.cell (p := ⟨w.heap.size, 0, none⟩) (by simp)).trans (show (w.alloc (.cells #[.int .i64 0, .string ⟨#[]⟩, .int .i64 0] 27)).cell? ⟨w.heap.size, 0, none⟩ = some (.int .i64 0) by simp [go_sem])
        have g0 := (HB2.out.frozen (p := ⟨w.heap.size, 0, none⟩) (by simp)).trans (show (w.alloc (.cells #[.int .i64 0, .string ⟨#[]⟩, .int .i64 0] 27)).frozen? ⟨w.heap.size, 0, none⟩ = false by simp [go_sem])
        have z1 := (HB2.out.cell (p := ⟨w.heap.size, 1, none⟩) (by simp)).trans (show (w.alloc (.cells #[.int .i64 0, .string ⟨#[]⟩, .int .i64 0] 27)).cell? ⟨w.heap.size, 1, none⟩ = some (.string ⟨#[]⟩) by simp [go_sem])
        have g1 := (HB2.out.frozen (p := ⟨w.heap.size, 1, none⟩) (by simp)).trans (show (w.alloc (.cells #[.int .i64 0, .string ⟨#[]⟩, .int .i64 0] 27)).frozen? ⟨w.heap.size, 1, none⟩ = false by simp [go_sem])
        have z2 := (HB2.out.cell (p := ⟨w.heap.size, 2, none⟩) (by simp)).trans (show (w.alloc (.cells #[.int .i64 0, .string ⟨#[]⟩, .int .i64 0] 27)).cell? ⟨w.heap.size, 2, none⟩ = some (.int .i64 0) by simp [go_sem])
        have g2 := (HB2.out.frozen (p := ⟨w.heap.size, 2, none⟩) (by simp)).trans (show (w.alloc (.cells #[.int .i64 0, .string ⟨#[]⟩, .int .i64 0] 27)).frozen? ⟨w.heap.size, 2, none⟩ = false by simp [go_sem])
        go_wp2_with fail
        refine bodyPost_ret (v := hostV 0 ⟨#[]⟩ (0)) (by simp [results, hostV, Tryz.results27, go_sem, z0, z1, z2]) rfl ⟨?_, ?_⟩
        · rw [← HV.out, HFA.out]; rfl
        · exact below3 ((HB0.out _).trans (HB2.out.mono (by simp))) (Nat.le_refl _) _ _ _
      · skip
        have z0 := (HB2.out.cell (p := ⟨w.heap.size, 0, none⟩) (by simp)).trans (show (w.alloc (.cells #[.int .i64 0, .string ⟨#[]⟩, .int .i64 0] 27)).cell? ⟨w.heap.size, 0, none⟩ = some (.int .i64 0) by simp [go_sem])
        have g0 := (HB2.out.frozen (p := ⟨w.heap.size, 0, none⟩) (by simp)).trans (show (w.alloc (.cells #[.int .i64 0, .string ⟨#[]⟩, .int .i64 0] 27)).frozen? ⟨w.heap.size, 0, none⟩ = false by simp [go_sem])
        have z1 := (HB2.out.cell (p := ⟨w.heap.size, 1, none⟩) (by simp)).trans (show (w.alloc (.cells #[.int .i64 0, .string ⟨#[]⟩, .int .i64 0] 27)).cell? ⟨w.heap.size, 1, none⟩ = some (.string ⟨#[]⟩) by simp [go_sem])
        have g1 := (HB2.out.frozen (p := ⟨w.heap.size, 1, none⟩) (by simp)).trans (show (w.alloc (.cells #[.int .i64 0, .string ⟨#[]⟩, .int .i64 0] 27)).frozen? ⟨w.heap.size, 1, none⟩ = false by simp [go_sem])
        have z2 := (HB2.out.cell (p := ⟨w.heap.size, 2, none⟩) (by simp)).trans (show (w.alloc (.cells #[.int .i64 0, .string ⟨#[]⟩, .int .i64 0] 27)).cell? ⟨w.heap.size, 2, none⟩ = some (.int .i64 0) by simp [go_sem])
        have g2 := (HB2.out.frozen (p := ⟨w.heap.size, 2, none⟩) (by simp)).trans (show (w.alloc (.cells #[.int .i64 0, .string ⟨#[]⟩, .int .i64 0] 27)).frozen? ⟨w.heap.size, 2, none⟩ = false by simp [go_sem])
        go_wp2_with fail
        refine bodyPost_ret (v := hostV 1 s (-1)) (by simp [results, hostV, Tryz.results27, go_sem, z0, z1, z2]) rfl ⟨?_, ?_⟩
        · rw [← HV.out, HFA.out]; show _ = Ending.returned (hostV 1 ⟨s.data.toList.toArray⟩ (-1)); rw [Hp.ofL_self]
        · exact below3 ((HB0.out _).trans (HB2.out.mono (by simp))) (Nat.le_refl _) _ _ _
    · skip
      have z0 := (HB2.out.cell (p := ⟨w.heap.size, 0, none⟩) (by simp)).trans (show (w.alloc (.cells #[.int .i64 0, .string ⟨#[]⟩, .int .i64 0] 27)).cell? ⟨w.heap.size, 0, none⟩ = some (.int .i64 0) by simp [go_sem])
      have g0 := (HB2.out.frozen (p := ⟨w.heap.size, 0, none⟩) (by simp)).trans (show (w.alloc (.cells #[.int .i64 0, .string ⟨#[]⟩, .int .i64 0] 27)).frozen? ⟨w.heap.size, 0, none⟩ = false by simp [go_sem])
      have z1 := (HB2.out.cell (p := ⟨w.heap.size, 1, none⟩) (by simp)).trans (show (w.alloc (.cells #[.int .i64 0, .string ⟨#[]⟩, .int .i64 0] 27)).cell? ⟨w.heap.size, 1, none⟩ = some (.string ⟨#[]⟩) by simp [go_sem])
      have g1 := (HB2.out.frozen (p := ⟨w.heap.size, 1, none⟩) (by simp)).trans (show (w.alloc (.cells #[.int .i64 0, .string ⟨#[]⟩, .int .i64 0] 27)).frozen? ⟨w.heap.size, 1, none⟩ = false by simp [go_sem])
      have z2 := (HB2.out.cell (p := ⟨w.heap.size, 2, none⟩) (by simp)).trans (show (w.alloc (.cells #[.int .i64 0, .string ⟨#[]⟩, .int .i64 0] 27)).cell? ⟨w.heap.size, 2, none⟩ = some (.int .i64 0) by simp [go_sem])
      have g2 := (HB2.out.frozen (p := ⟨w.heap.size, 2, none⟩) (by simp)).trans (show (w.alloc (.cells #[.int .i64 0, .string ⟨#[]⟩, .int .i64 0] 27)).frozen? ⟨w.heap.size, 2, none⟩ = false by simp [go_sem])
      go_wp2_with fail
      refine bodyPost_ret (v := hostV 2 s (-1)) (by simp [results, hostV, Tryz.results27, go_sem, z0, z1, z2]) rfl ⟨?_, ?_⟩
      · rw [← HV.out, HFA.out]; show _ = Ending.returned (hostV 2 ⟨s.data.toList.toArray⟩ (-1)); rw [Hp.ofL_self]
      · exact below3 ((HB0.out _).trans (HB2.out.mono (by simp))) (Nat.le_refl _) _ _ _
  · have q2 : (s.size : Int) ≤ 2 := by assumption
    have HFA := Lib.hid (HREST.out (HN3.out (by omega)))
    refine (H4.out _).mono ?_
    rintro e w2 ⟨rfl, hb2⟩
    have HB2 := Lib.hid (HBa.out.trans (hb2.mono (by have := HBa.out.size; simp at this ⊢; try omega)))
    clear hb2
    cases b4
    · go_wp2_with fail
      refine (HN.out _).mono ?_
      rintro e w3 ⟨rfl, rfl⟩
      cases bn
      · skip
        have z0 := (HB2.out.cell (p := ⟨w.heap.size, 0, none⟩) (by simp)).trans (show (w.alloc (.cells #[.int .i64 0, .string ⟨#[]⟩, .int .i64 0] 27)).cell? ⟨w.heap.size, 0, none⟩ = some (.int .i64 0) by simp [go_sem])
        have g0 := (HB2.out.frozen (p := ⟨w.heap.size, 0, none⟩) (by simp)).trans (show (w.alloc (.cells #[.int .i64 0, .string ⟨#[]⟩, .int .i64 0] 27)).frozen? ⟨w.heap.size, 0, none⟩ = false by simp [go_sem])
        have z1 := (HB2.out.cell (p := ⟨w.heap.size, 1, none⟩) (by simp)).trans (show (w.alloc (.cells #[.int .i64 0, .string ⟨#[]⟩, .int .i64 0] 27)).cell? ⟨w.heap.size, 1, none⟩ = some (.string ⟨#[]⟩) by simp [go_sem])
        have g1 := (HB2.out.frozen (p := ⟨w.heap.size, 1, none⟩) (by simp)).trans (show (w.alloc (.cells #[.int .i64 0, .string ⟨#[]⟩, .int .i64 0] 27)).frozen? ⟨w.heap.size, 1, none⟩ = false by simp [go_sem])
        have z2 := (HB2.out.cell (p := ⟨w.heap.size, 2, none⟩) (by simp)).trans (show (w.alloc (.cells #[.int .i64 0, .string ⟨#[]⟩, .int .i64 0] 27)).cell? ⟨w.heap.size, 2, none⟩ = some (.int .i64 0) by simp [go_sem])
        have g2 := (HB2.out.frozen (p := ⟨w.heap.size, 2, none⟩) (by simp)).trans (show (w.alloc (.cells #[.int .i64 0, .string ⟨#[]⟩, .int .i64 0] 27)).frozen? ⟨w.heap.size, 2, none⟩ = false by simp [go_sem])
        go_wp2_with fail
        refine bodyPost_ret (v := hostV 0 ⟨#[]⟩ (0)) (by simp [results, hostV, Tryz.results27, go_sem, z0, z1, z2]) rfl ⟨?_, ?_⟩
        · rw [← HV.out, HFA.out]; rfl
        · exact below3 ((HB0.out _).trans (HB2.out.mono (by simp))) (Nat.le_refl _) _ _ _
      · skip
        have z0 := (HB2.out.cell (p := ⟨w.heap.size, 0, none⟩) (by simp)).trans (show (w.alloc (.cells #[.int .i64 0, .string ⟨#[]⟩, .int .i64 0] 27)).cell? ⟨w.heap.size, 0, none⟩ = some (.int .i64 0) by simp [go_sem])
        have g0 := (HB2.out.frozen (p := ⟨w.heap.size, 0, none⟩) (by simp)).trans (show (w.alloc (.cells #[.int .i64 0, .string ⟨#[]⟩, .int .i64 0] 27)).frozen? ⟨w.heap.size, 0, none⟩ = false by simp [go_sem])
        have z1 := (HB2.out.cell (p := ⟨w.heap.size, 1, none⟩) (by simp)).trans (show (w.alloc (.cells #[.int .i64 0, .string ⟨#[]⟩, .int .i64 0] 27)).cell? ⟨w.heap.size, 1, none⟩ = some (.string ⟨#[]⟩) by simp [go_sem])
        have g1 := (HB2.out.frozen (p := ⟨w.heap.size, 1, none⟩) (by simp)).trans (show (w.alloc (.cells #[.int .i64 0, .string ⟨#[]⟩, .int .i64 0] 27)).frozen? ⟨w.heap.size, 1, none⟩ = false by simp [go_sem])
        have z2 := (HB2.out.cell (p := ⟨w.heap.size, 2, none⟩) (by simp)).trans (show (w.alloc (.cells #[.int .i64 0, .string ⟨#[]⟩, .int .i64 0] 27)).cell? ⟨w.heap.size, 2, none⟩ = some (.int .i64 0) by simp [go_sem])
        have g2 := (HB2.out.frozen (p := ⟨w.heap.size, 2, none⟩) (by simp)).trans (show (w.alloc (.cells #[.int .i64 0, .string ⟨#[]⟩, .int .i64 0] 27)).frozen? ⟨w.heap.size, 2, none⟩ = false by simp [go_sem])
        go_wp2_with fail
        refine bodyPost_ret (v := hostV 1 s (-1)) (by simp [results, hostV, Tryz.results27, go_sem, z0, z1, z2]) rfl ⟨?_, ?_⟩
        · rw [← HV.out, HFA.out]; show _ = Ending.returned (hostV 1 ⟨s.data.toList.toArray⟩ (-1)); rw [Hp.ofL_self]
        · exact below3 ((HB0.out _).trans (HB2.out.mono (by simp))) (Nat.le_refl _) _ _ _
    · skip
      have z0 := (HB2.out.cell (p := ⟨w.heap.size, 0, none⟩) (by simp)).trans (show (w.alloc (.cells #[.int .i64 0, .string ⟨#[]⟩, .int .i64 0] 27)).cell? ⟨w.heap.size, 0, none⟩ = some (.int .i64 0) by simp [go_sem])
      have g0 := (HB2.out.frozen (p := ⟨w.heap.size, 0, none⟩) (by simp)).trans (show (w.alloc (.cells #[.int .i64 0, .string ⟨#[]⟩, .int .i64 0] 27)).frozen? ⟨w.heap.size, 0, none⟩ = false by simp [go_sem])
      have z1 := (HB2.out.cell (p := ⟨w.heap.size, 1, none⟩) (by simp)).trans (show (w.alloc (.cells #[.int .i64 0, .string ⟨#[]⟩, .int .i64 0] 27)).cell? ⟨w.heap.size, 1, none⟩ = some (.string ⟨#[]⟩) by simp [go_sem])
      have g1 := (HB2.out.frozen (p := ⟨w.heap.size, 1, none⟩) (by simp)).trans (show (w.alloc (.cells #[.int .i64 0, .string ⟨#[]⟩, .int .i64 0] 27)).frozen? ⟨w.heap.size, 1, none⟩ = false by simp [go_sem])
      have z2 := (HB2.out.cell (p := ⟨w.heap.size, 2, none⟩) (by simp)).trans (show (w.alloc (.cells #[.int .i64 0, .string ⟨#[]⟩, .int .i64 0] 27)).cell? ⟨w.heap.size, 2, none⟩ = some (.int .i64 0) by simp [go_sem])
      have g2 := (HB2.out.frozen (p := ⟨w.heap.size, 2, none⟩) (by simp)).trans (show (w.alloc (.cells #[.int .i64 0, .string ⟨#[]⟩, .int .i64 0] 27)).frozen? ⟨w.heap.size, 2, none⟩ = false by simp [go_sem])
      go_wp2_with fail
      refine bodyPost_ret (v := hostV 2 s (-1)) (by simp [results, hostV, Tryz.results27, go_sem, z0, z1, z2]) rfl ⟨?_, ?_⟩
      · rw [← HV.out, HFA.out]; show _ = Ending.returned (hostV 2 ⟨s.data.toList.toArray⟩ (-1)); rw [Hp.ofL_self]
      · exact below3 ((HB0.out _).trans (HB2.out.mono (by simp))) (Nat.le_refl _) _ _ _
end Go.Proofs.YtnpbnlphmngbdaaGreatDoor
