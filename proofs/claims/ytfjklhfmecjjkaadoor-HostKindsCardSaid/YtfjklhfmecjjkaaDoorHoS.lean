/- The document's host: of: its contract. -/
import Derived.Test.YtfjklhfmecjjkaaDoorHoL
import Derived.Test.YtfjklhfmecjjkaaDoorHoR
namespace Go.Proofs.YtfjklhfmecjjkaaDoor
open Go.RowKit

namespace Hp
theorem ofL_self (s : ByteArray) : (⟨s.data.toList.toArray⟩ : ByteArray) = s := (ofL _ _ rfl).symm
theorem last_at (s : ByteArray) (h : 0 < s.size) : s.data.toList.getLast? = some s[s.size - 1] := by
  have hl : s.data.toList.length = s.size := by simp
  rw [List.getLast?_eq_getElem?, hl, List.getElem?_eq_getElem (by omega)]
  rfl
theorem inn_parts {s : ByteArray} {m : List UInt8} (h : inn s.data.toList = some m) : s.size = m.length + 2 ∧ (∀ h0 : 0 < s.size, s[0] = 91 ∧ s[s.size - 1] = 93) := by
  have e := inn_some h
  have hl : s.data.toList.length = s.size := by simp
  have hz : s.size = m.length + 2 := by rw [← hl, e]; simp
  refine ⟨hz, fun h0 => ⟨?_, ?_⟩⟩
  · have e0 := list_cons s h0
    rw [e] at e0
    exact (List.cons.inj e0).1.symm
  · have e1 := last_at s h0
    rw [e] at e1
    have : (91 :: (m ++ [93]) : List UInt8).getLast? = some 93 := by
      rw [show (91 :: (m ++ [93]) : List UInt8) = (91 :: m) ++ [93] from rfl, List.getLast?_concat]
    rw [this] at e1
    exact (Option.some.inj e1).symm
theorem inn_yes (s : ByteArray) (h : 2 < s.size) (h0 : s[0] = 91) (h1 : s[s.size - 1] = 93) : inn s.data.toList = some (s.extract 1 (s.size - 1)).data.toList := by
  have e0 := list_cons s (by omega)
  have hl : s.data.toList.length = s.size := by simp
  have e2 : s.data.toList.drop 1 = (s.extract 1 (s.size - 1)).data.toList ++ [93] := by
    rw [ext_list]
    conv => lhs; rw [← List.take_append_drop (s.size - 1 - 1) (s.data.toList.drop 1), List.drop_drop]
    congr 1
    have e3 : 1 + (s.size - 1 - 1) = s.size - 1 := by omega
    rw [e3, drop_at s (s.size - 1) (by omega), h1, List.drop_of_length_le (by omega)]
  rw [e0, e2, h0, inn_of]
theorem inn_no1 (s : ByteArray) (h : 2 < s.size) (h1 : s[s.size - 1] ≠ 93) : (inn s.data.toList).any sixC = false := by
  cases e : inn s.data.toList with
  | none => rfl
  | some m => exact absurd ((inn_parts e).2 (by omega)).2 h1
theorem inn_no2 (s : ByteArray) (h : 2 < s.size) (h1 : s[0] ≠ 91) : (inn s.data.toList).any sixC = false := by
  cases e : inn s.data.toList with
  | none => rfl
  | some m => exact absurd ((inn_parts e).2 (by omega)).1 h1
theorem inn_no3 (s : ByteArray) (h : s.size ≤ 2) : (inn s.data.toList).any sixC = false := by
  cases e : inn s.data.toList with
  | none => rfl
  | some m =>
    have hz := (inn_parts e).1
    have : m = [] := List.eq_nil_of_length_eq_zero (by omega)
    subst this
    exact six_nil
end Hp
theorem byte_of {c d : UInt8} {n : Int} (hd : (d.toNat : Int) = n) (h : (c.toNat : Int) = n) : c = d := UInt8.toNat_inj.1 (by omega)
theorem byte_not {c d : UInt8} {n : Int} (hd : (d.toNat : Int) = n) (h : ¬ (c.toNat : Int) = n) : c ≠ d := by rintro rfl; exact h hd
end Go.Proofs.YtfjklhfmecjjkaaDoor
