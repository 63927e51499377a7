/- numbers: what it hands back yields the parts of a text, one by one: the iterator's contract. -/
import Derived.RangeFuncNested
import Derived.RangeFuncBound
import Derived.RangeFuncCalls
import Derived.RangeFuncLeaves
import Derived.Shelf.Abstract
import Derived.Shelf.RegionOpen
import Derived.WalkKit
import Derived.OwnWalkIn
import Derived.TacticsInMore
import Derived.LoopNIn
import Derived.LoopIn
import Derived.Test.YtakeicaeccbbiaaDoorRows
import Derived.Test.YtakeicaeccbbiaaDoorHoD
import Derived.Test.YtakeicaeccbbiaaDoorWorld
namespace Go.Proofs.YtakeicaeccbbiaaDoor
open Go.RowKit Go.Shelf
attribute [local go_sem] Oper.semAt_some

/-- A text that is not long. -/
abbrev Txt := { x : ByteArray // x.size ≤ 1000 }
namespace Hp
def mkT (p : List UInt8) : Txt := ⟨⟨(p.take 1000).toArray⟩, by show (p.take 1000).toArray.size ≤ 1000; simp; omega⟩
theorem mkT_eq {s : ByteArray} {a b : Nat} (_h : s.size ≤ 1000) (h2 : (s.extract a b).size ≤ 1000) : mkT ((s.data.toList.drop a).take (b - a)) = ⟨s.extract a b, h2⟩ := by
  apply Subtype.ext
  show (⟨(List.take 1000 ((s.data.toList.drop a).take (b - a))).toArray⟩ : ByteArray) = s.extract a b
  rw [← ext_list]
  have h3 : (s.extract a b).data.toList.length ≤ 1000 := by rw [Array.length_toList]; exact h2
  rw [List.take_of_length_le h3]
theorem ext_size (s : ByteArray) (a b : Nat) (h : s.size ≤ 1000) : (s.extract a b).size ≤ 1000 := by
  simp [ByteArray.size_extract]; omega
def txts (m : UInt8) (s : ByteArray) : List Txt := (parts m s.data.toList).map mkT
/-- What has come, and what is to come, at k, the part at hand beginning at j. -/
structure At (m : UInt8) (s : ByteArray) (j k : Nat) (pre : List Txt) : Prop where
  le : j ≤ k
  ke : k ≤ s.size
  free : m ∉ (s.data.toList.drop j).take (k - j)
  eq : txts m s = pre ++ (parts m (s.data.toList.drop j)).map mkT
theorem At.start (m : UInt8) (s : ByteArray) : At m s 0 0 [] := ⟨Nat.le_refl _, Nat.zero_le _, by simp, rfl⟩
theorem At.len {m : UInt8} {s : ByteArray} {j k : Nat} {pre : List Txt} (h : At m s j k pre) : pre.length < (txts m s).length := by
  rw [h.eq, List.length_append, List.length_map]
  have := List.length_pos_iff.2 (parts_ne m (s.data.toList.drop j))
  omega
theorem take_more (l : List UInt8) (j k : Nat) (h : j ≤ k) (hk : k < l.length) : (l.drop j).take (k + 1 - j) = (l.drop j).take (k - j) ++ [l[k]] := by
  have e : k + 1 - j = (k - j) + 1 := by omega
  rw [e, List.take_succ_eq_append_getElem (by rw [List.length_drop]; omega), List.getElem_drop]
  congr 2
  congr 1
  omega
theorem At.go {m : UInt8} {s : ByteArray} {j k : Nat} {pre : List Txt} (h : At m s j k pre) (hk : k < s.size) (hb : s[k] ≠ m) : At m s j (k + 1) pre := by
  refine ⟨by have := h.le; omega, hk, ?_, h.eq⟩
  rw [take_more _ _ _ h.le (by simpa using hk)]
  intro g
  rcases List.mem_append.1 g with g | g
  · exact h.free g
  · rw [List.mem_singleton] at g
    exact hb g.symm
theorem At.yes {m : UInt8} {s : ByteArray} {j k : Nat} {pre : List Txt} (h : At m s j k pre) (hs : s.size ≤ 1000) (hk : k < s.size) (hb : s[k] = m) : At m s (k + 1) (k + 1) (pre ++ [⟨s.extract j k, ext_size s j k hs⟩]) := by
  refine ⟨Nat.le_refl _, hk, by simp, ?_⟩
  rw [h.eq]
  have hle := h.le
  have e : s.data.toList.drop j = (s.data.toList.drop j).take (k - j) ++ m :: s.data.toList.drop (k + 1) := by
    conv => lhs; rw [← List.take_append_drop (k - j) (s.data.toList.drop j), List.drop_drop]
    congr 1
    have e2 : j + (k - j) = k := by omega
    rw [e2, List.drop_eq_getElem_cons (by simpa using hk)]
    congr 1
  conv => lhs; rw [e, parts_cut _ h.free, List.map_cons, mkT_eq hs (ext_size s j k hs)]
  rw [List.append_assoc]; rfl
theorem At.pre_le {m : UInt8} {s : ByteArray} {j k : Nat} {pre : List Txt} (h : At m s j k pre) : pre <+: txts m s := ⟨_, h.eq.symm⟩
theorem At.stop {m : UInt8} {s : ByteArray} {j : Nat} {pre : List Txt} (h : At m s j s.size pre) (hs : s.size ≤ 1000) : txts m s = pre ++ [⟨s.extract j s.size, ext_size s j s.size hs⟩] := by
  rw [h.eq]
  have e : s.data.toList.drop j = (s.data.toList.drop j).take (s.size - j) := by
    rw [List.take_of_length_le]; simp
  have hf := h.free
  rw [← e] at hf
  rw [parts_free hf, List.map_singleton]
  conv => lhs; rw [e]
  rw [mkT_eq hs (ext_size s j s.size hs)]
end Hp

theorem Kept.putObj {P : Nat → Prop} (W : World) (l : Nat) (o : Obj) (hp : P l) : Kept P W (W.putObj l o) := by
  refine ⟨rfl, rfl, rfl, by simp [World.putObj], fun k hk hn => ?_⟩
  exact World.putObj_heap_other (by rintro rfl; exact hn hp)
theorem KeepsOthers.of_below {W W' : World} (h : Below W.heap.size W W') : KeepsOthers W W' :=
  ⟨h.size, fun k _ hk _ => (h.block k (Array.getElem?_eq_some_iff.1 hk).1).trans hk⟩
end Go.Proofs.YtakeicaeccbbiaaDoor
