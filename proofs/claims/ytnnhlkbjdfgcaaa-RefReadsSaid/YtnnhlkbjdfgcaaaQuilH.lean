/- The document's Put and Join; Join; the page's example: contracts. -/
import Derived.Test.YtnnhlkbjdfgcaaaQuilG
namespace Go.Proofs.Ytnnhlkbjdfgcaaa
open Go.RowKit

theorem join_flat (xs : List (List UInt8)) : Lib.join xs [] = xs.flatten := by
  cases xs with
  | nil => rfl
  | cons x r => rw [Lib.join_cons]; simp [Lib.joinTail]
/-- All texts, with another one between each two. -/
def joinB (sep : ByteArray) (ss : List ByteArray) : ByteArray := ⟨(Lib.join (ss.map (·.data.toList)) sep.data.toList).toArray⟩
theorem joinB_list (sep : ByteArray) (ss : List ByteArray) : (joinB sep ss).data.toList = Lib.join (ss.map (·.data.toList)) sep.data.toList := rfl
theorem joinB_size (sep : ByteArray) (ss : List ByteArray) : (joinB sep ss).size = (Lib.join (ss.map (·.data.toList)) sep.data.toList).length := by
  show (Lib.join (ss.map (·.data.toList)) sep.data.toList).toArray.size = _
  simp
theorem joinB_empty (ss : List ByteArray) : joinB ByteArray.empty ss = cat ss := by
  apply bytes_eq
  rw [joinB_list, cat_data]
  show Lib.join _ [] = _
  rw [join_flat]
  unfold flat
  rw [List.flatMap_def]
theorem joinB_nil (sep : ByteArray) : joinB sep [] = ByteArray.empty := rfl
theorem joinB_one (sep : ByteArray) (ss : List ByteArray) (h : 0 < ss.length) : ByteArray.empty ++ ss.getD 0 ByteArray.empty = joinB sep (ss.take 1) := by
  apply bytes_eq
  rw [list_append, joinB_list, getD_at ss 0 h, List.take_succ_eq_append_getElem h]
  simp [Lib.join_one]
theorem joinB_snoc (sep : ByteArray) (ss : List ByteArray) (k : Nat) (h0 : 0 < k) (h : k < ss.length) : (joinB sep (ss.take k) ++ sep) ++ ss.getD k ByteArray.empty = joinB sep (ss.take (k + 1)) := by
  apply bytes_eq
  obtain ⟨x, r, rfl⟩ := List.exists_cons_of_length_pos (show 0 < ss.length by omega)
  obtain ⟨j, rfl⟩ : ∃ j, k = j + 1 := ⟨k - 1, by omega⟩
  have hj : j < r.length := by simpa using h
  rw [list_append, list_append, joinB_list, joinB_list, getD_at _ _ h, List.take_succ_cons, List.take_succ_cons, List.map_cons, List.map_cons, Lib.join_cons, Lib.join_cons, List.map_take, List.map_take, Lib.joinTail_take_succ sep.data.toList (r.map (·.data.toList)) j r[j].data.toList (by simp [hj])]
  simp
theorem lens_flat (ss : List ByteArray) : Lib.lens (ss.map (·.data.toList)) = (flat ss).length := by
  unfold Lib.lens flat
  rw [List.length_flatMap, List.map_map]
  rfl
theorem joinB_le (sep : ByteArray) (ss : List ByteArray) : (joinB sep ss).size ≤ sep.size * ss.length + (flat ss).length := by
  rw [joinB_size]
  cases ss with
  | nil => simp [Lib.join_nil]
  | cons x r =>
    rw [List.map_cons, Lib.join_length]
    have e0 := lens_flat (x :: r)
    rw [List.map_cons] at e0
    rw [e0]
    have e : sep.data.toList.length = sep.size := by simp
    rw [e, List.length_map, List.length_cons, Nat.mul_succ]
    omega
theorem joinB_take_le (sep : ByteArray) (ss : List ByteArray) (k : Nat) : (joinB sep (ss.take k)).size ≤ sep.size * ss.length + (flat ss).length := by
  have h1 := joinB_le sep (ss.take k)
  have h2 : (ss.take k).length ≤ ss.length := by simp; omega
  have h3 := Nat.mul_le_mul_left sep.size h2
  have h4 := flat_take_le ss k
  omega
end Go.Proofs.Ytnnhlkbjdfgcaaa
