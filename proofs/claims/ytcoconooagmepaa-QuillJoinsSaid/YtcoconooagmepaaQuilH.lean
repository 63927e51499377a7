/- The document's Put and Join; Join; the page's example: contracts. -/
import Derived.Test.YtcoconooagmepaaQuilG
namespace Go.Proofs.Ytcoconooagmepaa
open Go.RowKit

set_option maxHeartbeats 400000 in
theorem RPut_any (s : ByteArray) (most : Int) (a : Option Addr) (len cp : Nat) (ss : List ByteArray) (w : World) (hz : IsTexts w a len ss)
    (hle : (s.size : Int) ≤ max most 0) (hb : s.size + (flat ss).length ≤ 100000000) :
    Calls Try.prog 12 #[.string s, .int .i64 most, .slice a len cp] w fun e w' => e = .returned (.tuple #[.string (putS (max most 0) s ss), .int .i64 (putE (max most 0) s ss)]) ∧ w = w' := by
  have hA := Lib.hid (RAll_any a len cp ss w hz (by omega))
  have hcs : (cat ss).size = (flat ss).length := cat_size ss
  obtain ⟨M, hM⟩ : ∃ M, max most 0 = M := ⟨_, rfl⟩
  rw [hM] at hle ⊢
  have hR : Hid (((flat ss).length : Int) ≤ M - s.size → putS M s ss = s ++ cat ss ∧ putE M s ss = 0) := fun h => by
    have hf : fits (M - s.size) ss = true := decide_eq_true h
    constructor <;> simp [putS, putE, hf]
  have hS : Hid (¬ ((flat ss).length : Int) ≤ M - s.size → putS M s ss = s ∧ putE M s ss = 10) := fun h => by
    have hf : fits (M - s.size) ss = false := decide_eq_false h
    constructor <;> simp [putS, putE, hf]
  generalize putS M s ss = S at *
  generalize putE M s ss = E at *
  generalize (flat ss).length = L at *
  generalize cat ss = c at *
  go_enter Try.func12, Try.ntmps12
  go_wp2_with fail
  refine hA.out.mono ?_
  rintro e w1 ⟨rfl, rfl⟩
  go_wp2_with fail
  · refine hA.out.mono ?_
    rintro e w1 ⟨rfl, rfl⟩
    rename_i hgt
    obtain ⟨rfl, rfl⟩ := hS.out (by omega)
    have hpos : (0 : Int) < (L : Int) := by omega
    go_wp2_with fail
    go_ret2
    exact ⟨rfl, rfl⟩
  · rename_i hgt
    obtain ⟨rfl, rfl⟩ := hR.out (by omega)
    go_ret2
    exact ⟨rfl, rfl⟩

theorem join_flat (xs : List (List UInt8)) : Lib.join xs [] = xs.flatten := by
  cases xs with
  | nil => rfl
  | cons x r => rw [Lib.join_cons]; simp [Lib.joinTail]
/-- All texts, with another one between each two. -/
def joinB (sep : ByteArray) (ss : List ByteArray) : ByteArray := ⟨(Lib.join (ss.map (·.data.toList)) sep.data.toList).toArray⟩
theorem joinB_list (sep : ByteArray) (ss : List ByteArray) : (joinB sep ss).data.toList = Lib.join (ss.map (·.data.toList)) sep.data.toList := rfl
theorem joinB_size (sep : ByteArray) (ss : List ByteArray) : (joinB sep ss).size = (Lib.join (ss.map (·.data.toList)) sep.data.toList).length := by
  show (Lib.join (ss.map (·.data.toList)) sep.data.toList).toArray.size = _
  simp
theorem joinB_empty (ss : List ByteArray) : joinB ByteArray.empty ss = cat ss := by
  apply bytes_eq
  rw [joinB_list, cat_data]
  show Lib.join _ [] = _
  rw [join_flat]
  unfold flat
  rw [List.flatMap_def]
theorem joinB_nil (sep : ByteArray) : joinB sep [] = ByteArray.empty := rfl
theorem joinB_one (sep : ByteArray) (ss : List ByteArray) (h : 0 < ss.length) : ByteArray.empty ++ ss.getD 0 ByteArray.empty = joinB sep (ss.take 1) := by
  apply bytes_eq
  rw [list_append, joinB_list, getD_at ss 0 h, List.take_succ_eq_append_getElem h]
  simp [Lib.join_one]
theorem joinB_snoc (sep : ByteArray) (ss : List ByteArray) (k : Nat) (h0 : 0 < k) (h : k < ss.length) : (joinB sep (ss.take k) ++ sep) ++ ss.getD k ByteArray.empty = joinB sep (ss.take (k + 1)) := by
  apply bytes_eq
  obtain ⟨x, r, rfl⟩ := List.exists_cons_of_length_pos (show 0 < ss.length by omega)
  obtain ⟨j, rfl⟩ : ∃ j, k = j + 1 := ⟨k - 1, by omega⟩
  have hj : j < r.length := by simpa using h
  rw [list_append, list_append, joinB_list, joinB_list, getD_at _ _ h, List.take_succ_cons, List.take_succ_cons, List.map_cons, List.map_cons, Lib.join_cons, Lib.join_cons, List.map_take, List.map_take, Lib.joinTail_take_succ sep.data.toList (r.map (·.data.toList)) j r[j].data.toList (by simp [hj])]
  simp
theorem lens_flat (ss : List ByteArray) : Lib.lens (ss.map (·.data.toList)) = (flat ss).length := by
  unfold Lib.lens flat
  rw [List.length_flatMap, List.map_map]
  rfl
theorem joinB_le (sep : ByteArray) (ss : List ByteArray) : (joinB sep ss).size ≤ sep.size * ss.length + (flat ss).length := by
  rw [joinB_size]
  cases ss with
  | nil => simp [Lib.join_nil]
  | cons x r =>
    rw [List.map_cons, Lib.join_length]
    have e0 := lens_flat (x :: r)
    rw [List.map_cons] at e0
    rw [e0]
    have e : sep.data.toList.length = sep.size := by simp
    rw [e, List.length_map, List.length_cons, Nat.mul_succ]
    omega
theorem joinB_take_le (sep : ByteArray) (ss : List ByteArray) (k : Nat) : (joinB sep (ss.take k)).size ≤ sep.size * ss.length + (flat ss).length := by
  have h1 := joinB_le sep (ss.take k)
  have h2 : (ss.take k).length ≤ ss.length := by simp; omega
  have h3 := Nat.mul_le_mul_left sep.size h2
  have h4 := flat_take_le ss k
  omega
end Go.Proofs.Ytcoconooagmepaa
