/- The scanner's plain methods: contracts. -/
import Derived.Test.YtchhjmdbjndckaaDoorOctE
import Derived.Test.YtchhjmdbjndckaaDoorWorld
namespace Go.Proofs.YtchhjmdbjndckaaDoor
open Go.RowKit

theorem ret_pair {a b c d : Value} (h : a = c) (k : b = d) : Ending.returned (.tuple #[a, b]) = .returned (.tuple #[c, d]) := by rw [h, k]
/-- Block t is a scanner of s, at k. -/
structure Scn (t : Nat) (s : ByteArray) (k : Nat) (w : World) : Prop where
  text : w.cell? ⟨t, 0, none⟩ = some (.string s)
  place : w.cell? ⟨t, 1, none⟩ = some (.int .i64 k)
  free0 : w.frozen? ⟨t, 0, none⟩ = false
  free1 : w.frozen? ⟨t, 1, none⟩ = false
  le : k ≤ s.size
theorem Scn.lt {t : Nat} {s : ByteArray} {k : Nat} {w : World} (h : Scn t s k w) : t < w.heap.size := lt_of_cell h.text
theorem Scn.kept {P : Nat → Prop} {t : Nat} {s : ByteArray} {k : Nat} {w w' : World} (h : Scn t s k w) (hk : Kept P w w') (hp : ¬ P t) : Scn t s k w' :=
  ⟨(hk.cell (p := ⟨t, 0, none⟩) h.lt hp).trans h.text, (hk.cell (p := ⟨t, 1, none⟩) h.lt hp).trans h.place, (hk.frozen (p := ⟨t, 0, none⟩) h.lt hp).trans h.free0, (hk.frozen (p := ⟨t, 1, none⟩) h.lt hp).trans h.free1, h.le⟩
theorem Scn.drewN {t : Nat} {s : ByteArray} {k : Nat} {w : World} (h : Scn t s k w) (n : Nat) : Scn t s k (w.drewN n) := ⟨h.text, h.place, h.free0, h.free1, h.le⟩
theorem Scn.put {t : Nat} {s : ByteArray} {k : Nat} {w : World} (h : Scn t s k w) (j : Nat) (hj : j ≤ s.size) : Scn t s j (w.setCell ⟨t, 1, none⟩ (.int .i64 j)) := by
  refine ⟨?_, World.cell?_setCell_same _ _ _ h.place, ?_, ?_, hj⟩
  · rw [World.cell?_setCell_other _ _ _ _ (by simp)]; exact h.text
  · rw [World.frozen?_setCell]; exact h.free0
  · rw [World.frozen?_setCell]; exact h.free1

theorem New_any (s : ByteArray) (w : World) :
    Calls Tryd.prog 15 #[.string s] w fun e w' => e = .returned (.pointer (some ⟨w.heap.size, 0, none⟩)) ∧ w' = w.alloc (.cells #[.string s, .int .i64 0] 49) := by
  go_enter Tryd.func15, Tryd.ntmps15
  go_wp2
  go_ret
  exact ⟨rfl, rfl⟩
theorem scn_new (s : ByteArray) (w : World) : Scn w.heap.size s 0 (w.alloc (.cells #[.string s, .int .i64 0] 49)) := by
  refine ⟨?_, ?_, ?_, ?_, Nat.zero_le _⟩ <;> simp [go_sem]

/-- What is left. -/
def restS (s : ByteArray) (k : Nat) : ByteArray := s.extract k s.size
theorem Rest_some (t : Nat) (s : ByteArray) (k : Nat) (w : World) (h : Scn t s k w) :
    Calls Tryd.prog 17 #[.pointer (some ⟨t, 0, none⟩)] w fun e w' => e = .returned (.string (restS s k)) ∧ ∃ n, w' = w.drewN n := by
  obtain ⟨h0, h1, _, _, hle⟩ := h
  go_enter Tryd.func17, Tryd.ntmps17
  go_wp2
  go_quiet (fail)
  go_wp2
  go_ret
  exact ⟨rfl, _, rfl⟩
theorem Rest_nil (w : World) :
    Calls Tryd.prog 17 #[.pointer none] w fun e w' => e = .returned (.string ByteArray.empty) ∧ ∃ n, w' = w.drewN n := by
  go_enter Tryd.func17, Tryd.ntmps17
  go_wp2
  go_ret
  exact ⟨rfl, 0, rfl⟩

theorem restS_empty (s : ByteArray) (k : Nat) (hk : k ≤ s.size) : (restS s k).toList.isEmpty = decide (k = s.size) := by
  rw [ByteArray.toList_eq, Bool.eq_iff_iff]
  unfold restS
  rw [ByteArray.data_extract]
  simp
  omega
theorem restS_size (s : ByteArray) (k : Nat) (_hk : k ≤ s.size) : (restS s k).size = s.size - k := by unfold restS; simp
theorem restS_list (s : ByteArray) (k : Nat) : (restS s k).data.toList = s.data.toList.drop k := by
  unfold restS
  rw [ByteArray.data_extract, Array.toList_extract, List.extract_eq_take_drop, List.take_of_length_le]
  simp
/-- The byte at k; 0 behind the end. -/
def byteAt (s : ByteArray) (k : Nat) : Int := ((s.data.toList.getD k 0).toNat : Int)
theorem byteAt_range (s : ByteArray) (k : Nat) : 0 ≤ byteAt s k ∧ byteAt s k ≤ 255 := by
  unfold byteAt
  have := B.toNat_le (s.data.toList.getD k 0)
  omega
theorem byteAt_of (s : ByteArray) (k : Nat) (h : k < s.size) : byteAt s k = (s[k].toNat : Int) := by
  unfold byteAt
  have h' : k < s.data.toList.length := by simpa using h
  rw [List.getD_eq_getElem?_getD, List.getElem?_eq_getElem h']
  rfl
theorem byteAt_out (s : ByteArray) (k : Nat) (h : ¬ k < s.size) : byteAt s k = 0 := by
  unfold byteAt
  rw [List.getD_eq_getElem?_getD, List.getElem?_eq_none (by simp; omega)]
  rfl
theorem byteAt_rest (s : ByteArray) (k : Nat) (h : 0 < (restS s k).size) : ((restS s k)[0].toNat : Int) = byteAt s k := by
  have e : byteAt (restS s k) 0 = byteAt s k := by
    unfold byteAt
    rw [restS_list]
    simp [List.getD]
  rw [← e, byteAt_of _ _ h]
theorem Peek_some (t : Nat) (s : ByteArray) (k : Nat) (w : World) (h : Scn t s k w) :
    Calls Tryd.prog 48 #[.pointer (some ⟨t, 0, none⟩)] w fun e w' => e = .returned (.tuple #[.int .u8 (byteAt s k), .bool (decide (k < s.size))]) ∧ ∃ n, w' = w.drewN n := by
  have hr := Lib.hid (Rest_some t s k w h)
  have hle := h.le
  have he := restS_empty s k h.le
  have hz := restS_size s k h.le
  clear h
  by_cases hk : k = s.size
  · have he1 : (restS s k).toList.isEmpty = true := by rw [he]; simpa using hk
    have hb : Hid (byteAt s k = 0) := by
      show _ = _
      unfold byteAt
      rw [List.getD_eq_getElem?_getD, List.getElem?_eq_none (by simp; have e : s.data.size = s.size := rfl; omega)]
      rfl
    have hd : Hid (decide (k < s.size) = false) := by show _ = _; simp; omega
    clear he hz hle hk
    go_enter Tryd.func48, Tryd.ntmps48
    go_wp2_with fail
    refine hr.out.mono ?_
    rintro e w' ⟨rfl, n, rfl⟩
    go_wp2
    go_ret2
    exact ⟨ret_pair (congrArg (Value.int .u8) hb.out.symm) (congrArg Value.bool hd.out.symm), n, rfl⟩
  · have he1 : (restS s k).toList.isEmpty = false := by rw [he]; simpa using hk
    have hp : 0 < (restS s k).size := by omega
    have hb := Lib.hid (byteAt_rest s k hp)
    have hd : Hid (decide (k < s.size) = true) := by show _ = _; simp; omega
    clear he hz hle hk
    go_enter Tryd.func48, Tryd.ntmps48
    go_wp2_with fail
    refine hr.out.mono ?_
    rintro e w' ⟨rfl, n, rfl⟩
    go_wp2
    go_ret2
    exact ⟨ret_pair (congrArg (Value.int .u8) hb.out) (congrArg Value.bool hd.out.symm), n, rfl⟩
theorem Peek_nil (w : World) :
    Calls Tryd.prog 48 #[.pointer none] w fun e w' => e = .returned (.tuple #[.int .u8 0, .bool false]) ∧ ∃ n, w' = w.drewN n := by
  go_enter Tryd.func48, Tryd.ntmps48
  go_wp2_with fail
  refine (Rest_nil _).mono ?_
  rintro e w' ⟨rfl, n, rfl⟩
  go_wp2
  go_ret2
  exact ⟨rfl, n, rfl⟩
end Go.Proofs.YtchhjmdbjndckaaDoor
