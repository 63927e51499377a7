/- Beginnings of texts; the scanner's Byte, Text, Back; the document's Begins, Take, Classes, While: contracts. -/
import Derived.Test.YtchhjmdbjndckaaDoorScanA
namespace Go.Proofs.YtchhjmdbjndckaaDoor
open Go.RowKit

/-- Does a text begin with another one? -/
def beg (s t : ByteArray) : Bool := t.data.toList.isPrefixOf s.data.toList
theorem beg_long (s t : ByteArray) (h : s.size < t.size) : beg s t = false := by
  unfold beg
  rw [Bool.eq_false_iff]
  intro hp
  have := (List.isPrefixOf_iff_prefix.1 hp).length_le
  simp at this
  omega
theorem beg_cut (s t : ByteArray) : ((s.extract 0 t.size).toList == t.toList) = beg s t := by
  unfold beg
  rw [ByteArray.toList_eq, ByteArray.toList_eq, ByteArray.data_extract, Array.toList_extract, List.extract_eq_take_drop, Bool.eq_iff_iff, List.isPrefixOf_iff_prefix, List.prefix_iff_eq_take]
  simp
  exact eq_comm
theorem beg_le (s t : ByteArray) (h : beg s t = true) : t.size ≤ s.size := by
  by_cases hl : s.size < t.size
  · rw [beg_long s t hl] at h; simp at h
  · omega
/-- Does what is left at k begin with t? -/
def begAt (s : ByteArray) (k : Nat) (t : ByteArray) : Bool := beg (restS s k) t
theorem begAt_le (s : ByteArray) (k : Nat) (t : ByteArray) (hk : k ≤ s.size) (h : begAt s k t = true) : k + t.size ≤ s.size := by
  have := beg_le _ _ h
  rw [restS_size s k hk] at this
  omega
theorem beg_empty (s t : ByteArray) (h : t.toList.isEmpty = true) : beg s t = true := by
  rw [ByteArray.toList_eq] at h
  unfold beg
  have : t.data.toList = [] := by simpa using h
  rw [this]; rfl
theorem size_nil (t : ByteArray) (h : t.toList.isEmpty = true) : t.size = 0 := by
  rw [ByteArray.toList_eq] at h
  have h2 : t.data = #[] := by simpa using h
  show t.data.size = 0
  rw [h2]; rfl

theorem Byte_some (t : Nat) (s : ByteArray) (k : Nat) (b : Int) (w : World) (h : Scn t s k w) (hs : s.size ≤ maxLen) :
    Calls Tryd.prog 30 #[.pointer (some ⟨t, 0, none⟩), .int .u8 b] w fun e w' => e = .returned (.bool (decide (k < s.size ∧ byteAt s k = b))) ∧ Scn t s (if k < s.size ∧ byteAt s k = b then k + 1 else k) w' ∧ Kept (· = t) w w' := by
  unfold maxLen at hs
  have HS := Lib.hid h
  have hp := Lib.hid (Peek_some t s k w h)
  have hle := h.le
  clear h
  by_cases hk : k < s.size
  · have hd : Hid (decide (k < s.size) = true) := by show _ = _; simpa using hk
    by_cases hb : byteAt s k = b
    · have e1 : Hid (decide (k < s.size ∧ byteAt s k = b) = true) := by show _ = _; simp [hk, hb]
      have e2 : Hid ((if k < s.size ∧ byteAt s k = b then k + 1 else k) = k + 1) := by show _ = _; rw [if_pos ⟨hk, hb⟩]
      subst hb
      rw [e1.out, e2.out]
      clear e1 e2
      have hpl := HS.out.place
      have hfr := HS.out.free1
      go_enter Tryd.func30, Tryd.ntmps30
      go_wp2_with fail
      refine hp.out.mono ?_
      rintro e w' ⟨rfl, n, rfl⟩
      rw [hd.out]
      go_wp2
      go_ret
      exact ⟨rfl, (HS.out.drewN n).put (k + 1) hk, ((Kept.refl (· = t) w).drewN n).setCell (p := ⟨t, 1, none⟩) (.inl rfl) _⟩
    · have e1 : Hid (decide (k < s.size ∧ byteAt s k = b) = false) := by show _ = _; simp [hb]
      have e2 : Hid ((if k < s.size ∧ byteAt s k = b then k + 1 else k) = k) := by show _ = _; rw [if_neg (fun x => hb x.2)]
      have hne : (byteAt s k != b) = true := by simpa using hb
      rw [e1.out, e2.out]
      clear e1 e2 hb
      go_enter Tryd.func30, Tryd.ntmps30
      go_wp2_with fail
      refine hp.out.mono ?_
      rintro e w' ⟨rfl, n, rfl⟩
      rw [hd.out]
      go_wp2
      go_ret
      exact ⟨rfl, HS.out.drewN n, (Kept.refl _ _).drewN n⟩
  · have hd : Hid (decide (k < s.size) = false) := by show _ = _; simpa using hk
    have e1 : Hid (decide (k < s.size ∧ byteAt s k = b) = false) := by show _ = _; simp [hk]
    have e2 : Hid ((if k < s.size ∧ byteAt s k = b then k + 1 else k) = k) := by show _ = _; rw [if_neg (fun x => hk x.1)]
    rw [e1.out, e2.out]
    clear e1 e2
    go_enter Tryd.func30, Tryd.ntmps30
    go_wp2_with fail
    refine hp.out.mono ?_
    rintro e w' ⟨rfl, n, rfl⟩
    rw [hd.out]
    go_wp2
    go_ret
    exact ⟨rfl, HS.out.drewN n, (Kept.refl _ _).drewN n⟩
theorem Byte_nil (b : Int) (w : World) :
    Calls Tryd.prog 30 #[.pointer none, .int .u8 b] w fun e w' => e = .returned (.bool false) ∧ ∃ n, w' = w.drewN n := by
  go_enter Tryd.func30, Tryd.ntmps30
  go_wp2_with fail
  refine (Peek_nil _).mono ?_
  rintro e w' ⟨rfl, n, rfl⟩
  go_wp2
  go_ret
  exact ⟨rfl, n, rfl⟩

end Go.Proofs.YtchhjmdbjndckaaDoor
