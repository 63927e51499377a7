/- Beginnings of texts; the scanner's Byte, Text, Back; the document's Begins, Take, Classes, While: contracts. -/
import Derived.Test.YtllheaidkapblaaScanA
namespace Go.Proofs.Ytllheaidkapblaa
open Go.RowKit

/-- Does a text begin with another one? -/
def beg (s t : ByteArray) : Bool := t.data.toList.isPrefixOf s.data.toList
theorem beg_long (s t : ByteArray) (h : s.size < t.size) : beg s t = false := by
  unfold beg
  rw [Bool.eq_false_iff]
  intro hp
  have := (List.isPrefixOf_iff_prefix.1 hp).length_le
  simp at this
  omega
theorem beg_cut (s t : ByteArray) : ((s.extract 0 t.size).toList == t.toList) = beg s t := by
  unfold beg
  rw [ByteArray.toList_eq, ByteArray.toList_eq, ByteArray.data_extract, Array.toList_extract, List.extract_eq_take_drop, Bool.eq_iff_iff, List.isPrefixOf_iff_prefix, List.prefix_iff_eq_take]
  simp
  exact eq_comm
theorem beg_le (s t : ByteArray) (h : beg s t = true) : t.size ≤ s.size := by
  by_cases hl : s.size < t.size
  · rw [beg_long s t hl] at h; simp at h
  · omega
theorem stringslite_any (s t : ByteArray) (w : World) (hs : s.size ≤ maxLen) (ht : t.size ≤ maxLen) :
    Calls Try.prog 41 #[.string s, .string t] w fun e w' => e = .returned (.bool (beg s t)) ∧ w = w' := by
  unfold maxLen at hs ht
  by_cases h : t.size ≤ s.size
  · have hb := Lib.hid (beg_cut s t)
    go_enter Try.func41, Try.ntmps41
    go_wp2
    go_ret
    exact ⟨ret_bool hb.out, rfl⟩
  · have hb := Lib.hid (beg_long s t (by omega))
    go_enter Try.func41, Try.ntmps41
    go_wp2
    go_ret
    exact ⟨ret_bool hb.out.symm, rfl⟩
theorem HasPrefix_any (s t : ByteArray) (w : World) (hs : s.size ≤ maxLen) (ht : t.size ≤ maxLen) :
    Calls Try.prog 31 #[.string s, .string t] w fun e w' => e = .returned (.bool (beg s t)) ∧ w = w' := by
  go_enter Try.func31, Try.ntmps31
  go_wp2_with fail
  refine (stringslite_any _ _ _ hs ht).mono ?_
  rintro e w' ⟨rfl, rfl⟩
  go_wp2
  go_ret
  exact ⟨rfl, rfl⟩
/-- Does what is left at k begin with t? -/
def begAt (s : ByteArray) (k : Nat) (t : ByteArray) : Bool := beg (restS s k) t
theorem begAt_le (s : ByteArray) (k : Nat) (t : ByteArray) (hk : k ≤ s.size) (h : begAt s k t = true) : k + t.size ≤ s.size := by
  have := beg_le _ _ h
  rw [restS_size s k hk] at this
  omega
theorem beg_empty (s t : ByteArray) (h : t.toList.isEmpty = true) : beg s t = true := by
  rw [ByteArray.toList_eq] at h
  unfold beg
  have : t.data.toList = [] := by simpa using h
  rw [this]; rfl
theorem size_nil (t : ByteArray) (h : t.toList.isEmpty = true) : t.size = 0 := by
  rw [ByteArray.toList_eq] at h
  have h2 : t.data = #[] := by simpa using h
  show t.data.size = 0
  rw [h2]; rfl

theorem Byte_some (t : Nat) (s : ByteArray) (k : Nat) (b : Int) (w : World) (h : Scn t s k w) (hs : s.size ≤ maxLen) :
    Calls Try.prog 42 #[.pointer (some ⟨t, 0, none⟩), .int .u8 b] w fun e w' => e = .returned (.bool (decide (k < s.size ∧ byteAt s k = b))) ∧ Scn t s (if k < s.size ∧ byteAt s k = b then k + 1 else k) w' ∧ Kept (· = t) w w' := by
  unfold maxLen at hs
  have HS := Lib.hid h
  have hp := Lib.hid (Peek_some t s k w h)
  have hle := h.le
  clear h
  by_cases hk : k < s.size
  · have hd : Hid (decide (k < s.size) = true) := by show _ = _; simpa using hk
    by_cases hb : byteAt s k = b
    · have e1 : Hid (decide (k < s.size ∧ byteAt s k = b) = true) := by show _ = _; simp [hk, hb]
      have e2 : Hid ((if k < s.size ∧ byteAt s k = b then k + 1 else k) = k + 1) := by show _ = _; rw [if_pos ⟨hk, hb⟩]
      subst hb
      rw [e1.out, e2.out]
      clear e1 e2
      have hpl := HS.out.place
      have hfr := HS.out.free1
      go_enter Try.func42, Try.ntmps42
      go_wp2_with fail
      refine hp.out.mono ?_
      rintro e w' ⟨rfl, n, rfl⟩
      rw [hd.out]
      go_wp2
      go_ret
      exact ⟨rfl, (HS.out.drewN n).put (k + 1) hk, ((Kept.refl (· = t) w).drewN n).setCell (p := ⟨t, 1, none⟩) (.inl rfl) _⟩
    · have e1 : Hid (decide (k < s.size ∧ byteAt s k = b) = false) := by show _ = _; simp [hb]
      have e2 : Hid ((if k < s.size ∧ byteAt s k = b then k + 1 else k) = k) := by show _ = _; rw [if_neg (fun x => hb x.2)]
      have hne : (byteAt s k != b) = true := by simpa using hb
      rw [e1.out, e2.out]
      clear e1 e2 hb
      go_enter Try.func42, Try.ntmps42
      go_wp2_with fail
      refine hp.out.mono ?_
      rintro e w' ⟨rfl, n, rfl⟩
      rw [hd.out]
      go_wp2
      go_ret
      exact ⟨rfl, HS.out.drewN n, (Kept.refl _ _).drewN n⟩
  · have hd : Hid (decide (k < s.size) = false) := by show _ = _; simpa using hk
    have e1 : Hid (decide (k < s.size ∧ byteAt s k = b) = false) := by show _ = _; simp [hk]
    have e2 : Hid ((if k < s.size ∧ byteAt s k = b then k + 1 else k) = k) := by show _ = _; rw [if_neg (fun x => hk x.1)]
    rw [e1.out, e2.out]
    clear e1 e2
    go_enter Try.func42, Try.ntmps42
    go_wp2_with fail
    refine hp.out.mono ?_
    rintro e w' ⟨rfl, n, rfl⟩
    rw [hd.out]
    go_wp2
    go_ret
    exact ⟨rfl, HS.out.drewN n, (Kept.refl _ _).drewN n⟩
theorem Byte_nil (b : Int) (w : World) :
    Calls Try.prog 42 #[.pointer none, .int .u8 b] w fun e w' => e = .returned (.bool false) ∧ ∃ n, w' = w.drewN n := by
  go_enter Try.func42, Try.ntmps42
  go_wp2_with fail
  refine (Peek_nil _).mono ?_
  rintro e w' ⟨rfl, n, rfl⟩
  go_wp2
  go_ret
  exact ⟨rfl, n, rfl⟩

theorem Text_some (t : Nat) (s : ByteArray) (k : Nat) (x : ByteArray) (w : World) (h : Scn t s k w) (hs : s.size ≤ maxLen) (hx : x.size ≤ maxLen) :
    Calls Try.prog 17 #[.pointer (some ⟨t, 0, none⟩), .string x] w fun e w' => e = .returned (.bool (begAt s k x)) ∧ Scn t s (if begAt s k x then k + x.size else k) w' ∧ Kept (· = t) w w' := by
  have HS := Lib.hid h
  have hr := Lib.hid (Rest_some t s k w h)
  have hrz : (restS s k).size ≤ maxLen := by rw [restS_size s k h.le]; omega
  have hle := h.le
  have hpl := h.place
  have hfr := h.free1
  clear h
  cases hb : begAt s k x
  · have HB : Hid (beg (restS s k) x = false) := hb
    have he : x.toList.isEmpty = false := by
      cases hx : x.toList.isEmpty
      · rfl
      · rw [show begAt s k x = beg (restS s k) x from rfl, beg_empty _ _ hx] at hb; simp at hb
    clear hb
    go_enter Try.func17, Try.ntmps17
    go_wp2_with fail
    refine hr.out.mono ?_
    rintro e w' ⟨rfl, n, rfl⟩
    go_wp2_with fail
    refine (HasPrefix_any _ _ _ hrz hx).mono ?_
    rintro e w' ⟨rfl, rfl⟩
    rw [HB.out]
    go_wp2
    go_ret
    exact ⟨rfl, HS.out.drewN n, (Kept.refl _ _).drewN n⟩
  · have HB : Hid (beg (restS s k) x = true) := hb
    have hz := begAt_le s k x hle hb
    clear hb
    unfold maxLen at hs
    cases he : x.toList.isEmpty
    · go_enter Try.func17, Try.ntmps17
      go_wp2_with fail
      refine hr.out.mono ?_
      rintro e w' ⟨rfl, n, rfl⟩
      go_wp2_with fail
      refine (HasPrefix_any _ _ _ hrz hx).mono ?_
      rintro e w' ⟨rfl, rfl⟩
      rw [HB.out]
      go_wp2
      go_ret
      exact ⟨rfl, (HS.out.drewN n).put (k + x.size) hz, ((Kept.refl (· = t) w).drewN n).setCell (p := ⟨t, 1, none⟩) (.inl rfl) _⟩
    · have e0 := Lib.hid (size_nil x he)
      go_enter Try.func17, Try.ntmps17
      go_wp2_with fail
      refine hr.out.mono ?_
      rintro e w' ⟨rfl, n, rfl⟩
      go_wp2_with fail
      refine (HasPrefix_any _ _ _ hrz hx).mono ?_
      rintro e w' ⟨rfl, rfl⟩
      rw [HB.out]
      go_wp2
      go_ret
      exact ⟨rfl, by rw [e0.out]; exact HS.out.drewN n, (Kept.refl _ _).drewN n⟩
theorem Text_nil (x : ByteArray) (w : World) (hx : x.size ≤ maxLen) :
    Calls Try.prog 17 #[.pointer none, .string x] w fun e w' => e = .returned (.bool (begAt ByteArray.empty 0 x)) ∧ ∃ n, w' = w.drewN n := by
  cases he : x.toList.isEmpty
  · have HB : Hid (beg ByteArray.empty x = false) := by
      show _ = _
      refine beg_long _ _ ?_
      have : x.size ≠ 0 := by
        intro h0
        have : x = ByteArray.empty := by simpa using h0
        rw [this] at he
        simp at he
      show 0 < x.size
      omega
    have HB2 : Hid (begAt ByteArray.empty 0 x = false) := HB
    go_enter Try.func17, Try.ntmps17
    go_wp2_with fail
    refine (Rest_nil _).mono ?_
    rintro e w' ⟨rfl, n, rfl⟩
    go_wp2_with fail
    refine (HasPrefix_any _ _ _ (by decide) hx).mono ?_
    rintro e w' ⟨rfl, rfl⟩
    rw [HB.out]
    go_wp2
    go_ret
    exact ⟨ret_bool HB2.out.symm, n, rfl⟩
  · have HB : Hid (beg ByteArray.empty x = true) := beg_empty _ _ he
    have HB2 : Hid (begAt ByteArray.empty 0 x = true) := beg_empty _ _ he
    go_enter Try.func17, Try.ntmps17
    go_wp2_with fail
    refine (Rest_nil _).mono ?_
    rintro e w' ⟨rfl, n, rfl⟩
    go_wp2_with fail
    refine (HasPrefix_any _ _ _ (by decide) hx).mono ?_
    rintro e w' ⟨rfl, rfl⟩
    rw [HB.out]
    go_wp2
    go_ret
    exact ⟨ret_bool HB2.out.symm, n, rfl⟩
end Go.Proofs.Ytllheaidkapblaa
