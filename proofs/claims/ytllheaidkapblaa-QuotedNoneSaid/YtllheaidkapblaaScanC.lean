/- The scanner's Back; the document's Take, Classes and While: contracts. -/
import Derived.Test.YtllheaidkapblaaScanB
namespace Go.Proofs.Ytllheaidkapblaa
open Go.RowKit

def backOk (j : Int) (k : Nat) : Bool := decide (0 ≤ j ∧ j ≤ (k : Int))
theorem Back_some (t : Nat) (s : ByteArray) (k : Nat) (j : Int) (w : World) (h : Scn t s k w) :
    Calls Try.prog 33 #[.pointer (some ⟨t, 0, none⟩), .int .i64 j] w fun e w' => e = .returned (.bool (backOk j k)) ∧ Scn t s (if backOk j k then j.toNat else k) w' ∧ Kept (· = t) w w' := by
  have HS := Lib.hid h
  have hp := Lib.hid (At_some t s k w h)
  have hle := h.le
  have hpl := h.place
  have hfr := h.free1
  clear h
  by_cases h1 : j < 0
  · have HB : Hid (backOk j k = false) := by show _ = _; unfold backOk; simp; omega
    rw [HB.out]
    go_enter Try.func33, Try.ntmps33
    go_wp2
    go_ret
    exact ⟨rfl, HS.out, Kept.refl _ _⟩
  · by_cases h2 : (k : Int) < j
    · have HB : Hid (backOk j k = false) := by show _ = _; unfold backOk; simp; omega
      rw [HB.out]
      go_enter Try.func33, Try.ntmps33
      go_wp2_with fail
      refine hp.out.mono ?_
      rintro e w' ⟨rfl, rfl⟩
      go_wp2
      go_ret
      exact ⟨rfl, HS.out, Kept.refl _ _⟩
    · have HB : Hid (backOk j k = true) := by show _ = _; unfold backOk; simp; omega
      rw [HB.out]
      obtain ⟨i, rfl⟩ := Int.eq_ofNat_of_zero_le (show 0 ≤ j by omega)
      have hik : i ≤ k := by omega
      go_enter Try.func33, Try.ntmps33
      go_wp2_with fail
      refine hp.out.mono ?_
      rintro e w' ⟨rfl, rfl⟩
      go_wp2
      go_ret
      exact ⟨rfl, HS.out.put i (by omega), (Kept.refl (· = t) w).setCell (p := ⟨t, 1, none⟩) (.inl rfl) _⟩
theorem Back_nil (j : Int) (w : World) :
    Calls Try.prog 33 #[.pointer none, .int .i64 j] w fun e w' => e = .returned (.bool (backOk j 0)) ∧ w = w' := by
  by_cases h1 : j < 0
  · have HB : Hid (backOk j 0 = false) := by show _ = _; unfold backOk; simp; omega
    rw [HB.out]
    go_enter Try.func33, Try.ntmps33
    go_wp2
    go_ret
    exact ⟨rfl, rfl⟩
  · by_cases h2 : (0 : Int) < j
    · have HB : Hid (backOk j 0 = false) := by show _ = _; unfold backOk; simp; omega
      rw [HB.out]
      go_enter Try.func33, Try.ntmps33
      go_wp2_with fail
      refine (At_nil _).mono ?_
      rintro e w' ⟨rfl, rfl⟩
      go_wp2
      go_ret
      exact ⟨rfl, rfl⟩
    · have HB : Hid (backOk j 0 = true) := by show _ = _; unfold backOk; simp; omega
      rw [HB.out]
      go_enter Try.func33, Try.ntmps33
      go_wp2_with fail
      refine (At_nil _).mono ?_
      rintro e w' ⟨rfl, rfl⟩
      go_wp2
      go_ret
      exact ⟨rfl, rfl⟩

/-- The document's scanner, by value. -/
def scanV (s : ByteArray) (k : Nat) : Value := .agg #[.string s, .int .i64 k]
/-- Which bytes the document's While takes. -/
def clsB (c : Int) (n : Int) : Bool := if c = 0 then B.tok n else if c = 1 then B.bla n else if c = 2 then B.dig n else false
/-- How many bytes from k on are so. -/
def runLen (q : Int → Bool) (s : ByteArray) (k : Nat) : Nat := ((s.data.toList.drop k).takeWhile fun c => q (c.toNat : Int)).length
theorem runLen_le (q : Int → Bool) (s : ByteArray) (k : Nat) (hk : k ≤ s.size) : k + runLen q s k ≤ s.size := by
  unfold runLen
  have h := (List.takeWhile_prefix (l := s.data.toList.drop k) (fun c : UInt8 => q (c.toNat : Int))).length_le
  simp at h
  omega
theorem runLen_end (q : Int → Bool) (s : ByteArray) (k : Nat) (hk : ¬ k < s.size) : runLen q s k = 0 := by
  unfold runLen
  rw [List.drop_eq_nil_of_le (by simp; omega)]; rfl
theorem runLen_no (q : Int → Bool) (s : ByteArray) (k : Nat) (hk : k < s.size) (h : q (s[k].toNat : Int) = false) : runLen q s k = 0 := by
  unfold runLen
  rw [List.drop_eq_getElem_cons (by simpa using hk)]
  have e : s.data.toList[k]'(by simpa using hk) = s[k] := rfl
  rw [e, List.takeWhile_cons_of_neg (by simp [h])]; rfl
theorem runLen_yes (q : Int → Bool) (s : ByteArray) (k : Nat) (hk : k < s.size) (h : q (s[k].toNat : Int) = true) : runLen q s k = runLen q s (k + 1) + 1 := by
  unfold runLen
  rw [List.drop_eq_getElem_cons (by simpa using hk)]
  have e : s.data.toList[k]'(by simpa using hk) = s[k] := rfl
  rw [e, List.takeWhile_cons_of_pos (by simp [h])]; rfl

end Go.Proofs.Ytllheaidkapblaa
