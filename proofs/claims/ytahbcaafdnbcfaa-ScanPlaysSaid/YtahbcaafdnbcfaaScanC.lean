/- The scanner's Back; the document's Take, Classes and While: contracts. -/
import Derived.Test.YtahbcaafdnbcfaaScanB
namespace Go.Proofs.Ytahbcaafdnbcfaa
open Go.RowKit

def backOk (j : Int) (k : Nat) : Bool := decide (0 ≤ j ∧ j ≤ (k : Int))
theorem Back_some (t : Nat) (s : ByteArray) (k : Nat) (j : Int) (w : World) (h : Scn t s k w) :
    Calls Try.prog 21 #[.pointer (some ⟨t, 0, none⟩), .int .i64 j] w fun e w' => e = .returned (.bool (backOk j k)) ∧ Scn t s (if backOk j k then j.toNat else k) w' ∧ Kept (· = t) w w' := by
  have HS := Lib.hid h
  have hp := Lib.hid (At_some t s k w h)
  have hle := h.le
  have hpl := h.place
  have hfr := h.free1
  clear h
  by_cases h1 : j < 0
  · have HB : Hid (backOk j k = false) := by show _ = _; unfold backOk; simp; omega
    rw [HB.out]
    go_enter Try.func21, Try.ntmps21
    go_wp2
    go_ret
    exact ⟨rfl, HS.out, Kept.refl _ _⟩
  · by_cases h2 : (k : Int) < j
    · have HB : Hid (backOk j k = false) := by show _ = _; unfold backOk; simp; omega
      rw [HB.out]
      go_enter Try.func21, Try.ntmps21
      go_wp2_with fail
      refine hp.out.mono ?_
      rintro e w' ⟨rfl, rfl⟩
      go_wp2
      go_ret
      exact ⟨rfl, HS.out, Kept.refl _ _⟩
    · have HB : Hid (backOk j k = true) := by show _ = _; unfold backOk; simp; omega
      rw [HB.out]
      obtain ⟨i, rfl⟩ := Int.eq_ofNat_of_zero_le (show 0 ≤ j by omega)
      have hik : i ≤ k := by omega
      go_enter Try.func21, Try.ntmps21
      go_wp2_with fail
      refine hp.out.mono ?_
      rintro e w' ⟨rfl, rfl⟩
      go_wp2
      go_ret
      exact ⟨rfl, HS.out.put i (by omega), (Kept.refl (· = t) w).setCell (p := ⟨t, 1, none⟩) (.inl rfl) _⟩
theorem Back_nil (j : Int) (w : World) :
    Calls Try.prog 21 #[.pointer none, .int .i64 j] w fun e w' => e = .returned (.bool (backOk j 0)) ∧ w = w' := by
  by_cases h1 : j < 0
  · have HB : Hid (backOk j 0 = false) := by show _ = _; unfold backOk; simp; omega
    rw [HB.out]
    go_enter Try.func21, Try.ntmps21
    go_wp2
    go_ret
    exact ⟨rfl, rfl⟩
  · by_cases h2 : (0 : Int) < j
    · have HB : Hid (backOk j 0 = false) := by show _ = _; unfold backOk; simp; omega
      rw [HB.out]
      go_enter Try.func21, Try.ntmps21
      go_wp2_with fail
      refine (At_nil _).mono ?_
      rintro e w' ⟨rfl, rfl⟩
      go_wp2
      go_ret
      exact ⟨rfl, rfl⟩
    · have HB : Hid (backOk j 0 = true) := by show _ = _; unfold backOk; simp; omega
      rw [HB.out]
      go_enter Try.func21, Try.ntmps21
      go_wp2_with fail
      refine (At_nil _).mono ?_
      rintro e w' ⟨rfl, rfl⟩
      go_wp2
      go_ret
      exact ⟨rfl, rfl⟩

/-- The document's scanner, by value. -/
def scanV (s : ByteArray) (k : Nat) : Value := .agg #[.string s, .int .i64 k]
set_option maxHeartbeats 400000 in
theorem RTake_any (s : ByteArray) (k : Nat) (x : ByteArray) (w : World) (hk : k ≤ s.size) (hs : s.size ≤ maxLen) (hx : x.size ≤ maxLen) :
    Calls Try.prog 19 #[scanV s k, .string x] w fun e w' => e = .returned (.tuple #[scanV s (if begAt s k x then k + x.size else k), .bool (begAt s k x)]) ∧ Below w.heap.size w w' := by
  unfold scanV
  have hrz : (restS s k).size ≤ maxLen := by rw [restS_size s k hk]; omega
  have HR := Lib.hid hrz
  have HX := Lib.hid hx
  clear hrz hx
  unfold maxLen at hs
  cases hb : begAt s k x
  · have HB : Hid (beg (restS s k) x = false) := hb
    clear hb
    go_enter Try.func19, Try.ntmps19
    go_wp2_with fail
    refine (RBegins_any (restS s k) _ _ HR.out HX.out).mono ?_
    rintro e w' ⟨rfl, rfl⟩
    rw [HB.out]
    go_wp2
    exact bodyPost_ret (v := .tuple #[.agg #[.string s, .int .i64 k], .bool false]) (by simp [results, Try.results19, go_sem]) rfl ⟨rfl, (by repeat (first | with_reducible exact Below.refl _ _ | with_reducible assumption | (with_reducible refine Below.setCell ?_ ?_ _; rotate_left; · (simp <;> omega)) | (with_reducible refine Below.alloc ?_ ?_ _; rotate_left; · (simp <;> omega)) | with_reducible refine Below.drew ?_))⟩
  · have HB : Hid (beg (restS s k) x = true) := hb
    have hz := begAt_le s k x hk hb
    clear hb
    go_enter Try.func19, Try.ntmps19
    go_wp2_with fail
    refine (RBegins_any (restS s k) _ _ HR.out HX.out).mono ?_
    rintro e w' ⟨rfl, rfl⟩
    rw [HB.out]
    go_wp2
    exact bodyPost_ret (v := .tuple #[.agg #[.string s, .int .i64 (k + x.size : Nat)], .bool true]) (by simp [results, Try.results19, go_sem]) rfl ⟨rfl, (by repeat (first | with_reducible exact Below.refl _ _ | with_reducible assumption | (with_reducible refine Below.setCell ?_ ?_ _; rotate_left; · (simp <;> omega)) | (with_reducible refine Below.alloc ?_ ?_ _; rotate_left; · (simp <;> omega)) | with_reducible refine Below.drew ?_))⟩

/-- Which bytes the document's While takes. -/
def clsB (c : Int) (n : Int) : Bool := if c = 0 then B.tok n else if c = 1 then B.bla n else if c = 2 then B.dig n else false
theorem RClasses_any (c n : Int) (w : World) (h0 : 0 ≤ n) (h1 : n ≤ 255) :
    Calls Try.prog 28 #[.int .i64 c, .int .u8 n] w fun e w' => e = .returned (.bool (clsB c n)) ∧ w = w' := by
  by_cases c0 : c = 0
  · subst c0
    go_enter Try.func28, Try.ntmps28
    go_wp2_with fail
    refine (RTok_any _ _ h0 h1).mono ?_
    rintro e w' ⟨rfl, rfl⟩
    go_wp2
    go_ret
    exact ⟨rfl, rfl⟩
  · by_cases c1 : c = 1
    · subst c1
      go_enter Try.func28, Try.ntmps28
      go_wp2_with fail
      refine (RBlank_any _ _).mono ?_
      rintro e w' ⟨rfl, rfl⟩
      go_wp2
      go_ret
      exact ⟨rfl, rfl⟩
    · by_cases c2 : c = 2
      · subst c2
        go_enter Try.func28, Try.ntmps28
        go_wp2_with fail
        refine (RDigit_any _ _ h0 h1).mono ?_
        rintro e w' ⟨rfl, rfl⟩
        go_wp2
        go_ret
        exact ⟨rfl, rfl⟩
      · have hf : Hid (clsB c n = false) := by show _ = _; unfold clsB; rw [if_neg c0, if_neg c1, if_neg c2]
        go_enter Try.func28, Try.ntmps28
        go_wp2
        go_ret
        exact ⟨ret_bool hf.out.symm, rfl⟩
/-- How many bytes from k on are so. -/
def runLen (q : Int → Bool) (s : ByteArray) (k : Nat) : Nat := ((s.data.toList.drop k).takeWhile fun c => q (c.toNat : Int)).length
theorem runLen_le (q : Int → Bool) (s : ByteArray) (k : Nat) (hk : k ≤ s.size) : k + runLen q s k ≤ s.size := by
  unfold runLen
  have h := (List.takeWhile_prefix (l := s.data.toList.drop k) (fun c : UInt8 => q (c.toNat : Int))).length_le
  simp at h
  omega
theorem runLen_end (q : Int → Bool) (s : ByteArray) (k : Nat) (hk : ¬ k < s.size) : runLen q s k = 0 := by
  unfold runLen
  rw [List.drop_eq_nil_of_le (by simp; omega)]; rfl
theorem runLen_no (q : Int → Bool) (s : ByteArray) (k : Nat) (hk : k < s.size) (h : q (s[k].toNat : Int) = false) : runLen q s k = 0 := by
  unfold runLen
  rw [List.drop_eq_getElem_cons (by simpa using hk)]
  have e : s.data.toList[k]'(by simpa using hk) = s[k] := rfl
  rw [e, List.takeWhile_cons_of_neg (by simp [h])]; rfl
theorem runLen_yes (q : Int → Bool) (s : ByteArray) (k : Nat) (hk : k < s.size) (h : q (s[k].toNat : Int) = true) : runLen q s k = runLen q s (k + 1) + 1 := by
  unfold runLen
  rw [List.drop_eq_getElem_cons (by simpa using hk)]
  have e : s.data.toList[k]'(by simpa using hk) = s[k] := rfl
  rw [e, List.takeWhile_cons_of_pos (by simp [h])]; rfl

set_option maxHeartbeats 1000000 in
theorem RWhile_any (s : ByteArray) (k : Nat) (c : Int) (w : World) (hk : k ≤ s.size) (hs : s.size ≤ maxLen) :
    Calls Try.prog 17 #[scanV s k, .int .i64 c] w fun e w' => e = .returned (.tuple #[scanV s (k + runLen (clsB c) s k), .string (s.extract k (k + runLen (clsB c) s k))]) ∧ Below w.heap.size w w' := by
  unfold scanV
  unfold maxLen at hs
  go_enter Try.func17, Try.ntmps17
  go_wp2
  go_loop [6] (fun i => ∃ n : Nat, k ≤ n ∧ n ≤ s.size ∧ i = .int .i64 n ∧ k + runLen (clsB c) s k = n + runLen (clsB c) s n) (fun i => s.size - (intOf i).toNat)
  case atStart => exact ⟨k, Nat.le_refl _, hk, rfl, rfl⟩
  case round =>
    obtain ⟨n, hkn, hn, rfl, hsum⟩ := hrel
    have HS := Lib.hid hsum
    clear hsum
    by_cases hlt : n < s.size
    · have hby := B.toNat_le s[n]
      cases hq : clsB c (s[n].toNat : Int)
      · have hz := runLen_no (clsB c) s n hlt hq
        have HE : Hid (k + runLen (clsB c) s k = n) := by show _ = _; rw [HS.out, hz]; rfl
        have HQ := Lib.hid hq
        clear hz hq
        go_wp2_with fail
        refine (RClasses_any _ _ _ (by omega) (by omega)).mono ?_
        rintro e w' ⟨rfl, rfl⟩
        rw [HQ.out]
        go_wp2
        go_region
        all_goals go_wp2
        all_goals exact bodyPost_ret (v := .tuple #[.agg #[.string s, .int .i64 n], .string (s.extract k n)]) (by simp [results, Try.results17, go_sem]) rfl ⟨by rw [HE.out], (by repeat (first | with_reducible exact Below.refl _ _ | with_reducible assumption | (with_reducible refine Below.setCell ?_ ?_ _; rotate_left; · (simp <;> omega)) | (with_reducible refine Below.alloc ?_ ?_ _; rotate_left; · (simp <;> omega)) | with_reducible refine Below.drew ?_))⟩
      · have hz := runLen_yes (clsB c) s n hlt hq
        have HE : Hid (k + runLen (clsB c) s k = n + 1 + runLen (clsB c) s (n + 1)) := by show _ = _; rw [HS.out, hz]; omega
        have HQ := Lib.hid hq
        clear hz hq
        go_wp2_with fail
        refine (RClasses_any _ _ _ (by omega) (by omega)).mono ?_
        rintro e w' ⟨rfl, rfl⟩
        rw [HQ.out]
        go_wp2
        go_round
        case rel => exact ⟨n + 1, by omega, by omega, by go_num, HE.out⟩
        case measure => simp [intOf]; omega
    · have hz := runLen_end (clsB c) s n hlt
      have HE : Hid (k + runLen (clsB c) s k = n) := by show _ = _; rw [HS.out, hz]; rfl
      clear hz
      go_wp2
      go_region
      all_goals go_wp2
      all_goals exact bodyPost_ret (v := .tuple #[.agg #[.string s, .int .i64 n], .string (s.extract k n)]) (by simp [results, Try.results17, go_sem]) rfl ⟨by rw [HE.out], (by repeat (first | with_reducible exact Below.refl _ _ | with_reducible assumption | (with_reducible refine Below.setCell ?_ ?_ _; rotate_left; · (simp <;> omega)) | (with_reducible refine Below.alloc ?_ ?_ _; rotate_left; · (simp <;> omega)) | with_reducible refine Below.drew ?_))⟩
end Go.Proofs.Ytahbcaafdnbcfaa
