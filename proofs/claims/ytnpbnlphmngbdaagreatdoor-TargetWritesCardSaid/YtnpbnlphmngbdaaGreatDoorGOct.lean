/- Contracts and lemmas that the claim rests on: Math OctA OctB OctC OctD OctE. -/
import Derived.WalkKit
import Derived.Test.YtnpbnlphmngbdaaGreatDoorRows
import Derived.WalkSpells
import Derived.WalkLawsBesides
import Derived.BigGuardPart
import Derived.Lib.Hide
import Derived.Deep.QuietTactic
import Derived.BigQuiet
import Derived.Deep.OwnRows
import Derived.Shelf.Abstract
/- Classes of bytes as plain Boolean functions of an integer from 0 to 255, and folding of texts as plain functions on lists of bytes. Nothing here speaks of the program. -/
namespace Go.Proofs.YtnpbnlphmngbdaaGreatDoor
namespace B
/-- One of the bytes of a text. -/
def inL (l : List UInt8) (n : Int) : Bool := l.any fun c => decide ((c.toNat : Int) = n)
def inS (s : ByteArray) (n : Int) : Bool := inL s.data.toList n
def dig (n : Int) : Bool := decide (48 ≤ n) && decide (n ≤ 57)
def cap (n : Int) : Bool := decide (65 ≤ n) && decide (n ≤ 90)
def sml (n : Int) : Bool := decide (97 ≤ n) && decide (n ≤ 122)
def alp (n : Int) : Bool := sml n || cap n
def lod (n : Int) : Bool := alp n || dig n
def hex (n : Int) : Bool := dig n || (decide (97 ≤ n) && decide (n ≤ 102)) || (decide (65 ≤ n) && decide (n ≤ 70))
def bla (n : Int) : Bool := decide (n = 32) || decide (n = 9)
def vis (n : Int) : Bool := decide (33 ≤ n) && decide (n ≤ 126)
def tok (n : Int) : Bool := lod n || inL [33, 35, 36, 37, 38, 39, 42, 43, 45, 46, 94, 95, 96, 124, 126] n
def val (n : Int) : Bool := vis n || bla n || decide (127 < n)
def unr (n : Int) : Bool := lod n || inL [45, 46, 95, 126] n
def sub (n : Int) : Bool := inL [33, 36, 38, 39, 40, 41, 42, 43, 44, 59, 61] n
def pat (n : Int) : Bool := unr n || sub n || inL [58, 64] n
def low (n : Int) : Int := if cap n then n + 32 else n
def lowU (c : UInt8) : UInt8 := if 65 ≤ c ∧ c ≤ 90 then c + 32 else c
def fold (l : List UInt8) : List UInt8 := l.map lowU
def foldS (s : ByteArray) : ByteArray := ⟨(fold s.data.toList).toArray⟩

theorem byte_all {p : Int → Bool} (h : ∀ i : Fin 256, p (i.val : Int) = true) (n : Int) (h0 : 0 ≤ n) (h1 : n ≤ 255) : p n = true := by
  obtain ⟨k, rfl⟩ := Int.eq_ofNat_of_zero_le h0
  exact h ⟨k, by omega⟩
theorem byte_eq {p q : Int → Bool} (h : ∀ i : Fin 256, (p (i.val : Int) == q (i.val : Int)) = true) (n : Int) (h0 : 0 ≤ n) (h1 : n ≤ 255) : p n = q n :=
  eq_of_beq (byte_all (p := fun n => p n == q n) h n h0 h1)
theorem toNat_le (c : UInt8) : (c.toNat : Int) ≤ 255 := by have := c.toNat_lt; omega
theorem wf_u8 (n : Int) (h0 : 0 ≤ n) (h1 : n ≤ 255) : (Lit.int .u8 n).wf = true := by exact WalkArith.wf_u8 (by omega)
theorem lowU_toNat (c : UInt8) : ((lowU c).toNat : Int) = low (c.toNat : Int) := by
  have h : ∀ i : Fin 256, (decide (((lowU (UInt8.ofNat i.val)).toNat : Int) = low ((UInt8.ofNat i.val).toNat : Int))) = true := by decide +kernel
  have := h ⟨c.toNat, c.toNat_lt⟩
  simpa using this
theorem lowU_lowU (c : UInt8) : lowU (lowU c) = lowU c := by
  have h : ∀ i : Fin 256, (decide (lowU (lowU (UInt8.ofNat i.val)) = lowU (UInt8.ofNat i.val))) = true := by decide +kernel
  have := h ⟨c.toNat, c.toNat_lt⟩
  simpa using this
theorem fold_fold (l : List UInt8) : fold (fold l) = fold l := by
  unfold fold; rw [List.map_map]; exact List.map_congr_left fun c _ => lowU_lowU c
theorem fold_length (l : List UInt8) : (fold l).length = l.length := by simp [fold]
theorem inL_cons (c : UInt8) (l : List UInt8) (n : Int) : inL (c :: l) n = (decide ((c.toNat : Int) = n) || inL l n) := rfl
theorem inL_nil (n : Int) : inL [] n = false := rfl
theorem inL_append (l m : List UInt8) (n : Int) : inL (l ++ m) n = (inL l n || inL m n) := by simp [inL]
theorem take_snoc (l : List UInt8) (k : Nat) (h : k < l.length) : l.take (k + 1) = l.take k ++ [l[k]] := by
  rw [List.take_succ_eq_append_getElem h]
/-- The letter that stands for u once the first j great letters have been looked at. -/
def cU (u : UInt8) (j : Nat) : UInt8 := if 65 ≤ u.toNat ∧ u.toNat < 65 + j then u + 32 else u
theorem cU_zero (u : UInt8) : cU u 0 = u := by unfold cU; rw [if_neg (by omega)]
theorem cU_end (u : UInt8) : cU u 26 = lowU u := by
  unfold cU lowU
  have e : (65 ≤ u ∧ u ≤ 90) ↔ (65 ≤ u.toNat ∧ u.toNat < 65 + 26) := by simp [UInt8.le_iff_toNat_le]; omega
  by_cases h : 65 ≤ u.toNat ∧ u.toNat < 65 + 26
  · rw [if_pos h, if_pos (e.2 h)]
  · rw [if_neg h, if_neg (fun g => h (e.1 g))]
theorem cU_hit (u : UInt8) (j : Nat) (h : u.toNat = 65 + j) : cU u (j + 1) = u + 32 := by unfold cU; rw [if_pos (by omega)]
theorem cU_miss (u : UInt8) (j : Nat) (h : u.toNat ≠ 65 + j) : cU u (j + 1) = cU u j := by
  unfold cU
  by_cases g : 65 ≤ u.toNat ∧ u.toNat < 65 + j
  · rw [if_pos g, if_pos (by omega)]
  · rw [if_neg g, if_neg (by omega)]
theorem extract_one (s : ByteArray) (k : Nat) (h : k < s.size) : s.extract k (k + 1) = ⟨#[s[k]]⟩ := by
  have h' : k < s.data.toList.length := by simpa using h
  apply ByteArray.ext
  apply Array.ext'
  rw [ByteArray.data_extract, Array.toList_extract, List.extract_eq_take_drop, List.drop_eq_getElem_cons h']
  simp
  rfl
theorem great_at (j : Nat) (p : j < (⟨#[65, 66, 67, 68, 69, 70, 71, 72, 73, 74, 75, 76, 77, 78, 79, 80, 81, 82, 83, 84, 85, 86, 87, 88, 89, 90]⟩ : ByteArray).size) : ((⟨#[65, 66, 67, 68, 69, 70, 71, 72, 73, 74, 75, 76, 77, 78, 79, 80, 81, 82, 83, 84, 85, 86, 87, 88, 89, 90]⟩ : ByteArray)[j]'p).toNat = 65 + j := by
  have h : ∀ i : Fin 26, ((⟨#[65, 66, 67, 68, 69, 70, 71, 72, 73, 74, 75, 76, 77, 78, 79, 80, 81, 82, 83, 84, 85, 86, 87, 88, 89, 90]⟩ : ByteArray)[i.val]'i.isLt).toNat = 65 + i.val := by decide +kernel
  exact h ⟨j, p⟩
theorem great_hit {j : Nat} {u : UInt8} {p : j < (⟨#[65, 66, 67, 68, 69, 70, 71, 72, 73, 74, 75, 76, 77, 78, 79, 80, 81, 82, 83, 84, 85, 86, 87, 88, 89, 90]⟩ : ByteArray).size} (h : ((((⟨#[65, 66, 67, 68, 69, 70, 71, 72, 73, 74, 75, 76, 77, 78, 79, 80, 81, 82, 83, 84, 85, 86, 87, 88, 89, 90]⟩ : ByteArray)[j]'p).toNat : Int) == (u.toNat : Int)) = true) : u.toNat = 65 + j := by
  rw [great_at] at h; have := eq_of_beq h; omega
theorem great_miss {j : Nat} {u : UInt8} {p : j < (⟨#[65, 66, 67, 68, 69, 70, 71, 72, 73, 74, 75, 76, 77, 78, 79, 80, 81, 82, 83, 84, 85, 86, 87, 88, 89, 90]⟩ : ByteArray).size} (h : ((((⟨#[65, 66, 67, 68, 69, 70, 71, 72, 73, 74, 75, 76, 77, 78, 79, 80, 81, 82, 83, 84, 85, 86, 87, 88, 89, 90]⟩ : ByteArray)[j]'p).toNat : Int) == (u.toNat : Int)) = false) : u.toNat ≠ 65 + j := by
  rw [great_at] at h; intro e; rw [e] at h; simp at h
theorem small_cut (u : UInt8) (j : Nat) (hj : j < 26) (h : u.toNat = 65 + j) : (⟨#[97, 98, 99, 100, 101, 102, 103, 104, 105, 106, 107, 108, 109, 110, 111, 112, 113, 114, 115, 116, 117, 118, 119, 120, 121, 122]⟩ : ByteArray).extract j (j + 1) = ⟨#[cU u (j + 1)]⟩ := by
  rw [cU_hit u j h]
  obtain rfl : u = UInt8.ofNat (65 + j) := by rw [← h]; simp
  have h : ∀ i : Fin 26, (⟨#[97, 98, 99, 100, 101, 102, 103, 104, 105, 106, 107, 108, 109, 110, 111, 112, 113, 114, 115, 116, 117, 118, 119, 120, 121, 122]⟩ : ByteArray).extract i.val (i.val + 1) = ⟨#[UInt8.ofNat (65 + i.val) + 32]⟩ := by decide +kernel
  exact h ⟨j, hj⟩
theorem fold_snoc (s : ByteArray) (k : Nat) (hlt : k < s.size) : (⟨(fold (s.data.toList.take k)).toArray⟩ : ByteArray) ++ ⟨#[lowU s[k]]⟩ = ⟨(fold (s.data.toList.take (k + 1))).toArray⟩ := by
  rw [take_snoc _ _ (by simpa using hlt)]
  apply ByteArray.ext; apply Array.ext'
  simp [fold]
  rfl
theorem take_snocB (s : ByteArray) (k : Nat) (h : k < s.size) : s.data.toList.take (k + 1) = s.data.toList.take k ++ [s[k]] := take_snoc _ _ (by simpa using h)
theorem cutB (s : ByteArray) (k : Nat) (h : k < s.size) : s.data.toList = s.data.toList.take k ++ (s[k] :: s.data.toList.drop (k + 1)) := by
  conv => lhs; rw [← List.take_append_drop (k + 1) s.data.toList, take_snocB s k h]
  simp
theorem all_snoc (p : UInt8 → Bool) (s : ByteArray) (k : Nat) (h : k < s.size) (h0 : (s.data.toList.take k).all p = true) (h1 : p s[k] = true) : (s.data.toList.take (k + 1)).all p = true := by
  rw [take_snocB s k h, List.all_append, h0]; simp [h1]
theorem all_no (p : UInt8 → Bool) (s : ByteArray) (k : Nat) (h : k < s.size) (h1 : p s[k] = false) : s.data.toList.all p = false := by
  rw [cutB s k h, List.all_append, List.all_cons, h1]; simp
theorem all_yes (p : UInt8 → Bool) (s : ByteArray) (k : Nat) (h : ¬ k < s.size) (h0 : (s.data.toList.take k).all p = true) : s.data.toList.all p = true := by
  rwa [List.take_of_length_le (by simp; omega)] at h0
theorem extract_all (s : ByteArray) : s.extract 0 s.size = s := by
  apply ByteArray.ext
  simp
end B
end Go.Proofs.YtnpbnlphmngbdaaGreatDoor
/- What each class function of the program and of the document's answer hands back, at every byte: contracts, nothing of the world turned. -/
namespace Go.Proofs.YtnpbnlphmngbdaaGreatDoor
open Go.RowKit
theorem ret_u8 {a b : Int} (h : a = b) : Ending.returned (.int .u8 a) = .returned (.int .u8 b) := by rw [h]
theorem ret_bool {a b : Bool} (h : a = b) : Ending.returned (.bool a) = .returned (.bool b) := by rw [h]

set_option maxHeartbeats 400000 in
theorem In_any (s : ByteArray) (n : Int) (w : World) (hs : s.size ≤ maxLen) :
    Calls Tryz.prog 48 #[.int .u8 n, .string s] w fun e w' => e = .returned (.bool (B.inS s n)) ∧ w = w' := by
  unfold maxLen at hs
  go_enter Tryz.func48, Tryz.ntmps48
  go_wp2
  go_loop [5] (fun i => ∃ k : Nat, k ≤ s.size ∧ i = .int .i64 k ∧ B.inL (s.data.toList.take k) n = false) (fun i => s.size - (intOf i).toNat)
  case atStart => exact ⟨0, Nat.zero_le _, rfl, rfl⟩
  case round =>
    obtain ⟨k, hk, rfl, hno⟩ := hrel
    by_cases hlt : k < s.size
    · have HS : Hid (B.inL (s.data.toList.take (k + 1)) n = decide ((s[k].toNat : Int) = n)) := by
        show _ = _
        rw [B.take_snoc _ _ (by simpa using hlt), B.inL_append, hno]; simp [B.inL]; rfl
      have HA : Hid (B.inL (s.data.toList.take (k + 1)) n = true → B.inL s.data.toList n = true) := by
        intro h
        rw [← List.take_append_drop (k + 1) s.data.toList, B.inL_append, h]; rfl
      clear hno
      go_wp2
      · have h1 : ((s[k].toNat : Int) == n) = true := by assumption
        go_ret
        exact ⟨ret_bool (HA.out (by rw [HS.out]; simpa using h1)).symm, rfl⟩
      · have h1 : ((s[k].toNat : Int) == n) = false := by assumption
        go_round
        case rel => exact ⟨k + 1, by omega, by go_num, by rw [HS.out]; simpa using h1⟩
        case measure => simp [intOf]; omega
    · have hno' : B.inL s.data.toList n = false := by rwa [List.take_of_length_le (by simp; omega)] at hno
      have HN := Lib.hid hno'
      clear hno hno'
      go_wp2
      go_ret
      exact ⟨ret_bool HN.out.symm, rfl⟩

set_option maxHeartbeats 400000 in
theorem has_any (s : ByteArray) (n : Int) (w : World) (hs : s.size ≤ maxLen) :
    Calls Tryz.prog 120 #[.string s, .int .u8 n] w fun e w' => e = .returned (.bool (B.inS s n)) ∧ w = w' := by
  unfold maxLen at hs
  go_enter Tryz.func120, Tryz.ntmps120
  go_wp2
  go_loop [5, 8] (fun _ i => ∃ k : Nat, k ≤ s.size ∧ i = .int .i64 k ∧ B.inL (s.data.toList.take k) n = false) (fun _ i => s.size - (intOf i).toNat)
  case atStart => exact ⟨0, Nat.zero_le _, rfl, rfl⟩
  case round =>
    obtain ⟨k, hk, rfl, hno⟩ := hrel
    by_cases hlt : k < s.size
    · have HS : Hid (B.inL (s.data.toList.take (k + 1)) n = decide ((s[k].toNat : Int) = n)) := by
        show _ = _
        rw [B.take_snoc _ _ (by simpa using hlt), B.inL_append, hno]; simp [B.inL]; rfl
      have HA : Hid (B.inL (s.data.toList.take (k + 1)) n = true → B.inL s.data.toList n = true) := by
        intro h
        rw [← List.take_append_drop (k + 1) s.data.toList, B.inL_append, h]; rfl
      clear hno
      go_wp2
      · have h1 : ((s[k].toNat : Int) == n) = true := by assumption
        go_ret
        exact ⟨ret_bool (HA.out (by rw [HS.out]; simpa using h1)).symm, rfl⟩
      · have h1 : ((s[k].toNat : Int) == n) = false := by assumption
        go_round
        case rel => exact ⟨k + 1, by omega, by go_num, by rw [HS.out]; simpa using h1⟩
        case measure => simp [intOf]; omega
    · have hno' : B.inL s.data.toList n = false := by rwa [List.take_of_length_le (by simp; omega)] at hno
      have HN := Lib.hid hno'
      clear hno hno'
      go_wp2
      go_ret
      exact ⟨ret_bool HN.out.symm, rfl⟩

/-! Plain tests: two comparisons, parted by the walk. -/
theorem IsDigit_any (n : Int) (w : World) :
    Calls Tryz.prog 119 #[.int .u8 n] w fun e w' => e = .returned (.bool (B.dig n)) ∧ w = w' := by
  go_enter Tryz.func119, Tryz.ntmps119
  go_wp2
  all_goals
    go_ret
    exact ⟨ret_bool (by rw [Bool.eq_iff_iff]; simp [B.dig]; try omega), rfl⟩
theorem isCapital_any (n : Int) (w : World) :
    Calls Tryz.prog 80 #[.int .u8 n] w fun e w' => e = .returned (.bool (B.cap n)) ∧ w = w' := by
  go_enter Tryz.func80, Tryz.ntmps80
  go_wp2
  all_goals
    go_ret
    exact ⟨ret_bool (by rw [Bool.eq_iff_iff]; simp [B.cap]; try omega), rfl⟩
/-! The document's classes: one look into a text. -/
theorem RHex_any (n : Int) (w : World) (h0 : 0 ≤ n) (h1 : n ≤ 255) :
    Calls Tryz.prog 46 #[.int .u8 n] w fun e w' => e = .returned (.bool (B.hex n)) ∧ w = w' := by
  go_enter Tryz.func46, Tryz.ntmps46
  go_wp2_with fail
  refine (In_any _ _ _ (by decide)).mono ?_
  rintro e w' ⟨rfl, rfl⟩
  go_wp2_with fail
  go_ret
  exact ⟨ret_bool (B.byte_eq (by decide +kernel) n h0 h1), rfl⟩
theorem RUnreserved_any (n : Int) (w : World) (h0 : 0 ≤ n) (h1 : n ≤ 255) :
    Calls Tryz.prog 62 #[.int .u8 n] w fun e w' => e = .returned (.bool (B.unr n)) ∧ w = w' := by
  go_enter Tryz.func62, Tryz.ntmps62
  go_wp2_with fail
  refine (In_any _ _ _ (by decide)).mono ?_
  rintro e w' ⟨rfl, rfl⟩
  go_wp2_with fail
  go_ret
  exact ⟨ret_bool (B.byte_eq (by decide +kernel) n h0 h1), rfl⟩
theorem RSub_any (n : Int) (w : World) (h0 : 0 ≤ n) (h1 : n ≤ 255) :
    Calls Tryz.prog 63 #[.int .u8 n] w fun e w' => e = .returned (.bool (B.sub n)) ∧ w = w' := by
  go_enter Tryz.func63, Tryz.ntmps63
  go_wp2_with fail
  refine (In_any _ _ _ (by decide)).mono ?_
  rintro e w' ⟨rfl, rfl⟩
  go_wp2_with fail
  go_ret
  exact ⟨ret_bool (B.byte_eq (by decide +kernel) n h0 h1), rfl⟩
/-! Classes out of classes. -/
/-- How such a walk ends. -/
theorem b_or {a b c : Bool} (h : (a = true → c = true) ∧ (a = false → c = b)) : (a || b) = c := by cases a <;> simp_all
theorem IsHex_any (n : Int) (w : World) (h0 : 0 ≤ n) (h1 : n ≤ 255) :
    Calls Tryz.prog 117 #[.int .u8 n] w fun e w' => e = .returned (.bool (B.hex n)) ∧ w = w' := by
  go_enter Tryz.func117, Tryz.ntmps117
  go_wp2_with (go_at_call 119; refine (IsDigit_any _ _).mono ?_; rintro e w' ⟨rfl, rfl⟩)
  all_goals
    go_ret
    exact ⟨ret_bool (by rw [Bool.eq_iff_iff]; simp_all [B.hex, B.dig]; try omega), rfl⟩
theorem IsAlpha_any (n : Int) (w : World) :
    Calls Tryz.prog 133 #[.int .u8 n] w fun e w' => e = .returned (.bool (B.alp n)) ∧ w = w' := by
  go_enter Tryz.func133, Tryz.ntmps133
  go_wp2_with (go_at_call 80; refine (isCapital_any _ _).mono ?_; rintro e w' ⟨rfl, rfl⟩)
  all_goals
    go_ret
    exact ⟨ret_bool (by rw [Bool.eq_iff_iff]; simp_all [B.alp, B.sml, B.cap]; try omega), rfl⟩
theorem isLetterOrDigit_any (n : Int) (w : World) :
    Calls Tryz.prog 126 #[.int .u8 n] w fun e w' => e = .returned (.bool (B.lod n)) ∧ w = w' := by
  go_enter Tryz.func126, Tryz.ntmps126
  go_wp2_with (first | (go_at_call 133; refine (IsAlpha_any _ _).mono ?_; rintro e w' ⟨rfl, rfl⟩) | (go_at_call 119; refine (IsDigit_any _ _).mono ?_; rintro e w' ⟨rfl, rfl⟩))
  all_goals
    go_ret
    exact ⟨ret_bool (by simp_all [B.lod]), rfl⟩
theorem IsUnreserved_any (n : Int) (w : World) :
    Calls Tryz.prog 114 #[.int .u8 n] w fun e w' => e = .returned (.bool (B.unr n)) ∧ w = w' := by
  go_enter Tryz.func114, Tryz.ntmps114
  go_wp2_with (first | (go_at_call 126; refine (isLetterOrDigit_any _ _).mono ?_; rintro e w' ⟨rfl, rfl⟩) | (go_at_call 120; refine (has_any _ _ _ (by decide)).mono ?_; rintro e w' ⟨rfl, rfl⟩))
  all_goals
    go_ret
    exact ⟨ret_bool (by simp_all [B.unr, B.inS]), rfl⟩
theorem IsSub_any (n : Int) (w : World) :
    Calls Tryz.prog 115 #[.int .u8 n] w fun e w' => e = .returned (.bool (B.sub n)) ∧ w = w' := by
  go_enter Tryz.func115, Tryz.ntmps115
  go_wp2_with (go_at_call 120; refine (has_any _ _ _ (by decide)).mono ?_; rintro e w' ⟨rfl, rfl⟩)
  all_goals
    go_ret
    exact ⟨ret_bool (by simp_all [B.sub, B.inS]), rfl⟩
theorem IsPath_any (n : Int) (w : World) :
    Calls Tryz.prog 96 #[.int .u8 n] w fun e w' => e = .returned (.bool (B.pat n)) ∧ w = w' := by
  go_enter Tryz.func96, Tryz.ntmps96
  go_wp2_with (first | (go_at_call 114; refine (IsUnreserved_any _ _).mono ?_; rintro e w' ⟨rfl, rfl⟩) | (go_at_call 115; refine (IsSub_any _ _).mono ?_; rintro e w' ⟨rfl, rfl⟩) | (go_at_call 120; refine (has_any _ _ _ (by decide)).mono ?_; rintro e w' ⟨rfl, rfl⟩))
  all_goals
    go_ret
    exact ⟨ret_bool (by simp_all [B.pat, B.inS]), rfl⟩
theorem RPath_any (n : Int) (w : World) (h0 : 0 ≤ n) (h1 : n ≤ 255) :
    Calls Tryz.prog 47 #[.int .u8 n] w fun e w' => e = .returned (.bool (B.pat n)) ∧ w = w' := by
  go_enter Tryz.func47, Tryz.ntmps47
  go_wp2_with (first | (go_at_call 62; refine (RUnreserved_any _ _ h0 h1).mono ?_; rintro e w' ⟨rfl, rfl⟩) | (go_at_call 63; refine (RSub_any _ _ h0 h1).mono ?_; rintro e w' ⟨rfl, rfl⟩))
  all_goals
    go_ret
    exact ⟨ret_bool (by rw [Bool.eq_iff_iff]; simp_all [B.pat, B.inL]; try omega), rfl⟩
theorem Lower_any (n : Int) (w : World) (h0 : 0 ≤ n) (h1 : n ≤ 255) :
    Calls Tryz.prog 58 #[.int .u8 n] w fun e w' => e = .returned (.int .u8 (B.low n)) ∧ w = w' := by
  by_cases hc : B.cap n = true
  · have hl := Lib.hid (show B.low n = n + 32 by simp [B.low, hc])
    have b0 : 65 ≤ n := by simp [B.cap] at hc; omega
    have b1 : n ≤ 90 := by simp [B.cap] at hc; omega
    go_enter Tryz.func58, Tryz.ntmps58
    go_wp2_with (go_at_call 80; refine (isCapital_any _ _).mono ?_; rintro e w' ⟨rfl, rfl⟩)
    go_ret
    exact ⟨ret_u8 (by rw [hl.out]; omega), rfl⟩
  · have hc' : B.cap n = false := by simpa using hc
    have hl := Lib.hid (show B.low n = n by simp [B.low, hc'])
    go_enter Tryz.func58, Tryz.ntmps58
    go_wp2_with (go_at_call 80; refine (isCapital_any _ _).mono ?_; rintro e w' ⟨rfl, rfl⟩)
    go_ret
    exact ⟨ret_u8 hl.out.symm, rfl⟩
end Go.Proofs.YtnpbnlphmngbdaaGreatDoor
/- Folding of texts by the document's answer and by the program: contracts. -/
namespace Go.Proofs.YtnpbnlphmngbdaaGreatDoor
open Go.RowKit

set_option maxHeartbeats 400000 in
theorem RFold_any (s : ByteArray) (w : World) (hs : s.size ≤ 100000) :
    Calls Tryz.prog 16 #[.string s] w fun e w' => e = .returned (.string (B.foldS s)) ∧ ∃ n, w' = w.drewN n := by
  go_enter Tryz.func16, Tryz.ntmps16
  go_wp2
  go_loopw [3, 4, 5, 6] (fun out i _ _ wr => ∃ k : Nat, k ≤ s.size ∧ i = .int .i64 k ∧ out = .string ⟨(B.fold (s.data.toList.take k)).toArray⟩ ∧ ∃ n, wr = w.drewN n) (fun _ i _ _ _ => s.size - (intOf i).toNat)
  case atStart => exact ⟨0, Nat.zero_le _, rfl, rfl, 0, rfl⟩
  case round =>
    obtain ⟨k, hk, rfl, rfl, n, rfl⟩ := hrel
    by_cases hlt : k < s.size
    · have H0 : Hid (s.extract k (k + 1) = ⟨#[B.cU s[k] 0]⟩) := by rw [B.cU_zero]; exact B.extract_one s k hlt
      go_wp2
      go_loopw [5, 6] (fun c i wi => ∃ j : Nat, j ≤ 26 ∧ i = .int .i64 j ∧ c = .string ⟨#[B.cU s[k] j]⟩ ∧ ∃ n, wi = w.drewN n) (fun _ i _ => 26 - (intOf i).toNat)
      case atStart => exact ⟨0, Nat.zero_le _, rfl, by rw [H0.out], n, rfl⟩
      case round =>
        obtain ⟨j, hj, rfl, rfl, m, rfl⟩ := hrel
        by_cases hjt : j < 26
        · go_wp2
          go_quiet (fail)
          all_goals go_wp2
          · have h1 : s[k].toNat = 65 + j := B.great_hit (by assumption)
            go_roundw
            case rel => exact ⟨j + 1, by omega, by go_num, by rw [B.small_cut _ _ hjt h1], _, rfl⟩
            case measure => simp [intOf]; omega
          · have h1 : s[k].toNat ≠ 65 + j := B.great_miss (by assumption)
            go_roundw
            case rel => exact ⟨j + 1, by omega, by go_num, by rw [B.cU_miss _ _ h1], _, rfl⟩
            case measure => simp [intOf]; omega
        · obtain rfl : j = 26 := by omega
          have HF : Hid ((⟨(B.fold (s.data.toList.take k)).toArray⟩ : ByteArray) ++ ⟨#[B.cU s[k] 26]⟩ = ⟨(B.fold (s.data.toList.take (k + 1))).toArray⟩) := by
            rw [B.cU_end]; exact B.fold_snoc s k hlt
          have hfl : (B.fold (s.data.toList.take k)).length ≤ 100000 := by rw [B.fold_length]; simp; omega
          go_wp2
          go_roundw
          case rel => exact ⟨k + 1, by omega, by go_num, by rw [HF.out], m, rfl⟩
          case measure => simp [intOf]; omega
    · have HF : Hid (B.fold (s.data.toList.take k) = B.fold s.data.toList) := by show _ = _; rw [List.take_of_length_le (by simp; omega)]
      go_wp2
      go_ret
      exact ⟨by rw [HF.out]; rfl, n, rfl⟩

/-- The row of bytes that is being folded: the first k are folded, the others still nought. -/
def foldRow (s : ByteArray) (k j : Nat) : Value := .int .u8 (if j < k then B.low ((s.data.toList.getD j 0).toNat : Int) else 0)
theorem foldRow_step {w : World} {b t n : Nat} {s : ByteArray} {k : Nat} (h : w.rowIs b t n (foldRow s k)) (hk : k < s.size) :
    (w.setCell ⟨b, k, none⟩ (.int .u8 (B.low ((s[k]).toNat : Int)))).rowIs b t n (foldRow s (k + 1)) := by
  refine (h.set k _).congr fun i _ => ?_
  unfold foldRow
  by_cases e : i = k
  · subst e
    have : s.data.toList.getD i 0 = s[i] := by simp [List.getD, hk]; rfl
    rw [if_pos rfl, if_pos (by omega), this]
  · rw [if_neg e]
    by_cases g : i < k
    · rw [if_pos g, if_pos (by omega)]
    · rw [if_neg g, if_neg (by omega)]
def foldInts (s : ByteArray) : List Int := s.data.toList.map fun c => B.low (c.toNat : Int)
theorem strOf_foldInts (s : ByteArray) : strOfNums (foldInts s) = B.foldS s := by
  unfold strOfNums foldInts B.foldS B.fold
  congr 2
  rw [List.map_map]
  refine List.map_congr_left fun c _ => ?_
  show UInt8.ofNat (B.low (c.toNat : Int)).toNat = B.lowU c
  rw [← B.lowU_toNat]; simp
theorem foldInts_getD (s : ByteArray) (i : Nat) (h : i < s.size) : (foldInts s).getD i 0 = B.low ((s.data.toList.getD i 0).toNat : Int) := by
  have h' : i < s.data.size := h
  have e : s.data[i]? = some s.data[i] := Array.getElem?_eq_getElem h'
  simp [foldInts, List.getD, e]
theorem info_u8 : (Tryz.prog.info? 5).map (fun i => (i.zero, i.size, i.bytes)) = some (some (.int .u8 0), 1, 1) := by kernel_rfl

theorem fold_back {w : World} {b : Nat} {s : ByteArray} (h : w.rowIs b 5 s.size (foldRow s s.size)) :
    (convert 76 9 (.slice (some ⟨b, 0, none⟩) s.size s.size)).run Tryz.prog w = .ok (.string (B.foldS s)) w := by
  rw [← strOf_foldInts]
  refine run_convert_bytes_arg (P := Tryz.prog) w 76 5 Tryz.underlying76 Tryz.underlying5 b 0 s.size s.size (foldInts s) (by simp [foldInts]) (fun i hi => ?_) 9 Tryz.underlying9
  rw [Nat.zero_add, h.cell hi, foldInts_getD s i hi]; unfold foldRow; rw [if_pos hi]

set_option maxHeartbeats 400000 in
theorem Fold_any (s : ByteArray) (w : World) (hs : s.size ≤ 100000) :
    Calls Tryz.prog 39 #[.string s] w fun e w' => e = .returned (.string (B.foldS s)) ∧ Below w.heap.size w w' := by
  have hmk := run_make_row' (P := Tryz.prog) 76 5 (.int .u8 0) 1 Tryz.underlying76 info_u8 rfl .i64 .i64 s.size (by omega) (by omega)
  go_enter Tryz.func39, Tryz.ntmps39
  go_wp2
  go_loopw [4, 10] (fun _ i wr => ∃ k : Nat, k ≤ s.size ∧ i = .int .i64 k ∧ wr.rowIs w.heap.size 5 s.size (foldRow s k) ∧ Below w.heap.size w wr) (fun _ i _ => s.size - (intOf i).toNat)
  case atStart => exact ⟨0, Nat.zero_le _, rfl, World.rowIs_made _ _ _ _, (Below.refl _ _).alloc (Nat.le_refl _) _⟩
  case round =>
    obtain ⟨k, hk, rfl, hrow, hb⟩ := hrel
    clear hmk
    by_cases hlt : k < s.size
    · have hc := hrow.cell hlt
      have hf := hrow.frozen k
      have hby := B.toNat_le s[k]
      go_wp2_with (go_at_call 58; refine (Lower_any _ _ (by omega) (by omega)).mono ?_; rintro e w' ⟨rfl, rfl⟩)
      go_roundw
      case rel => exact ⟨k + 1, by omega, by go_num, foldRow_step hrow hlt, hb.setCell (Nat.le_refl _) _⟩
      case measure => simp [intOf]; omega
    · obtain rfl : k = s.size := by omega
      have hcv := fold_back hrow
      clear hrow
      go_wp2
      go_ret
      exact ⟨rfl, hb⟩
end Go.Proofs.YtnpbnlphmngbdaaGreatDoor
/- Same, few, the document's Token, and All over any function value: contracts. -/
namespace Go.Proofs.YtnpbnlphmngbdaaGreatDoor
open Go.RowKit

def sameS (a b : ByteArray) : Bool := decide (B.fold a.data.toList = B.fold b.data.toList)
theorem sameS_eq (a b : ByteArray) : ((B.foldS a).toList == (B.foldS b).toList) = sameS a b := by
  unfold sameS
  rw [ByteArray.toList_eq, ByteArray.toList_eq]
  show (B.fold a.data.toList == B.fold b.data.toList) = _
  rw [Bool.eq_iff_iff]; simp
theorem ret_str {a b : ByteArray} (h : a = b) : Ending.returned (.string a) = .returned (.string b) := by rw [h]
def fewS (s : ByteArray) : ByteArray := s.extract 0 (min s.size 300)
theorem fewS_size (s : ByteArray) : (fewS s).size ≤ 300 := by unfold fewS; simp [ByteArray.size_extract]; omega

def tokS (s : ByteArray) : Bool := decide (0 < s.size) && s.data.toList.all fun c => B.tok (c.toNat : Int)
end Go.Proofs.YtnpbnlphmngbdaaGreatDoor
/- All, over any function value that answers a byte and keeps what All keeps: its contract. -/
namespace Go.Proofs.YtnpbnlphmngbdaaGreatDoor
open Go.RowKit

/-- The bytes that are asked, one behind the other, until one is not so: the answer, and what was asked. -/
def asks (p : List UInt8 → UInt8 → Bool) (pre : List UInt8) : List UInt8 → Bool × List UInt8
  | [] => (true, pre)
  | c :: r => if p pre c then asks p (pre ++ [c]) r else (false, pre ++ [c])
theorem asks_append (p : List UInt8 → UInt8 → Bool) : ∀ (l m : List UInt8) (pre : List UInt8), (asks p pre l).1 = true → asks p pre (l ++ m) = asks p (pre ++ l) m
  | [], m, pre, _ => by simp
  | c :: l, m, pre, h => by
    simp only [asks, List.cons_append] at h ⊢
    by_cases hp : p pre c = true
    · rw [if_pos hp] at h ⊢; rw [asks_append p l m _ h]; simp
    · rw [if_neg hp] at h; simp at h
theorem asks_pre (p : List UInt8 → UInt8 → Bool) : ∀ (l pre : List UInt8), (asks p pre l).1 = true → (asks p pre l).2 = pre ++ l
  | [], pre, _ => by simp [asks]
  | c :: l, pre, h => by
    simp only [asks] at h ⊢
    by_cases hp : p pre c = true
    · rw [if_pos hp] at h ⊢; rw [asks_pre p l _ h]; simp
    · rw [if_neg hp] at h; simp at h

theorem asks_go (p : List UInt8 → UInt8 → Bool) (q : List UInt8) (c : UInt8) (h : (asks p [] q).1 = true) (hc : p q c = true) : (asks p [] (q ++ [c])).1 = true := by
  rw [asks_append p q [c] [] h]; simp [asks, hc]
theorem asks_stop (p : List UInt8 → UInt8 → Bool) (q : List UInt8) (c : UInt8) (r : List UInt8) (h : (asks p [] q).1 = true) (hc : p q c = false) : asks p [] (q ++ c :: r) = (false, q ++ [c]) := by
  rw [asks_append p q (c :: r) [] h]; simp [asks, hc]
/-- The bytes of texts, one behind the other. -/
def flat (ss : List ByteArray) : List UInt8 := ss.flatMap (·.data.toList)
theorem flat_cut (ss : List ByteArray) (k : Nat) (h : k < ss.length) : flat ss = flat (ss.take k) ++ (ss[k].data.toList ++ flat (ss.drop (k + 1))) := by
  have e : ss = ss.take k ++ (ss[k] :: ss.drop (k + 1)) := by rw [← List.drop_eq_getElem_cons h, List.take_append_drop]
  unfold flat
  conv => lhs; rw [e]
  rw [List.flatMap_append, List.flatMap_cons]
theorem flat_snoc (ss : List ByteArray) (k : Nat) (h : k < ss.length) : flat (ss.take (k + 1)) = flat (ss.take k) ++ ss[k].data.toList := by
  unfold flat
  rw [List.take_succ_eq_append_getElem h, List.flatMap_append, List.flatMap_cons, List.flatMap_nil, List.append_nil]
theorem asks_end {p : List UInt8 → UInt8 → Bool} {f pre sl rest t d : List UInt8} {c : UInt8} (hf : f = pre ++ (sl ++ rest)) (hs : sl = t ++ c :: d) (hy : (asks p [] (pre ++ t)).1 = true) (hc : p (pre ++ t) c = false) : asks p [] f = (false, pre ++ t ++ [c]) := by
  rw [← asks_stop p (pre ++ t) c (d ++ rest) hy hc, hf, hs]
  congr 1
  simp

theorem cut_at {f pre sl rest t d : List UInt8} {c : UInt8} (hf : f = pre ++ (sl ++ rest)) (hs : sl = t ++ c :: d) : f = (pre ++ t) ++ c :: (d ++ rest) := by rw [hf, hs]; simp
theorem catch_idle (p : Addr) (w : World) :
    CallsD Tryz.prog 127 #[.pointer (some p)] .returning w fun e u' w' => e = .returned (.tuple #[]) ∧ u' = .returning ∧ w' = w := by
  refine callsD_of_wpS Tryz.func127 rfl fun c₀ cs hu => ?_
  apply wpS_seq
  apply wpS_region
  simp [wpOpsS, go_sem, recoverD, hu, Tryz.ntmps127, Exit.thenS]
  refine wpS_cond (t := false) (by simp [Act.eval, Array.replicate]) ?_
  simp only [Bool.false_eq_true, if_false]
  refine wpS_of_wp (wp_skip ?_)
  cases c₀
  simp_all [bodyPostS, results, Tryz.results127]

set_option maxHeartbeats 400000 in
theorem All_any (g : Nat) (first cap : Array Value) (p : List UInt8 → UInt8 → Bool) (Inv : List UInt8 → World → Prop) (x : Addr) (len cp : Nat) (ss : List ByteArray) (hlen : ss.length = len) (hm : len ≤ 100000) (hss : ∀ s ∈ ss, s.size ≤ 100000) (w : World)
    (eg : ∀ args w, (callFunc g args).run Tryz.prog w = .ok (.enter g args) w)
    (h0 : Inv [] (w.alloc (.cells #[.bool false] 4)))
    (hcell : ∀ pre W, Inv pre W → W.cell? ⟨w.heap.size, 0, none⟩ = some (.bool false) ∧ W.frozen? ⟨w.heap.size, 0, none⟩ = false ∧ ∀ i, i < len → W.cell? (x.add i) = some (.string (ss.getD i ByteArray.empty)))
    (hcall : ∀ pre c r W, flat ss = pre ++ c :: r → (asks p [] pre).1 = true → Inv pre W → Calls Tryz.prog g (first ++ #[.int .u8 (c.toNat : Int)] ++ cap) W fun e W' => e = .returned (.bool (p pre c)) ∧ Inv (pre ++ [c]) W') :
    Calls Tryz.prog 116 #[.func (.func g) first cap, .slice (some x) len cp] w fun e w' => ∃ W, e = .returned (.bool (asks p [] (flat ss)).1) ∧ Inv (asks p [] (flat ss)).2 W ∧ w' = W.setCell ⟨w.heap.size, 0, none⟩ (.bool (asks p [] (flat ss)).1) := by
  have hmf : ∀ (fn : Fn) (first cap : Array Value) (w : World), (Instr.makeFunc fn first cap).run Tryz.prog w = .ok (.func fn first cap) w := fun _ _ _ _ => rfl
  have hcallH := Lib.hid hcall
  have hcellH := Lib.hid hcell
  have hssH := Lib.hid hss
  have hlenH := Lib.hid hlen
  clear hcall hcell hss hlen
  go_enter_defers Tryz.func116, Tryz.ntmps116
  go_wp2
  go_loopw [6, 7, 11, 15, 16, 17] (fun _ _ i _ _ _ wr => ∃ k : Nat, k ≤ len ∧ i = .int .i64 k ∧ (asks p [] (flat (ss.take k))).1 = true ∧ Inv (flat (ss.take k)) wr) (fun _ _ i _ _ _ _ => len - (intOf i).toNat)
  case atStart => exact ⟨0, Nat.zero_le _, rfl, rfl, h0⟩
  case round =>
    obtain ⟨k, hk, rfl, hyes, hinv⟩ := hrel
    have HY := Lib.hid hyes
    clear hyes h0
    by_cases hlt : k < len
    · have hkl : k < ss.length := by rw [hlenH.out]; exact hlt
      obtain ⟨s, hs⟩ : ∃ s, s = ss[k] := ⟨_, rfl⟩
      have hcut : flat ss = flat (ss.take k) ++ (s.data.toList ++ flat (ss.drop (k + 1))) := by rw [hs]; exact flat_cut ss k hkl
      have hsn : flat (ss.take (k + 1)) = flat (ss.take k) ++ s.data.toList := by rw [hs]; exact flat_snoc ss k hkl
      have hsz : s.size ≤ 100000 := by rw [hs]; exact hssH.out _ (List.getElem_mem _)
      have hc4 : wr.cell? (x.add k) = some (.string s) := by rw [(hcellH.out _ _ hinv).2.2 k hlt, hs]; simp [List.getD, hkl]
      have HC := Lib.hid hcut
      have HN := Lib.hid hsn
      clear hcut hsn hkl hs
      generalize hpre : flat (ss.take k) = pre at *
      clear hpre
      go_wp2
      go_loopw [7, 17] (fun _ j wi => ∃ n : Nat, n ≤ s.size ∧ j = .int .i64 n ∧ (asks p [] (pre ++ s.data.toList.take n)).1 = true ∧ Inv (pre ++ s.data.toList.take n) wi) (fun _ j _ => s.size - (intOf j).toNat)
      case atStart => exact ⟨0, Nat.zero_le _, rfl, by simpa using HY.out, by simpa using hinv⟩
      case round =>
        clear hc4 hinv
        obtain ⟨n, hn, rfl, hyn, hinv⟩ := hrel
        have HYN := Lib.hid hyn
        clear hyn
        by_cases hnt : n < s.size
        · have hT := B.take_snocB s n hnt
          have hD := B.cutB s n hnt
          by_cases hp : p (pre ++ s.data.toList.take n) s[n] = true
          · have HG := Lib.hid (asks_go p _ _ HYN.out hp)
            have HP := Lib.hid hp
            have HT := Lib.hid hT
            have hcl := Lib.hid (cut_at HC.out hD)
            clear hp hT hD
            go_wp2_with fail
            refine (hcallH.out _ s[n] _ _ hcl.out HYN.out hinv).mono ?_
            rintro e w2 ⟨rfl, hinv2⟩
            rw [HP.out]
            rw [List.append_assoc, ← HT.out] at hinv2
            go_wp2
            go_roundw
            case rel => exact ⟨n + 1, by omega, by go_num, by rw [HT.out, ← List.append_assoc]; exact HG.out, hinv2⟩
            case measure => simp [intOf]; omega
          · have hp' : p (pre ++ s.data.toList.take n) s[n] = false := by simpa using hp
            have hend := Lib.hid (asks_end HC.out hD HYN.out hp')
            have HP := Lib.hid hp'
            have hcl := Lib.hid (cut_at HC.out hD)
            clear hp hp' hT hD
            go_wp2_with fail
            refine (hcallH.out _ s[n] _ _ hcl.out HYN.out hinv).mono ?_
            rintro e w2 ⟨rfl, hinv2⟩
            rw [HP.out]
            obtain ⟨hc1, hc2, -⟩ := hcellH.out _ _ hinv2
            go_wp2
            refine leaves_cons (f := 127) (args := #[.pointer (some ⟨w.heap.size, 0, none⟩)]) (by simp) (by simp [go_sem]) ?_
            refine (catch_idle ⟨w.heap.size, 0, none⟩ _).mono ?_
            rintro e u' w'' ⟨rfl, rfl, rfl⟩
            have hc3 : (w2.setCell ⟨w.heap.size, 0, none⟩ (.bool false)).cell? ⟨w.heap.size, 0, none⟩ = some (.bool false) := by simp [go_sem, hc1]
            simp [Leaves, settle, results, Tryz.results116, go_sem, hc3]
            rw [hend.out]
            exact ⟨rfl, w2, hinv2, rfl⟩
        · have hT : s.data.toList.take n = s.data.toList := List.take_of_length_le (by simp; omega)
          have HT := Lib.hid hT
          clear hT
          go_wp2
          go_roundw
          case rel => exact ⟨k + 1, by omega, by go_num, by rw [HN.out, ← HT.out]; exact HYN.out, by rw [HN.out, ← HT.out]; exact hinv⟩
          case measure => simp [intOf]; omega
    · have hT : ss.take k = ss := List.take_of_length_le (by rw [hlenH.out]; omega)
      rw [hT] at hinv
      obtain ⟨hc1, hc2, -⟩ := hcellH.out _ _ hinv
      have HE : Hid (asks p [] (flat ss) = (true, flat ss)) := by
        show _ = _
        have h1 := HY.out
        rw [hT] at h1
        exact Prod.ext h1 (by rw [asks_pre p _ _ h1]; rfl)
      clear hT
      go_wp2
      refine leaves_cons (f := 127) (args := #[.pointer (some ⟨w.heap.size, 0, none⟩)]) (by simp) (by simp [go_sem]) ?_
      refine (catch_idle ⟨w.heap.size, 0, none⟩ _).mono ?_
      rintro e u' w'' ⟨rfl, rfl, rfl⟩
      have hc3 : (wr.setCell ⟨w.heap.size, 0, none⟩ (.bool true)).cell? ⟨w.heap.size, 0, none⟩ = some (.bool true) := by simp [go_sem, hc1]
      simp [Leaves, settle, results, Tryz.results116, go_sem, hc3]
      rw [HE.out]
      exact ⟨rfl, wr, hinv, rfl⟩

set_option maxHeartbeats 400000 in
theorem All_nil (f : Value) (w : World) :
    Calls Tryz.prog 116 #[f, .slice none 0 0] w fun e w' => e = .returned (.bool true) ∧ w' = (w.alloc (.cells #[.bool false] 4)).setCell ⟨w.heap.size, 0, none⟩ (.bool true) := by
  have hmf : ∀ (fn : Fn) (first cap : Array Value) (w : World), (Instr.makeFunc fn first cap).run Tryz.prog w = .ok (.func fn first cap) w := fun _ _ _ _ => rfl
  go_enter_defers Tryz.func116, Tryz.ntmps116
  go_wp2
  refine wp_loop_rounds 1 ?_
  rw [rounds_succ]
  go_wp2
  refine leaves_cons (f := 127) (args := #[.pointer (some ⟨w.heap.size, 0, none⟩)]) (by simp) (by simp [go_sem]) ?_
  refine (catch_idle ⟨w.heap.size, 0, none⟩ _).mono ?_
  rintro e u' w'' ⟨rfl, rfl, rfl⟩
  simp [Leaves, settle, results, Tryz.results116, go_sem]

/-! Token: All of IsToken. -/
theorem asks_pure (q : UInt8 → Bool) : ∀ (l pre : List UInt8), (asks (fun _ c => q c) pre l).1 = l.all q
  | [], _ => rfl
  | c :: l, pre => by
    simp only [asks, List.all_cons]
    by_cases h : q c = true
    · rw [if_pos h, h, asks_pure q l]; rfl
    · rw [if_neg h]; simp at h; simp [h]
theorem alloc2_cell (w : World) (o : Value) (v : Value) (t u : TypeId) : ((w.alloc (.cells #[o] t)).alloc (.cells #[v] u)).cell? ⟨w.heap.size, 0, none⟩ = some o := by
  simp [go_sem]
end Go.Proofs.YtnpbnlphmngbdaaGreatDoor
/- Token by All, and the page's examples: contracts. -/
namespace Go.Proofs.YtnpbnlphmngbdaaGreatDoor
open Go.RowKit

theorem tokS_all (s : ByteArray) (h : 0 < s.size) : (asks (fun _ c => B.tok (c.toNat : Int)) [] (flat [s])).1 = tokS s := by
  rw [asks_pure]; unfold tokS flat; simp [h]
end Go.Proofs.YtnpbnlphmngbdaaGreatDoor
