/- Classes of bytes as plain Boolean functions of an integer from 0 to 255, and folding of texts as plain functions on lists of bytes. Nothing here speaks of the program. -/
import Derived.WalkKit
namespace Go.Proofs.YtchhjmdbjndckaaDoor
namespace B
/-- One of the bytes of a text. -/
def inL (l : List UInt8) (n : Int) : Bool := l.any fun c => decide ((c.toNat : Int) = n)
def inS (s : ByteArray) (n : Int) : Bool := inL s.data.toList n
def dig (n : Int) : Bool := decide (48 ≤ n) && decide (n ≤ 57)
def cap (n : Int) : Bool := decide (65 ≤ n) && decide (n ≤ 90)
def sml (n : Int) : Bool := decide (97 ≤ n) && decide (n ≤ 122)
def alp (n : Int) : Bool := sml n || cap n
def lod (n : Int) : Bool := alp n || dig n
def hex (n : Int) : Bool := dig n || (decide (97 ≤ n) && decide (n ≤ 102)) || (decide (65 ≤ n) && decide (n ≤ 70))
def bla (n : Int) : Bool := decide (n = 32) || decide (n = 9)
def vis (n : Int) : Bool := decide (33 ≤ n) && decide (n ≤ 126)
def tok (n : Int) : Bool := lod n || inL [33, 35, 36, 37, 38, 39, 42, 43, 45, 46, 94, 95, 96, 124, 126] n
def val (n : Int) : Bool := vis n || bla n || decide (127 < n)
def unr (n : Int) : Bool := lod n || inL [45, 46, 95, 126] n
def sub (n : Int) : Bool := inL [33, 36, 38, 39, 40, 41, 42, 43, 44, 59, 61] n
def pat (n : Int) : Bool := unr n || sub n || inL [58, 64] n
def low (n : Int) : Int := if cap n then n + 32 else n
def lowU (c : UInt8) : UInt8 := if 65 ≤ c ∧ c ≤ 90 then c + 32 else c
def fold (l : List UInt8) : List UInt8 := l.map lowU
def foldS (s : ByteArray) : ByteArray := ⟨(fold s.data.toList).toArray⟩

theorem byte_all {p : Int → Bool} (h : ∀ i : Fin 256, p (i.val : Int) = true) (n : Int) (h0 : 0 ≤ n) (h1 : n ≤ 255) : p n = true := by
  obtain ⟨k, rfl⟩ := Int.eq_ofNat_of_zero_le h0
  exact h ⟨k, by omega⟩
theorem byte_eq {p q : Int → Bool} (h : ∀ i : Fin 256, (p (i.val : Int) == q (i.val : Int)) = true) (n : Int) (h0 : 0 ≤ n) (h1 : n ≤ 255) : p n = q n :=
  eq_of_beq (byte_all (p := fun n => p n == q n) h n h0 h1)
theorem toNat_le (c : UInt8) : (c.toNat : Int) ≤ 255 := by have := c.toNat_lt; omega
theorem wf_u8 (n : Int) (h0 : 0 ≤ n) (h1 : n ≤ 255) : (Lit.int .u8 n).wf = true := by exact WalkArith.wf_u8 (by omega)
theorem lowU_toNat (c : UInt8) : ((lowU c).toNat : Int) = low (c.toNat : Int) := by
  have h : ∀ i : Fin 256, (decide (((lowU (UInt8.ofNat i.val)).toNat : Int) = low ((UInt8.ofNat i.val).toNat : Int))) = true := by decide +kernel
  have := h ⟨c.toNat, c.toNat_lt⟩
  simpa using this
theorem lowU_lowU (c : UInt8) : lowU (lowU c) = lowU c := by
  have h : ∀ i : Fin 256, (decide (lowU (lowU (UInt8.ofNat i.val)) = lowU (UInt8.ofNat i.val))) = true := by decide +kernel
  have := h ⟨c.toNat, c.toNat_lt⟩
  simpa using this
theorem fold_fold (l : List UInt8) : fold (fold l) = fold l := by
  unfold fold; rw [List.map_map]; exact List.map_congr_left fun c _ => lowU_lowU c
theorem fold_length (l : List UInt8) : (fold l).length = l.length := by simp [fold]
theorem inL_cons (c : UInt8) (l : List UInt8) (n : Int) : inL (c :: l) n = (decide ((c.toNat : Int) = n) || inL l n) := rfl
theorem inL_nil (n : Int) : inL [] n = false := rfl
theorem inL_append (l m : List UInt8) (n : Int) : inL (l ++ m) n = (inL l n || inL m n) := by simp [inL]
theorem take_snoc (l : List UInt8) (k : Nat) (h : k < l.length) : l.take (k + 1) = l.take k ++ [l[k]] := by
  rw [List.take_succ_eq_append_getElem h]
/-- The letter that stands for u once the first j great letters have been looked at. -/
def cU (u : UInt8) (j : Nat) : UInt8 := if 65 ≤ u.toNat ∧ u.toNat < 65 + j then u + 32 else u
theorem cU_zero (u : UInt8) : cU u 0 = u := by unfold cU; rw [if_neg (by omega)]
theorem cU_end (u : UInt8) : cU u 26 = lowU u := by
  unfold cU lowU
  have e : (65 ≤ u ∧ u ≤ 90) ↔ (65 ≤ u.toNat ∧ u.toNat < 65 + 26) := by simp [UInt8.le_iff_toNat_le]; omega
  by_cases h : 65 ≤ u.toNat ∧ u.toNat < 65 + 26
  · rw [if_pos h, if_pos (e.2 h)]
  · rw [if_neg h, if_neg (fun g => h (e.1 g))]
theorem cU_hit (u : UInt8) (j : Nat) (h : u.toNat = 65 + j) : cU u (j + 1) = u + 32 := by unfold cU; rw [if_pos (by omega)]
theorem cU_miss (u : UInt8) (j : Nat) (h : u.toNat ≠ 65 + j) : cU u (j + 1) = cU u j := by
  unfold cU
  by_cases g : 65 ≤ u.toNat ∧ u.toNat < 65 + j
  · rw [if_pos g, if_pos (by omega)]
  · rw [if_neg g, if_neg (by omega)]
theorem extract_one (s : ByteArray) (k : Nat) (h : k < s.size) : s.extract k (k + 1) = ⟨#[s[k]]⟩ := by
  have h' : k < s.data.toList.length := by simpa using h
  apply ByteArray.ext
  apply Array.ext'
  rw [ByteArray.data_extract, Array.toList_extract, List.extract_eq_take_drop, List.drop_eq_getElem_cons h']
  simp
  rfl
theorem great_at (j : Nat) (p : j < (⟨#[65, 66, 67, 68, 69, 70, 71, 72, 73, 74, 75, 76, 77, 78, 79, 80, 81, 82, 83, 84, 85, 86, 87, 88, 89, 90]⟩ : ByteArray).size) : ((⟨#[65, 66, 67, 68, 69, 70, 71, 72, 73, 74, 75, 76, 77, 78, 79, 80, 81, 82, 83, 84, 85, 86, 87, 88, 89, 90]⟩ : ByteArray)[j]'p).toNat = 65 + j := by
  have h : ∀ i : Fin 26, ((⟨#[65, 66, 67, 68, 69, 70, 71, 72, 73, 74, 75, 76, 77, 78, 79, 80, 81, 82, 83, 84, 85, 86, 87, 88, 89, 90]⟩ : ByteArray)[i.val]'i.isLt).toNat = 65 + i.val := by decide +kernel
  exact h ⟨j, p⟩
theorem great_hit {j : Nat} {u : UInt8} {p : j < (⟨#[65, 66, 67, 68, 69, 70, 71, 72, 73, 74, 75, 76, 77, 78, 79, 80, 81, 82, 83, 84, 85, 86, 87, 88, 89, 90]⟩ : ByteArray).size} (h : ((((⟨#[65, 66, 67, 68, 69, 70, 71, 72, 73, 74, 75, 76, 77, 78, 79, 80, 81, 82, 83, 84, 85, 86, 87, 88, 89, 90]⟩ : ByteArray)[j]'p).toNat : Int) == (u.toNat : Int)) = true) : u.toNat = 65 + j := by
  rw [great_at] at h; have := eq_of_beq h; omega
theorem great_miss {j : Nat} {u : UInt8} {p : j < (⟨#[65, 66, 67, 68, 69, 70, 71, 72, 73, 74, 75, 76, 77, 78, 79, 80, 81, 82, 83, 84, 85, 86, 87, 88, 89, 90]⟩ : ByteArray).size} (h : ((((⟨#[65, 66, 67, 68, 69, 70, 71, 72, 73, 74, 75, 76, 77, 78, 79, 80, 81, 82, 83, 84, 85, 86, 87, 88, 89, 90]⟩ : ByteArray)[j]'p).toNat : Int) == (u.toNat : Int)) = false) : u.toNat ≠ 65 + j := by
  rw [great_at] at h; intro e; rw [e] at h; simp at h
theorem small_cut (u : UInt8) (j : Nat) (hj : j < 26) (h : u.toNat = 65 + j) : (⟨#[97, 98, 99, 100, 101, 102, 103, 104, 105, 106, 107, 108, 109, 110, 111, 112, 113, 114, 115, 116, 117, 118, 119, 120, 121, 122]⟩ : ByteArray).extract j (j + 1) = ⟨#[cU u (j + 1)]⟩ := by
  rw [cU_hit u j h]
  obtain rfl : u = UInt8.ofNat (65 + j) := by rw [← h]; simp
  have h : ∀ i : Fin 26, (⟨#[97, 98, 99, 100, 101, 102, 103, 104, 105, 106, 107, 108, 109, 110, 111, 112, 113, 114, 115, 116, 117, 118, 119, 120, 121, 122]⟩ : ByteArray).extract i.val (i.val + 1) = ⟨#[UInt8.ofNat (65 + i.val) + 32]⟩ := by decide +kernel
  exact h ⟨j, hj⟩
theorem fold_snoc (s : ByteArray) (k : Nat) (hlt : k < s.size) : (⟨(fold (s.data.toList.take k)).toArray⟩ : ByteArray) ++ ⟨#[lowU s[k]]⟩ = ⟨(fold (s.data.toList.take (k + 1))).toArray⟩ := by
  rw [take_snoc _ _ (by simpa using hlt)]
  apply ByteArray.ext; apply Array.ext'
  simp [fold]
  rfl
theorem take_snocB (s : ByteArray) (k : Nat) (h : k < s.size) : s.data.toList.take (k + 1) = s.data.toList.take k ++ [s[k]] := take_snoc _ _ (by simpa using h)
theorem cutB (s : ByteArray) (k : Nat) (h : k < s.size) : s.data.toList = s.data.toList.take k ++ (s[k] :: s.data.toList.drop (k + 1)) := by
  conv => lhs; rw [← List.take_append_drop (k + 1) s.data.toList, take_snocB s k h]
  simp
theorem all_snoc (p : UInt8 → Bool) (s : ByteArray) (k : Nat) (h : k < s.size) (h0 : (s.data.toList.take k).all p = true) (h1 : p s[k] = true) : (s.data.toList.take (k + 1)).all p = true := by
  rw [take_snocB s k h, List.all_append, h0]; simp [h1]
theorem all_no (p : UInt8 → Bool) (s : ByteArray) (k : Nat) (h : k < s.size) (h1 : p s[k] = false) : s.data.toList.all p = false := by
  rw [cutB s k h, List.all_append, List.all_cons, h1]; simp
theorem all_yes (p : UInt8 → Bool) (s : ByteArray) (k : Nat) (h : ¬ k < s.size) (h0 : (s.data.toList.take k).all p = true) : s.data.toList.all p = true := by
  rwa [List.take_of_length_le (by simp; omega)] at h0
theorem extract_all (s : ByteArray) : s.extract 0 s.size = s := by
  apply ByteArray.ext
  simp
end B
end Go.Proofs.YtchhjmdbjndckaaDoor
