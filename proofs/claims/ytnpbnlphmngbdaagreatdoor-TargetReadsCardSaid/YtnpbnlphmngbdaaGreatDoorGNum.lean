/- Contracts and lemmas that the claim rests on: NumA NumB NumC NumD NumF NumG NumH NumI NumK8. -/
import Derived.Test.YtnpbnlphmngbdaaGreatDoorGOct
import Derived.Lib.ItoaNum
import Derived.Test.YtnpbnlphmngbdaaGreatDoorGScan
import Derived.Laws.Bits64b
import Derived.Lib.ItoaMem
import Derived.Laws.IdiomStrings
import Derived.Shelf.Strconv.Itoa4
import Derived.Lib.LaidTab
import Derived.Lib.AppendIntMem
import Derived.Stop.LaidErr
import Derived.Lay
import Derived.LaidLaws
import Derived.ProofKit
import Derived.OpenShut
/- Numerals: a number's digits to a base, their text, what a text of digits stands for, and which of two texts is the lesser number. Nothing here speaks of the program. -/
namespace Go.Proofs.YtnpbnlphmngbdaaGreatDoor
namespace Nu
/-- The digits of a number to a base, the first one ahead. -/
def digs (b n : Nat) : List Nat := if _h : n < b ∨ b < 2 then [n] else digs b (n / b) ++ [n % b]
termination_by n
decreasing_by exact Nat.div_lt_self (by omega) (by omega)
/-- What a byte stands for as a digit; -1: it is none. -/
def hexv (n : Int) : Int := if 48 ≤ n ∧ n ≤ 57 then n - 48 else if 97 ≤ n ∧ n ≤ 102 then n - 87 else if 65 ≤ n ∧ n ≤ 70 then n - 55 else -1
/-- The same where the base is b. -/
def wor (b : Nat) (n : Int) : Int := if hexv n < b then hexv n else -1
def dc (d : Nat) : UInt8 := if d < 10 then UInt8.ofNat (48 + d) else UInt8.ofNat (87 + d)
def dv (c : UInt8) : Nat := (hexv (c.toNat : Int)).toNat
def isD (b : Nat) (c : UInt8) : Bool := decide (0 ≤ wor b (c.toNat : Int))
/-- The number of digits, behind a number that is there. -/
def V (b a : Nat) (l : List Nat) : Nat := l.foldl (fun a d => a * b + d) a
def val (b : Nat) (l : List UInt8) : Nat := V b 0 (l.map dv)
def textL (b n : Nat) : List UInt8 := (digs b n).map dc
def text (b n : Nat) : ByteArray := ⟨(textL b n).toArray⟩

theorem V_nil (b a : Nat) : V b a [] = a := rfl
theorem V_cons (b a d : Nat) (l : List Nat) : V b a (d :: l) = V b (a * b + d) l := rfl
theorem V_append (b a : Nat) (l m : List Nat) : V b a (l ++ m) = V b (V b a l) m := by simp [V]
theorem V_snoc (b a d : Nat) (l : List Nat) : V b a (l ++ [d]) = V b a l * b + d := by simp [V]
theorem V_le (b : Nat) (hb : 1 ≤ b) : ∀ (l : List Nat) (a : Nat), a ≤ V b a l
  | [], a => Nat.le_refl a
  | d :: l, a => by
    rw [V_cons]
    have h1 := V_le b hb l (a * b + d)
    have h2 : a * 1 ≤ a * b := Nat.mul_le_mul_left a hb
    omega
theorem V_lt (b : Nat) (_hb : 1 ≤ b) : ∀ (l m : List Nat) (a a' : Nat), l.length = m.length → (∀ d ∈ l, d < b) → a < a' → V b a l < V b a' m
  | [], [], a, a', _, _, h => h
  | [], _ :: _, _, _, hl, _, _ => by simp at hl
  | _ :: _, [], _, _, hl, _, _ => by simp at hl
  | x :: l, y :: m, a, a', hl, hd, h => by
    rw [V_cons, V_cons]
    refine V_lt b _hb l m _ _ (by simpa using hl) (fun d h => hd d (List.mem_cons_of_mem _ h)) ?_
    have hx := hd x List.mem_cons_self
    have h2 : (a + 1) * b ≤ a' * b := Nat.mul_le_mul_right b h
    rw [Nat.add_mul] at h2
    omega
theorem digs_small {b n : Nat} (h : n < b) : digs b n = [n] := by rw [digs, dif_pos (Or.inl h)]
theorem digs_big {b n : Nat} (hb : 2 ≤ b) (h : ¬ n < b) : digs b n = digs b (n / b) ++ [n % b] := by rw [digs, dif_neg (by omega)]
theorem div_lt {b n : Nat} (hb : 2 ≤ b) (h : ¬ n < b) : n / b < n := Nat.div_lt_self (by omega) (by omega)
theorem digs_V (b : Nat) (hb : 2 ≤ b) (n : Nat) : V b 0 (digs b n) = n := by
  induction n using Nat.strongRecOn with
  | ind n ih =>
    by_cases h : n < b
    · rw [digs_small h, V_cons, V_nil]; omega
    · rw [digs_big hb h, V_snoc, ih _ (div_lt hb h), Nat.mul_comm]; exact Nat.div_add_mod n b
theorem digs_lt (b : Nat) (hb : 2 ≤ b) (n : Nat) : ∀ d ∈ digs b n, d < b := by
  induction n using Nat.strongRecOn with
  | ind n ih =>
    by_cases h : n < b
    · rw [digs_small h]; intro d hd; rw [List.mem_singleton] at hd; omega
    · rw [digs_big hb h]
      intro d hd
      rcases List.mem_append.1 hd with hd | hd
      · exact ih _ (div_lt hb h) d hd
      · rw [List.mem_singleton] at hd; rw [hd]; exact Nat.mod_lt _ (by omega)
theorem digs_ne (b : Nat) (hb : 2 ≤ b) (n : Nat) : digs b n ≠ [] := by
  by_cases h : n < b
  · rw [digs_small h]; simp
  · rw [digs_big hb h]; simp
theorem digs_len (b : Nat) (hb : 2 ≤ b) (n : Nat) : ∀ m, n ≤ m → (digs b n).length ≤ (digs b m).length := by
  induction n using Nat.strongRecOn with
  | ind n ih =>
    intro m hm
    by_cases h : n < b
    · rw [digs_small h]
      have := List.length_pos_iff.2 (digs_ne b hb m)
      simp only [List.length_singleton]; omega
    · rw [digs_big hb h, digs_big hb (by omega : ¬ m < b)]
      simp only [List.length_append, List.length_singleton]
      have := ih _ (div_lt hb h) (m / b) (Nat.div_le_div_right hm)
      omega
theorem digs_size (b : Nat) (hb : 2 ≤ b) (n k : Nat) (h : n < 2 ^ k) (hk : 1 ≤ k) : (digs b n).length ≤ k := by
  induction n using Nat.strongRecOn generalizing k with
  | ind n ih =>
    by_cases hn : n < b
    · rw [digs_small hn]; simpa using hk
    · rw [digs_big hb hn]
      simp only [List.length_append, List.length_singleton]
      have h2 : 2 ≤ k := by
        rcases Nat.lt_or_ge k 2 with h1 | h1
        · obtain rfl : k = 1 := by omega
          omega
        · exact h1
      have h3 : n / b < 2 ^ (k - 1) := by
        have e : 2 ^ k = 2 * 2 ^ (k - 1) := by rw [← Nat.pow_succ']; congr 1; omega
        have : n / b ≤ n / 2 := Nat.div_le_div_left hb (by omega)
        omega
      have := ih _ (div_lt hb hn) (k - 1) h3 (by omega)
      omega
/-! Bytes of digits. -/
theorem hexv_dc : ∀ d, d < 16 → hexv ((dc d).toNat : Int) = d := by
  have h : ∀ i : Fin 16, hexv ((dc i.val).toNat : Int) = i.val := by decide +kernel
  exact fun d hd => h ⟨d, hd⟩
theorem dv_dc (d : Nat) (h : d < 16) : dv (dc d) = d := by unfold dv; rw [hexv_dc d h]; simp
theorem isD_dc (b d : Nat) (h : d < b) (hb : b ≤ 16) : isD b (dc d) = true := by
  unfold isD wor; rw [hexv_dc d (by omega), if_pos (by omega)]; simp
theorem textL_val (b : Nat) (hb : 2 ≤ b) (hb' : b ≤ 16) (n : Nat) : val b (textL b n) = n := by
  unfold val textL
  rw [List.map_map]
  have : (digs b n).map (dv ∘ dc) = digs b n := by
    conv => rhs; rw [← List.map_id (digs b n)]
    exact List.map_congr_left fun d hd => dv_dc d (by have := digs_lt b hb n d hd; omega)
  rw [this]
  exact digs_V b hb n
theorem textL_isD (b : Nat) (hb : 2 ≤ b) (hb' : b ≤ 16) (n : Nat) : (textL b n).all (isD b) = true := by
  unfold textL
  rw [List.all_map, List.all_eq_true]
  intro d hd
  exact isD_dc b d (digs_lt b hb n d hd) hb'
theorem textL_ne (b : Nat) (hb : 2 ≤ b) (n : Nat) : textL b n ≠ [] := by unfold textL; simp [digs_ne b hb n]
theorem textL_small {b n : Nat} (h : n < b) : textL b n = [dc n] := by unfold textL; rw [digs_small h]; rfl
theorem textL_big {b n : Nat} (hb : 2 ≤ b) (h : ¬ n < b) : textL b n = textL b (n / b) ++ [dc (n % b)] := by unfold textL; rw [digs_big hb h]; simp
theorem textL_size (b : Nat) (hb : 2 ≤ b) (n : Nat) (h : n < 2 ^ 64) : (textL b n).length ≤ 64 := by unfold textL; rw [List.length_map]; exact digs_size b hb n 64 h (by omega)
theorem text_size (b : Nat) (hb : 2 ≤ b) (n : Nat) (h : n < 2 ^ 64) : (text b n).size ≤ 64 := by
  have := textL_size b hb n h
  simpa [text, ByteArray.size] using this
theorem decDigits_text (n : Nat) : Lib.decDigits n = textL 10 n := by
  induction n using Nat.strongRecOn with
  | ind n ih =>
    by_cases h : n < 10
    · rw [Lib.decDigits_one h, textL_small h]; unfold dc; rw [if_pos h]
    · rw [Lib.decDigits, dif_neg h, textL_big (by omega) h, ih _ (div_lt (by omega) h)]
      unfold dc
      rw [if_pos (Nat.mod_lt _ (by omega))]
/-! The lesser of two texts. -/
theorem dc_lt (x y : Nat) (hx : x < 16) (hy : y < 16) : (decide (dc x < dc y)) = decide (x < y) := by
  have h : ∀ i j : Fin 16, (decide (dc i.val < dc j.val)) = decide (i.val < j.val) := by decide +kernel
  exact h ⟨x, hx⟩ ⟨y, hy⟩
theorem dc_eq (x y : Nat) (hx : x < 16) (hy : y < 16) : (dc x == dc y) = decide (x = y) := by
  have h : ∀ i j : Fin 16, (dc i.val == dc j.val) = decide (i.val = j.val) := by decide +kernel
  exact h ⟨x, hx⟩ ⟨y, hy⟩
theorem less_V (b : Nat) (hb : 1 ≤ b) (hb' : b ≤ 16) : ∀ (l m : List Nat) (a : Nat), l.length = m.length → (∀ d ∈ l, d < b) → (∀ d ∈ m, d < b) → Op.bytesLess (l.map dc) (m.map dc) = decide (V b a l < V b a m)
  | [], [], a, _, _, _ => by simp [Op.bytesLess, V_nil]
  | [], _ :: _, _, hl, _, _ => by simp at hl
  | _ :: _, [], _, hl, _, _ => by simp at hl
  | x :: l, y :: m, a, hl, h1, h2 => by
    have hx := h1 x List.mem_cons_self
    have hy := h2 y List.mem_cons_self
    have h1' : ∀ d ∈ l, d < b := fun d h => h1 d (List.mem_cons_of_mem _ h)
    have h2' : ∀ d ∈ m, d < b := fun d h => h2 d (List.mem_cons_of_mem _ h)
    have hl' : l.length = m.length := by simpa using hl
    simp only [List.map_cons, Op.bytesLess]
    rw [dc_lt x y (by omega) (by omega), dc_eq x y (by omega) (by omega), V_cons, V_cons]
    rcases Nat.lt_trichotomy x y with h | h | h
    · have := V_lt b hb l m (a * b + x) (a * b + y) hl' h1' (by omega)
      simp [h, this]
    · subst h
      rw [less_V b hb hb' l m (a * b + x) hl' h1' h2']
      simp
    · have := V_lt b hb m l (a * b + y) (a * b + x) hl'.symm h2' (by omega)
      have e1 : ¬ x < y := by omega
      have e2 : ¬ x = y := by omega
      have e3 : ¬ V b (a * b + x) l < V b (a * b + y) m := by omega
      simp [e1, e2, e3]
theorem less_text (b : Nat) (hb : 2 ≤ b) (hb' : b ≤ 16) (m n : Nat) : (decide ((textL b m).length < (textL b n).length) || (decide ((textL b m).length = (textL b n).length) && Op.bytesLess (textL b m) (textL b n))) = decide (m < n) := by
  have hL := digs_len b hb n m
  have hM := digs_len b hb m n
  have e1 : ∀ k, (textL b k).length = (digs b k).length := fun k => by unfold textL; simp
  rw [e1, e1]
  rcases Nat.lt_trichotomy (digs b m).length (digs b n).length with h | h | h
  · have : m < n := by
      apply Classical.byContradiction; intro hc
      have := hL (by omega)
      omega
    simp [h, this]
  · have := less_V b (by omega) hb' (digs b m) (digs b n) 0 h (digs_lt b hb m) (digs_lt b hb n)
    rw [digs_V b hb, digs_V b hb] at this
    unfold textL
    simp [h, this]
  · have : ¬ m < n := by
      intro hc
      have := hM (by omega)
      omega
    have h1 : ¬ (digs b m).length < (digs b n).length := by omega
    have h2 : ¬ (digs b m).length = (digs b n).length := by omega
    simp [h1, h2, this]
/-! The digits of a text, without noughts ahead. -/
def canon (b v : Nat) : List UInt8 := if v = 0 then [] else textL b v
theorem canon_zero (b : Nat) : canon b 0 = [] := rfl
theorem canon_step (b : Nat) (hb : 2 ≤ b) (v d : Nat) (hd : d < b) (h : v ≠ 0 ∨ d ≠ 0) : canon b (v * b + d) = canon b v ++ textL b d := by
  rw [textL_small hd]
  unfold canon
  by_cases hv : v = 0
  · subst hv
    have hd0 : d ≠ 0 := by omega
    rw [if_pos rfl, if_neg (by omega), textL_small (by omega)]
    simp
  · have h1 : b ≤ v * b := by
      have := Nat.mul_le_mul_right b (by omega : 1 ≤ v)
      omega
    rw [if_neg hv, if_neg (by omega), textL_big hb (by omega)]
    have e1 : (v * b + d) / b = v := by rw [Nat.mul_comm, Nat.mul_add_div (by omega), Nat.div_eq_of_lt hd, Nat.add_zero]
    have e2 : (v * b + d) % b = d := by rw [Nat.mul_comm, Nat.mul_add_mod, Nat.mod_eq_of_lt hd]
    rw [e1, e2]
theorem canon_ne (b : Nat) (hb : 2 ≤ b) (v : Nat) : (canon b v).isEmpty = decide (v = 0) := by
  unfold canon
  by_cases h : v = 0
  · simp [h]
  · rw [if_neg h]; simp [h, textL_ne b hb v]
theorem val_snoc (b : Nat) (l : List UInt8) (c : UInt8) : val b (l ++ [c]) = val b l * b + dv c := by unfold val; rw [List.map_append, List.map_singleton, V_snoc]
theorem val_le (b : Nat) (hb : 1 ≤ b) (l m : List UInt8) : val b l ≤ val b (l ++ m) := by unfold val; rw [List.map_append, V_append]; exact V_le b hb _ _
theorem val_nil (b : Nat) : val b [] = 0 := rfl
theorem dv_of (b : Nat) (c : UInt8) (h : isD b c = true) : wor b (c.toNat : Int) = dv c ∧ hexv (c.toNat : Int) = dv c ∧ dv c < b := by
  have h0 : 0 ≤ wor b (c.toNat : Int) := by simpa [isD] using h
  unfold dv
  unfold wor at *
  split at h0 <;> split <;> omega
/-- What the page says of a text: its number and its error. -/
def rd (b : Nat) (most : Int) (l : List UInt8) : Int × Int :=
  if l.isEmpty || !l.all (isD b) then (0, 2) else if most < (val b l : Int) then (0, 7) else (val b l, 0)
end Nu
end Go.Proofs.YtnpbnlphmngbdaaGreatDoor
/- The document's own answer for numerals: what its functions hand back: contracts. -/
namespace Go.Proofs.YtnpbnlphmngbdaaGreatDoor
open Go.RowKit

theorem ret_int {a b : Int} (h : a = b) : Ending.returned (.int .i64 a) = .returned (.int .i64 b) := by rw [h]
namespace Nu
theorem d_hit {k : Nat} {n : Int} {p : k < (⟨#[48, 49, 50, 51, 52, 53, 54, 55, 56, 57, 97, 98, 99, 100, 101, 102]⟩ : ByteArray).size} (h : (((⟨#[48, 49, 50, 51, 52, 53, 54, 55, 56, 57, 97, 98, 99, 100, 101, 102]⟩ : ByteArray)[k]'p).toNat : Int) = n) : hexv n = k := by
  have g : ∀ i : Fin 16, hexv ((((⟨#[48, 49, 50, 51, 52, 53, 54, 55, 56, 57, 97, 98, 99, 100, 101, 102]⟩ : ByteArray)[i.val]'i.isLt).toNat : Int)) = i.val := by decide +kernel
  rw [← h]; exact g ⟨k, p⟩
theorem g_hit {k : Nat} {n : Int} {p : k < (⟨#[48, 49, 50, 51, 52, 53, 54, 55, 56, 57, 65, 66, 67, 68, 69, 70]⟩ : ByteArray).size} (h : (((⟨#[48, 49, 50, 51, 52, 53, 54, 55, 56, 57, 65, 66, 67, 68, 69, 70]⟩ : ByteArray)[k]'p).toNat : Int) = n) : hexv n = k := by
  have g : ∀ i : Fin 16, hexv ((((⟨#[48, 49, 50, 51, 52, 53, 54, 55, 56, 57, 65, 66, 67, 68, 69, 70]⟩ : ByteArray)[i.val]'i.isLt).toNat : Int)) = i.val := by decide +kernel
  rw [← h]; exact g ⟨k, p⟩
theorem dg_miss {k : Nat} {n : Int} {p : k < (⟨#[48, 49, 50, 51, 52, 53, 54, 55, 56, 57, 97, 98, 99, 100, 101, 102]⟩ : ByteArray).size} {q : k < (⟨#[48, 49, 50, 51, 52, 53, 54, 55, 56, 57, 65, 66, 67, 68, 69, 70]⟩ : ByteArray).size} (h : ¬ (((⟨#[48, 49, 50, 51, 52, 53, 54, 55, 56, 57, 97, 98, 99, 100, 101, 102]⟩ : ByteArray)[k]'p).toNat : Int) = n) (h' : ¬ (((⟨#[48, 49, 50, 51, 52, 53, 54, 55, 56, 57, 65, 66, 67, 68, 69, 70]⟩ : ByteArray)[k]'q).toNat : Int) = n) : hexv n ≠ k := by
  have g1 : ∀ i : Fin 16, ((⟨#[48, 49, 50, 51, 52, 53, 54, 55, 56, 57, 97, 98, 99, 100, 101, 102]⟩ : ByteArray)[i.val]'i.isLt).toNat = if i.val < 10 then 48 + i.val else 87 + i.val := by decide +kernel
  have g2 : ∀ i : Fin 16, ((⟨#[48, 49, 50, 51, 52, 53, 54, 55, 56, 57, 65, 66, 67, 68, 69, 70]⟩ : ByteArray)[i.val]'i.isLt).toNat = if i.val < 10 then 48 + i.val else 55 + i.val := by decide +kernel
  have e1 : ((⟨#[48, 49, 50, 51, 52, 53, 54, 55, 56, 57, 97, 98, 99, 100, 101, 102]⟩ : ByteArray)[k]'p).toNat = if k < 10 then 48 + k else 87 + k := g1 ⟨k, p⟩
  have e2 : ((⟨#[48, 49, 50, 51, 52, 53, 54, 55, 56, 57, 65, 66, 67, 68, 69, 70]⟩ : ByteArray)[k]'q).toNat = if k < 10 then 48 + k else 55 + k := g2 ⟨k, q⟩
  rw [e1] at h
  rw [e2] at h'
  have hk : k < 16 := p
  clear e1 e2 g1 g2
  intro e
  unfold hexv at e
  split at e
  · rw [if_pos (by omega)] at h; omega
  · split at e
    · rw [if_neg (by omega)] at h; omega
    · split at e
      · rw [if_neg (by omega)] at h'; omega
      · omega
theorem d_cut (k : Nat) (h : k < 16) : (⟨#[48, 49, 50, 51, 52, 53, 54, 55, 56, 57, 97, 98, 99, 100, 101, 102]⟩ : ByteArray).extract k (k + 1) = ⟨#[dc k]⟩ := by
  have g : ∀ i : Fin 16, (⟨#[48, 49, 50, 51, 52, 53, 54, 55, 56, 57, 97, 98, 99, 100, 101, 102]⟩ : ByteArray).extract i.val (i.val + 1) = ⟨#[dc i.val]⟩ := by decide +kernel
  exact g ⟨k, h⟩
end Nu

set_option maxHeartbeats 400000 in
theorem worth_any (n : Int) (b : Nat) (w : World) (hb : b ≤ 16) :
    Calls Tryz.prog 66 #[.int .u8 n, .int .i64 b] w fun e w' => e = .returned (.int .i64 (Nu.wor b n)) ∧ w = w' := by
  go_enter Tryz.func66, Tryz.ntmps66
  go_wp2
  go_loop [7] (fun i => ∃ k : Nat, k ≤ b ∧ i = .int .i64 k ∧ ∀ j : Nat, j < k → Nu.hexv n ≠ j) (fun i => b - (intOf i).toNat)
  case atStart => exact ⟨0, Nat.zero_le _, rfl, fun j h => absurd h (by omega)⟩
  case round =>
    obtain ⟨k, hk, rfl, hno⟩ := hrel
    have HN := Lib.hid hno
    clear hno
    by_cases hlt : k < b
    · have hk16 : k < 16 := by omega
      go_wp2
      · rename_i h1
        go_ret
        exact ⟨ret_int (by unfold Nu.wor; rw [Nu.d_hit h1, if_pos (by omega)]), rfl⟩
      · rename_i h1
        go_ret
        exact ⟨ret_int (by unfold Nu.wor; rw [Nu.g_hit (eq_of_beq h1), if_pos (by omega)]), rfl⟩
      · rename_i h1 h2
        have HM := Lib.hid (Nu.dg_miss h1 (beq_eq_false_iff_ne.1 h2))
        go_round
        case rel =>
          refine ⟨k + 1, by omega, by go_num, fun j hj => ?_⟩
          by_cases e : j = k
          · rw [e]; exact HM.out
          · exact HN.out j (by omega)
        case measure => simp [intOf]; omega
    · go_wp2
      go_ret
      refine ⟨ret_int ?_, rfl⟩
      unfold Nu.wor
      by_cases h : Nu.hexv n < b
      · rw [if_pos h]
        have h0 : Nu.hexv n = -1 := by
          have := HN.out (Nu.hexv n).toNat
          have h2 : -1 ≤ Nu.hexv n := by unfold Nu.hexv; split <;> (try split) <;> (try split) <;> omega
          omega
        exact h0.symm
      · rw [if_neg h]

/-- The document's digits: what its function hands back, whatever the world. -/
def DigitsAt (b n : Nat) : Prop := ∀ w, Calls Tryz.prog 51 #[.int .i64 n, .int .i64 b] w fun e w' => e = .returned (.string (Nu.text b n)) ∧ ∃ m, w' = w.drewN m
theorem text_small {b n : Nat} (h : n < b) : Nu.text b n = ⟨#[Nu.dc n]⟩ := by unfold Nu.text; rw [Nu.textL_small h]
theorem text_big {b n : Nat} (hb : 2 ≤ b) (h : ¬ n < b) : Nu.text b n = Nu.text b (n / b) ++ ⟨#[Nu.dc (n % b)]⟩ := by
  unfold Nu.text; rw [Nu.textL_big hb h]
  apply ByteArray.ext; simp
set_option maxHeartbeats 400000 in
theorem Digits_any (b : Nat) (hb : 2 ≤ b) (hb' : b ≤ 16) (n : Nat) : n < 9223372036854775808 → DigitsAt b n := by
  induction n using Nat.strongRecOn with
  | ind n ih =>
    intro hn w
    by_cases h : n < b
    · have hd := Lib.hid ((Nu.d_cut n (by omega)).trans (text_small h).symm)
      go_enter Tryz.func51, Tryz.ntmps51
      go_wp2
      go_ret
      exact ⟨ret_str hd.out, 0, by simp [World.drewN_zero]⟩
    · have hm : n % b < b := Nat.mod_lt _ (by omega)
      have hd := Lib.hid (Nu.d_cut (n % b) (by omega))
      have ht := Lib.hid (text_big hb h)
      have hq := Lib.hid (ih (n / b) (Nu.div_lt hb h) (by have := Nu.div_lt hb h; omega))
      have hs := Nu.text_size b hb (n / b) (by have := Nu.div_lt hb h; omega)
      have e1 : Hid (wrap64 ((n : Int) / (b : Int)) = ((n / b : Nat) : Int)) := by
        show _ = _
        have := Nat.div_le_self n b
        have e : (n : Int) / (b : Int) = ((n / b : Nat) : Int) := rfl
        rw [e]
        generalize n / b = q at *
        unfold wrap64; omega
      have m0 : (0 : Int) ≤ (n : Int) % (b : Int) := by omega
      have m1 : (n : Int) % (b : Int) < 16 := by omega
      have m2 : (n : Int) % (b : Int) + 1 ≤ 16 := by omega
      clear ih
      go_enter Tryz.func51, Tryz.ntmps51
      go_wp2
      go_quiet ((go_at_call 51; rw [e1.out]; exact Calls.quiet_of (hq.out _)))
      go_wp2
      go_ret
      exact ⟨ret_str (by rw [ht.out, ← hd.out]), _, rfl⟩
end Go.Proofs.YtnpbnlphmngbdaaGreatDoor
/- The document's own answer for numerals, second part: a text's plain digits, which number is the lesser one, a number's text, a text's number. -/
namespace Go.Proofs.YtnpbnlphmngbdaaGreatDoor
open Go.RowKit

theorem ret_pair2 {a b c d : Value} (h : a = c) (k : b = d) : Ending.returned (.tuple #[a, b]) = .returned (.tuple #[c, d]) := by rw [h, k]
namespace Nu
def lessS (a c : ByteArray) : Bool := decide (a.size < c.size) || (decide (a.size = c.size) && Op.bytesLess a.toList c.toList)
theorem less_texts (b : Nat) (hb : 2 ≤ b) (hb' : b ≤ 16) (m n : Nat) : lessS (text b m) (text b n) = decide (m < n) := by
  have := less_text b hb hb' m n
  unfold lessS
  rw [ByteArray.toList_eq, ByteArray.toList_eq]
  simpa [text, ByteArray.size] using this
def canonB (b v : Nat) : ByteArray := ⟨(canon b v).toArray⟩
theorem canonB_zero (b : Nat) : canonB b 0 = ⟨#[]⟩ := rfl
theorem canonB_pos (b v : Nat) (h : v ≠ 0) : canonB b v = text b v := by unfold canonB canon; rw [if_neg h]; rfl
theorem canonB_step (b : Nat) (hb : 2 ≤ b) (v d : Nat) (hd : d < b) (h : v ≠ 0 ∨ d ≠ 0) : canonB b (v * b + d) = canonB b v ++ text b d := by
  unfold canonB text
  rw [canon_step b hb v d hd h]
  apply ByteArray.ext; simp
theorem canonB_empty (b : Nat) (hb : 2 ≤ b) (v : Nat) : (canonB b v).toList.isEmpty = decide (v = 0) := by
  rw [ByteArray.toList_eq]
  exact canon_ne b hb v
theorem text_zero (b : Nat) (hb : 2 ≤ b) : text b 0 = ⟨#[48]⟩ := by
  rw [text_small (by omega)]
  have : dc 0 = 48 := by decide +kernel
  rw [this]
/-- A text's digits without noughts ahead; false: it has none, or a byte that is none. -/
def plainS (b : Nat) (s : ByteArray) : ByteArray × Bool := if s.data.toList.all (isD b) then (text b (val b s.data.toList), !s.toList.isEmpty) else (⟨#[]⟩, false)
theorem plain_no (b : Nat) (s : ByteArray) (k : Nat) (h : k < s.size) (h1 : isD b s[k] = false) : plainS b s = (⟨#[]⟩, false) := by
  unfold plainS; rw [B.all_no _ s k h h1]; rfl
theorem plain_yes (b : Nat) (s : ByteArray) (h : s.data.toList.all (isD b) = true) : plainS b s = (text b (val b s.data.toList), !s.toList.isEmpty) := by
  unfold plainS; rw [h]; rfl
theorem val_take (b : Nat) (s : ByteArray) (k : Nat) (h : k < s.size) : val b (s.data.toList.take (k + 1)) = val b (s.data.toList.take k) * b + dv s[k] := by
  rw [B.take_snocB s k h, val_snoc]
theorem take_all (s : ByteArray) : s.data.toList.take s.size = s.data.toList := List.take_of_length_le (by simp)
theorem canon_size (b : Nat) (hb : 2 ≤ b) (l : List UInt8) : ∀ m, m = l.reverse → m.all (isD b) = true → (canon b (val b m)).length ≤ m.length := by
  induction l with
  | nil => rintro m rfl _; simp [val_nil, canon_zero]
  | cons c l ih =>
    rintro m rfl h
    rw [List.reverse_cons] at h ⊢
    rw [List.all_append, Bool.and_eq_true] at h
    have h1 := ih _ rfl h.1
    obtain ⟨-, -, hd⟩ := dv_of b c (by simpa using h.2)
    rw [val_snoc]
    by_cases hz : val b l.reverse ≠ 0 ∨ dv c ≠ 0
    · rw [canon_step b hb _ _ hd hz, textL_small hd]
      simp only [List.length_append, List.length_singleton]
      omega
    · have e1 : val b l.reverse = 0 := by omega
      have e2 : dv c = 0 := by omega
      rw [e1, e2]; simp [canon_zero]
theorem plain_size (b : Nat) (hb : 2 ≤ b) (s : ByteArray) (h : s.data.toList.all (isD b) = true) : (text b (val b s.data.toList)).size ≤ s.size + 1 := by
  have h1 := canon_size b hb s.data.toList.reverse s.data.toList (by simp) h
  have h2 : s.data.toList.length = s.size := by simp
  by_cases hv : val b s.data.toList = 0
  · rw [hv, text_zero b hb]; show 1 ≤ s.size + 1; omega
  · rw [← canonB_pos b _ hv]
    unfold canonB
    have e : (⟨(canon b (val b s.data.toList)).toArray⟩ : ByteArray).size = (canon b (val b s.data.toList)).length := by simp [ByteArray.size]
    omega
def tx (b : Nat) (n : Int) : ByteArray := if n < 0 then ⟨#[]⟩ else text b n.toNat
theorem rd_no (b : Nat) (most : Int) (s : ByteArray) (h : s.toList.isEmpty = true ∨ s.data.toList.all (isD b) = false) : rd b most s.data.toList = (0, 2) := by
  unfold rd
  rw [ByteArray.toList_eq] at h
  rw [if_pos]
  rcases h with h | h <;> rw [h] <;> simp
theorem rd_yes (b : Nat) (most : Int) (s : ByteArray) (h : s.toList.isEmpty = false) (h' : s.data.toList.all (isD b) = true) : rd b most s.data.toList = if most < (val b s.data.toList : Int) then (0, 7) else ((val b s.data.toList : Int), 0) := by
  unfold rd
  rw [ByteArray.toList_eq] at h
  rw [if_neg]
  rw [h, h']; simp
theorem text_list (b n : Nat) : (text b n).data.toList = textL b n := by unfold text; simp
theorem text_at (b : Nat) (hb : 2 ≤ b) (hb' : b ≤ 16) (n k : Nat) (h : k < (text b n).size) : isD b (text b n)[k] = true := by
  have h1 := textL_isD b hb hb' n
  rw [← text_list] at h1
  exact List.all_eq_true.1 h1 _ (by
    have : (text b n)[k] = (text b n).data.toList[k]'(by rw [Array.length_toList]; exact h) := by rfl
    rw [this]; exact List.getElem_mem _)
theorem text_take (b : Nat) (hb : 2 ≤ b) (hb' : b ≤ 16) (n k : Nat) : val b ((text b n).data.toList.take k) ≤ n := by
  have h := val_le b (by omega) ((text b n).data.toList.take k) ((text b n).data.toList.drop k)
  rw [List.take_append_drop, text_list, textL_val b hb hb'] at h
  exact h
theorem text_end (b : Nat) (hb : 2 ≤ b) (hb' : b ≤ 16) (n : Nat) : val b ((text b n).data.toList.take (text b n).size) = n := by
  rw [take_all, text_list]; exact textL_val b hb hb' n
end Nu

theorem Less_any (a c : ByteArray) (w : World) (_ha : a.size ≤ 100000) (_hc : c.size ≤ 100000) :
    Calls Tryz.prog 65 #[.string a, .string c] w fun e w' => e = .returned (.bool (Nu.lessS a c)) ∧ w = w' := by
  go_enter Tryz.func65, Tryz.ntmps65
  go_wp2
  all_goals
    go_ret
    exact ⟨ret_bool (by unfold Nu.lessS; by_cases h1 : a.size < c.size <;> by_cases h2 : a.size = c.size <;> first | omega | simp [h1, h2]), rfl⟩

set_option maxHeartbeats 400000 in
theorem Plain_any (b : Nat) (hb : 2 ≤ b) (hb' : b ≤ 16) (s : ByteArray) (w : World) (hs : s.size ≤ 100000) :
    Calls Tryz.prog 64 #[.string s, .int .i64 b] w fun e w' => e = .returned (.tuple #[.string (Nu.plainS b s).1, .bool (Nu.plainS b s).2]) ∧ ∃ m, w' = w.drewN m := by
  go_enter Tryz.func64, Tryz.ntmps64
  go_wp2
  go_loopw [6, 7] (fun o i wr => ∃ k : Nat, k ≤ s.size ∧ i = .int .i64 k ∧ o = .string (Nu.canonB b (Nu.val b (s.data.toList.take k))) ∧ (Nu.canonB b (Nu.val b (s.data.toList.take k))).size ≤ k ∧ (s.data.toList.take k).all (Nu.isD b) = true ∧ ∃ m, wr = w.drewN m) (fun _ i _ => s.size - (intOf i).toNat)
  case atStart => exact ⟨0, Nat.zero_le _, rfl, rfl, Nat.le_refl _, rfl, 0, by simp [World.drewN_zero]⟩
  case round =>
    obtain ⟨k, hk, rfl, rfl, hz, hall, m, rfl⟩ := hrel
    have HA := Lib.hid hall
    clear hall
    have hE := Lib.hid (Nu.canonB_empty b hb (Nu.val b (s.data.toList.take k)))
    by_cases hlt : k < s.size
    · have hV := Lib.hid (Nu.val_take b s k hlt)
      cases hc : Nu.isD b s[k] with
      | true =>
        obtain ⟨hw, -, hd⟩ := Nu.dv_of b s[k] hc
        have hA := Lib.hid (B.all_snoc (Nu.isD b) s k hlt HA.out hc)
        have hs1 : (Nu.text b (Nu.dv s[k])).size = 1 := by rw [text_small hd]; rfl
        generalize Nu.dv s[k] = d at *
        have HW := Lib.hid hw
        clear hw hc
        generalize hv : Nu.val b (s.data.toList.take k) = v at *
        clear hv
        have hst := Lib.hid (Nu.canonB_step b hb v d hd)
        have hDg := Lib.hid (Digits_any b hb hb' d (by omega))
        by_cases hv0 : v = 0
        · subst hv0
          by_cases hd0 : d = 0
          · subst hd0
            rw [Nu.canonB_zero]
            go_wp2_with fail
            refine (worth_any _ b _ hb').mono ?_
            rintro e w' ⟨rfl, rfl⟩
            rw [HW.out]
            go_wp2_with fail
            go_roundw
            case rel => exact ⟨k + 1, by omega, by go_num, by rw [hV.out]; simp [Nu.canonB_zero], by rw [hV.out]; simp [Nu.canonB_zero, ByteArray.size], hA.out, _, rfl⟩
            case measure => simp [intOf]; omega
          · have hT := Lib.hid (hst.out (Or.inr hd0))
            have hd1 : (0 : Int) < (d : Int) := by omega
            rw [Nu.canonB_zero]
            go_wp2_with fail
            refine (worth_any _ b _ hb').mono ?_
            rintro e w' ⟨rfl, rfl⟩
            rw [HW.out]
            go_wp2_with fail
            refine (hDg.out _).mono ?_
            rintro e w' ⟨rfl, m2, rfl⟩
            go_wp2_with fail
            go_roundw
            case rel =>
              have hT' := hT.out
              exact ⟨k + 1, by omega, by go_num, by rw [hV.out, hT', Nu.canonB_zero], by rw [hV.out, hT', Nu.canonB_zero, ByteArray.size_append, hs1]; simp [ByteArray.size], hA.out, _, rfl⟩
            case measure => simp [intOf]; omega
        · have hT := Lib.hid (hst.out (Or.inl hv0))
          have hE' : (Nu.canonB b v).toList.isEmpty = false := by rw [hE.out]; simpa using hv0
          generalize hq : Nu.canonB b v = q at *
          clear hq
          go_wp2_with fail
          refine (worth_any _ b _ hb').mono ?_
          rintro e w' ⟨rfl, rfl⟩
          rw [HW.out]
          go_wp2_with fail
          refine (hDg.out _).mono ?_
          rintro e w' ⟨rfl, m2, rfl⟩
          go_wp2_with fail
          go_roundw
          case rel =>
            have hT' := hT.out
            exact ⟨k + 1, by omega, by go_num, by rw [hV.out, hT'], by rw [hV.out, hT', ByteArray.size_append, hs1]; omega, hA.out, _, rfl⟩
          case measure => simp [intOf]; omega
      | false =>
        have hP := Lib.hid (Nu.plain_no b s k hlt hc)
        have hw : Nu.wor b (s[k].toNat : Int) < 0 := by simpa [Nu.isD] using hc
        generalize hq : Nu.canonB b (Nu.val b (s.data.toList.take k)) = q at *
        clear hq hc hV hE
        go_wp2_with fail
        refine (worth_any _ b _ hb').mono ?_
        rintro e w' ⟨rfl, rfl⟩
        generalize Nu.wor b (s[k].toNat : Int) = x at *
        go_wp2_with fail
        go_ret2
        rw [hP.out]
        exact ⟨rfl, _, rfl⟩
    · obtain rfl : k = s.size := by omega
      rw [Nu.take_all] at *
      have hP := Lib.hid (Nu.plain_yes b s HA.out)
      generalize hv : Nu.val b s.data.toList = v at *
      clear hv
      by_cases hv0 : v = 0
      · subst hv0
        have hz := Lib.hid (Nu.text_zero b hb)
        rw [Nu.canonB_zero]
        go_wp2_with fail
        go_ret2
        rw [hP.out]
        exact ⟨ret_pair2 (congrArg Value.string hz.out.symm) rfl, _, rfl⟩
      · have hE' : (Nu.canonB b v).toList.isEmpty = false := by rw [hE.out]; simpa using hv0
        have hz := Lib.hid (Nu.canonB_pos b v hv0)
        generalize hq : Nu.canonB b v = q at *
        clear hq
        go_wp2_with fail
        go_ret2
        rw [hP.out]
        exact ⟨ret_pair2 (congrArg Value.string hz.out) rfl, _, rfl⟩

theorem RText_any (b : Nat) (hb : 2 ≤ b) (hb' : b ≤ 16) (n : Int) (h1 : n < 9223372036854775808) (w : World) :
    Calls Tryz.prog 34 #[.int .i64 n, .int .i64 b] w fun e w' => e = .returned (.string (Nu.tx b n)) ∧ ∃ m, w' = w.drewN m := by
  by_cases h : n < 0
  · have ht := Lib.hid (show Nu.tx b n = ⟨#[]⟩ by unfold Nu.tx; rw [if_pos h])
    go_enter Tryz.func34, Tryz.ntmps34
    go_wp2_with fail
    go_ret
    exact ⟨ret_str ht.out.symm, 0, by simp [World.drewN_zero]⟩
  · have ht := Lib.hid (show Nu.tx b n = Nu.text b n.toNat by unfold Nu.tx; rw [if_neg h])
    obtain ⟨k, rfl⟩ := Int.eq_ofNat_of_zero_le (by omega : 0 ≤ n)
    have hD := Lib.hid (Digits_any b hb hb' k (by omega))
    go_enter Tryz.func34, Tryz.ntmps34
    go_wp2_with fail
    refine (hD.out _).mono ?_
    rintro e w' ⟨rfl, m, rfl⟩
    go_wp2_with fail
    go_ret
    exact ⟨ret_str ht.out.symm, _, rfl⟩

/-- A number that an int holds. -/
def SmallN (n : Nat) : Prop := n < 9223372036854775808
theorem wrap_step (a b d : Nat) (h : SmallN (a * b + d)) : wrap64 (wrap64 ((a : Int) * (b : Int)) + (d : Int)) = ((a * b + d : Nat) : Int) := by
  have e : (a : Int) * (b : Int) = ((a * b : Nat) : Int) := rfl
  rw [e]
  unfold SmallN at h
  generalize a * b = x at *
  unfold wrap64; omega
set_option maxHeartbeats 400000 in
theorem RRead_any (b : Nat) (hb : 2 ≤ b) (hb' : b ≤ 16) (most : Int) (h1 : most < 9223372036854775808) (s : ByteArray) (w : World) (hs : s.size ≤ 90000) :
    Calls Tryz.prog 45 #[.string s, .int .i64 b, .int .i64 most] w fun e w' => e = .returned (.tuple #[.int .i64 (Nu.rd b most s.data.toList).1, .int .i64 (Nu.rd b most s.data.toList).2]) ∧ ∃ m, w' = w.drewN m := by
  by_cases hok : s.toList.isEmpty = true ∨ s.data.toList.all (Nu.isD b) = false
  · have hR := Lib.hid (Nu.rd_no b most s hok)
    have hp : Hid ((Nu.plainS b s).2 = false) := by
      show _ = _
      rcases hok with h | h
      · unfold Nu.plainS; rw [h]; split <;> rfl
      · unfold Nu.plainS; rw [h]; rfl
    clear hok
    go_enter Tryz.func45, Tryz.ntmps45
    go_wp2_with fail
    refine (Plain_any b hb hb' s _ (by omega)).mono ?_
    rintro e w' ⟨rfl, m, rfl⟩
    rw [hp.out]
    go_wp2_with fail
    go_ret2
    rw [hR.out]
    exact ⟨rfl, _, rfl⟩
  · have hne : s.toList.isEmpty = false := by
      cases h : s.toList.isEmpty
      · rfl
      · exact absurd (Or.inl h) hok
    have hall : s.data.toList.all (Nu.isD b) = true := by
      cases h : s.data.toList.all (Nu.isD b)
      · exact absurd (Or.inr h) hok
      · rfl
    have hR := Nu.rd_yes b most s hne hall
    have hP := Nu.plain_yes b s hall
    have hsz := Nu.plain_size b hb s hall
    rw [hne] at hP
    have HP := Lib.hid hP
    clear hok hne hall hP
    generalize Nu.val b s.data.toList = v at *
    by_cases hm : most < 0
    · have HR : Hid (Nu.rd b most s.data.toList = (0, 7)) := by show _ = _; rw [hR, if_pos (by omega)]
      clear hR
      go_enter Tryz.func45, Tryz.ntmps45
      go_wp2_with fail
      refine (Plain_any b hb hb' s _ (by omega)).mono ?_
      rintro e w' ⟨rfl, m, rfl⟩
      rw [HP.out]
      go_wp2_with fail
      go_ret2
      rw [HR.out]
      exact ⟨rfl, _, rfl⟩
    · obtain ⟨q, rfl⟩ := Int.eq_ofNat_of_zero_le (by omega : 0 ≤ most)
      have hD := Lib.hid (Digits_any b hb hb' q (by omega))
      have hq := Nu.text_size b hb q (by omega)
      have hL := Lib.hid (Nu.less_texts b hb hb' q v)
      have H1 : SmallN q := by unfold SmallN; omega
      clear h1
      by_cases hv : q < v
      · have HR : Hid (Nu.rd b (q : Int) s.data.toList = (0, 7)) := by show _ = _; rw [hR, if_pos (by omega)]
        clear hR
        have hd : Hid (decide (q < v) = true) := by show _ = _; simpa using hv
        go_enter Tryz.func45, Tryz.ntmps45
        go_wp2_with fail
        refine (Plain_any b hb hb' s _ (by omega)).mono ?_
        rintro e w' ⟨rfl, m, rfl⟩
        rw [HP.out]
        go_wp2_with fail
        refine (hD.out _).mono ?_
        rintro e w' ⟨rfl, m2, rfl⟩
        go_wp2_with fail
        refine (Less_any _ _ _ (by omega) (by omega)).mono ?_
        rintro e w' ⟨rfl, rfl⟩
        rw [hL.out, hd.out]
        go_wp2_with fail
        go_ret2
        rw [HR.out]
        exact ⟨rfl, _, rfl⟩
      · have HR : Hid (Nu.rd b (q : Int) s.data.toList = ((v : Int), 0)) := by show _ = _; rw [hR, if_neg (by omega)]
        clear hR
        have hd : Hid (decide (q < v) = false) := by show _ = _; simpa using hv
        have hqb : v ≤ q := by omega
        have hAt := Lib.hid (Nu.text_at b hb hb' v)
        have hTk := Lib.hid (Nu.text_take b hb hb' v)
        have hEnd := Lib.hid (Nu.text_end b hb hb' v)
        have hvq : SmallN v := by unfold SmallN at *; omega
        generalize Nu.text b v = p at *
        go_enter Tryz.func45, Tryz.ntmps45
        go_wp2_with fail
        refine (Plain_any b hb hb' s _ (by omega)).mono ?_
        rintro e w' ⟨rfl, m, rfl⟩
        rw [HP.out]
        go_wp2_with fail
        refine (hD.out _).mono ?_
        rintro e w' ⟨rfl, m2, rfl⟩
        go_wp2_with fail
        refine (Less_any _ _ _ (by omega) (by omega)).mono ?_
        rintro e w' ⟨rfl, rfl⟩
        rw [hL.out, hd.out]
        go_wp2_with fail
        go_loopw [10, 11] (fun a i wr => ∃ k : Nat, k ≤ p.size ∧ i = .int .i64 k ∧ a = .int .i64 (Nu.val b (p.data.toList.take k) : Nat) ∧ ∃ m, wr = w.drewN m) (fun _ i _ => p.size - (intOf i).toNat)
        case atStart => exact ⟨0, Nat.zero_le _, rfl, rfl, _, rfl⟩
        case round =>
          obtain ⟨k, hk, rfl, rfl, m3, rfl⟩ := hrel
          by_cases hlt : k < p.size
          · have hV := Nu.val_take b p k hlt
            have hle := hTk.out (k + 1)
            obtain ⟨hw, -, -⟩ := Nu.dv_of b p[k] (hAt.out k hlt)
            have HW := Lib.hid hw
            clear hw
            generalize Nu.val b (p.data.toList.take k) = a at *
            have hT : SmallN (a * b + Nu.dv p[k]) := by unfold SmallN at *; omega
            have HV := Lib.hid hV
            clear hV hle
            generalize Nu.dv p[k] = d at *
            go_wp2_with fail
            refine (worth_any _ b _ hb').mono ?_
            rintro e w' ⟨rfl, rfl⟩
            rw [HW.out]
            go_wp2_with fail
            go_roundw
            case rel => exact ⟨k + 1, by omega, by go_num, by rw [HV.out, wrap_step a b d hT], _, rfl⟩
            case measure => simp [intOf]; omega
          · obtain rfl : k = p.size := by omega
            rw [hEnd.out]
            go_wp2_with fail
            go_ret2
            rw [HR.out]
            exact ⟨rfl, _, rfl⟩
end Go.Proofs.YtnpbnlphmngbdaaGreatDoor
/- The program's readers of numerals: contracts. -/
namespace Go.Proofs.YtnpbnlphmngbdaaGreatDoor
open Go.RowKit

namespace Nu
theorem hexv_dig (n : Int) (h0 : 0 ≤ n) (h1 : n ≤ 255) : B.dig n = decide (0 ≤ wor 10 n) := B.byte_eq (q := fun n => decide (0 ≤ wor 10 n)) (by decide +kernel) n h0 h1
theorem hexv_hex (n : Int) (h0 : 0 ≤ n) (h1 : n ≤ 255) : B.hex n = decide (0 ≤ wor 16 n) := B.byte_eq (q := fun n => decide (0 ≤ wor 16 n)) (by decide +kernel) n h0 h1
theorem digit_dig (n : Int) (_h0 : 0 ≤ n) (_h1 : n ≤ 255) (h : B.dig n = true) : hexv n = n - 48 := by
  unfold B.dig at h
  simp at h
  unfold hexv; rw [if_pos h]
theorem digit_low (n : Int) (h0 : 0 ≤ n) (h1 : n ≤ 255) (h : B.dig n = false) (hx : 0 ≤ hexv n) : B.low n - 97 + 10 = hexv n ∧ 97 ≤ B.low n ∧ B.low n ≤ 102 := by
  have g := B.byte_all (p := fun n => B.dig n || !decide (0 ≤ hexv n) || (decide (B.low n - 97 + 10 = hexv n) && decide (97 ≤ B.low n) && decide (B.low n ≤ 102))) (by decide +kernel) n h0 h1
  rw [h] at g
  simp at g
  rcases g with g | g
  · omega
  · exact ⟨g.1.1, g.1.2, g.2⟩
end Nu

theorem digit_any (n : Int) (w : World) (h0 : 0 ≤ n) (h1 : n ≤ 255) (hx : 0 ≤ Nu.hexv n) :
    Calls Tryz.prog 128 #[.int .u8 n] w fun e w' => e = .returned (.int .i64 (Nu.hexv n)) ∧ w = w' := by
  cases hd : B.dig n with
  | true =>
    have hv := Lib.hid (Nu.digit_dig n h0 h1 hd)
    have hn : 48 ≤ n := by unfold B.dig at hd; simp at hd; exact hd.1
    have HD := Lib.hid hd
    clear hd hx
    go_enter Tryz.func128, Tryz.ntmps128
    go_wp2_with fail
    refine (IsDigit_any _ _).mono ?_
    rintro e w' ⟨rfl, rfl⟩
    rw [HD.out]
    go_wp2_with fail
    go_ret
    exact ⟨ret_int hv.out.symm, rfl⟩
  | false =>
    obtain ⟨hv, hl1, hl2⟩ := Nu.digit_low n h0 h1 hd hx
    have HV := Lib.hid hv
    have HD := Lib.hid hd
    clear hd hx hv
    go_enter Tryz.func128, Tryz.ntmps128
    go_wp2_with fail
    refine (IsDigit_any _ _).mono ?_
    rintro e w' ⟨rfl, rfl⟩
    rw [HD.out]
    go_wp2_with fail
    refine (Lower_any _ _ h0 h1).mono ?_
    rintro e w' ⟨rfl, rfl⟩
    generalize B.low n = x at *
    go_wp2_with fail
    go_ret
    exact ⟨ret_int HV.out, rfl⟩

namespace Nu
/-- Where the number may not be below 0, and is too great behind one more digit. -/
theorem rd_over (b : Nat) (hb : 1 ≤ b) (most : Int) (s : ByteArray) (k : Nat) (h : s.toList.isEmpty = false) (h' : s.data.toList.all (isD b) = true) (hv : most < (val b (s.data.toList.take k) : Int)) : rd b most s.data.toList = (0, 7) := by
  rw [rd_yes b most s h h', if_pos]
  have := val_le b hb (s.data.toList.take k) (s.data.toList.drop k)
  rw [List.take_append_drop] at this
  omega
theorem neg_stop (b d : Nat) (hb : 2 ≤ b) (hb' : b ≤ 16) (hd : d < b) (most : Int) (h0 : -9223372036854775808 ≤ most) (h1 : most < 0) : wrap64 (most.tdiv b) < 0 ∨ wrap64 (most - d) < 0 := by
  obtain ⟨m, hm⟩ := Int.eq_ofNat_of_zero_le (by omega : 0 ≤ -most)
  obtain rfl : most = -(m : Int) := by omega
  by_cases hmb : m < b
  · right; unfold wrap64; omega
  · left
    rw [Int.neg_tdiv]
    have e : (m : Int).tdiv b = ((m / b : Nat) : Int) := rfl
    rw [e]
    have h2 : 1 ≤ m / b := Nat.div_pos (by omega) (by omega)
    have h3 := Nat.div_le_self m b
    generalize m / b = x at *
    unfold wrap64; omega
end Nu
theorem div_wrap (q b : Nat) (h : SmallN q) : wrap64 ((q : Int) / (b : Int)) = ((q / b : Nat) : Int) := by
  have e : (q : Int) / (b : Int) = ((q / b : Nat) : Int) := rfl
  rw [e]
  unfold SmallN at h
  have := Nat.div_le_self q b
  generalize q / b = x at *
  unfold wrap64; omega
theorem mul_wrap (a b : Nat) (h : SmallN (a * b)) : wrap64 ((a : Int) * (b : Int)) = ((a * b : Nat) : Int) := by
  have e : (a : Int) * (b : Int) = ((a * b : Nat) : Int) := rfl
  rw [e]
  unfold SmallN at h
  generalize a * b = x at *
  unfold wrap64; omega
theorem sub_wrap (q d : Nat) (h : SmallN q) (hd : d ≤ 16) : wrap64 ((q : Int) - (d : Int)) = (q : Int) - (d : Int) := by
  unfold SmallN at h
  unfold wrap64; omega

theorem over1 (b q a d : Nat) (hb : 0 < b) (h : q / b < a) : q < a * b + d := by
  have := (Nat.div_lt_iff_lt_mul hb).1 h
  omega
theorem le1 (b q a : Nat) (hb : 0 < b) (h : a ≤ q / b) : a * b ≤ q := (Nat.le_div_iff_mul_le hb).1 h

set_option maxHeartbeats 800000 in
theorem read_any (g b : Nat) (hb : 2 ≤ b) (hb' : b ≤ 16) (eg : ∀ args w, (callFunc g args).run Tryz.prog w = .ok (.enter g args) w)
    (hg : ∀ n w, 0 ≤ n → n ≤ 255 → Calls Tryz.prog g #[.int .u8 n] w fun e w' => e = .returned (.bool (decide (0 ≤ Nu.wor b n))) ∧ w = w')
    (most : Int) (h0 : -9223372036854775808 ≤ most) (h1 : most < 9223372036854775808) (s : ByteArray) (w : World) (hs : s.size ≤ 90000) :
    Calls Tryz.prog 118 #[.string s, .int .i64 b, .func (.func g) #[] #[], .int .i64 most] w fun e w' => e = .returned (.tuple #[.int .i64 (Nu.rd b most s.data.toList).1, .int .i64 (Nu.rd b most s.data.toList).2]) ∧ Below w.heap.size w w' := by
  cases hne : s.toList.isEmpty with
  | true =>
    have hR := Lib.hid (Nu.rd_no b most s (Or.inl hne))
    clear h0 h1
    go_enter Tryz.func118, Tryz.ntmps118
    go_wp2_with fail
    go_ret2
    rw [hR.out]
    exact ⟨rfl, Below.refl _ _⟩
  | false =>
    have hfl : (asks (fun _ c => Nu.isD b c) [] (flat [s])).1 = s.data.toList.all (Nu.isD b) := by rw [asks_pure]; unfold flat; simp
    have hA := All_any g #[] #[] (fun _ c => Nu.isD b c) (fun _ W => W = (w.alloc (.cells #[.string s] 9)).alloc (.cells #[.bool false] 4)) ⟨w.heap.size, 0, none⟩ 1 1 [s] rfl (by omega) (by simpa using (by omega : s.size ≤ 100000)) (w.alloc (.cells #[.string s] 9)) eg rfl
      (by
        rintro pre W rfl
        refine ⟨by simp [go_sem], by simp [go_sem], fun i hi => ?_⟩
        obtain rfl : i = 0 := by omega
        exact alloc2_cell _ _ _ _ _)
      (by
        rintro pre c r W - - rfl
        have := B.toNat_le c
        refine (hg (c.toNat : Int) _ (by omega) (by omega)).mono ?_
        rintro e w' ⟨rfl, rfl⟩
        exact ⟨rfl, rfl⟩)
    rw [hfl] at hA
    have HA := Lib.hid hA
    clear hA hfl hg
    cases hall : s.data.toList.all (Nu.isD b) with
    | false =>
      have hR := Lib.hid (Nu.rd_no b most s (Or.inr hall))
      rw [hall] at HA
      clear h0 h1 hall
      go_enter Tryz.func118, Tryz.ntmps118
      go_wp2_with fail
      refine HA.out.mono ?_
      rintro e w' ⟨W, rfl, rfl, rfl⟩
      go_wp2_with fail
      go_ret2
      rw [hR.out]
      exact ⟨rfl, (by repeat (first | with_reducible exact Below.refl _ _ | with_reducible assumption | (with_reducible refine Below.setCell ?_ ?_ _; rotate_left; · (simp <;> omega)) | (with_reducible refine Below.alloc ?_ ?_ _; rotate_left; · (simp <;> omega)) | with_reducible refine Below.drew ?_))⟩
    | true =>
      rw [hall] at HA
      have hAt : Hid (∀ k (h : k < s.size), Nu.isD b s[k] = true) := fun k h => List.all_eq_true.1 hall _ (by
        have : s[k] = s.data.toList[k]'(by rw [Array.length_toList]; exact h) := by rfl
        rw [this]; exact List.getElem_mem _)
      have hpos : 0 < s.size := by
        rcases Nat.eq_zero_or_pos s.size with h | h
        · obtain rfl : s = ByteArray.empty := by simpa using h
          simp [ByteArray.toList_eq] at hne
        · exact h
      have hOver := Lib.hid (fun k => Nu.rd_over b (by omega) most s k hne hall)
      have hR := Nu.rd_yes b most s hne hall
      by_cases hm : most < 0
      · have HR : Hid (Nu.rd b most s.data.toList = (0, 7)) := by show _ = _; rw [hR, if_pos (by omega)]
        have hst := Lib.hid (fun d (hd : d < b) => Nu.neg_stop b d hb hb' hd most h0 hm)
        clear h0 h1 hall hR hOver
        go_enter Tryz.func118, Tryz.ntmps118
        go_wp2_with fail
        refine HA.out.mono ?_
        rintro e w' ⟨W, rfl, rfl, rfl⟩
        go_wp2_with fail
        go_loop [10, 24] (fun a i => a = .int .i64 0 ∧ i = .int .i64 0) (fun _ i => s.size - (intOf i).toNat)
        case atStart => exact ⟨rfl, rfl⟩
        case round =>
          obtain ⟨rfl, rfl⟩ := hrel
          obtain ⟨-, hx, hd⟩ := Nu.dv_of b s[0] (hAt.out 0 hpos)
          have hby := B.toNat_le s[0]
          have HX := Lib.hid hx
          have hs2 := hst.out _ hd
          clear hx hd
          generalize Nu.dv s[0] = d at *
          go_wp2_with fail
          refine (digit_any _ _ (by omega) (by omega) (by rw [HX.out]; omega)).mono ?_
          rintro e w' ⟨rfl, rfl⟩
          rw [HX.out]
          go_wp2_with fail
          all_goals
            go_ret2
            rw [HR.out]
            exact ⟨rfl, (by repeat (first | with_reducible exact Below.refl _ _ | with_reducible assumption | (with_reducible refine Below.setCell ?_ ?_ _; rotate_left; · (simp <;> omega)) | (with_reducible refine Below.alloc ?_ ?_ _; rotate_left; · (simp <;> omega)) | with_reducible refine Below.drew ?_))⟩
      · obtain ⟨q, rfl⟩ := Int.eq_ofNat_of_zero_le (by omega : 0 ≤ most)
        have hq : SmallN q := by unfold SmallN; omega
        have HR : Hid (Nu.val b s.data.toList ≤ q → Nu.rd b (q : Int) s.data.toList = ((Nu.val b s.data.toList : Int), 0)) := fun h => by rw [hR, if_neg (by omega)]
        have e1 := Lib.hid (div_wrap q b hq)
        clear h0 h1 hall hR
        go_enter Tryz.func118, Tryz.ntmps118
        go_wp2_with fail
        refine HA.out.mono ?_
        rintro e w' ⟨W, rfl, rfl, rfl⟩
        go_wp2_with fail
        go_loop [10, 24] (fun a i => ∃ k : Nat, k ≤ s.size ∧ i = .int .i64 k ∧ a = .int .i64 (Nu.val b (s.data.toList.take k) : Nat) ∧ Nu.val b (s.data.toList.take k) ≤ q) (fun _ i => s.size - (intOf i).toNat)
        case atStart => exact ⟨0, Nat.zero_le _, rfl, rfl, Nat.zero_le _⟩
        case round =>
          obtain ⟨k, hk, rfl, rfl, hle⟩ := hrel
          by_cases hlt : k < s.size
          · have hV := Nu.val_take b s k hlt
            obtain ⟨-, hx, hd⟩ := Nu.dv_of b s[k] (hAt.out k hlt)
            have hby := B.toNat_le s[k]
            have HX := Lib.hid hx
            have hov := hOver.out (k + 1)
            generalize Nu.val b (s.data.toList.take k) = a at *
            have HV := Lib.hid hV
            have HO : Hid (q < a * b + Nu.dv s[k] → Nu.rd b (q : Int) s.data.toList = (0, 7)) := fun h => hov (by rw [hV]; omega)
            clear hx hV hov
            generalize Nu.dv s[k] = d at *
            have hsw := Lib.hid (sub_wrap q d hq (by omega))
            go_wp2_with fail
            refine (digit_any _ _ (by omega) (by omega) (by rw [HX.out]; omega)).mono ?_
            rintro e w' ⟨rfl, rfl⟩
            rw [HX.out]
            go_wp2_with fail
            · rename_i h
              rw [e1.out] at h
              have hR := Lib.hid (HO.out (over1 b q a d (by omega) (by omega)))
              go_ret2
              rw [hR.out]
              exact ⟨rfl, (by repeat (first | with_reducible exact Below.refl _ _ | with_reducible assumption | (with_reducible refine Below.setCell ?_ ?_ _; rotate_left; · (simp <;> omega)) | (with_reducible refine Below.alloc ?_ ?_ _; rotate_left; · (simp <;> omega)) | with_reducible refine Below.drew ?_))⟩
            · rename_i h2 h
              rw [e1.out] at h
              have h3 := le1 b q a (by omega) (by omega)
              rw [hsw.out, mul_wrap a b (by unfold SmallN at *; omega)] at h2
              have hR := Lib.hid (HO.out (by omega))
              go_ret2
              rw [hR.out]
              exact ⟨rfl, (by repeat (first | with_reducible exact Below.refl _ _ | with_reducible assumption | (with_reducible refine Below.setCell ?_ ?_ _; rotate_left; · (simp <;> omega)) | (with_reducible refine Below.alloc ?_ ?_ _; rotate_left; · (simp <;> omega)) | with_reducible refine Below.drew ?_))⟩
            · rename_i h h2
              rw [e1.out] at h
              have h3 := le1 b q a (by omega) (by omega)
              rw [hsw.out, mul_wrap a b (by unfold SmallN at *; omega)] at h2
              have h4 : a * b + d ≤ q := by omega
              refine ⟨⟨k + 1, by omega, by go_num, ?_, ?_⟩, ?_⟩
              · rw [HV.out, wrap_step a b d (by unfold SmallN at *; omega)]
              · rw [HV.out]; exact h4
              · simp [intOf]; omega
          · obtain rfl : k = s.size := by omega
            rw [Nu.take_all] at *
            have HR' := Lib.hid (HR.out hle)
            go_wp2_with fail
            go_ret2
            rw [HR'.out]
            exact ⟨rfl, (by repeat (first | with_reducible exact Below.refl _ _ | with_reducible assumption | (with_reducible refine Below.setCell ?_ ?_ _; rotate_left; · (simp <;> omega)) | (with_reducible refine Below.alloc ?_ ?_ _; rotate_left; · (simp <;> omega)) | with_reducible refine Below.drew ?_))⟩

theorem enters_IsDigit (args : Array Value) (w : World) : (callFunc 119 args).run Tryz.prog w = .ok (.enter 119 args) w := by
  exact enters_of Tryz.func119 (by kernel_rfl) rfl args w
theorem Decimal_any (most : Int) (h0 : -9223372036854775808 ≤ most) (h1 : most < 9223372036854775808) (s : ByteArray) (w : World) (hs : s.size ≤ 90000) :
    Calls Tryz.prog 94 #[.string s, .int .i64 most] w fun e w' => e = .returned (.tuple #[.int .i64 (Nu.rd 10 most s.data.toList).1, .int .i64 (Nu.rd 10 most s.data.toList).2]) ∧ Below w.heap.size w w' := by
  have h := read_any 119 10 (by omega) (by omega) enters_IsDigit (fun n w h0 h1 => by
    refine (IsDigit_any n w).mono ?_
    rintro e w' ⟨rfl, rfl⟩
    exact ⟨ret_bool (Nu.hexv_dig n h0 h1), rfl⟩) most h0 h1 s w hs
  rw [show ((10 : Nat) : Int) = 10 from rfl] at h
  have H := Lib.hid h
  clear h h0 h1
  go_enter Tryz.func94, Tryz.ntmps94
  go_wp2_with fail
  refine H.out.mono ?_
  rintro e w' ⟨rfl, hb⟩
  go_wp2_with fail
  go_ret2
  exact ⟨rfl, hb⟩

theorem enters_IsHex (args : Array Value) (w : World) : (callFunc 117 args).run Tryz.prog w = .ok (.enter 117 args) w := by
  exact enters_of Tryz.func117 (by kernel_rfl) rfl args w
end Go.Proofs.YtnpbnlphmngbdaaGreatDoor
/- FormatInt of the library to the base of 16: contracts. -/
namespace Go.Proofs.YtnpbnlphmngbdaaGreatDoor
open Go.RowKit

theorem isPower_16 (w : World) : Calls Tryz.prog 137 #[.int .i64 16] w fun e w' => e = .returned (.bool true) ∧ w = w' := by
  go_enter Tryz.func137, Tryz.ntmps137
  go_wp2_with fail
  go_ret
  exact ⟨ret_bool (by decide +kernel), rfl⟩
theorem tz64_16 (w : World) (hc : w.cell? ⟨3, 15, none⟩ = some (.int .u8 4)) :
    Calls Tryz.prog 140 #[.int .u64 16] w fun e w' => e = .returned (.int .i64 4) ∧ w = w' := by
  have key : IntKind.u64.wrap (bits BinOp.and IntKind.u64 16 (IntKind.u64.wrap (-16)) * 285870213051353865) / 288230376151711744 = 15 := by decide +kernel
  go_enter Tryz.func140, Tryz.ntmps140
  go_wp2_with fail
  go_ret
  exact ⟨rfl, rfl⟩
theorem tz_16 (w : World) (hc : w.cell? ⟨3, 15, none⟩ = some (.int .u8 4)) :
    Calls Tryz.prog 138 #[.int .u64 16] w fun e w' => e = .returned (.int .i64 4) ∧ w = w' := by
  go_enter Tryz.func138, Tryz.ntmps138
  go_wp2_with fail
  refine (tz64_16 _ hc).mono ?_
  rintro e w' ⟨rfl, rfl⟩
  go_wp2_with fail
  go_ret
  exact ⟨rfl, rfl⟩

namespace Nu
theorem d36_at (k : Nat) (h : k < 16) (p : k < (⟨#[48, 49, 50, 51, 52, 53, 54, 55, 56, 57, 97, 98, 99, 100, 101, 102, 103, 104, 105, 106, 107, 108, 109, 110, 111, 112, 113, 114, 115, 116, 117, 118, 119, 120, 121, 122]⟩ : ByteArray).size) : (⟨#[48, 49, 50, 51, 52, 53, 54, 55, 56, 57, 97, 98, 99, 100, 101, 102, 103, 104, 105, 106, 107, 108, 109, 110, 111, 112, 113, 114, 115, 116, 117, 118, 119, 120, 121, 122]⟩ : ByteArray)[k]'p = dc k := by
  have g : ∀ i : Fin 16, ((⟨#[48, 49, 50, 51, 52, 53, 54, 55, 56, 57, 97, 98, 99, 100, 101, 102, 103, 104, 105, 106, 107, 108, 109, 110, 111, 112, 113, 114, 115, 116, 117, 118, 119, 120, 121, 122]⟩ : ByteArray)[i.val]'(Nat.lt_trans i.isLt (by decide))) = dc i.val := by decide +kernel
  exact g ⟨k, h⟩
/-- The array that is being filled from its end: from place p + 1 on it holds the digits l. -/
def tail (l : List UInt8) (p j : Nat) : Value := .int .u8 (if j ≤ p then 0 else ((l.getD (j - p - 1) 0).toNat : Int))
end Nu
/-- 'var a [65]byte', as the walk lays it. -/
def zeros65 : Array Value := #[.int .u8 0, .int .u8 0, .int .u8 0, .int .u8 0, .int .u8 0, .int .u8 0, .int .u8 0, .int .u8 0, .int .u8 0, .int .u8 0, .int .u8 0, .int .u8 0, .int .u8 0, .int .u8 0, .int .u8 0, .int .u8 0, .int .u8 0, .int .u8 0, .int .u8 0, .int .u8 0, .int .u8 0, .int .u8 0, .int .u8 0, .int .u8 0, .int .u8 0, .int .u8 0, .int .u8 0, .int .u8 0, .int .u8 0, .int .u8 0, .int .u8 0, .int .u8 0, .int .u8 0, .int .u8 0, .int .u8 0, .int .u8 0, .int .u8 0, .int .u8 0, .int .u8 0, .int .u8 0, .int .u8 0, .int .u8 0, .int .u8 0, .int .u8 0, .int .u8 0, .int .u8 0, .int .u8 0, .int .u8 0, .int .u8 0, .int .u8 0, .int .u8 0, .int .u8 0, .int .u8 0, .int .u8 0, .int .u8 0, .int .u8 0, .int .u8 0, .int .u8 0, .int .u8 0, .int .u8 0, .int .u8 0, .int .u8 0, .int .u8 0, .int .u8 0, .int .u8 0]
theorem zeros65_at (i : Nat) (h : i < 65) : zeros65[i]? = some (.int .u8 0) := by
  have e : zeros65 = Array.replicate 65 (.int .u8 0) := rfl
  rw [e, Array.getElem?_replicate, if_pos h]
theorem zero65 (w : World) : (zeroValue 133).run Tryz.prog w = .ok (.agg zeros65) w := by kernel_rfl
theorem tail_zero (w : World) : (w.alloc (.cells zeros65 133)).rowIs w.heap.size 133 65 (Nu.tail [] 64) :=
  World.rowIs_alloc w zeros65 _ _ fun i hi => by
    have hi' : i < 65 := hi
    rw [zeros65_at i hi']; unfold Nu.tail; rw [if_pos (by omega)]
theorem tail_step {w : World} {b t p : Nat} {l : List UInt8} {c : UInt8} (h : w.rowIs b t 65 (Nu.tail l (p + 1))) (_hp : p + 1 < 65) :
    (w.setCell ⟨b, p + 1, none⟩ (.int .u8 (c.toNat : Int))).rowIs b t 65 (Nu.tail (c :: l) p) := by
  refine (h.set (p + 1) _).congr fun i _ => ?_
  unfold Nu.tail
  by_cases e : i = p + 1
  · subst e
    rw [if_pos rfl, if_neg (by omega), show p + 1 - p - 1 = 0 by omega]; rfl
  · rw [if_neg e]
    by_cases g : i ≤ p
    · rw [if_pos (by omega), if_pos g]
    · rw [if_neg (by omega), if_neg g]
      obtain ⟨q, hq⟩ : ∃ q, i - p - 1 = q + 1 := ⟨i - p - 2, by omega⟩
      rw [hq, show i - (p + 1) - 1 = q by omega]; rfl

theorem tail_end {w : World} {b t p : Nat} {l : List UInt8} {c : UInt8} (h : w.rowIs b t 65 (Nu.tail l p)) (hp : p + 1 + l.length = 65) :
    ∀ j (hj : j < (c :: l).length), (w.setCell ⟨b, p, none⟩ (.int .u8 (c.toNat : Int))).cell? ((⟨b, p, none⟩ : Addr).add j) = some (.int .u8 ((c :: l)[j].toNat : Int)) := by
  intro j hj
  rw [List.length_cons] at hj
  have h1 := (h.set p (.int .u8 (c.toNat : Int))).cell (i := p + j) (by omega)
  rw [Lib.add_plain, h1]
  cases j with
  | zero => rw [if_pos (by omega)]; rfl
  | succ j =>
    have hj' : j < l.length := by omega
    rw [if_neg (by omega)]
    unfold Nu.tail
    rw [if_neg (by omega), show p + (j + 1) - p - 1 = j by omega]
    simp [List.getD, hj']
theorem and15 (v : Nat) (h : SmallN v) : bits BinOp.and IntKind.u64 (v : Int) 15 = ((v % 16 : Nat) : Int) := by
  unfold SmallN at h
  have := bits_and_u64_nat v 15 (by omega) (by omega)
  rw [show ((15 : Nat) : Int) = 15 from rfl] at this
  rw [this, show (15 : Nat) = 2 ^ 4 - 1 from rfl, Nat.and_two_pow_sub_one_eq_mod]
/-- How far the digits have come: those of v are still to be written, l are written. -/
def HexAt (b : Nat) (w : World) (u : Nat) (a i : Value) (wr : World) : Prop :=
  ∃ (v p : Nat) (l : List UInt8), a = .int .u64 v ∧ i = .int .i64 ((p : Int) + 1) ∧ p + 1 + l.length = 65 ∧ l.length + (Nu.textL 16 v).length ≤ 64 ∧ SmallN v ∧ Nu.textL 16 u = Nu.textL 16 v ++ l ∧ wr.rowIs b 133 65 (Nu.tail l p) ∧ Below w.heap.size w wr

theorem slice65 (b p : Nat) (hp : p < 65) : ∀ W, (Instr.sliceAt 133 (.pointer (some ⟨b, 0, none⟩)) (some (.int .i64 (p : Int))) none none).run Tryz.prog W = .ok (.slice (some ⟨b, p, none⟩) (65 - p) (65 - p)) W := fun W => by
  have hal : Tryz.prog.arrayLen 133 = 65 := by simp [Program.arrayLen, Tryz.underlying133]
  rw [run_sliceAt_array_l W 133 ⟨b, 0, none⟩ (by simp [Program.arrayLen, Program.elem, Tryz.underlying133]) .i64 (p : Int) (by omega) (by rw [hal]; omega)]
  go_simp
  omega
set_option maxRecDepth 8000 in
set_option maxHeartbeats 1600000 in
theorem formatBits_16 (u : Nat) (hu : SmallN u) (w : World) (hc : w.cell? ⟨3, 15, none⟩ = some (.int .u8 4)) :
    Calls Tryz.prog 132 #[.slice none 0 0, .int .u64 u, .int .i64 16, .bool false, .bool false] w fun e w' => e = .returned (.tuple #[.slice none 0 0, .string (Nu.text 16 u)]) ∧ Below w.heap.size w w' := by
  have h0 := Lib.hid (tail_zero w)
  have hsz := Lib.hid (Nu.textL_size 16 (by omega) u (by unfold SmallN at hu; omega))
  have hc' : (w.alloc (.cells zeros65 133)).cell? ⟨3, 15, none⟩ = some (.int .u8 4) := (World.cell?_alloc_lt _ _ _ (lt_of_cell hc)).trans hc
  have HC := Lib.hid hc'
  have hz65 := zero65
  clear hc hc'
  go_enter Tryz.func132, Tryz.ntmps132
  go_wp2_with fail
  refine (isPower_16 _).mono ?_
  rintro e w' ⟨rfl, rfl⟩
  go_wp2_with fail
  refine (tz_16 _ HC.out).mono ?_
  rintro e w' ⟨rfl, rfl⟩
  go_wp2_with fail
  go_loopw [1, 13] (fun a i wr => HexAt w.heap.size w u a i wr) (fun a _ _ => (intOf a).toNat)
  case atStart => exact ⟨u, 64, [], rfl, rfl, rfl, by simpa using hsz.out, hu, by simp, h0.out, Below.alloc (Below.refl _ _) (Nat.le_refl _) _⟩
  case round =>
    obtain ⟨v, p, l, rfl, rfl, hl, hl2, hv, ht, hrow, hb⟩ := hrel
    have HT := Lib.hid ht
    have hp : p < 65 := by omega
    clear ht h0 hsz hu
    by_cases h16 : 16 ≤ v
    · have hm : v % 16 < 16 := Nat.mod_lt _ (by omega)
      have hm36 : v % 16 < 36 := by omega
      have h15 := and15 v hv
      have hbig := Nu.textL_big (b := 16) (by omega) (by omega : ¬ v < 16)
      have hlen : (Nu.textL 16 v).length = (Nu.textL 16 (v / 16)).length + 1 := by rw [hbig]; simp
      have hpos : 1 ≤ (Nu.textL 16 (v / 16)).length := List.length_pos_iff.2 (Nu.textL_ne 16 (by omega) _)
      obtain ⟨p, rfl⟩ : ∃ q, p = q + 1 := ⟨p - 1, by omega⟩
      have hcell := hrow.cell (i := p + 1) (by omega)
      have hfr := hrow.frozen (p + 1)
      have HB := Lib.hid hbig
      have HR := Lib.hid hrow
      have hl3 : l.length + (Nu.textL 16 (v / 16)).length + 1 ≤ 64 := by omega
      have HL := Lib.hid hl
      have hv2 : SmallN (v / 16) := by unfold SmallN at *; omega
      clear hrow hbig hlen hl hl2
      go_wp2_with fail
      go_roundw
      case rel =>
        rw [Nu.d36_at (v % 16) hm]
        have hl := HL.out
        exact ⟨v / 16, p, Nu.dc (v % 16) :: l, rfl, by go_num, by simp; omega, by simp; omega, hv2, by rw [HT.out, HB.out]; simp, tail_step HR.out (by omega), hb.setCell (Nat.le_refl _) _⟩
      case measure => simp [intOf]; omega
    · have hcell := hrow.cell (i := p) (by omega)
      have hfr := hrow.frozen p
      have HR := Lib.hid hrow
      have hsl := Lib.hid (slice65 w.heap.size p (by omega))
      have hrow2 := Lib.hid (tail_end (c := Nu.dc v) hrow (by omega))
      have hcv0 : (convert 76 9 (.slice (some ⟨w.heap.size, p, none⟩) (65 - p) (65 - p))).run Tryz.prog (wr.setCell ⟨w.heap.size, p, none⟩ (.int .u8 ((Nu.dc v).toNat : Int))) = .ok (.string (Nu.text 16 u)) (wr.setCell ⟨w.heap.size, p, none⟩ (.int .u8 ((Nu.dc v).toNat : Int))) := by
        have h := run_convert_bytes_back (P := Tryz.prog) (wr.setCell ⟨w.heap.size, p, none⟩ (.int .u8 ((Nu.dc v).toNat : Int))) 76 9 5 ⟨w.heap.size, p, none⟩ (65 - p) (Nu.dc v :: l) Tryz.underlying76 Tryz.underlying5 Tryz.underlying9 (fun j hj => hrow2.out j hj)
        have e1 : (Nu.dc v :: l).length = 65 - p := by simp; omega
        have e2 : (⟨(Nu.dc v :: l).toArray⟩ : ByteArray) = Nu.text 16 u := by
          unfold Nu.text
          rw [HT.out, Nu.textL_small (by omega : v < 16)]; rfl
        rw [e1, e2] at h
        exact h
      have hcv := Lib.hid hcv0
      clear hcv0 hrow
      go_wp2_with fail
      rw [Nu.d36_at v (by omega), hsl.out]
      have hcv1 := hcv.out
      go_wp2_with fail
      go_ret2
      exact ⟨rfl, hb.setCell (Nat.le_refl _) _⟩
end Go.Proofs.YtnpbnlphmngbdaaGreatDoor
/- FormatInt of the library to the base of 10, by the shelf's contract laid at this program's numbers; and to the base of 16: contracts. -/
namespace Go.Proofs.YtnpbnlphmngbdaaGreatDoor
open Go.RowKit

set_option maxRecDepth 100000
def format_ren : Go.Shelf.Ren := ⟨fun | 129 => 135 | 173 => 105 | 246 => 123 | 283 => 129 | 284 => 130 | 285 => 131 | 286 => 132 | 317 => 134 | 318 => 136 | 319 => 137 | 320 => 138 | 337 => 139 | 338 => 140 | n => n, fun | 0 => 0 | 2 => 2 | 3 => 3 | 4 => 4 | 5 => 5 | 9 => 9 | 20 => 20 | 37 => 76 | 46 => 111 | 51 => 121 | 53 => 126 | 171 => 125 | 173 => 129 | 212 => 132 | 213 => 133 | 232 => 136 | 233 => 137 | n => n, fun | 17 => 1 | 18 => 2 | 19 => 3 | n => n⟩
theorem format_lays : LaysM.n173 Tryz.prog format_ren := {
  mixed := by kernel_rfl,
  f129 := Tryz.func135.trans (congrArg some (by kernel_rfl)),
  f173 := Tryz.func105.trans (congrArg some (by kernel_rfl)),
  f246 := Tryz.func123.trans (congrArg some (by kernel_rfl)),
  f283 := Tryz.func129.trans (congrArg some (by kernel_rfl)),
  f284 := Tryz.func130.trans (congrArg some (by kernel_rfl)),
  f285 := Tryz.func131.trans (congrArg some (by kernel_rfl)),
  f286 := Tryz.func132.trans (congrArg some (by kernel_rfl)),
  f317 := Tryz.func134.trans (congrArg some (by kernel_rfl)),
  f318 := Tryz.func136.trans (congrArg some (by kernel_rfl)),
  f319 := Tryz.func137.trans (congrArg some (by kernel_rfl)),
  f320 := Tryz.func138.trans (congrArg some (by kernel_rfl)),
  f337 := Tryz.func139.trans (congrArg some (by kernel_rfl)),
  f338 := Tryz.func140.trans (congrArg some (by kernel_rfl)),
  t0 := Tryz.underlying0,
  a0 := Tryz.isAgg0,
  z0 := Tryz.sizeOf0,
  v0 := Tryz.zeroValue0,
  t2 := Tryz.underlying2,
  a2 := Tryz.isAgg2,
  z2 := Tryz.sizeOf2,
  v2 := Tryz.zeroValue2,
  t3 := Tryz.underlying3,
  a3 := Tryz.isAgg3,
  z3 := Tryz.sizeOf3,
  v3 := Tryz.zeroValue3,
  t4 := Tryz.underlying4,
  a4 := Tryz.isAgg4,
  z4 := Tryz.sizeOf4,
  v4 := Tryz.zeroValue4,
  t5 := Tryz.underlying5,
  a5 := Tryz.isAgg5,
  z5 := Tryz.sizeOf5,
  v5 := Tryz.zeroValue5,
  t9 := Tryz.underlying9,
  a9 := Tryz.isAgg9,
  z9 := Tryz.sizeOf9,
  v9 := Tryz.zeroValue9,
  t20 := Tryz.underlying20,
  a20 := Tryz.isAgg20,
  z20 := Tryz.sizeOf20,
  v20 := Tryz.zeroValue20,
  t37 := Tryz.underlying76,
  a37 := Tryz.isAgg76,
  z37 := Tryz.sizeOf76,
  v37 := Tryz.zeroValue76,
  t46 := Tryz.underlying111,
  a46 := Tryz.isAgg111,
  z46 := Tryz.sizeOf111,
  v46 := Tryz.zeroValue111,
  t51 := Tryz.underlying121,
  a51 := Tryz.isAgg121,
  z51 := Tryz.sizeOf121,
  v51 := Tryz.zeroValue121,
  t53 := Tryz.underlying126,
  a53 := Tryz.isAgg126,
  z53 := Tryz.sizeOf126,
  v53 := Tryz.zeroValue126,
  t171 := Tryz.underlying125,
  a171 := Tryz.isAgg125,
  z171 := Tryz.sizeOf125,
  v171 := Tryz.zeroValue125,
  t173 := Tryz.underlying129,
  a173 := Tryz.isAgg129,
  z173 := Tryz.sizeOf129,
  v173 := Tryz.zeroValue129,
  t212 := Tryz.underlying132,
  a212 := Tryz.isAgg132,
  z212 := Tryz.sizeOf132,
  v212 := Tryz.zeroValue132,
  t213 := Tryz.underlying133,
  a213 := Tryz.isAgg133,
  z213 := Tryz.sizeOf133,
  t232 := Tryz.underlying136,
  a232 := Tryz.isAgg136,
  z232 := Tryz.sizeOf136,
  v232 := Tryz.zeroValue136,
  t233 := Tryz.underlying137,
  a233 := Tryz.isAgg137,
  z233 := Tryz.sizeOf137,
  v233 := Tryz.zeroValue137,
  g17 := by kernel_rfl,
  g18 := by kernel_rfl,
  g19 := by kernel_rfl,
  i0 := by kernel_rfl,
  i2 := by kernel_rfl,
  i3 := by kernel_rfl,
  i4 := by kernel_rfl,
  i5 := by kernel_rfl,
  i9 := by kernel_rfl,
  i20 := by kernel_rfl,
  i37 := by kernel_rfl,
  i46 := by kernel_rfl,
  i51 := by kernel_rfl,
  i53 := by kernel_rfl,
  i171 := by kernel_rfl,
  i173 := by kernel_rfl,
  i212 := by kernel_rfl,
  i232 := by kernel_rfl,
  i233 := by kernel_rfl,
  m17 := by kernel_rfl,
  m18 := by kernel_rfl,
  m19 := by kernel_rfl }

/-- The library's tables in a world: the powers of 10, and the one place of deBruijn64tab that the base of 16 asks for. -/
structure Tabs (w : World) : Prop where
  pow : Lib.TabIs Tryz.prog w "internal/strconv.uint64pow10" .u64 Lib.pow10Tab
  tz : w.cell? ⟨3, 15, none⟩ = some (.int .u8 4)
theorem Format_10 (n : Nat) (hn : SmallN n) (w : World) (ht : Tabs w) :
    Calls Tryz.prog 105 #[.int .i64 n, .int .i64 10] w fun e w' => e = .returned (.string (Nu.text 10 n)) ∧ Below w.heap.size w w' := by
  unfold SmallN at hn
  have h := Any.strconv_FormatInt_10 format_lays (n : Int) (by omega) (by omega) w ht.pow
  refine Calls.mono h ?_
  rintro e w' ⟨rfl, k, os, rfl⟩
  refine ⟨?_, ?_⟩
  · rw [Lib.itoa_nonneg, Nu.decDigits_text]; rfl
  · exact Lib.below_grow _ _ (Nat.le_refl _) _ _
theorem Tabs.stay {w w' : World} (h : Tabs w) (hb : Below w.heap.size w w') : Tabs w' :=
  ⟨Lib.tabBelow_of_tabIs h.pow w' hb, below_cell hb (lt_of_cell h.tz) h.tz⟩
theorem u64_wrap (n : Nat) (hn : SmallN n) : IntKind.u64.wrap (n : Int) = (n : Int) := by
  unfold SmallN at hn
  rw [IntKind.wrap_u64]; omega
theorem iFormat_16 (n : Nat) (hn : SmallN n) (w : World) (ht : Tabs w) :
    Calls Tryz.prog 123 #[.int .i64 n, .int .i64 16] w fun e w' => e = .returned (.string (Nu.text 16 n)) ∧ Below w.heap.size w w' := by
  have hw := u64_wrap n hn
  go_enter Tryz.func123, Tryz.ntmps123
  go_wp2_with fail
  refine (formatBits_16 n hn _ ht.tz).mono ?_
  rintro e w' ⟨rfl, hb⟩
  go_wp2_with fail
  go_ret
  exact ⟨rfl, hb⟩
theorem Format_16 (n : Nat) (hn : SmallN n) (w : World) (ht : Tabs w) :
    Calls Tryz.prog 105 #[.int .i64 n, .int .i64 16] w fun e w' => e = .returned (.string (Nu.text 16 n)) ∧ Below w.heap.size w w' := by
  go_enter Tryz.func105, Tryz.ntmps105
  go_wp2_with fail
  refine (iFormat_16 n hn _ ht).mono ?_
  rintro e w' ⟨rfl, hb⟩
  go_wp2_with fail
  go_ret
  exact ⟨rfl, hb⟩

theorem write_10 (n : Int) (hn : n < 9223372036854775808) (w : World) (ht : Tabs w) :
    Calls Tryz.prog 85 #[.int .i64 n, .int .i64 10] w fun e w' => e = .returned (.string (Nu.tx 10 n)) ∧ Below w.heap.size w w' := by
  by_cases h : n < 0
  · have hx := Lib.hid (show Nu.tx 10 n = ⟨#[]⟩ by unfold Nu.tx; rw [if_pos h])
    clear hn
    go_enter Tryz.func85, Tryz.ntmps85
    go_wp2_with fail
    go_ret
    exact ⟨ret_str hx.out.symm, Below.refl _ _⟩
  · have hx := Lib.hid (show Nu.tx 10 n = Nu.text 10 n.toNat by unfold Nu.tx; rw [if_neg h])
    obtain ⟨k, rfl⟩ := Int.eq_ofNat_of_zero_le (by omega : 0 ≤ n)
    have hk : SmallN k := by unfold SmallN; omega
    clear hn
    go_enter Tryz.func85, Tryz.ntmps85
    go_wp2_with fail
    refine (Format_10 k hk _ ht).mono ?_
    rintro e w' ⟨rfl, hb⟩
    go_wp2_with fail
    go_ret
    exact ⟨ret_str hx.out.symm, hb⟩
theorem Text_any (n : Int) (hn : n < 9223372036854775808) (w : World) (ht : Tabs w) :
    Calls Tryz.prog 67 #[.int .i64 n] w fun e w' => e = .returned (.string (Nu.tx 10 n)) ∧ Below w.heap.size w w' := by
  have H := Lib.hid (write_10 n hn w ht)
  clear hn
  go_enter Tryz.func67, Tryz.ntmps67
  go_wp2_with fail
  refine H.out.mono ?_
  rintro e w' ⟨rfl, hb⟩
  go_wp2_with fail
  go_ret
  exact ⟨rfl, hb⟩

theorem write_16 (n : Int) (hn : n < 9223372036854775808) (w : World) (ht : Tabs w) :
    Calls Tryz.prog 85 #[.int .i64 n, .int .i64 16] w fun e w' => e = .returned (.string (Nu.tx 16 n)) ∧ Below w.heap.size w w' := by
  by_cases h : n < 0
  · have hx := Lib.hid (show Nu.tx 16 n = ⟨#[]⟩ by unfold Nu.tx; rw [if_pos h])
    clear hn
    go_enter Tryz.func85, Tryz.ntmps85
    go_wp2_with fail
    go_ret
    exact ⟨ret_str hx.out.symm, Below.refl _ _⟩
  · have hx := Lib.hid (show Nu.tx 16 n = Nu.text 16 n.toNat by unfold Nu.tx; rw [if_neg h])
    obtain ⟨k, rfl⟩ := Int.eq_ofNat_of_zero_le (by omega : 0 ≤ n)
    have hk : SmallN k := by unfold SmallN; omega
    clear hn
    go_enter Tryz.func85, Tryz.ntmps85
    go_wp2_with fail
    refine (Format_16 k hk _ ht).mono ?_
    rintro e w' ⟨rfl, hb⟩
    go_wp2_with fail
    go_ret
    exact ⟨ret_str hx.out.symm, hb⟩
end Go.Proofs.YtnpbnlphmngbdaaGreatDoor
/- Sums of numbers, and the page's examples: contracts. -/
namespace Go.Proofs.YtnpbnlphmngbdaaGreatDoor
open Go.RowKit

/-- Numbers, added from the left: the sum and the error. -/
def sumS (most : Int) : Int → List Int → Int × Int
  | a, [] => (a, 0)
  | a, n :: l => if n < 0 then (0, 1) else if most - a < n then (0, 7) else sumS most (a + n) l
/-- A slice of ints in a world: its numbers. -/
def IsInts (w : World) (a : Option Addr) (len : Nat) (zs : List Int) : Prop :=
  zs.length = len ∧ (∀ i, i < len → -9223372036854775808 ≤ zs.getD i 0 ∧ zs.getD i 0 < 9223372036854775808) ∧ ((a = none ∧ len = 0) ∨ ∃ x, a = some x ∧ len ≤ 9223372036854775807 ∧ ∀ i, i < len → w.cell? (x.add i) = some (.int .i64 (zs.getD i 0)))
theorem IsInts.take {w : World} {a : Option Addr} {len : Nat} {zs : List Int} (h : IsInts w a len zs) (n : Nat) (hn : n ≤ len) : IsInts w a n (zs.take n) := by
  obtain ⟨h1, h2, h3⟩ := h
  have hg : ∀ i, i < n → (zs.take n).getD i 0 = zs.getD i 0 := fun i hi => by simp [List.getD, hi]
  refine ⟨by rw [List.length_take]; omega, fun i hi => by rw [hg i hi]; exact h2 i (by omega), ?_⟩
  rcases h3 with ⟨h, h'⟩ | ⟨x, h, h', hc⟩
  · exact .inl ⟨h, by omega⟩
  · exact .inr ⟨x, h, by omega, fun i hi => by rw [hg i hi]; exact hc i (by omega)⟩
theorem IsInts.below {w w' : World} {a : Option Addr} {len : Nat} {zs : List Int} (h : IsInts w a len zs) (hb : Below w.heap.size w w') : IsInts w' a len zs := by
  obtain ⟨h1, h2, h3⟩ := h
  refine ⟨h1, h2, ?_⟩
  rcases h3 with h | ⟨x, h, h', hc⟩
  · exact .inl h
  · exact .inr ⟨x, h, h', fun i hi => (hb.cell (lt_of_cell (hc i hi))).trans (hc i hi)⟩
theorem drop_step (zs : List Int) (k : Nat) (h : k < zs.length) : zs.drop k = zs.getD k 0 :: zs.drop (k + 1) := by
  rw [List.drop_eq_getElem_cons h]; simp [List.getD, h]
theorem sum_none (most a : Int) (zs : List Int) (k : Nat) (h : ¬ k < zs.length) : sumS most a (zs.drop k) = (a, 0) := by
  rw [List.drop_eq_nil_of_le (by omega)]; rfl
theorem sum_arg (most a : Int) (zs : List Int) (k : Nat) (h : k < zs.length) (hn : zs.getD k 0 < 0) : sumS most a (zs.drop k) = (0, 1) := by
  rw [drop_step zs k h, sumS, if_pos hn]
theorem sum_much (most a : Int) (zs : List Int) (k : Nat) (h : k < zs.length) (hn : 0 ≤ zs.getD k 0) (hm : most - a < zs.getD k 0) : sumS most a (zs.drop k) = (0, 7) := by
  rw [drop_step zs k h, sumS, if_neg (by omega), if_pos hm]
theorem sum_on (most a : Int) (zs : List Int) (k : Nat) (h : k < zs.length) (hn : 0 ≤ zs.getD k 0) (hm : zs.getD k 0 ≤ most - a) : sumS most a (zs.drop k) = sumS most (a + zs.getD k 0) (zs.drop (k + 1)) := by
  conv => lhs; rw [drop_step zs k h, sumS, if_neg (by omega), if_neg (by omega)]
/-- What stands of a sum on its way. -/
def OnWay (most a : Int) : Prop := 0 ≤ a ∧ (a ≤ most ∨ a = 0) ∧ -9223372036854775808 ≤ most ∧ most < 9223372036854775808
theorem onway_sub {most a : Int} (h : OnWay most a) : wrap64 (most - a) = most - a := by
  unfold OnWay at h; unfold wrap64; omega
theorem onway_add {most a n : Int} (h : OnWay most a) (h0 : 0 ≤ n) (hm : n ≤ most - a) : wrap64 (a + n) = a + n ∧ OnWay most (a + n) := by
  unfold OnWay at *; unfold wrap64; omega

end Go.Proofs.YtnpbnlphmngbdaaGreatDoor
/- The page's examples, and the walks of the laws NumeralReads and NumeralTexts. -/
namespace Go.Proofs.YtnpbnlphmngbdaaGreatDoor
open Go.RowKit

theorem drewB (B : Nat) (w : World) (n : Nat) : Below B w (w.drewN n) := ⟨rfl, rfl, rfl, Nat.le_refl _, fun _ _ => rfl⟩
namespace Nu
theorem tx_size (b : Nat) (hb : 2 ≤ b) (n : Int) (h : n < 9223372036854775808) : (tx b n).size ≤ 64 := by
  unfold tx
  split
  · exact Nat.zero_le _
  · exact text_size b hb _ (by omega)
theorem rd_tx (b : Nat) (hb : 2 ≤ b) (hb' : b ≤ 16) (n most : Int) : rd b most (tx b n).data.toList = if n < 0 then (0, 2) else if most < n then (0, 7) else (n, 0) := by
  unfold tx
  by_cases h : n < 0
  · rw [if_pos h, if_pos h]; rfl
  · rw [if_neg h, if_neg h]
    obtain ⟨k, rfl⟩ := Int.eq_ofNat_of_zero_le (by omega : 0 ≤ n)
    rw [text_list]
    unfold rd
    have e1 : (textL b (k : Int).toNat).isEmpty = false := by
      have := textL_ne b hb (k : Int).toNat
      simpa using this
    rw [e1, textL_isD b hb hb', textL_val b hb hb', if_neg (by simp)]
    simp
end Nu
end Go.Proofs.YtnpbnlphmngbdaaGreatDoor
/- The library's tables that the row lists: what they give a walk, and a world that holds them. -/
namespace Go.Proofs.YtnpbnlphmngbdaaGreatDoor
open Go.ChangeShapes Go.WideShapes Go.ChangeAt Go.RowKit

noncomputable def laidL : List (String × DataW Unit) := [("math/bits.deBruijn32tab", Rows.laid_math_bits_deBruijn32tab), ("math/bits.deBruijn64tab", Rows.laid_math_bits_deBruijn64tab), ("internal/strconv.uint64pow10", Rows.laid_internal_strconv_uint64pow10)]
noncomputable def laidWorld (os : Os) : World :=
  { World.holding Tryz.prog os ⟨#[], #[], []⟩ with heap := ((((World.holding Tryz.prog os ⟨#[], #[], []⟩).heap.modify 2 fun
      | .cells _ t frozen => .cells #[.int .u8 0, .int .u8 1, .int .u8 28, .int .u8 2, .int .u8 29, .int .u8 14, .int .u8 24, .int .u8 3, .int .u8 30, .int .u8 22, .int .u8 20, .int .u8 15, .int .u8 25, .int .u8 17, .int .u8 4, .int .u8 8, .int .u8 31, .int .u8 27, .int .u8 13, .int .u8 23, .int .u8 21, .int .u8 19, .int .u8 16, .int .u8 7, .int .u8 26, .int .u8 12, .int .u8 18, .int .u8 6, .int .u8 11, .int .u8 5, .int .u8 10, .int .u8 9] t frozen
      | o => o).modify 3 fun
      | .cells _ t frozen => .cells #[.int .u8 0, .int .u8 1, .int .u8 56, .int .u8 2, .int .u8 57, .int .u8 49, .int .u8 28, .int .u8 3, .int .u8 61, .int .u8 58, .int .u8 42, .int .u8 50, .int .u8 38, .int .u8 29, .int .u8 17, .int .u8 4, .int .u8 62, .int .u8 47, .int .u8 59, .int .u8 36, .int .u8 45, .int .u8 43, .int .u8 51, .int .u8 22, .int .u8 53, .int .u8 39, .int .u8 33, .int .u8 30, .int .u8 24, .int .u8 18, .int .u8 12, .int .u8 5, .int .u8 63, .int .u8 55, .int .u8 48, .int .u8 27, .int .u8 60, .int .u8 41, .int .u8 37, .int .u8 16, .int .u8 46, .int .u8 35, .int .u8 44, .int .u8 21, .int .u8 52, .int .u8 32, .int .u8 23, .int .u8 11, .int .u8 54, .int .u8 26, .int .u8 40, .int .u8 15, .int .u8 34, .int .u8 20, .int .u8 31, .int .u8 10, .int .u8 25, .int .u8 14, .int .u8 19, .int .u8 9, .int .u8 13, .int .u8 8, .int .u8 7, .int .u8 6] t frozen
      | o => o).modify 1 fun
      | .cells _ t frozen => .cells #[.int .u64 1, .int .u64 10, .int .u64 100, .int .u64 1000, .int .u64 10000, .int .u64 100000, .int .u64 1000000, .int .u64 10000000, .int .u64 100000000, .int .u64 1000000000, .int .u64 10000000000, .int .u64 100000000000, .int .u64 1000000000000, .int .u64 10000000000000, .int .u64 100000000000000, .int .u64 1000000000000000, .int .u64 10000000000000000, .int .u64 100000000000000000, .int .u64 1000000000000000000, .int .u64 10000000000000000000] t frozen
      | o => o) }
theorem laid_met (os : Os) (args : Array Value) : laidMet Tryz.prog laidL ((laidWorld os).forCall (fun _ _ => 0) ⟨#[], args, []⟩).memory :=
  laidMet_of_run' 8 (by kernel_rfl) (by kernel_rfl)
theorem pow_list : Lib.pow10Tab = [1, 10, 100, 1000, 10000, 100000, 1000000, 10000000, 100000000, 1000000000, 10000000000, 100000000000, 1000000000000, 10000000000000, 100000000000000, 1000000000000000, 10000000000000000, 100000000000000000, 1000000000000000000, 10000000000000000000] := by decide +kernel
theorem tabs_of {W : World} (h : laidMetH Tryz.prog laidL W) : Tabs W := by
  have h1 : laidMet Tryz.prog laidL W := h

  have h2 := h1.tail
  have tz : Lib.TabIs Tryz.prog W "math/bits.deBruijn64tab" .u8 [0, 1, 56, 2, 57, 49, 28, 3, 61, 58, 42, 50, 38, 29, 17, 4, 62, 47, 59, 36, 45, 43, 51, 22, 53, 39, 33, 30, 24, 18, 12, 5, 63, 55, 48, 27, 60, 41, 37, 16, 46, 35, 44, 21, 52, 32, 23, 11, 54, 26, 40, 15, 34, 20, 31, 10, 25, 14, 19, 9, 13, 8, 7, 6] :=
    Lib.tabIs_of_head (g := 3) (by kernel_rfl) (by kernel_rfl) Tryz.underlying137 Tryz.underlying5 (by kernel_rfl) (by kernel_rfl) (show laidMet Tryz.prog (("math/bits.deBruijn64tab", Lib.tabData .u8 [0, 1, 56, 2, 57, 49, 28, 3, 61, 58, 42, 50, 38, 29, 17, 4, 62, 47, 59, 36, 45, 43, 51, 22, 53, 39, 33, 30, 24, 18, 12, 5, 63, 55, 48, 27, 60, 41, 37, 16, 46, 35, 44, 21, 52, 32, 23, 11, 54, 26, 40, 15, 34, 20, 31, 10, 25, 14, 19, 9, 13, 8, 7, 6]) :: _) W from h2)
  have h3 := h2.tail
  have tp : Lib.TabIs Tryz.prog W "internal/strconv.uint64pow10" .u64 [1, 10, 100, 1000, 10000, 100000, 1000000, 10000000, 100000000, 1000000000, 10000000000, 100000000000, 1000000000000, 10000000000000, 100000000000000, 1000000000000000, 10000000000000000, 100000000000000000, 1000000000000000000, 10000000000000000000] :=
    Lib.tabIs_of_head (g := 1) (by kernel_rfl) (by kernel_rfl) Tryz.underlying132 Tryz.underlying126 (by kernel_rfl) (by kernel_rfl) (show laidMet Tryz.prog (("internal/strconv.uint64pow10", Lib.tabData .u64 [1, 10, 100, 1000, 10000, 100000, 1000000, 10000000, 100000000, 1000000000, 10000000000, 100000000000, 1000000000000, 10000000000000, 100000000000000, 1000000000000000, 10000000000000000, 100000000000000000, 1000000000000000000, 10000000000000000000]) :: _) W from h3)
  refine ⟨by rw [pow_list]; exact tp, ?_⟩
  exact tz.cell (by kernel_rfl) 15 (by decide)
end Go.Proofs.YtnpbnlphmngbdaaGreatDoor
