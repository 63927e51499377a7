/- Numerals: a number's digits to a base, their text, what a text of digits stands for, and which of two texts is the lesser number. Nothing here speaks of the program. -/
import Derived.Test.YtnnhlkbjdfgcaaaMath
import Derived.Lib.ItoaNum
namespace Go.Proofs.Ytnnhlkbjdfgcaaa
namespace Nu
/-- The digits of a number to a base, the first one ahead. -/
def digs (b n : Nat) : List Nat := if _h : n < b ∨ b < 2 then [n] else digs b (n / b) ++ [n % b]
termination_by n
decreasing_by exact Nat.div_lt_self (by omega) (by omega)
/-- What a byte stands for as a digit; -1: it is none. -/
def hexv (n : Int) : Int := if 48 ≤ n ∧ n ≤ 57 then n - 48 else if 97 ≤ n ∧ n ≤ 102 then n - 87 else if 65 ≤ n ∧ n ≤ 70 then n - 55 else -1
/-- The same where the base is b. -/
def wor (b : Nat) (n : Int) : Int := if hexv n < b then hexv n else -1
def dc (d : Nat) : UInt8 := if d < 10 then UInt8.ofNat (48 + d) else UInt8.ofNat (87 + d)
def dv (c : UInt8) : Nat := (hexv (c.toNat : Int)).toNat
def isD (b : Nat) (c : UInt8) : Bool := decide (0 ≤ wor b (c.toNat : Int))
/-- The number of digits, behind a number that is there. -/
def V (b a : Nat) (l : List Nat) : Nat := l.foldl (fun a d => a * b + d) a
def val (b : Nat) (l : List UInt8) : Nat := V b 0 (l.map dv)
def textL (b n : Nat) : List UInt8 := (digs b n).map dc
def text (b n : Nat) : ByteArray := ⟨(textL b n).toArray⟩

theorem V_nil (b a : Nat) : V b a [] = a := rfl
theorem V_cons (b a d : Nat) (l : List Nat) : V b a (d :: l) = V b (a * b + d) l := rfl
theorem V_append (b a : Nat) (l m : List Nat) : V b a (l ++ m) = V b (V b a l) m := by simp [V]
theorem V_snoc (b a d : Nat) (l : List Nat) : V b a (l ++ [d]) = V b a l * b + d := by simp [V]
theorem V_le (b : Nat) (hb : 1 ≤ b) : ∀ (l : List Nat) (a : Nat), a ≤ V b a l
  | [], a => Nat.le_refl a
  | d :: l, a => by
    rw [V_cons]
    have h1 := V_le b hb l (a * b + d)
    have h2 : a * 1 ≤ a * b := Nat.mul_le_mul_left a hb
    omega
theorem V_lt (b : Nat) (_hb : 1 ≤ b) : ∀ (l m : List Nat) (a a' : Nat), l.length = m.length → (∀ d ∈ l, d < b) → a < a' → V b a l < V b a' m
  | [], [], a, a', _, _, h => h
  | [], _ :: _, _, _, hl, _, _ => by simp at hl
  | _ :: _, [], _, _, hl, _, _ => by simp at hl
  | x :: l, y :: m, a, a', hl, hd, h => by
    rw [V_cons, V_cons]
    refine V_lt b _hb l m _ _ (by simpa using hl) (fun d h => hd d (List.mem_cons_of_mem _ h)) ?_
    have hx := hd x List.mem_cons_self
    have h2 : (a + 1) * b ≤ a' * b := Nat.mul_le_mul_right b h
    rw [Nat.add_mul] at h2
    omega
theorem digs_small {b n : Nat} (h : n < b) : digs b n = [n] := by rw [digs, dif_pos (Or.inl h)]
theorem digs_big {b n : Nat} (hb : 2 ≤ b) (h : ¬ n < b) : digs b n = digs b (n / b) ++ [n % b] := by rw [digs, dif_neg (by omega)]
theorem div_lt {b n : Nat} (hb : 2 ≤ b) (h : ¬ n < b) : n / b < n := Nat.div_lt_self (by omega) (by omega)
theorem digs_V (b : Nat) (hb : 2 ≤ b) (n : Nat) : V b 0 (digs b n) = n := by
  induction n using Nat.strongRecOn with
  | ind n ih =>
    by_cases h : n < b
    · rw [digs_small h, V_cons, V_nil]; omega
    · rw [digs_big hb h, V_snoc, ih _ (div_lt hb h), Nat.mul_comm]; exact Nat.div_add_mod n b
theorem digs_lt (b : Nat) (hb : 2 ≤ b) (n : Nat) : ∀ d ∈ digs b n, d < b := by
  induction n using Nat.strongRecOn with
  | ind n ih =>
    by_cases h : n < b
    · rw [digs_small h]; intro d hd; rw [List.mem_singleton] at hd; omega
    · rw [digs_big hb h]
      intro d hd
      rcases List.mem_append.1 hd with hd | hd
      · exact ih _ (div_lt hb h) d hd
      · rw [List.mem_singleton] at hd; rw [hd]; exact Nat.mod_lt _ (by omega)
theorem digs_ne (b : Nat) (hb : 2 ≤ b) (n : Nat) : digs b n ≠ [] := by
  by_cases h : n < b
  · rw [digs_small h]; simp
  · rw [digs_big hb h]; simp
theorem digs_len (b : Nat) (hb : 2 ≤ b) (n : Nat) : ∀ m, n ≤ m → (digs b n).length ≤ (digs b m).length := by
  induction n using Nat.strongRecOn with
  | ind n ih =>
    intro m hm
    by_cases h : n < b
    · rw [digs_small h]
      have := List.length_pos_iff.2 (digs_ne b hb m)
      simp only [List.length_singleton]; omega
    · rw [digs_big hb h, digs_big hb (by omega : ¬ m < b)]
      simp only [List.length_append, List.length_singleton]
      have := ih _ (div_lt hb h) (m / b) (Nat.div_le_div_right hm)
      omega
theorem digs_size (b : Nat) (hb : 2 ≤ b) (n k : Nat) (h : n < 2 ^ k) (hk : 1 ≤ k) : (digs b n).length ≤ k := by
  induction n using Nat.strongRecOn generalizing k with
  | ind n ih =>
    by_cases hn : n < b
    · rw [digs_small hn]; simpa using hk
    · rw [digs_big hb hn]
      simp only [List.length_append, List.length_singleton]
      have h2 : 2 ≤ k := by
        rcases Nat.lt_or_ge k 2 with h1 | h1
        · obtain rfl : k = 1 := by omega
          omega
        · exact h1
      have h3 : n / b < 2 ^ (k - 1) := by
        have e : 2 ^ k = 2 * 2 ^ (k - 1) := by rw [← Nat.pow_succ']; congr 1; omega
        have : n / b ≤ n / 2 := Nat.div_le_div_left hb (by omega)
        omega
      have := ih _ (div_lt hb hn) (k - 1) h3 (by omega)
      omega
/-! Bytes of digits. -/
theorem hexv_dc : ∀ d, d < 16 → hexv ((dc d).toNat : Int) = d := by
  have h : ∀ i : Fin 16, hexv ((dc i.val).toNat : Int) = i.val := by decide +kernel
  exact fun d hd => h ⟨d, hd⟩
theorem dv_dc (d : Nat) (h : d < 16) : dv (dc d) = d := by unfold dv; rw [hexv_dc d h]; simp
theorem isD_dc (b d : Nat) (h : d < b) (hb : b ≤ 16) : isD b (dc d) = true := by
  unfold isD wor; rw [hexv_dc d (by omega), if_pos (by omega)]; simp
theorem textL_val (b : Nat) (hb : 2 ≤ b) (hb' : b ≤ 16) (n : Nat) : val b (textL b n) = n := by
  unfold val textL
  rw [List.map_map]
  have : (digs b n).map (dv ∘ dc) = digs b n := by
    conv => rhs; rw [← List.map_id (digs b n)]
    exact List.map_congr_left fun d hd => dv_dc d (by have := digs_lt b hb n d hd; omega)
  rw [this]
  exact digs_V b hb n
theorem textL_isD (b : Nat) (hb : 2 ≤ b) (hb' : b ≤ 16) (n : Nat) : (textL b n).all (isD b) = true := by
  unfold textL
  rw [List.all_map, List.all_eq_true]
  intro d hd
  exact isD_dc b d (digs_lt b hb n d hd) hb'
theorem textL_ne (b : Nat) (hb : 2 ≤ b) (n : Nat) : textL b n ≠ [] := by unfold textL; simp [digs_ne b hb n]
theorem textL_small {b n : Nat} (h : n < b) : textL b n = [dc n] := by unfold textL; rw [digs_small h]; rfl
theorem textL_big {b n : Nat} (hb : 2 ≤ b) (h : ¬ n < b) : textL b n = textL b (n / b) ++ [dc (n % b)] := by unfold textL; rw [digs_big hb h]; simp
theorem textL_size (b : Nat) (hb : 2 ≤ b) (n : Nat) (h : n < 2 ^ 64) : (textL b n).length ≤ 64 := by unfold textL; rw [List.length_map]; exact digs_size b hb n 64 h (by omega)
theorem text_size (b : Nat) (hb : 2 ≤ b) (n : Nat) (h : n < 2 ^ 64) : (text b n).size ≤ 64 := by
  have := textL_size b hb n h
  simpa [text, ByteArray.size] using this
theorem decDigits_text (n : Nat) : Lib.decDigits n = textL 10 n := by
  induction n using Nat.strongRecOn with
  | ind n ih =>
    by_cases h : n < 10
    · rw [Lib.decDigits_one h, textL_small h]; unfold dc; rw [if_pos h]
    · rw [Lib.decDigits, dif_neg h, textL_big (by omega) h, ih _ (div_lt (by omega) h)]
      unfold dc
      rw [if_pos (Nat.mod_lt _ (by omega))]
/-! The lesser of two texts. -/
theorem dc_lt (x y : Nat) (hx : x < 16) (hy : y < 16) : (decide (dc x < dc y)) = decide (x < y) := by
  have h : ∀ i j : Fin 16, (decide (dc i.val < dc j.val)) = decide (i.val < j.val) := by decide +kernel
  exact h ⟨x, hx⟩ ⟨y, hy⟩
theorem dc_eq (x y : Nat) (hx : x < 16) (hy : y < 16) : (dc x == dc y) = decide (x = y) := by
  have h : ∀ i j : Fin 16, (dc i.val == dc j.val) = decide (i.val = j.val) := by decide +kernel
  exact h ⟨x, hx⟩ ⟨y, hy⟩
theorem less_V (b : Nat) (hb : 1 ≤ b) (hb' : b ≤ 16) : ∀ (l m : List Nat) (a : Nat), l.length = m.length → (∀ d ∈ l, d < b) → (∀ d ∈ m, d < b) → Op.bytesLess (l.map dc) (m.map dc) = decide (V b a l < V b a m)
  | [], [], a, _, _, _ => by simp [Op.bytesLess, V_nil]
  | [], _ :: _, _, hl, _, _ => by simp at hl
  | _ :: _, [], _, hl, _, _ => by simp at hl
  | x :: l, y :: m, a, hl, h1, h2 => by
    have hx := h1 x List.mem_cons_self
    have hy := h2 y List.mem_cons_self
    have h1' : ∀ d ∈ l, d < b := fun d h => h1 d (List.mem_cons_of_mem _ h)
    have h2' : ∀ d ∈ m, d < b := fun d h => h2 d (List.mem_cons_of_mem _ h)
    have hl' : l.length = m.length := by simpa using hl
    simp only [List.map_cons, Op.bytesLess]
    rw [dc_lt x y (by omega) (by omega), dc_eq x y (by omega) (by omega), V_cons, V_cons]
    rcases Nat.lt_trichotomy x y with h | h | h
    · have := V_lt b hb l m (a * b + x) (a * b + y) hl' h1' (by omega)
      simp [h, this]
    · subst h
      rw [less_V b hb hb' l m (a * b + x) hl' h1' h2']
      simp
    · have := V_lt b hb m l (a * b + y) (a * b + x) hl'.symm h2' (by omega)
      have e1 : ¬ x < y := by omega
      have e2 : ¬ x = y := by omega
      have e3 : ¬ V b (a * b + x) l < V b (a * b + y) m := by omega
      simp [e1, e2, e3]
theorem less_text (b : Nat) (hb : 2 ≤ b) (hb' : b ≤ 16) (m n : Nat) : (decide ((textL b m).length < (textL b n).length) || (decide ((textL b m).length = (textL b n).length) && Op.bytesLess (textL b m) (textL b n))) = decide (m < n) := by
  have hL := digs_len b hb n m
  have hM := digs_len b hb m n
  have e1 : ∀ k, (textL b k).length = (digs b k).length := fun k => by unfold textL; simp
  rw [e1, e1]
  rcases Nat.lt_trichotomy (digs b m).length (digs b n).length with h | h | h
  · have : m < n := by
      apply Classical.byContradiction; intro hc
      have := hL (by omega)
      omega
    simp [h, this]
  · have := less_V b (by omega) hb' (digs b m) (digs b n) 0 h (digs_lt b hb m) (digs_lt b hb n)
    rw [digs_V b hb, digs_V b hb] at this
    unfold textL
    simp [h, this]
  · have : ¬ m < n := by
      intro hc
      have := hM (by omega)
      omega
    have h1 : ¬ (digs b m).length < (digs b n).length := by omega
    have h2 : ¬ (digs b m).length = (digs b n).length := by omega
    simp [h1, h2, this]
/-! The digits of a text, without noughts ahead. -/
def canon (b v : Nat) : List UInt8 := if v = 0 then [] else textL b v
theorem canon_zero (b : Nat) : canon b 0 = [] := rfl
theorem canon_step (b : Nat) (hb : 2 ≤ b) (v d : Nat) (hd : d < b) (h : v ≠ 0 ∨ d ≠ 0) : canon b (v * b + d) = canon b v ++ textL b d := by
  rw [textL_small hd]
  unfold canon
  by_cases hv : v = 0
  · subst hv
    have hd0 : d ≠ 0 := by omega
    rw [if_pos rfl, if_neg (by omega), textL_small (by omega)]
    simp
  · have h1 : b ≤ v * b := by
      have := Nat.mul_le_mul_right b (by omega : 1 ≤ v)
      omega
    rw [if_neg hv, if_neg (by omega), textL_big hb (by omega)]
    have e1 : (v * b + d) / b = v := by rw [Nat.mul_comm, Nat.mul_add_div (by omega), Nat.div_eq_of_lt hd, Nat.add_zero]
    have e2 : (v * b + d) % b = d := by rw [Nat.mul_comm, Nat.mul_add_mod, Nat.mod_eq_of_lt hd]
    rw [e1, e2]
theorem canon_ne (b : Nat) (hb : 2 ≤ b) (v : Nat) : (canon b v).isEmpty = decide (v = 0) := by
  unfold canon
  by_cases h : v = 0
  · simp [h]
  · rw [if_neg h]; simp [h, textL_ne b hb v]
theorem val_snoc (b : Nat) (l : List UInt8) (c : UInt8) : val b (l ++ [c]) = val b l * b + dv c := by unfold val; rw [List.map_append, List.map_singleton, V_snoc]
theorem val_le (b : Nat) (hb : 1 ≤ b) (l m : List UInt8) : val b l ≤ val b (l ++ m) := by unfold val; rw [List.map_append, V_append]; exact V_le b hb _ _
theorem val_nil (b : Nat) : val b [] = 0 := rfl
theorem dv_of (b : Nat) (c : UInt8) (h : isD b c = true) : wor b (c.toNat : Int) = dv c ∧ hexv (c.toNat : Int) = dv c ∧ dv c < b := by
  have h0 : 0 ≤ wor b (c.toNat : Int) := by simpa [isD] using h
  unfold dv
  unfold wor at *
  split at h0 <;> split <;> omega
/-- What the page says of a text: its number and its error. -/
def rd (b : Nat) (most : Int) (l : List UInt8) : Int × Int :=
  if l.isEmpty || !l.all (isD b) then (0, 2) else if most < (val b l : Int) then (0, 7) else (val b l, 0)
end Nu
end Go.Proofs.Ytnnhlkbjdfgcaaa
