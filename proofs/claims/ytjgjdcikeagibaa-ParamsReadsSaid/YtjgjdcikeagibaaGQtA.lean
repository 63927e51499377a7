/- Contracts and lemmas that the claim rests on: QtA. -/
import Derived.Test.YtjgjdcikeagibaaGScan
/- Quoted texts as plain functions on lists of bytes, and where a reader of them stands. Nothing here speaks of the program. -/
namespace Go.Proofs.Ytjgjdcikeagibaa
namespace Qd
/-- A byte that stands for itself. -/
def pl (n : Int) : Bool := B.val n && decide (n ≠ 34) && decide (n ≠ 92)
/-- Behind the first mark: what it means, and how many bytes there are up to the last mark. -/
def inner : List UInt8 → Option (List UInt8 × Nat)
  | [] => none
  | [c] => if (c.toNat : Int) = 34 then some ([], 1) else none
  | c :: d :: r =>
    if (c.toNat : Int) = 34 then some ([], 1)
    else if (c.toNat : Int) = 92 then (if B.val (d.toNat : Int) then (inner r).map fun x => (d :: x.1, x.2 + 2) else none)
    else if B.val (c.toNat : Int) then (inner (d :: r)).map fun x => (c :: x.1, x.2 + 1) else none
def front : List UInt8 → Option (List UInt8 × Nat)
  | [] => none
  | c :: r => if (c.toNat : Int) = 34 then (inner r).map fun x => (x.1, x.2 + 1) else none
theorem front_cons (c : UInt8) (r : List UInt8) : front (c :: r) = if (c.toNat : Int) = 34 then (inner r).map fun x => (x.1, x.2 + 1) else none := rfl
theorem pl_parts {n : Int} (h : pl n = true) : B.val n = true ∧ n ≠ 34 ∧ n ≠ 92 := by
  unfold pl at h
  simp at h
  exact ⟨h.1.1, h.1.2, h.2⟩
theorem pl_not {n : Int} (h : pl n = false) (h34 : n ≠ 34) (h92 : n ≠ 92) : B.val n = false := by
  unfold pl at h
  simp [h34, h92] at h
  exact h
theorem val34 : B.val 34 = true := by decide +kernel
theorem val92 : B.val 92 = true := by decide +kernel
theorem inner_mark (c : UInt8) (r : List UInt8) (h : (c.toNat : Int) = 34) : inner (c :: r) = some ([], 1) := by
  cases r with
  | nil => unfold inner; rw [if_pos h]
  | cons d r => unfold inner; rw [if_pos h]
theorem inner_end (c : UInt8) (h : (c.toNat : Int) = 92) : inner [c] = none := by unfold inner; rw [if_neg (by omega)]
theorem inner_esc (c d : UInt8) (r : List UInt8) (h : (c.toNat : Int) = 92) (hd : B.val (d.toNat : Int) = true) : inner (c :: d :: r) = (inner r).map fun x => (d :: x.1, x.2 + 2) := by
  conv => lhs; unfold inner
  rw [if_neg (by omega), if_pos h, if_pos hd]
theorem inner_bad (c d : UInt8) (r : List UInt8) (h : (c.toNat : Int) = 92) (hd : B.val (d.toNat : Int) = false) : inner (c :: d :: r) = none := by
  unfold inner
  rw [if_neg (by omega), if_pos h, if_neg (by simp [hd])]
theorem inner_plain (c : UInt8) (r : List UInt8) (h : pl (c.toNat : Int) = true) : inner (c :: r) = (inner r).map fun x => (c :: x.1, x.2 + 1) := by
  obtain ⟨h1, h2, h3⟩ := pl_parts h
  cases r with
  | nil => unfold inner; rw [if_neg h2]; rfl
  | cons d r =>
    conv => lhs; unfold inner
    rw [if_neg h2, if_neg h3, if_pos h1]
theorem inner_no (c : UInt8) (r : List UInt8) (h : B.val (c.toNat : Int) = false) : inner (c :: r) = none := by
  have h2 : (c.toNat : Int) ≠ 34 := by intro e; rw [e, val34] at h; cases h
  have h3 : (c.toNat : Int) ≠ 92 := by intro e; rw [e, val92] at h; cases h
  cases r with
  | nil => unfold inner; rw [if_neg h2]
  | cons d r => unfold inner; rw [if_neg h2, if_neg h3, if_neg (by simp [h])]
theorem map_map (o : Option (List UInt8 × Nat)) (l m : List UInt8) (a b : Nat) : (o.map fun x => (l ++ x.1, a + x.2)).map (fun x => (m ++ x.1, b + x.2)) = o.map fun x => ((m ++ l) ++ x.1, (b + a) + x.2) := by
  cases o with
  | none => rfl
  | some x => simp [Nat.add_assoc]
theorem map_cons (o : Option (List UInt8 × Nat)) (c : UInt8) (a : Nat) : (o.map fun x => (c :: x.1, x.2 + a)) = o.map fun x => ([c] ++ x.1, a + x.2) := by
  cases o with
  | none => rfl
  | some x => simp [Nat.add_comm]
theorem map_nil (o : Option (List UInt8 × Nat)) : (o.map fun x => (([] : List UInt8) ++ x.1, 0 + x.2)) = o := by
  cases o with
  | none => rfl
  | some x => simp
theorem map_one (o : Option (List UInt8 × Nat)) : (o.map fun x => (x.1, x.2 + 1)) = o.map fun x => (([] : List UInt8) ++ x.1, 1 + x.2) := by
  cases o with
  | none => rfl
  | some x => simp [Nat.add_comm]
theorem inner_plains : ∀ (l r : List UInt8), l.all (fun c => pl (c.toNat : Int)) = true → inner (l ++ r) = (inner r).map fun x => (l ++ x.1, l.length + x.2)
  | [], r, _ => by
    rw [List.nil_append]
    exact (map_nil _).symm
  | c :: l, r, h => by
    rw [List.all_cons, Bool.and_eq_true] at h
    rw [List.cons_append, inner_plain c _ h.1, inner_plains l r h.2, map_cons, map_map]
    cases inner r with
    | none => rfl
    | some x => simp [Nat.add_comm]
theorem map_le {o : Option (List UInt8 × Nat)} {l m : List UInt8} {a n : Nat} (h : (o.map fun x => (l ++ x.1, a + x.2)) = some (m, n)) : ∃ m' n', o = some (m', n') ∧ m = l ++ m' ∧ n = a + n' := by
  cases o with
  | none => cases h
  | some x =>
    simp only [Option.map_some, Option.some.injEq, Prod.mk.injEq] at h
    exact ⟨x.1, x.2, rfl, h.1.symm, h.2.symm⟩
theorem inner_le : ∀ (l : List UInt8) (m : List UInt8) (n : Nat), inner l = some (m, n) → 1 ≤ n ∧ n ≤ l.length ∧ m.length + 1 ≤ n
  | [], m, n, h => by cases h
  | [c], m, n, h => by
    unfold inner at h
    split at h
    · cases h; simp
    · cases h
  | c :: d :: r, m, n, h => by
    unfold inner at h
    split at h
    · cases h; simp
    · split at h
      · split at h
        · rw [map_cons] at h
          obtain ⟨m', n', h1, rfl, rfl⟩ := map_le h
          have := inner_le r m' n' h1
          simp
          omega
        · cases h
      · split at h
        · rw [map_cons] at h
          obtain ⟨m', n', h1, rfl, rfl⟩ := map_le h
          have := inner_le (d :: r) m' n' h1
          simp at this ⊢
          omega
        · cases h
theorem front_le (l m : List UInt8) (n : Nat) (h : front l = some (m, n)) : 1 ≤ n ∧ n ≤ l.length ∧ m.length ≤ n := by
  cases l with
  | nil => cases h
  | cons c r =>
    rw [front_cons] at h
    split at h
    · rw [map_one] at h
      obtain ⟨m', n', h1, h2, rfl⟩ := map_le h
      rw [h2, List.nil_append]
      have := inner_le r m' n' h1
      simp
      omega
    · cases h

/-- A text's bytes between its marks. -/
def enc (l : List UInt8) : List UInt8 := l.flatMap fun c => if pl (c.toNat : Int) then [c] else [92, c]
def quoteL (l : List UInt8) : List UInt8 := 34 :: (enc l ++ [34])
def vals (l : List UInt8) : Bool := l.all fun c => B.val (c.toNat : Int)
theorem enc_cons (c : UInt8) (l : List UInt8) : enc (c :: l) = (if pl (c.toNat : Int) then [c] else [92, c]) ++ enc l := by unfold enc; rw [List.flatMap_cons]
theorem enc_len (l : List UInt8) : (enc l).length ≤ 2 * l.length := by
  induction l with
  | nil => exact Nat.le_refl _
  | cons c l ih =>
    rw [enc_cons]
    split <;> simp <;> omega
theorem n92 : (((92 : UInt8).toNat : Nat) : Int) = 92 := by decide
theorem n34 : (((34 : UInt8).toNat : Nat) : Int) = 34 := by decide
theorem inner_enc : ∀ (l r : List UInt8), vals l = true → inner (enc l ++ 34 :: r) = some (l, (enc l).length + 1)
  | [], r, _ => by
    show inner (34 :: r) = _
    rw [inner_mark _ _ n34]; rfl
  | c :: l, r, h => by
    unfold vals at h
    rw [List.all_cons, Bool.and_eq_true] at h
    have ih := inner_enc l r h.2
    rw [enc_cons]
    by_cases hp : pl (c.toNat : Int) = true
    · rw [if_pos hp]
      show inner (c :: (enc l ++ 34 :: r)) = _
      rw [inner_plain _ _ hp, ih]
      simp [Nat.add_comm]
    · rw [if_neg hp]
      show inner (92 :: c :: (enc l ++ 34 :: r)) = _
      rw [inner_esc _ _ _ n92 h.1, ih]
      simp
theorem inner_cut : ∀ (l : List UInt8) (j : Nat), vals l = true → j ≤ (enc l).length → inner ((enc l).take j) = none
  | [], j, _, hj => by
    have e : (enc []).take j = [] := by simp [enc]
    rw [e]; rfl
  | c :: l, j, h, hj => by
    unfold vals at h
    rw [List.all_cons, Bool.and_eq_true] at h
    rw [enc_cons] at hj ⊢
    by_cases hp : pl (c.toNat : Int) = true
    · rw [if_pos hp] at hj ⊢
      cases j with
      | zero => rfl
      | succ j =>
        have hj' : j ≤ (enc l).length := by simp at hj; omega
        show inner (c :: (enc l).take j) = none
        rw [inner_plain _ _ hp, inner_cut l j h.2 hj']; rfl
    · rw [if_neg hp] at hj ⊢
      match j with
      | 0 => rfl
      | 1 =>
        show inner [92] = none
        exact inner_end _ n92
      | j + 2 =>
        have hj' : j ≤ (enc l).length := by simp at hj; omega
        show inner (92 :: c :: (enc l).take j) = none
        rw [inner_esc _ _ _ n92 h.1, inner_cut l j h.2 hj']; rfl
theorem front_quote (l : List UInt8) (h : vals l = true) : front (quoteL l) = some (l, (quoteL l).length) := by
  unfold quoteL
  rw [front_cons, if_pos n34, inner_enc l [] h]
  simp
theorem front_cut (l : List UInt8) (j : Nat) (h : vals l = true) (hj : j < (quoteL l).length) : front ((quoteL l).take j) = none := by
  unfold quoteL at hj ⊢
  cases j with
  | zero => rfl
  | succ j =>
    have hj' : j ≤ (enc l).length := by simp at hj; omega
    rw [List.take_succ_cons, List.take_append_of_le_length hj', front_cons, if_pos n34, inner_cut l j h hj']; rfl

/-- What is next at k. -/
def fr (s : ByteArray) (k : Nat) : Option (List UInt8 × Nat) := front (s.data.toList.drop k)
def txt (o : Option (List UInt8 × Nat)) : ByteArray := match o with | some x => ⟨x.1.toArray⟩ | none => ByteArray.empty
def len (o : Option (List UInt8 × Nat)) : Nat := match o with | some x => x.2 | none => 0
theorem drop_at (s : ByteArray) (k : Nat) (h : k < s.size) : s.data.toList.drop k = s.data.toList.getD k 0 :: s.data.toList.drop (k + 1) := by
  have h' : k < s.data.toList.length := by simpa using h
  rw [List.drop_eq_getElem_cons h']
  congr 1
  rw [List.getD_eq_getElem?_getD, List.getElem?_eq_getElem h']; rfl
theorem drop_out (s : ByteArray) (k : Nat) (h : ¬ k < s.size) : s.data.toList.drop k = [] := List.drop_eq_nil_of_le (by simp; omega)
theorem len_le (s : ByteArray) (k : Nat) (hk : k ≤ s.size) : k + len (fr s k) ≤ s.size := by
  cases h : fr s k with
  | none => exact hk
  | some x =>
    have := (front_le _ x.1 x.2 h).2.1
    simp at this
    show k + x.2 ≤ s.size
    omega
theorem len_pos (o : Option (List UInt8 × Nat)) (s : ByteArray) (k : Nat) (h : fr s k = o) : decide (0 < len o) = o.isSome := by
  cases o with
  | none => rfl
  | some x =>
    have := (front_le _ x.1 x.2 h).1
    show decide (0 < x.2) = true
    simp
    omega
theorem run_stop (q : Int → Bool) (s : ByteArray) (k : Nat) (h : k + runLen q s k < s.size) : q (byteAt s (k + runLen q s k)) = false := by
  unfold byteAt
  have e := List.takeWhile_append_dropWhile (p := fun c : UInt8 => q (c.toNat : Int)) (l := s.data.toList.drop k)
  have hlen : s.data.toList.length = s.size := by simp
  have hd : s.data.toList.drop (k + runLen q s k) = (s.data.toList.drop k).dropWhile (fun c : UInt8 => q (c.toNat : Int)) := by
    rw [← List.drop_drop]
    conv => lhs; rw [← e]
    unfold runLen
    rw [List.drop_left']
    rfl
  rw [drop_at s _ h] at hd
  have h2 := List.head?_dropWhile_not (fun c : UInt8 => q (c.toNat : Int)) (s.data.toList.drop k)
  rw [← hd] at h2
  simpa using h2
theorem drop_run (q : Int → Bool) (s : ByteArray) (k : Nat) : s.data.toList.drop k = (s.extract k (k + runLen q s k)).data.toList ++ s.data.toList.drop (k + runLen q s k) := by
  have e2 : (s.extract k (k + runLen q s k)).data.toList = (s.data.toList.drop k).take (runLen q s k) := by
    rw [ByteArray.data_extract, Array.toList_extract, List.extract_eq_take_drop, Nat.add_sub_cancel_left]
  rw [e2, ← List.drop_drop, List.take_append_drop]

/-- Where the reader stands behind some bytes, none of which is to come: at j; what they mean. -/
structure On (s : ByteArray) (k j : Nat) (acc : List UInt8) : Prop where
  ge : k < j
  le : j ≤ s.size
  few : acc.length ≤ j
  stop : j < s.size → pl (byteAt s j) = false
  eq : fr s k = (inner (s.data.toList.drop j)).map fun x => (acc ++ x.1, (j - k) + x.2)
theorem cut_len (s : ByteArray) (k n : Nat) (h : k + n ≤ s.size) : (s.extract k (k + n)).data.toList.length = n := by
  rw [Array.length_toList]
  exact cut_size s k n h
theorem inner_run (s : ByteArray) (j : Nat) (hj : j ≤ s.size) : inner (s.data.toList.drop j) = (inner (s.data.toList.drop (j + runLen pl s j))).map fun x => ((s.extract j (j + runLen pl s j)).data.toList ++ x.1, runLen pl s j + x.2) := by
  have e := inner_plains (s.extract j (j + runLen pl s j)).data.toList (s.data.toList.drop (j + runLen pl s j)) (cut_all pl s j)
  rw [← drop_run pl s j, cut_len s j _ (runLen_le pl s j hj)] at e
  exact e
theorem On.run (s : ByteArray) (k j : Nat) (acc : List UInt8) (hkj : k < j) (hj : j ≤ s.size) (hf : acc.length ≤ j) (h : fr s k = (inner (s.data.toList.drop j)).map fun x => (acc ++ x.1, (j - k) + x.2)) :
    On s k (j + runLen pl s j) (acc ++ (s.extract j (j + runLen pl s j)).data.toList) := by
  have hle := runLen_le pl s j hj
  have hl := cut_len s j (runLen pl s j) hle
  refine ⟨by omega, hle, by rw [List.length_append, hl]; omega, run_stop pl s j, ?_⟩
  rw [h, inner_run s j hj, map_map]
  have e : j - k + runLen pl s j = j + runLen pl s j - k := by omega
  rw [e]
theorem On.first (s : ByteArray) (k : Nat) (hk : k < s.size) (h : byteAt s k = 34) : On s k (k + 1 + runLen pl s (k + 1)) (s.extract (k + 1) (k + 1 + runLen pl s (k + 1))).data.toList := by
  have h0 := On.run s k (k + 1) [] (by omega) (by omega) (by simp) (by
    unfold fr
    have h' : ((s.data.toList.getD k 0).toNat : Int) = 34 := h
    rw [drop_at s k hk, front_cons, if_pos h', map_one]
    have e : k + 1 - k = 1 := by omega
    rw [e])
  simpa using h0
theorem On.no (s : ByteArray) (k : Nat) (h : ¬ (k < s.size ∧ byteAt s k = 34)) : fr s k = none := by
  unfold fr
  by_cases hk : k < s.size
  · rw [drop_at s k hk, front_cons]
    exact if_neg (fun e => h ⟨hk, e⟩)
  · rw [drop_out s k hk]; rfl
theorem On.next {s : ByteArray} {k j : Nat} {acc : List UInt8} (h : On s k j acc) (h0 : byteAt s j = 92) (h1 : j + 1 < s.size) (h2 : B.val (byteAt s (j + 1)) = true) :
    On s k (j + 2 + runLen pl s (j + 2)) ((acc ++ [s.data.toList.getD (j + 1) 0]) ++ (s.extract (j + 2) (j + 2 + runLen pl s (j + 2))).data.toList) := by
  have hge := h.ge
  have hfew := h.few
  refine On.run s k (j + 2) _ (by omega) (by omega) (by simp; omega) ?_
  rw [h.eq, drop_at s j (by omega), drop_at s (j + 1) h1, inner_esc _ _ _ h0 h2, map_cons, map_map]
  have e : j - k + 2 = j + 2 - k := by omega
  rw [e]
theorem On.bad {s : ByteArray} {k j : Nat} {acc : List UInt8} (h : On s k j acc) (hj : j < s.size) (h0 : byteAt s j = 92) (h1 : ¬ (j + 1 < s.size ∧ B.val (byteAt s (j + 1)) = true)) : fr s k = none := by
  rw [h.eq, drop_at s j hj]
  by_cases h2 : j + 1 < s.size
  · have h3 : B.val (byteAt s (j + 1)) = false := by
      cases e : B.val (byteAt s (j + 1))
      · rfl
      · exact absurd ⟨h2, e⟩ h1
    rw [drop_at s (j + 1) h2, inner_bad _ _ _ h0 h3]; rfl
  · rw [drop_out s (j + 1) h2, inner_end _ h0]; rfl
theorem On.done {s : ByteArray} {k j : Nat} {acc : List UInt8} (h : On s k j acc) (hj : j < s.size) (h0 : byteAt s j = 34) : fr s k = some (acc, j - k + 1) := by
  rw [h.eq, drop_at s j hj, inner_mark _ _ h0]
  simp
theorem On.nope {s : ByteArray} {k j : Nat} {acc : List UInt8} (h : On s k j acc) (h0 : ¬ (j < s.size ∧ byteAt s j = 92)) (h1 : ¬ (j < s.size ∧ byteAt s j = 34)) : fr s k = none := by
  rw [h.eq]
  by_cases hj : j < s.size
  · have h3 := pl_not (h.stop hj) (fun e => h1 ⟨hj, e⟩) (fun e => h0 ⟨hj, e⟩)
    rw [drop_at s j hj, inner_no _ _ h3]; rfl
  · rw [drop_out s j hj]; rfl
theorem len_done (s : ByteArray) (k : Nat) (l : List UInt8) (n : Nat) (h : fr s k = some (l, n)) : txt (fr s k) = ⟨l.toArray⟩ ∧ len (fr s k) = n ∧ (fr s k).isSome = true := by rw [h]; exact ⟨rfl, rfl, rfl⟩
theorem len_none (s : ByteArray) (k : Nat) (h : fr s k = none) : txt (fr s k) = ByteArray.empty ∧ len (fr s k) = 0 ∧ (fr s k).isSome = false := by rw [h]; exact ⟨rfl, rfl, rfl⟩
end Qd
end Go.Proofs.Ytjgjdcikeagibaa
