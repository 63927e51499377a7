/- Hosts, second part: both ways to ask for an address of six are one; both ways to part a text at its port are one. Nothing here speaks of the program. -/
import Derived.Test.YtnnhlkbjdfgcaaaHoA
namespace Go.Proofs.Ytnnhlkbjdfgcaaa
namespace Hp
theorem lastC_none : ∀ {l : List UInt8}, 58 ∉ l → lastC l = 0
  | [], _ => rfl
  | c :: r, h => by
    rw [lastC, if_neg (fun g => h (List.mem_cons_of_mem _ g)), if_neg (fun e => h (by rw [e]; exact List.mem_cons_self))]
theorem lastC_at {q : List UInt8} (hq : 58 ∉ q) : ∀ p : List UInt8, lastC (p ++ 58 :: q) = p.length + 1
  | [] => by rw [List.nil_append, lastC, if_neg hq, if_pos rfl]; rfl
  | c :: r => by rw [List.cons_append, lastC, if_pos (by simp), lastC_at hq r]; rfl
/-- What stands up to a text's last mark. -/
def Ends (p : List UInt8) : Prop := p = [] ∨ ∃ p', p = p' ++ [58]
theorem last_cases : ∀ l : List UInt8, 58 ∉ l ∨ ∃ p q, l = p ++ 58 :: q ∧ 58 ∉ q
  | [] => .inl (by simp)
  | c :: r => by
    rcases last_cases r with h | ⟨p, q, rfl, hq⟩
    · by_cases hc : c = 58
      · exact .inr ⟨[], r, by rw [hc]; rfl, h⟩
      · exact .inl (by intro g; rcases List.mem_cons.1 g with e | g; exact hc e.symm; exact h g)
    · exact .inr ⟨c :: p, q, rfl, hq⟩
theorem lastC_split (l : List UInt8) : ∃ p q, l = p ++ q ∧ lastC l = p.length ∧ 58 ∉ q ∧ Ends p := by
  rcases last_cases l with h | ⟨p, q, rfl, hq⟩
  · exact ⟨[], l, rfl, lastC_none h, h, .inl rfl⟩
  · exact ⟨p ++ [58], q, by simp, by rw [lastC_at hq]; simp, hq, .inr ⟨p, rfl⟩⟩
theorem parts_split {p q : List UInt8} (hp : Ends p) (hq : 58 ∉ q) : parts 58 (p ++ q) = (parts 58 p).dropLast ++ [q] := by
  rcases hp with rfl | ⟨p', rfl⟩
  · rw [List.nil_append, parts_free hq]; rfl
  · rw [List.append_assoc, List.singleton_append, parts_append, parts_free hq, parts_append]
    rw [show parts 58 [] = [[]] from rfl, List.dropLast_concat]
theorem dc2_cons (c : UInt8) (r : List UInt8) : dc2 (c :: r) = if c = 58 ∧ r.head? = some 58 then some ([], r.tail) else (dc2 r).map fun p => (c :: p.1, p.2) := by rw [dc2]
theorem dc2_free : ∀ {q : List UInt8}, 58 ∉ q → dc2 q = none
  | [], _ => by rw [dc2]
  | c :: r, h => by
    rw [dc2_cons, if_neg (fun e => h (by rw [e.1]; exact List.mem_cons_self)), dc2_free (fun g => h (List.mem_cons_of_mem _ g))]; rfl
theorem dc2_app {q : List UInt8} (h0 : q ≠ []) (h1 : q.head? ≠ some 58) (h2 : dc2 q = none) : ∀ p : List UInt8, dc2 (p ++ q) = (dc2 p).map fun x => (x.1, x.2 ++ q)
  | [] => by rw [List.nil_append, h2, dc2]; rfl
  | c :: r => by
    rw [List.cons_append, dc2_cons, dc2_cons, dc2_app h0 h1 h2 r]
    cases r with
    | nil =>
      rw [if_neg (fun e => h1 e.2), if_neg (fun e => by simp at e)]
      rw [show dc2 [] = none from by rw [dc2]]
      rfl
    | cons d r =>
      by_cases hc : c = 58 ∧ d = 58
      · rw [if_pos (by simpa using hc), if_pos (by simpa using hc)]; rfl
      · rw [if_neg (by simpa using hc), if_neg (by simpa using hc), Option.map_map, Option.map_map]; rfl
theorem dc2_some : ∀ {l a b : List UInt8}, dc2 l = some (a, b) → l = a ++ 58 :: 58 :: b
  | [], a, b, h => by rw [dc2] at h; cases h
  | c :: r, a, b, h => by
    rw [dc2_cons] at h
    split at h
    · rename_i hc
      obtain ⟨rfl, hr⟩ := hc
      cases r with
      | nil => cases hr
      | cons d r =>
        simp only [List.head?_cons, Option.some.injEq] at hr
        subst hr
        simp only [List.tail_cons, Option.some.injEq, Prod.mk.injEq] at h
        obtain ⟨rfl, rfl⟩ := h
        rfl
    · cases hd : dc2 r with
      | none => rw [hd] at h; cases h
      | some x =>
        rw [hd] at h
        obtain ⟨a', b'⟩ := x
        simp only [Option.map_some, Option.some.injEq, Prod.mk.injEq] at h
        obtain ⟨rfl, rfl⟩ := h
        rw [dc2_some hd]; rfl
theorem zeros_ne (a : List UInt8) (n : Nat) : zeros a (n + 1) ≠ [] := by unfold zeros; simp
theorem zeros_parts (a : List UInt8) : ∀ n : Nat, parts 58 (zeros a (n + 1)) = As a ++ List.replicate (n + 1) [48]
  | 0 => by
    unfold zeros zeros As
    by_cases h : a = []
    · rw [if_pos h, if_pos h]; decide +kernel
    · rw [if_neg h, if_neg h, List.append_assoc, List.singleton_append, parts_append]; rfl
  | n + 1 => by
    rw [zeros, if_neg (zeros_ne a n), List.append_assoc, List.singleton_append, parts_append, zeros_parts a n, List.append_assoc]
    rw [show parts 58 [48] = [[48]] from by decide +kernel, ← List.replicate_succ']
theorem fill_parts (a b : List UInt8) (n : Nat) : parts 58 (fill a b (n + 1)) = As a ++ List.replicate (n + 1) [48] ++ As b := by
  unfold fill
  by_cases h : b = []
  · rw [if_pos h, List.append_nil, zeros_parts]; unfold As; rw [if_pos h, List.append_nil]
  · rw [if_neg h, parts_append, zeros_parts]
    rw [show As b = parts 58 b from by unfold As; rw [if_neg h]]
/-- A part, put in an address of four's place. -/
def rq (q : List UInt8) : List UInt8 := if fourL q then [48, 58, 48] else q
theorem rep_zero : rep [48] = [[48]] := by decide +kernel
theorem whole_snoc (P : List (List UInt8)) (q : List UInt8) : wholeP (P ++ [q]) = ((P ++ rep q).all grp && decide ((P ++ rep q).length = 8)) := by
  unfold wholeP
  rw [List.dropLast_concat]
  simp
theorem four_ne {q : List UInt8} (h : fourL q = true) : q ≠ [] := by rintro rfl; revert h; decide +kernel
theorem As_rq {p q : List UInt8} (hp : Ends p) (hq : 58 ∉ q) : As (p ++ rq q) = if p ++ q = [] then [] else (parts 58 p).dropLast ++ rep q := by
  unfold rq rep
  by_cases hf : fourL q = true
  · have hne := four_ne hf
    rw [if_pos hf, if_pos hf, if_neg (by simp [hne])]
    unfold As
    rw [if_neg (by simp)]
    have e : p ++ [48, 58, 48] = p ++ [48] ++ 58 :: [48] := by simp
    rw [e, parts_append, parts_split hp (by decide), List.append_assoc]
    rw [show parts 58 [48] = [[48]] from by decide +kernel]; rfl
  · rw [if_neg hf, if_neg hf]
    unfold As
    by_cases h : p ++ q = []
    · rw [if_pos h, if_pos h]
    · rw [if_neg h, if_neg h, parts_split hp hq]
theorem suffix_of {a b p q : List UInt8} (h : a ++ 58 :: 58 :: b = p ++ q) (hq : 58 ∉ q) (hp : Ends p) : ∃ b0, b = b0 ++ q ∧ p = a ++ 58 :: 58 :: b0 ∧ Ends b0 := by
  have key : ∃ b0, b = b0 ++ q ∧ p = a ++ 58 :: 58 :: b0 := by
    have h' : (a ++ [58, 58]) ++ b = p ++ q := by rw [← h]; simp
    rcases List.append_eq_append_iff.1 h' with ⟨c, hc1, hc2⟩ | ⟨c, hc1, hc2⟩
    · exact ⟨c, hc2, by rw [hc1]; simp⟩
    · rcases List.eq_nil_or_concat c with rfl | ⟨c', x, rfl⟩
      · exact ⟨[], by simpa using hc2.symm, by simpa using hc1.symm⟩
      · exfalso
        have e : a ++ [58] ++ [58] = p ++ c' ++ [x] := by simpa using hc1
        have e2 := List.append_inj_right' e rfl
        simp only [List.cons.injEq, and_true] at e2
        subst e2
        exact hq (by rw [hc2]; simp)
  obtain ⟨b0, h1, h2⟩ := key
  refine ⟨b0, h1, h2, ?_⟩
  rcases hp with rfl | ⟨p', rfl⟩
  · simp at h2
  · rcases List.eq_nil_or_concat b0 with rfl | ⟨c', x, rfl⟩
    · exact .inl rfl
    · have e : p' ++ [58] = (a ++ 58 :: 58 :: c') ++ [x] := by simpa using h2
      have e2 := List.append_inj_right' e rfl
      simp only [List.cons.injEq, and_true] at e2
      subst e2
      exact .inr ⟨c', by simp⟩
theorem dc2_two {p q : List UInt8} (hp : Ends p) (hq : 58 ∉ q) :
    (dc2 (p ++ q) = none ∧ dc2 (p ++ rq q) = none) ∨ ∃ a b0, dc2 (p ++ q) = some (a, b0 ++ q) ∧ dc2 (p ++ rq q) = some (a, b0 ++ rq q) ∧ Ends b0 := by
  by_cases hf : fourL q = true
  · have hne := four_ne hf
    have h1 : q.head? ≠ some 58 := by
      intro e
      exact hq (List.mem_of_head? e)
    have e1 := dc2_app hne h1 (dc2_free hq) p
    have e2 := dc2_app (q := [48, 58, 48]) (by simp) (by simp) (by decide +kernel) p
    unfold rq
    rw [if_pos hf, e1, e2]
    cases hd : dc2 p with
    | none => exact .inl ⟨rfl, rfl⟩
    | some x =>
      obtain ⟨a, b0⟩ := x
      refine .inr ⟨a, b0, rfl, rfl, ?_⟩
      have h3 : a ++ 58 :: 58 :: (b0 ++ q) = p ++ q := by rw [dc2_some hd]; simp
      obtain ⟨b1, h4, -, h5⟩ := suffix_of h3 hq hp
      rw [List.append_cancel_right h4]; exact h5
  · unfold rq
    rw [if_neg hf]
    cases hd : dc2 (p ++ q) with
    | none => exact .inl ⟨rfl, rfl⟩
    | some x =>
      obtain ⟨a, b⟩ := x
      obtain ⟨b0, rfl, -, h5⟩ := suffix_of (dc2_some hd).symm hq hp
      exact .inr ⟨a, b0, rfl, rfl, h5⟩
theorem fill_whole (a : List UInt8) {b0 q : List UInt8} (hb : Ends b0) (hq : 58 ∉ q) (j : Nat) :
    wholeP (parts 58 (fill a (b0 ++ q) (j + 1))) = ((As a ++ List.replicate (j + 1) [48] ++ As (b0 ++ rq q)).all grp && decide ((As a ++ List.replicate (j + 1) [48] ++ As (b0 ++ rq q)).length = 8)) := by
  rw [fill_parts, As_rq hb hq]
  by_cases h : b0 ++ q = []
  · rw [if_pos h, h]
    rw [show As [] = [] from rfl, List.append_nil, List.replicate_succ', ← List.append_assoc, whole_snoc, rep_zero]
  · rw [if_neg h, As, As, if_neg h, parts_split hb hq, ← List.append_assoc, whole_snoc, ← List.append_assoc]
theorem grp_zero : grp [48] = true := by decide +kernel
theorem tail4_eq {p q : List UInt8} (hk : lastC (p ++ q) = p.length) : tail4 (p ++ q) = p ++ rq q := by
  unfold tail4 rq
  rw [hk, List.drop_left, List.take_left]
  split <;> rfl
theorem six_eq (l : List UInt8) : sixC l = sixR l := by
  obtain ⟨p, q, rfl, hk, hq, hp⟩ := lastC_split l
  unfold sixC sixT sixR
  rw [tail4_eq hk]
  rcases dc2_two hp hq with ⟨e1, e2⟩ | ⟨a, b0, e1, e2, hb⟩
  · rw [e1, e2]
    simp only
    rw [parts_split hp hq, whole_snoc]
    unfold grs
    rw [As_rq hp hq]
    by_cases h : p ++ q = []
    · have hp0 : p = [] := (List.append_eq_nil_iff.1 h).1
      have hq0 : q = [] := (List.append_eq_nil_iff.1 h).2
      subst hp0; subst hq0
      decide +kernel
    · rw [if_neg h]
      cases (List.dropLast (parts 58 p) ++ rep q).all grp <;> simp
  · rw [e1, e2]
    simp only
    have e : (fun j => wholeP (parts 58 (fill a (b0 ++ q) (j + 1)))) = fun j => ((As a ++ List.replicate (j + 1) [48] ++ As (b0 ++ rq q)).all grp && decide ((As a ++ List.replicate (j + 1) [48] ++ As (b0 ++ rq q)).length = 8)) := funext fun j => fill_whole a hb hq j
    rw [e]
    unfold grs
    have hr : ∀ j, (List.replicate (j + 1) ([48] : List UInt8)).all grp = true := fun j => List.all_eq_true.2 fun x hx => by rw [List.eq_of_mem_replicate hx]; exact grp_zero
    cases h1 : (As a).all grp
    · rw [if_neg (by simp)]
      simp [List.all_append, h1]
    · cases h2 : (As (b0 ++ rq q)).all grp
      · rw [if_pos rfl, if_neg (by simp)]
        simp only [List.all_append, h2, Bool.and_false, Bool.false_and]
        simp
      · rw [if_pos rfl, if_pos rfl]
        simp only [List.all_append, h1, h2, hr, Bool.true_and, List.length_append, List.length_replicate]
        rw [Bool.eq_iff_iff]
        simp only [decide_eq_true_eq, List.any_eq_true, List.mem_range]
        constructor
        · intro h
          exact ⟨7 - ((As a).length + (As (b0 ++ rq q)).length), by omega, by omega⟩
        · rintro ⟨j, hj, h⟩
          omega
end Hp
end Go.Proofs.Ytnnhlkbjdfgcaaa
