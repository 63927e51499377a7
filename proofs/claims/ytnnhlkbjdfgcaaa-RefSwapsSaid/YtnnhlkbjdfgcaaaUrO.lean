/- How the document tells a reference's parts, beside the code: on lists of bytes. Nothing here speaks of the program. -/
import Derived.Test.YtnnhlkbjdfgcaaaUrA
namespace Go.Proofs.Ytnnhlkbjdfgcaaa
namespace Ur
open Pq (pb pcL)
theorem two_has (a b c : UInt8) : [a, b].contains c = (c == a || c == b) := by rw [List.contains_cons, one_has]
theorem colon_here : ∀ (b : List UInt8), b[fstN [58, 47] b]? = some 58 → fstN [58] b = fstN [58, 47] b
  | [], h => by cases h
  | x :: r, h => by
    by_cases h1 : x = 58
    · subst h1
      rw [fst_yes r (by rw [one_has]; rfl), fst_yes r (by rw [two_has]; rfl)]
    · by_cases h2 : x = 47
      · subst h2
        rw [fst_yes r (by rw [two_has]; rfl)] at h
        cases h
      · have e1 : [58].contains x = false := by rw [one_has]; simpa using h1
        have e2 : [58, 47].contains x = false := by rw [two_has]; simp [h1, h2]
        rw [fst_no r e2] at h ⊢
        rw [fst_no r e1]
        rw [List.getElem?_cons_succ] at h
        rw [colon_here r h]
theorem sch_slash {l : List UInt8} (h : 47 ∈ l) : schL l = false := by
  have a47 : B.alp ((47 : UInt8).toNat : Int) = false := by decide +kernel
  have s47 : schB 47 = false := by decide +kernel
  cases l with
  | nil => cases h
  | cons c r =>
    show (B.alp (c.toNat : Int) && r.all schB) = false
    rcases List.mem_cons.1 h with rfl | h
    · rw [a47]; rfl
    · have : r.all schB = false := by
        rw [Bool.eq_false_iff]
        intro k
        rw [List.all_eq_true.1 k 47 h] at s47
        cases s47
      rw [this, Bool.and_false]
theorem slash_first : ∀ (b : List UInt8), b[fstN [58, 47] b]? ≠ some 58 → fstN [58] b = b.length ∨ 47 ∈ b.take (fstN [58] b)
  | [], _ => .inl rfl
  | x :: r, h => by
    by_cases h1 : x = 58
    · subst h1
      rw [fst_yes r (by rw [two_has]; rfl)] at h
      exact absurd rfl h
    · have e1 : [58].contains x = false := by rw [one_has]; simpa using h1
      rw [fst_no r e1]
      by_cases h2 : x = 47
      · subst h2
        exact .inr (by rw [List.take_succ_cons]; exact List.mem_cons_self)
      · have e2 : [58, 47].contains x = false := by rw [two_has]; simp [h1, h2]
        rw [fst_no r e2, List.getElem?_cons_succ] at h
        rcases slash_first r h with k | k
        · exact .inl (by rw [k]; rfl)
        · exact .inr (by rw [List.take_succ_cons]; exact List.mem_cons_of_mem _ k)
theorem isS_no {b : List UInt8} (h : b[fstN [58, 47] b]? ≠ some 58) : isS b = false := by
  unfold isS
  rcases slash_first b h with k | k
  · rw [k, decide_eq_false (Nat.lt_irrefl _)]; rfl
  · rw [sch_slash k, Bool.and_false]
theorem isS_yes {b : List UInt8} (h : b[fstN [58, 47] b]? = some 58) : isS b = schL (b.take (fstN [58, 47] b)) := by
  unfold isS
  rw [colon_here b h, decide_eq_true, Bool.true_and]
  obtain ⟨h1, _⟩ := List.getElem?_eq_some_iff.1 h
  exact h1
/-! Are parts right, as the document says it? -/
def rightR (r : R) : Bool :=
  if !pcL [91, 93] r.au || decide (fstN [64] r.au < r.au.length) || !pcL [47] r.pa || !pcL [47, 63] r.qu || !pcL [47, 63] r.fr then false
  else if r.hA then r.pa.isEmpty || decide (r.pa[0]? = some 47)
  else if hasA r.pa then false
  else !r.sch.isEmpty || decide (fstN [58, 47] r.pa = r.pa.length) || decide (r.pa[fstN [58, 47] r.pa]? = some 47)
theorem fst_has (b : UInt8) : ∀ l : List UInt8, decide (fstN [b] l < l.length) = l.contains b
  | [] => rfl
  | x :: r => by
    by_cases h : x = b
    · subst h
      rw [fst_yes r (by rw [one_has]; simp)]
      simp
    · have e : [b].contains x = false := by rw [one_has, beq_eq_false_iff_ne]; exact h
      rw [fst_no r e, List.contains_cons, ← fst_has b r]
      have e2 : (b == x) = false := by rw [beq_eq_false_iff_ne]; exact fun k => h k.symm
      rw [e2, Bool.false_or, decide_eq_decide, List.length_cons]
      omega
theorem drop_fst (b : UInt8) : ∀ l : List UInt8, (l.drop (fstN [b] l)).isEmpty = true ∨ (l.drop (fstN [b] l))[0]? = some b
  | [] => .inl rfl
  | x :: r => by
    by_cases h : x = b
    · subst h
      rw [fst_yes r (by rw [one_has]; simp)]
      exact .inr rfl
    · have e : [b].contains x = false := by rw [one_has, beq_eq_false_iff_ne]; exact h
      rw [fst_no r e, List.drop_succ_cons]
      exact drop_fst b r
theorem col_eq : ∀ l : List UInt8, (decide (fstN [58, 47] l = l.length) || decide (l[fstN [58, 47] l]? = some 47)) = !(l.take (fstN [47] l)).contains 58
  | [] => rfl
  | x :: r => by
    have ih := col_eq r
    by_cases h2 : x = 47
    · subst h2
      rw [fst_yes r (by rw [two_has]; rfl), fst_yes r (by rw [one_has]; rfl)]
      rfl
    · have e1 : [47].contains x = false := by rw [one_has, beq_eq_false_iff_ne]; exact h2
      rw [fst_no r e1, List.take_succ_cons, List.contains_cons]
      by_cases h1 : x = 58
      · subst h1
        rw [fst_yes r (by rw [two_has]; rfl)]
        rfl
      · have e2 : [58, 47].contains x = false := by rw [two_has]; simp [h1, h2]
        have e3 : ((58 : UInt8) == x) = false := by rw [beq_eq_false_iff_ne]; exact fun k => h1 k.symm
        rw [fst_no r e2, e3, Bool.false_or, ← ih, List.getElem?_cons_succ, List.length_cons]
        congr 1
        rw [decide_eq_decide]
        omega
theorem right_parts (l : List UInt8) : rightR (parts l) = (okR (parts l) && colR (parts l)) := by
  have hhA : (parts l).hA = hasA (restOf (noQ (noF l))) := rfl
  have hpa : (parts l).pa = paOf (restOf (noQ (noF l))) := rfl
  have hau : (parts l).au = auOf (restOf (noQ (noF l))) := rfl
  generalize parts l = r at *
  generalize restOf (noQ (noF l)) = d at *
  unfold rightR okR colR
  rw [fst_has]
  cases pcL [91, 93] r.au
  · rfl
  · cases r.au.contains 64
    · cases pcL [47] r.pa
      · rfl
      · cases pcL [47, 63] r.qu
        · rfl
        · cases pcL [47, 63] r.fr
          · rfl
          · rw [if_neg (by decide)]
            show _ = (!r.sch.isEmpty || !(r.pa.take (fstN [47] r.pa)).contains 58)
            rw [← col_eq, hhA]
            cases hA : hasA d
            · rw [if_neg (by decide), if_neg (by rw [hpa]; unfold paOf; rw [if_neg (by rw [hA]; decide), hA]; decide), Bool.or_assoc]
            · rw [if_pos rfl]
              have e : r.pa = (d.drop 2).drop (fstN [47] (d.drop 2)) := by rw [hpa]; unfold paOf; rw [if_pos hA]
              rw [e]
              rcases drop_fst 47 (d.drop 2) with k | k
              · rw [k]
                have e2 := List.isEmpty_iff.1 k
                rw [e2]
                cases r.sch.isEmpty <;> rfl
              · rw [k]
                generalize (d.drop 2).drop (fstN [47] (d.drop 2)) = m at *
                cases m with
                | nil => cases k
                | cons x t =>
                  obtain rfl : x = 47 := by simpa using k
                  rw [fst_yes t (by rw [two_has]; rfl)]
                  simp
    · rfl
end Ur
end Go.Proofs.Ytnnhlkbjdfgcaaa
