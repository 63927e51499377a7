/- References as plain functions on lists of bytes: their parts, as the code and as the document tells them; what is written of them; another beginning. Nothing here speaks of the program. -/
import Derived.Test.YtnnhlkbjdfgcaaaPqA
import Derived.Lib.IndexAny
namespace Go.Proofs.Ytnnhlkbjdfgcaaa
namespace Ur
open Pq (pb pcL)
/-- The place of the first byte that is one of some; the length: there is none. -/
def fstN (m : List UInt8) : List UInt8 → Nat
  | [] => 0
  | c :: r => if m.contains c then 0 else fstN m r + 1
theorem fst_le (m : List UInt8) : ∀ l : List UInt8, fstN m l ≤ l.length
  | [] => Nat.le_refl _
  | c :: r => by
    have := fst_le m r
    unfold fstN
    split
    · exact Nat.zero_le _
    · simp only [List.length_cons]; omega
theorem fst_nil (m : List UInt8) : fstN m [] = 0 := rfl
theorem fst_yes {m : List UInt8} {c : UInt8} (r : List UInt8) (h : m.contains c = true) : fstN m (c :: r) = 0 := by rw [fstN, if_pos h]
theorem fst_no {m : List UInt8} {c : UInt8} (r : List UInt8) (h : m.contains c = false) : fstN m (c :: r) = fstN m r + 1 := by rw [fstN, if_neg (by rw [h]; decide)]
/-- None of them stands ahead of the place. -/
theorem fst_free (m : List UInt8) : ∀ (l : List UInt8), ∀ c ∈ l.take (fstN m l), m.contains c = false
  | [], c, h => by simp at h
  | x :: r, c, h => by
    cases hx : m.contains x
    · rw [fst_no r hx, List.take_succ_cons] at h
      rcases List.mem_cons.1 h with rfl | h
      · exact hx
      · exact fst_free m r c h
    · rw [fst_yes r hx] at h; simp at h
theorem one_has (b c : UInt8) : [b].contains c = (c == b) := by rw [List.contains_cons, List.contains_nil, Bool.or_false]
theorem fst_index (b : UInt8) : ∀ l : List UInt8, Lib.indexByte l b = if fstN [b] l < l.length then (fstN [b] l : Int) else -1
  | [] => rfl
  | c :: r => by
    have ih := fst_index b r
    have hl := fst_le [b] r
    by_cases hc : c = b
    · subst hc
      rw [fst_yes r (by simp)]
      unfold Lib.indexByte
      rw [if_pos (by simp), if_pos (by simp)]; rfl
    · rw [fst_no r (by rw [one_has, beq_eq_false_iff_ne]; exact hc)]
      unfold Lib.indexByte
      rw [if_neg (by simpa using hc), ih]
      by_cases hr : fstN [b] r < r.length
      · rw [if_pos hr, if_neg (by simp), if_pos (by simpa using hr)]; rfl
      · rw [if_neg hr, if_pos (by decide), if_neg (by simpa using hr)]
theorem cut_one (b : UInt8) (l : List UInt8) : Lib.cut l [b] = (l.take (fstN [b] l), l.drop (fstN [b] l + 1), decide (fstN [b] l < l.length)) := by
  have hl := fst_le [b] l
  unfold Lib.cut
  rw [Lib.index_one, fst_index]
  by_cases h : fstN [b] l < l.length
  · rw [if_pos h, if_pos (by omega), decide_eq_true h]; rfl
  · rw [if_neg h, if_neg (by decide), decide_eq_false h, List.take_of_length_le (by omega), List.drop_of_length_le (by omega)]

/-! A reference, and what is written of it. -/
structure R where
  sch : List UInt8
  au : List UInt8
  pa : List UInt8
  qu : List UInt8
  fr : List UInt8
  hA : Bool
  hQ : Bool
  hF : Bool
def R.none : R := ⟨[], [], [], [], [], false, false, false⟩
theorem R.ext' {a b : R} (h : a.sch = b.sch ∧ a.au = b.au ∧ a.pa = b.pa ∧ a.qu = b.qu ∧ a.fr = b.fr ∧ a.hA = b.hA ∧ a.hQ = b.hQ ∧ a.hF = b.hF) : a = b := by
  cases a; cases b; simp_all
instance : DecidableEq R := fun a b => decidable_of_iff (a.sch = b.sch ∧ a.au = b.au ∧ a.pa = b.pa ∧ a.qu = b.qu ∧ a.fr = b.fr ∧ a.hA = b.hA ∧ a.hQ = b.hQ ∧ a.hF = b.hF) (by
  cases a; cases b; simp)
/-- A part behind its mark, if it is there. -/
def mk (h : Bool) (m p : List UInt8) : List UInt8 := if h then m ++ p else []
def schT (s : List UInt8) : List UInt8 := if s = [] then [] else s ++ [58]
def base (r : R) : List UInt8 := schT r.sch ++ mk r.hA [47, 47] r.au
def write (r : R) : List UInt8 := base r ++ (r.pa ++ (mk r.hQ [63] r.qu ++ mk r.hF [35] r.fr))

/-! A text's parts. -/
def schB (c : UInt8) : Bool := B.alp (c.toNat : Int) || B.dig (c.toNat : Int) || [43, 45, 46].contains c
def schL : List UInt8 → Bool
  | [] => false
  | c :: r => B.alp (c.toNat : Int) && r.all schB
def isS (b : List UInt8) : Bool := decide (fstN [58] b < b.length) && schL (b.take (fstN [58] b))
def schOf (b : List UInt8) : List UInt8 := if isS b then b.take (fstN [58] b) else []
def restOf (b : List UInt8) : List UInt8 := if isS b then b.drop (fstN [58] b + 1) else b
def hasA (d : List UInt8) : Bool := Lib.hasPrefix d [47, 47]
def auOf (d : List UInt8) : List UInt8 := if hasA d then (d.drop 2).take (fstN [47] (d.drop 2)) else []
def paOf (d : List UInt8) : List UInt8 := if hasA d then (d.drop 2).drop (fstN [47] (d.drop 2)) else d
def noF (l : List UInt8) : List UInt8 := l.take (fstN [35] l)
def noQ (a : List UInt8) : List UInt8 := a.take (fstN [63] a)
def parts (l : List UInt8) : R :=
  ⟨schOf (noQ (noF l)), auOf (restOf (noQ (noF l))), paOf (restOf (noQ (noF l))), (noF l).drop (fstN [63] (noF l) + 1), l.drop (fstN [35] l + 1), hasA (restOf (noQ (noF l))), decide (fstN [63] (noF l) < (noF l).length), decide (fstN [35] l < l.length)⟩
theorem cut_back (b : UInt8) : ∀ l : List UInt8, l.take (fstN [b] l) ++ mk (decide (fstN [b] l < l.length)) [b] (l.drop (fstN [b] l + 1)) = l
  | [] => rfl
  | c :: r => by
    have ih := cut_back b r
    by_cases hc : c = b
    · subst hc
      rw [fst_yes r (by simp)]
      rw [decide_eq_true (by simp)]; rfl
    · rw [fst_no r (by rw [one_has, beq_eq_false_iff_ne]; exact hc), List.take_succ_cons, List.drop_succ_cons]
      have e : decide (fstN [b] r + 1 < (c :: r).length) = decide (fstN [b] r < r.length) := by rw [decide_eq_decide, List.length_cons]; omega
      rw [e, List.cons_append, ih]
theorem schL_ne {s : List UInt8} (h : schL s = true) : s ≠ [] := by rintro rfl; cases h
theorem sch_back (b : List UInt8) : schT (schOf b) ++ restOf b = b := by
  unfold schOf restOf
  cases h : isS b
  · rfl
  · have h2 := h
    unfold isS at h2
    rw [Bool.and_eq_true] at h2
    have hb := cut_back 58 b
    rw [h2.1] at hb
    rw [if_pos rfl, if_pos rfl]
    unfold schT
    rw [if_neg (schL_ne h2.2), List.append_assoc]
    exact hb
theorem pre_two {d : List UInt8} (h : hasA d = true) : [47, 47] ++ d.drop 2 = d := by
  unfold hasA Lib.hasPrefix at h
  match d, h with
  | [], h => cases h
  | [x], h =>
    simp at h
  | x :: y :: t, h =>
    simp at h
    obtain ⟨rfl, rfl⟩ := h
    rfl
theorem pa_back (d : List UInt8) : mk (hasA d) [47, 47] (auOf d) ++ paOf d = d := by
  unfold auOf paOf
  cases h : hasA d
  · rfl
  · unfold mk
    rw [if_pos rfl, if_pos rfl, if_pos rfl, List.append_assoc, List.take_append_drop]
    exact pre_two h
/-- P11.4, of any text: what is written of its parts is the text. -/
theorem write_parts (l : List UInt8) : write (parts l) = l := by
  have h1 := cut_back 35 l
  have h2 := cut_back 63 (noF l)
  have h3 := sch_back (noQ (noF l))
  have h4 := pa_back (restOf (noQ (noF l)))
  unfold write base parts
  show schT (schOf (noQ (noF l))) ++ mk (hasA (restOf (noQ (noF l)))) [47, 47] (auOf (restOf (noQ (noF l)))) ++ (paOf (restOf (noQ (noF l))) ++ (mk _ [63] _ ++ mk _ [35] _)) = l
  rw [List.append_assoc, ← List.append_assoc (mk (hasA _) _ _), h4, ← List.append_assoc, h3, ← List.append_assoc]
  conv => lhs; lhs; rw [show noQ (noF l) = (noF l).take (fstN [63] (noF l)) from rfl, h2]
  exact h1

/-! Are they right? -/
def okR (r : R) : Bool := (pcL [91, 93] r.au && !r.au.contains 64) && (pcL [47] r.pa && (pcL [47, 63] r.qu && pcL [47, 63] r.fr))
def colR (r : R) : Bool := !r.sch.isEmpty || !(r.pa.take (fstN [47] r.pa)).contains 58
def parseL (l : List UInt8) : Option R := if okR (parts l) && colR (parts l) then some (parts l) else none
def textR (r : R) : Option (List UInt8) := if parseL (write r) = some r then some (write r) else none
theorem text_parse {l : List UInt8} {r : R} (h : parseL l = some r) : textR r = some l := by
  have h' := h
  unfold parseL at h
  split at h
  · have e := Option.some.inj h
    have hw : write r = l := by rw [← e, write_parts]
    unfold textR
    rw [hw, if_pos h']
  · cases h
theorem parse_text {r : R} {s : List UInt8} (h : textR r = some s) : parseL s = some r := by
  unfold textR at h
  split at h
  · obtain rfl := Option.some.inj h
    assumption
  · cases h
/-- A class of a text's bytes, with escapes. -/
def okC (p : UInt8 → Bool) : List UInt8 → Bool
  | [] => true
  | [c] => !decide (c = 37) && p c
  | [c, x] => !decide (c = 37) && p c && okC p [x]
  | c :: x :: y :: t => if c = 37 then Hp.hx x && Hp.hx y && okC p t else p c && okC p (x :: y :: t)
theorem okC_nil (p : UInt8 → Bool) : okC p [] = true := by rw [okC]
theorem okC_esc (p : UInt8 → Bool) (x y : UInt8) (t : List UInt8) : okC p (37 :: x :: y :: t) = (Hp.hx x && Hp.hx y && okC p t) := by rw [okC, if_pos rfl]
theorem okC_short {p : UInt8 → Bool} {r : List UInt8} (h : r.length < 2) : okC p (37 :: r) = false := by
  match r, h with
  | [], _ => rw [okC]; rfl
  | [x], _ => rw [okC]; rfl
theorem okC_cons {p : UInt8 → Bool} {c : UInt8} (r : List UInt8) (h : c ≠ 37) : okC p (c :: r) = (p c && okC p r) := by
  match r with
  | [] => rw [okC_nil, show okC p [c] = (!decide (c = 37) && p c) by rw [okC], decide_eq_false h]; simp
  | [x] => rw [show okC p [c, x] = (!decide (c = 37) && p c && okC p [x]) by (conv => lhs; rw [okC]), decide_eq_false h]; simp
  | x :: y :: t => rw [okC, if_neg h]
theorem okC_pcL (more : List UInt8) : ∀ (n : Nat) (l : List UInt8), l.length ≤ n → okC (fun c => pb c || more.contains c) l = pcL more l := by
  intro n
  induction n with
  | zero => intro l h; have : l = [] := List.eq_nil_of_length_eq_zero (by omega); subst this; rw [Pq.pcL_nil, okC_nil]
  | succ n ih =>
    intro l h
    match l with
    | [] => rw [Pq.pcL_nil, okC_nil]
    | c :: r =>
      have hr : r.length ≤ n := by simpa using h
      by_cases hc : c = 37
      · subst hc
        match r, hr with
        | [], _ => rw [Pq.pcL_short (by simp), okC_short (by simp)]
        | [x], _ => rw [Pq.pcL_short (by simp), okC_short (by simp)]
        | x :: y :: t, hr => rw [okC_esc, Pq.pcL_esc, ih t (by simp only [List.length_cons] at hr; omega)]
      · rw [okC_cons r hc, Pq.pcL_cons r hc, ih r hr]
theorem hx64 {c : UInt8} (h : Hp.hx c = true) : c ≠ 64 := by
  rintro rfl
  revert h; decide +kernel
theorem okC_auth : ∀ (n : Nat) (l : List UInt8), l.length ≤ n → okC (fun c => !(c == 64) && (pb c || [91, 93].contains c)) l = (pcL [91, 93] l && !l.contains 64) := by
  intro n
  induction n with
  | zero => intro l h; have : l = [] := List.eq_nil_of_length_eq_zero (by omega); subst this; rw [Pq.pcL_nil, okC_nil]; rfl
  | succ n ih =>
    intro l h
    match l with
    | [] => rw [Pq.pcL_nil, okC_nil]; rfl
    | c :: r =>
      have hr : r.length ≤ n := by simpa using h
      by_cases hc : c = 37
      · subst hc
        match r, hr with
        | [], _ => rw [Pq.pcL_short (by simp), okC_short (by simp)]; rfl
        | [x], _ => rw [Pq.pcL_short (by simp), okC_short (by simp)]; rfl
        | x :: y :: t, hr =>
          rw [okC_esc, Pq.pcL_esc, ih t (by simp only [List.length_cons] at hr; omega)]
          cases hx : Hp.hx x
          · simp
          · cases hy : Hp.hx y
            · simp
            · have e1 := hx64 hx
              have e2 := hx64 hy
              rw [List.contains_cons, List.contains_cons, List.contains_cons]
              have f1 : (64 == x) = false := by rw [beq_eq_false_iff_ne]; exact fun e => e1 e.symm
              have f2 : (64 == y) = false := by rw [beq_eq_false_iff_ne]; exact fun e => e2 e.symm
              rw [f1, f2, show ((64 : UInt8) == 37) = false from rfl]
              simp
      · rw [okC_cons r hc, Pq.pcL_cons r hc, ih r hr]
        have e : (c :: r).contains 64 = ((64 : UInt8) == c || r.contains 64) := List.contains_cons
        have f : ((64 : UInt8) == c) = (c == 64) := by rw [Bool.eq_iff_iff, beq_iff_eq, beq_iff_eq]; exact eq_comm
        rw [e, f]
        cases (c == 64) <;> cases (pb c || [91, 93].contains c) <;> cases pcL [91, 93] r <;> cases r.contains 64 <;> rfl

/-! As the code looks at it: up to the next escape. -/
/-- What is still to be looked at: a plain text, and, behind an escape's mark, the rest. -/
def curL (pl re : List UInt8) (es : Bool) : List UInt8 := pl ++ mk es [37] re
def digs (re : List UInt8) : Bool := decide (2 ≤ re.length) && (re.take 2).all Hp.hx
theorem okC_plain {p : UInt8 → Bool} : ∀ (pl r : List UInt8), 37 ∉ pl → okC p (pl ++ r) = (pl.all p && okC p r)
  | [], r, _ => by simp
  | c :: pl, r, h => by
    have hc : c ≠ 37 := fun e => h (by rw [e]; exact List.mem_cons_self)
    rw [List.cons_append, okC_cons _ hc, okC_plain pl r (fun hm => h (List.mem_cons_of_mem _ hm)), List.all_cons, Bool.and_assoc]
theorem okC_digs {p : UInt8 → Bool} (hp : ∀ c, Hp.hx c = true → p c = true) (re : List UInt8) : okC p (37 :: re) = (digs re && okC p re) := by
  match re with
  | [] => rw [okC_short (by simp)]; rfl
  | [x] => rw [okC_short (by simp)]; rfl
  | x :: y :: t =>
    have e : digs (x :: y :: t) = (Hp.hx x && Hp.hx y) := by unfold digs; simp
    rw [okC_esc, e]
    cases hx : Hp.hx x
    · simp
    · cases hy : Hp.hx y
      · simp
      · rw [okC_cons _ ((Pq.byte3 x).2 hx).2.2, okC_cons _ ((Pq.byte3 y).2 hy).2.2, hp x hx, hp y hy]
        simp
theorem cur_stop {p : UInt8 → Bool} {pl re : List UInt8} (h : 37 ∉ pl) : okC p (curL pl re false) = pl.all p := by
  unfold curL mk
  rw [if_neg (by decide), okC_plain pl _ h, okC_nil, Bool.and_true]
theorem cur_go {p : UInt8 → Bool} (hp : ∀ c, Hp.hx c = true → p c = true) {pl re : List UInt8} (h : 37 ∉ pl) : okC p (curL pl re true) = (pl.all p && (digs re && okC p re)) := by
  unfold curL mk
  rw [if_pos rfl, okC_plain pl _ h, List.singleton_append, okC_digs hp]
theorem cur_cut (l : List UInt8) : curL (l.take (fstN [37] l)) (l.drop (fstN [37] l + 1)) (decide (fstN [37] l < l.length)) = l := cut_back 37 l
theorem cut_free (b : UInt8) (l : List UInt8) : b ∉ l.take (fstN [b] l) := by
  intro h
  have := fst_free [b] l b h
  simp at this
end Ur
end Go.Proofs.Ytnnhlkbjdfgcaaa
