/- Contracts and lemmas that the claim rests on: CmA. -/
import Derived.Test.YtjchcknmolffiaaDoorGQtA
import Derived.Lib.SlTrimSet
import Derived.Test.YtjchcknmolffiaaDoorGQuil
/- Lists whose elements stand between commas, as plain functions on lists of bytes. Nothing here speaks of the program. -/
namespace Go.Proofs.YtjchcknmolffiaaDoor
namespace Cm

/-- Bytes of the class p cut off at the right end. -/
def R (p : UInt8 → Bool) (l : List UInt8) : List UInt8 := (l.reverse.dropWhile p).reverse
theorem R_nil (p : UInt8 → Bool) : R p [] = [] := rfl
theorem R_cons (p : UInt8 → Bool) (c : UInt8) (r : List UInt8) : R p (c :: r) = if R p r = [] ∧ p c = true then [] else c :: R p r := by
  unfold R
  rw [List.reverse_cons, List.dropWhile_append]
  by_cases h : r.reverse.dropWhile p = []
  · rw [h]
    cases hc : p c
    · simp [hc]
    · simp [hc]
  · simp [h]
theorem R_snoc (p : UInt8 → Bool) (l : List UInt8) (c : UInt8) (h : p c = true) : R p (l ++ [c]) = R p l := by
  unfold R
  rw [List.reverse_append]
  show (List.dropWhile p (c :: l.reverse)).reverse = _
  rw [List.dropWhile_cons_of_pos h]
theorem LR (p : UInt8 → Bool) : ∀ l : List UInt8, R p (l.dropWhile p) = (R p l).dropWhile p
  | [] => rfl
  | c :: r => by
    rw [R_cons]
    cases hc : p c
    · rw [List.dropWhile_cons_of_neg (by simp [hc]), if_neg (by simp), List.dropWhile_cons_of_neg (by simp [hc]), R_cons, if_neg (by simp [hc])]
    · rw [List.dropWhile_cons_of_pos hc, LR p r]
      by_cases h : R p r = []
      · rw [if_pos ⟨h, rfl⟩, h]
      · rw [if_neg (fun x => h x.1), List.dropWhile_cons_of_pos hc]
theorem LL (p : UInt8 → Bool) : ∀ l : List UInt8, (l.dropWhile p).dropWhile p = l.dropWhile p
  | [] => rfl
  | c :: r => by
    cases hc : p c
    · rw [List.dropWhile_cons_of_neg (by simp [hc]), List.dropWhile_cons_of_neg (by simp [hc])]
    · rw [List.dropWhile_cons_of_pos hc, LL p r]
theorem RR (p : UInt8 → Bool) (l : List UInt8) : R p (R p l) = R p l := by
  unfold R
  rw [List.reverse_reverse, LL]
theorem R_le (p : UInt8 → Bool) (l : List UInt8) : (R p l).length ≤ l.length := by
  unfold R
  rw [List.length_reverse]
  have := (List.dropWhile_suffix p (l := l.reverse)).length_le
  simpa using this
/-- A blank or a tab. -/
def bl (c : UInt8) : Bool := ([32, 9] : List UInt8).contains c
/-- A text without blanks and tabs at both ends. -/
def trim (l : List UInt8) : List UInt8 := Lib.trimS l [32, 9]
theorem trim_eq (l : List UInt8) : trim l = (R bl l).dropWhile bl := rfl
theorem trim_eq' (l : List UInt8) : trim l = R bl (l.dropWhile bl) := by rw [trim_eq, LR]
theorem trim_left (c : UInt8) (r : List UInt8) (h : bl c = true) : trim (c :: r) = trim r := by rw [trim_eq', trim_eq', List.dropWhile_cons_of_pos h]
theorem trim_right (l : List UInt8) (c : UInt8) (h : bl c = true) : trim (l ++ [c]) = trim l := by rw [trim_eq, trim_eq, R_snoc _ _ _ h]
theorem trim_trim (l : List UInt8) : trim (trim l) = trim l := by
  rw [trim_eq (trim l), trim_eq' l, RR, LR, LL]
theorem trim_le (l : List UInt8) : (trim l).length ≤ l.length := by
  have h1 := (List.dropWhile_suffix bl (l := R bl l)).length_le
  have h2 := R_le bl l
  rw [trim_eq]
  omega
theorem bl_not {c : UInt8} {n : Int} (h : (c.toNat : Int) = n) (h1 : n ≠ 32) (h2 : n ≠ 9) : bl c = false := by
  cases hb : bl c
  · rfl
  · unfold bl at hb
    simp at hb
    rcases hb with rfl | rfl
    · exact absurd h.symm h1
    · exact absurd h.symm h2

/-- From depth d on: how many bytes a comment has up to its end; e: an escape was the byte before. -/
def comm : Bool → Nat → List UInt8 → Option Nat
  | _, _, [] => none
  | true, d, _ :: r => (comm false d r).map (· + 1)
  | false, d, c :: r =>
    if (c.toNat : Int) = 40 then (comm false (d + 1) r).map (· + 1)
    else if (c.toNat : Int) = 41 then (if d = 1 then some 1 else (comm false (d - 1) r).map (· + 1))
    else if (c.toNat : Int) = 92 then (comm true d r).map (· + 1)
    else (comm false d r).map (· + 1)
theorem map_some {o : Option Nat} {a n : Nat} (h : o.map (· + a) = some n) : ∃ m, o = some m ∧ n = m + a := by
  cases o with
  | none => cases h
  | some m => exact ⟨m, rfl, by simpa using h.symm⟩
theorem map_add (o : Option Nat) (a b : Nat) : (o.map (· + a)).map (· + b) = o.map (· + (a + b)) := by
  cases o with
  | none => rfl
  | some m => simp [Nat.add_assoc]
theorem map_zero (o : Option Nat) : o.map (· + 0) = o := by cases o <;> rfl
theorem comm_open (d : Nat) (c : UInt8) (r : List UInt8) (h : (c.toNat : Int) = 40) : comm false d (c :: r) = (comm false (d + 1) r).map (· + 1) := by
  conv => lhs; unfold comm
  rw [if_pos h]
theorem comm_last (c : UInt8) (r : List UInt8) (h : (c.toNat : Int) = 41) : comm false 1 (c :: r) = some 1 := by
  unfold comm
  rw [if_neg (by omega), if_pos h, if_pos rfl]
theorem comm_close (d : Nat) (c : UInt8) (r : List UInt8) (h : (c.toNat : Int) = 41) (hd : d ≠ 1) : comm false d (c :: r) = (comm false (d - 1) r).map (· + 1) := by
  conv => lhs; unfold comm
  rw [if_neg (by omega), if_pos h, if_neg hd]
theorem comm_esc (d : Nat) (c : UInt8) (r : List UInt8) (h : (c.toNat : Int) = 92) : comm false d (c :: r) = (comm true d r).map (· + 1) := by
  conv => lhs; unfold comm
  rw [if_neg (by omega), if_neg (by omega), if_pos h]
theorem comm_over (d : Nat) (c : UInt8) (r : List UInt8) : comm true d (c :: r) = (comm false d r).map (· + 1) := by
  conv => lhs; unfold comm
theorem comm_plain (d : Nat) (c : UInt8) (r : List UInt8) (h1 : (c.toNat : Int) ≠ 40) (h2 : (c.toNat : Int) ≠ 41) (h3 : (c.toNat : Int) ≠ 92) : comm false d (c :: r) = (comm false d r).map (· + 1) := by
  conv => lhs; unfold comm
  rw [if_neg h1, if_neg h2, if_neg h3]
theorem comm_nil (e : Bool) (d : Nat) : comm e d [] = none := by unfold comm; rfl
theorem form_cons {f g : List UInt8 → Option Nat} {c : UInt8} {r : List UInt8} {n m : Nat} (hf : ∀ r, f (c :: r) = (g r).map (· + 1)) (hn : n = m + 1)
    (ih : ∃ v z, (z.toNat : Int) = 41 ∧ r = v ++ z :: r.drop m ∧ m = v.length + 1 ∧ ∀ t, g (v ++ z :: t) = some m) :
    ∃ v z, (z.toNat : Int) = 41 ∧ c :: r = v ++ z :: (c :: r).drop n ∧ n = v.length + 1 ∧ ∀ t, f (v ++ z :: t) = some n := by
  obtain ⟨v, z, hz, hr, hm, ht⟩ := ih
  subst hn
  refine ⟨c :: v, z, hz, ?_, by simp [hm], fun t => ?_⟩
  · rw [List.drop_succ_cons, List.cons_append, ← hr]
  · rw [List.cons_append, hf, ht]; rfl
theorem comm_form : ∀ (l : List UInt8) (e : Bool) (d n : Nat), comm e d l = some n → ∃ v z, (z.toNat : Int) = 41 ∧ l = v ++ z :: l.drop n ∧ n = v.length + 1 ∧ ∀ t, comm e d (v ++ z :: t) = some n
  | [], e, d, n, h => by rw [comm_nil] at h; cases h
  | c :: r, true, d, n, h => by
    rw [comm_over] at h
    obtain ⟨m, hm, hn⟩ := map_some h
    exact form_cons (f := comm true d) (g := comm false d) (fun r => comm_over d c r) hn (comm_form r false d m hm)
  | c :: r, false, d, n, h => by
    by_cases h1 : (c.toNat : Int) = 40
    · rw [comm_open d c r h1] at h
      obtain ⟨m, hm, hn⟩ := map_some h
      exact form_cons (f := comm false d) (g := comm false (d + 1)) (fun r => comm_open d c r h1) hn (comm_form r false _ m hm)
    · by_cases h2 : (c.toNat : Int) = 41
      · by_cases hd : d = 1
        · subst hd
          rw [comm_last c r h2] at h
          cases h
          exact ⟨[], c, h2, rfl, rfl, fun t => comm_last c t h2⟩
        · rw [comm_close d c r h2 hd] at h
          obtain ⟨m, hm, hn⟩ := map_some h
          exact form_cons (f := comm false d) (g := comm false (d - 1)) (fun r => comm_close d c r h2 hd) hn (comm_form r false _ m hm)
      · by_cases h3 : (c.toNat : Int) = 92
        · rw [comm_esc d c r h3] at h
          obtain ⟨m, hm, hn⟩ := map_some h
          exact form_cons (f := comm false d) (g := comm true d) (fun r => comm_esc d c r h3) hn (comm_form r true _ m hm)
        · rw [comm_plain d c r h1 h2 h3] at h
          obtain ⟨m, hm, hn⟩ := map_some h
          exact form_cons (f := comm false d) (g := comm false d) (fun r => comm_plain d c r h1 h2 h3) hn (comm_form r false _ m hm)

/-- A quoted text or a comment that is next: how many bytes; none: it does not end. -/
def unit : List UInt8 → Option Nat
  | [] => none
  | c :: r => if (c.toNat : Int) = 34 then (Qd.front (c :: r)).map (·.2) else comm false 0 (c :: r)
theorem unit_cons (c : UInt8) (r : List UInt8) : unit (c :: r) = if (c.toNat : Int) = 34 then (Qd.front (c :: r)).map (·.2) else comm false 0 (c :: r) := rfl
/-- What a quoted text's bytes, or a comment's, are: they are told by themselves, and end in no blank. -/
structure U (u : List UInt8) : Prop where
  form : ∃ a v z, u = a :: (v ++ [z]) ∧ ((a.toNat : Int) = 34 ∨ (a.toNat : Int) = 40) ∧ ((z.toNat : Int) = 34 ∨ (z.toNat : Int) = 41)
  all : ∀ t, unit (u ++ t) = some u.length
theorem inner_form : ∀ (l m : List UInt8) (n : Nat), Qd.inner l = some (m, n) → ∃ v z, (z.toNat : Int) = 34 ∧ l = v ++ z :: l.drop n ∧ n = v.length + 1 ∧ ∀ t, Qd.inner (v ++ z :: t) = some (m, n)
  | [], m, n, h => by cases h
  | [c], m, n, h => by
    by_cases h1 : (c.toNat : Int) = 34
    · rw [Qd.inner_mark c [] h1] at h
      cases h
      exact ⟨[], c, h1, rfl, rfl, fun t => Qd.inner_mark c t h1⟩
    · unfold Qd.inner at h
      rw [if_neg h1] at h
      cases h
  | c :: d :: r, m, n, h => by
    by_cases h1 : (c.toNat : Int) = 34
    · rw [Qd.inner_mark c _ h1] at h
      cases h
      exact ⟨[], c, h1, rfl, rfl, fun t => Qd.inner_mark c t h1⟩
    · by_cases h2 : (c.toNat : Int) = 92
      · cases hd : B.val (d.toNat : Int)
        · rw [Qd.inner_bad c d r h2 hd] at h
          cases h
        · rw [Qd.inner_esc c d r h2 hd, Qd.map_cons] at h
          obtain ⟨m', n', h3, rfl, rfl⟩ := Qd.map_le h
          obtain ⟨v, z, hz, hr, hn, ht⟩ := inner_form r m' n' h3
          refine ⟨c :: d :: v, z, hz, ?_, by simp; omega, fun t => ?_⟩
          · rw [show 2 + n' = n' + 1 + 1 from by omega, List.drop_succ_cons, List.drop_succ_cons, List.cons_append, List.cons_append, ← hr]
          · rw [List.cons_append, List.cons_append, Qd.inner_esc c d _ h2 hd, ht]
            simp [Nat.add_comm]
      · cases hc : B.val (c.toNat : Int)
        · rw [Qd.inner_no c _ hc] at h
          cases h
        · have hp : Qd.pl (c.toNat : Int) = true := by unfold Qd.pl; simp [hc, h1, h2]
          rw [Qd.inner_plain c _ hp, Qd.map_cons] at h
          obtain ⟨m', n', h3, rfl, rfl⟩ := Qd.map_le h
          obtain ⟨v, z, hz, hr, hn, ht⟩ := inner_form (d :: r) m' n' h3
          refine ⟨c :: v, z, hz, ?_, by simp; omega, fun t => ?_⟩
          · rw [show 1 + n' = n' + 1 from by omega, List.drop_succ_cons, List.cons_append, ← hr]
          · rw [List.cons_append, Qd.inner_plain c _ hp, ht]
            simp [Nat.add_comm]
theorem unit_form (c : UInt8) (r : List UInt8) (n : Nat) (hc : (c.toNat : Int) = 34 ∨ (c.toNat : Int) = 40) (h : unit (c :: r) = some n) : ∃ u, U u ∧ c :: r = u ++ (c :: r).drop n ∧ n = u.length := by
  by_cases h1 : (c.toNat : Int) = 34
  · have e : ∀ t, unit (c :: t) = ((Qd.inner t).map fun x => (x.1, x.2 + 1)).map (·.2) := fun t => by
      rw [unit_cons, if_pos h1, Qd.front_cons, if_pos h1]
    rw [e] at h
    cases hi : Qd.inner r with
    | none => rw [hi] at h; cases h
    | some x =>
      obtain ⟨m, n'⟩ := x
      rw [hi] at h
      cases h
      obtain ⟨v, z, hz, hr, hn, ht⟩ := inner_form r m n' hi
      refine ⟨c :: (v ++ [z]), ⟨⟨c, v, z, rfl, .inl h1, .inl hz⟩, fun t => ?_⟩, ?_, by simp; omega⟩
      · rw [List.cons_append, e, List.append_assoc, List.singleton_append, ht]
        simp [hn]
      · rw [List.drop_succ_cons, List.cons_append, List.append_assoc, List.singleton_append, ← hr]
  · have h2 : (c.toNat : Int) = 40 := hc.resolve_left h1
    have e : ∀ t, unit (c :: t) = (comm false 1 t).map (· + 1) := fun t => by
      rw [unit_cons, if_neg h1, comm_open 0 c t h2]
    rw [e] at h
    obtain ⟨m, hm, hn⟩ := map_some h
    obtain ⟨v, z, hz, hr, hm2, ht⟩ := comm_form r false 1 m hm
    subst hn
    refine ⟨c :: (v ++ [z]), ⟨⟨c, v, z, rfl, .inr h2, .inr hz⟩, fun t => ?_⟩, ?_, by simp; omega⟩
    · rw [List.cons_append, e, List.append_assoc, List.singleton_append, ht]
      simp [hm2]
    · rw [List.drop_succ_cons, List.cons_append, List.append_assoc, List.singleton_append, ← hr]
theorem unit_le (c : UInt8) (r : List UInt8) (n : Nat) (hc : (c.toNat : Int) = 34 ∨ (c.toNat : Int) = 40) (h : unit (c :: r) = some n) : 1 ≤ n ∧ n ≤ (c :: r).length := by
  obtain ⟨u, hu, hr, hn⟩ := unit_form c r n hc h
  obtain ⟨a, v, z, rfl, -, -⟩ := hu.form
  subst hn
  have := congrArg List.length hr
  rw [List.length_append] at this
  constructor
  · simp
  · omega

/-- How many bytes there are up to the next comma that parts, or to the end; k of them are passed over first. -/
def piece : Nat → List UInt8 → Option Nat
  | _, [] => some 0
  | k + 1, _ :: r => (piece k r).map (· + 1)
  | 0, c :: r =>
    if (c.toNat : Int) = 44 then some 0
    else if (c.toNat : Int) = 34 ∨ (c.toNat : Int) = 40 then (match unit (c :: r) with | some n => (piece (n - 1) r).map (· + 1) | none => none)
    else (piece 0 r).map (· + 1)
theorem piece_nil (k : Nat) : piece k [] = some 0 := by unfold piece; rfl
theorem piece_over (k : Nat) (c : UInt8) (r : List UInt8) : piece (k + 1) (c :: r) = (piece k r).map (· + 1) := by conv => lhs; unfold piece
theorem piece_comma (c : UInt8) (r : List UInt8) (h : (c.toNat : Int) = 44) : piece 0 (c :: r) = some 0 := by unfold piece; rw [if_pos h]
theorem piece_plain (c : UInt8) (r : List UInt8) (h1 : (c.toNat : Int) ≠ 44) (h2 : (c.toNat : Int) ≠ 34) (h3 : (c.toNat : Int) ≠ 40) : piece 0 (c :: r) = (piece 0 r).map (· + 1) := by
  conv => lhs; unfold piece
  rw [if_neg h1, if_neg (fun h => h.elim h2 h3)]
theorem piece_skip : ∀ (l : List UInt8) (k : Nat), k ≤ l.length → piece k l = (piece 0 (l.drop k)).map (· + k)
  | l, 0, _ => by rw [List.drop_zero, map_zero]
  | [], k + 1, h => by simp at h
  | c :: r, k + 1, h => by rw [piece_over, piece_skip r k (by simpa using h), List.drop_succ_cons, map_add]
theorem piece_unit (c : UInt8) (r : List UInt8) (n : Nat) (hc : (c.toNat : Int) = 34 ∨ (c.toNat : Int) = 40) (h : unit (c :: r) = some n) : piece 0 (c :: r) = (piece 0 ((c :: r).drop n)).map (· + n) := by
  have hl := unit_le c r n hc h
  conv => lhs; unfold piece
  rw [if_neg (by omega), if_pos hc, h]
  obtain ⟨m, rfl⟩ : ∃ m, n = m + 1 := ⟨n - 1, by omega⟩
  show (piece (m + 1 - 1) r).map (· + 1) = _
  rw [Nat.add_sub_cancel, piece_skip r m (by simpa using hl.2), map_add, List.drop_succ_cons]
theorem piece_bad (c : UInt8) (r : List UInt8) (hc : (c.toNat : Int) = 34 ∨ (c.toNat : Int) = 40) (h : unit (c :: r) = none) : piece 0 (c :: r) = none := by
  unfold piece
  rw [if_neg (by omega), if_pos hc, h]
/-- Whole texts that no comma parts. -/
inductive P : List UInt8 → Prop
  | nil : P []
  | plain (c : UInt8) (r : List UInt8) : (c.toNat : Int) ≠ 44 → (c.toNat : Int) ≠ 34 → (c.toNat : Int) ≠ 40 → P r → P (c :: r)
  | unit (u r : List UInt8) : U u → P r → P (u ++ r)
theorem piece_form : ∀ (k : Nat) (l : List UInt8) (n : Nat), l.length ≤ k → piece 0 l = some n → ∃ p, P p ∧ n = p.length ∧ l = p ++ l.drop n ∧ ∀ c t, l.drop n = c :: t → (c.toNat : Int) = 44
  | _, [], n, _, h => by
    rw [piece_nil] at h
    cases h
    exact ⟨[], .nil, rfl, rfl, fun c t h => (by cases h)⟩
  | 0, c :: r, n, hk, h => by simp at hk
  | k + 1, c :: r, n, hk, h => by
    have hk' : r.length ≤ k := by simpa using hk
    by_cases h1 : (c.toNat : Int) = 44
    · rw [piece_comma c r h1] at h
      cases h
      exact ⟨[], .nil, rfl, rfl, fun d t h => (by cases h; exact h1)⟩
    · by_cases h2 : (c.toNat : Int) = 34 ∨ (c.toNat : Int) = 40
      · cases hu : unit (c :: r) with
        | none => rw [piece_bad c r h2 hu] at h; cases h
        | some m =>
          rw [piece_unit c r m h2 hu] at h
          have hl := unit_le c r m h2 hu
          obtain ⟨u, hU, hr, hm⟩ := unit_form c r m h2 hu
          obtain ⟨n', h3, rfl⟩ := map_some h
          obtain ⟨p, hp, hn, hd, hc⟩ := piece_form k ((c :: r).drop m) n' (by rw [List.length_drop]; omega) h3
          rw [List.drop_drop, Nat.add_comm m n'] at hd hc
          refine ⟨u ++ p, .unit u p hU hp, by rw [List.length_append]; omega, ?_, hc⟩
          rw [List.append_assoc, ← hd, ← hr]
      · have h3 : (c.toNat : Int) ≠ 34 := fun e => h2 (.inl e)
        have h4 : (c.toNat : Int) ≠ 40 := fun e => h2 (.inr e)
        rw [piece_plain c r h1 h3 h4] at h
        obtain ⟨n', h5, rfl⟩ := map_some h
        obtain ⟨p, hp, hn, hd, hc⟩ := piece_form k r n' hk' h5
        refine ⟨c :: p, .plain c p h1 h3 h4 hp, by rw [List.length_cons, hn], ?_, ?_⟩
        · rw [List.drop_succ_cons, List.cons_append, ← hd]
        · rw [List.drop_succ_cons]; exact hc
theorem P_piece {p : List UInt8} (h : P p) : ∀ t, piece 0 (p ++ t) = (piece 0 t).map (· + p.length) := by
  induction h with
  | nil => intro t; rw [List.nil_append]; exact (map_zero _).symm
  | plain c r h1 h2 h3 _ ih => intro t; rw [List.cons_append, piece_plain c _ h1 h2 h3, ih, map_add]; rfl
  | unit u r hu _ ih =>
    intro t
    have ha := hu.all (r ++ t)
    obtain ⟨a, v, z, rfl, hc, -⟩ := hu.form
    rw [List.append_assoc]
    have e : a :: (v ++ [z]) ++ (r ++ t) = a :: (v ++ [z] ++ (r ++ t)) := rfl
    rw [e] at ha ⊢
    rw [piece_unit a _ _ hc ha, ← e, List.drop_left, ih, map_add]
    rw [List.length_append]
    congr 2
    funext x
    omega
theorem P_left {c : UInt8} {r : List UInt8} (h : P (c :: r)) (hb : bl c = true) : P r := by
  generalize hl : c :: r = l at h
  cases h with
  | nil => cases hl
  | plain c' r' _ _ _ h' => cases hl; exact h'
  | unit u r' hu h' =>
    obtain ⟨a, v, z, rfl, ha, -⟩ := hu.form
    have : c = a := by
      have := congrArg List.head? hl
      simpa using this
    subst this
    rcases ha with h | h
    · rw [bl_not h (by decide) (by decide)] at hb; cases hb
    · rw [bl_not h (by decide) (by decide)] at hb; cases hb
theorem snoc_or (l : List UInt8) : l = [] ∨ ∃ r x, l = r ++ [x] := by
  rcases List.eq_nil_or_concat l with h | ⟨r, x, h⟩
  · exact .inl h
  · exact .inr ⟨r, x, by rw [h]; simp⟩
theorem P_right {l : List UInt8} (h : P l) : ∀ q b, l = q ++ [b] → bl b = true → P q := by
  induction h with
  | nil => intro q b h; simp at h
  | plain c r h1 h2 h3 hr ih =>
    intro q b h hb
    cases q with
    | nil => exact .nil
    | cons d q =>
      rw [List.cons_append] at h
      injection h with e1 e2
      subst e1
      exact .plain c q h1 h2 h3 (ih q b e2 hb)
  | unit u r hu hr ih =>
    intro q b h hb
    rcases snoc_or r with rfl | ⟨r', x, rfl⟩
    · rw [List.append_nil] at h
      obtain ⟨a, v, z, rfl, -, hz⟩ := hu.form
      have e : (a :: v) ++ [z] = q ++ [b] := h
      have := (List.append_inj' e rfl).2
      cases this
      rcases hz with h | h
      · rw [bl_not h (by decide) (by decide)] at hb; cases hb
      · rw [bl_not h (by decide) (by decide)] at hb; cases hb
    · rw [← List.append_assoc] at h
      obtain ⟨e1, e2⟩ := List.append_inj' h rfl
      cases e2
      rw [← e1]
      exact .unit u r' hu (ih r' _ rfl hb)
theorem P_dropL : ∀ {l : List UInt8}, P l → P (l.dropWhile bl)
  | [], h => h
  | c :: r, h => by
    cases hc : bl c
    · rw [List.dropWhile_cons_of_neg (by simp [hc])]; exact h
    · rw [List.dropWhile_cons_of_pos hc]; exact P_dropL (P_left h hc)
theorem P_dropR : ∀ r : List UInt8, P r.reverse → P (r.dropWhile bl).reverse
  | [], h => h
  | c :: r, h => by
    cases hc : bl c
    · rw [List.dropWhile_cons_of_neg (by simp [hc])]; exact h
    · rw [List.dropWhile_cons_of_pos hc]; exact P_dropR r (P_right h _ c List.reverse_cons hc)
theorem P_trim {l : List UInt8} (h : P l) : P (trim l) := by
  rw [trim_eq]
  exact P_dropL (P_dropR l.reverse (by rw [List.reverse_reverse]; exact h))

/-- A part's element, if it has one. -/
def el (p : List UInt8) : List (List UInt8) := if trim p = [] then [] else [trim p]
/-- A list's elements. -/
def spl (l : List UInt8) : Option (List (List UInt8)) :=
  match piece 0 l with
  | none => none
  | some n => if _h : n < l.length then (spl (l.drop (n + 1))).map (el (l.take n) ++ ·) else some (el (l.take n))
termination_by l.length
decreasing_by simp; omega
theorem spl_bad (l : List UInt8) (h : piece 0 l = none) : spl l = none := by unfold spl; rw [h]
theorem spl_last (l : List UInt8) (n : Nat) (h : piece 0 l = some n) (hn : ¬ n < l.length) : spl l = some (el (l.take n)) := by unfold spl; rw [h]; simp only; rw [dif_neg hn]
theorem spl_more (l : List UInt8) (n : Nat) (h : piece 0 l = some n) (hn : n < l.length) : spl l = (spl (l.drop (n + 1))).map (el (l.take n) ++ ·) := by
  conv => lhs; unfold spl
  rw [h]; simp only; rw [dif_pos hn]
/-- How a list's text is made of parts. -/
inductive S : List UInt8 → List (List UInt8) → Prop
  | last (p : List UInt8) : P p → S p (el p)
  | more (p r : List UInt8) (c : UInt8) (a : List (List UInt8)) : P p → (c.toNat : Int) = 44 → S r a → S (p ++ c :: r) (el p ++ a)
theorem spl_S : ∀ (k : Nat) (l : List UInt8) (a : List (List UInt8)), l.length ≤ k → spl l = some a → S l a
  | k, l, a, hk, h => by
    cases hp : piece 0 l with
    | none => rw [spl_bad l hp] at h; cases h
    | some n =>
      obtain ⟨p, hP, hn, hd, hc⟩ := piece_form l.length l n (Nat.le_refl _) hp
      have ht : l.take n = p := by
        conv => lhs; rw [hd, hn]
        exact List.take_left
      by_cases hlt : n < l.length
      · rw [spl_more l n hp hlt, ht] at h
        cases hs : spl (l.drop (n + 1)) with
        | none => rw [hs] at h; cases h
        | some b =>
          rw [hs] at h
          cases h
          obtain ⟨c, hcd⟩ : ∃ c, l.drop n = c :: l.drop (n + 1) := ⟨l[n], List.drop_eq_getElem_cons hlt⟩
          rw [hd, hcd]
          have hlen : (l.drop (n + 1)).length < k := by rw [List.length_drop]; omega
          match k, hlen with
          | k + 1, hlen => exact .more p _ c b hP (hc c _ hcd) (spl_S k _ b (by omega) hs)
      · rw [spl_last l n hp hlt, ht] at h
        cases h
        have e : l.drop n = [] := List.drop_eq_nil_of_le (by omega)
        rw [hd, e, List.append_nil]
        exact .last p hP
theorem S_spl {l : List UInt8} {a : List (List UInt8)} (h : S l a) : spl l = some a := by
  induction h with
  | last p hp =>
    have h1 := P_piece hp []
    rw [List.append_nil, piece_nil] at h1
    have h2 : piece 0 p = some p.length := by rw [h1]; simp
    rw [spl_last p _ h2 (by omega), List.take_of_length_le (Nat.le_refl _)]
  | more p r c a hp hc _ ih =>
    have h1 := P_piece hp (c :: r)
    rw [piece_comma c r hc] at h1
    have h2 : piece 0 (p ++ c :: r) = some p.length := by rw [h1]; simp
    have e : (p ++ c :: r).drop (p.length + 1) = r := by
      rw [← List.drop_drop, List.drop_left]
      rfl
    rw [spl_more _ _ h2 (by simp), List.take_left, e, ih]
    rfl
theorem el_left (c : UInt8) (p : List UInt8) (h : bl c = true) : el (c :: p) = el p := by unfold el; rw [trim_left c p h]
theorem el_right (p : List UInt8) (c : UInt8) (h : bl c = true) : el (p ++ [c]) = el p := by unfold el; rw [trim_right p c h]
theorem P_blank {p : List UInt8} (h : P p) (c : UInt8) (hc : bl c = true) : P (c :: p) := by
  have hn : ∀ n : Int, n ≠ 32 → n ≠ 9 → (c.toNat : Int) ≠ n := fun n h1 h2 e => by rw [bl_not e h1 h2] at hc; cases hc
  exact .plain c p (hn 44 (by decide) (by decide)) (hn 34 (by decide) (by decide)) (hn 40 (by decide) (by decide)) h
theorem S_blank {l : List UInt8} {a : List (List UInt8)} (h : S l a) (c : UInt8) (hc : bl c = true) : S (c :: l) a := by
  cases h with
  | last p hp => rw [← el_left c l hc]; exact .last _ (P_blank hp c hc)
  | more p r d a hp hd hr => rw [← el_left c p hc, ← List.cons_append]; exact .more _ r d a (P_blank hp c hc) hd hr
theorem S_right {l : List UInt8} {a : List (List UInt8)} (h : S l a) : ∀ q b, l = q ++ [b] → bl b = true → S q a := by
  induction h with
  | last p hp =>
    intro q b h hb
    have hq := P_right hp q b h hb
    rw [h, el_right q b hb]
    exact .last q hq
  | more p r d a hp hd hr ih =>
    intro q b h hb
    rcases snoc_or r with rfl | ⟨r', x, rfl⟩
    · have e := (List.append_inj' h rfl).2
      cases e
      rw [bl_not hd (by decide) (by decide)] at hb
      cases hb
    · have h' : (p ++ d :: r') ++ [x] = q ++ [b] := by rw [← h]; simp
      obtain ⟨e1, e2⟩ := List.append_inj' h' rfl
      cases e2
      rw [← e1]
      exact .more p r' d a hp hd (ih r' _ rfl hb)
theorem S_dropR : ∀ (r : List UInt8) (a : List (List UInt8)), S r.reverse a → S (r.dropWhile bl).reverse a
  | [], a, h => h
  | c :: r, a, h => by
    cases hc : bl c
    · rw [List.dropWhile_cons_of_neg (by simp [hc])]; exact h
    · rw [List.dropWhile_cons_of_pos hc]; exact S_dropR r a (S_right h _ c List.reverse_cons hc)
theorem S_trimR {l : List UInt8} {a : List (List UInt8)} (h : S l a) : S (R bl l) a := S_dropR l.reverse a (by rw [List.reverse_reverse]; exact h)
theorem S_append {l r : List UInt8} {a b : List (List UInt8)} (h : S l a) (c : UInt8) (hc : (c.toNat : Int) = 44) (hr : S r b) : S (l ++ c :: r) (a ++ b) := by
  induction h with
  | last p hp => exact .more p r c b hp hc hr
  | more p r' d a hp hd _ ih => rw [List.append_assoc, List.append_assoc]; exact .more p _ d _ hp hd ih
theorem S_none : ∀ l : List UInt8, l.all (fun c => bl c || decide ((c.toNat : Int) = 44)) = true → S l []
  | [], _ => .last [] .nil
  | c :: r, h => by
    rw [List.all_cons, Bool.and_eq_true, Bool.or_eq_true, decide_eq_true_eq] at h
    have ih := S_none r h.2
    rcases h.1 with hb | hc
    · exact S_blank ih c hb
    · exact .more [] r c [] .nil hc ih
/-- What an element is. -/
def Good (e : List UInt8) : Prop := P e ∧ trim e = e ∧ e ≠ []
theorem el_good {p : List UInt8} (hp : P p) : ∀ e ∈ el p, Good e := by
  intro e he
  unfold el at he
  split at he
  · cases he
  · rename_i hne
    rw [List.mem_singleton] at he
    subst he
    exact ⟨P_trim hp, trim_trim p, hne⟩
theorem S_good {l : List UInt8} {a : List (List UInt8)} (h : S l a) : ∀ e ∈ a, Good e := by
  induction h with
  | last p hp => exact el_good hp
  | more p r d a hp _ _ ih =>
    intro e he
    rcases List.mem_append.1 he with h | h
    · exact el_good hp e h
    · exact ih e h
theorem el_self {e : List UInt8} (h : Good e) : el e = [e] := by unfold el; rw [h.2.1, if_neg h.2.2]
theorem S_join : ∀ a : List (List UInt8), (∀ e ∈ a, Good e) → S (Lib.join a [44, 32]) a
  | [], _ => .last [] .nil
  | [e], h => by
    have hg := h e (List.mem_cons_self ..)
    rw [Lib.join_one]
    have := S.last e hg.1
    rwa [el_self hg] at this
  | e :: d :: a, h => by
    have hg := h e (List.mem_cons_self ..)
    have ih := S_join (d :: a) (fun x hx => h x (List.mem_cons_of_mem _ hx))
    have e1 : Lib.join (e :: d :: a) [44, 32] = e ++ 44 :: 32 :: Lib.join (d :: a) [44, 32] := by
      rw [Lib.join_cons, Lib.join_cons]
      simp [Lib.joinTail]
    rw [e1]
    have := S.more e _ 44 _ hg.1 (by decide) (S_blank ih 32 (by decide))
    rwa [el_self hg] at this
end Cm
end Go.Proofs.YtjchcknmolffiaaDoor
