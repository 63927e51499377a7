/- Contracts and lemmas that the claim rests on: HoA HoB HoC HoD. -/
import Derived.Test.YtnpbnlphmngbdaaGreatDoorGNum
import Derived.Lib.IndexLaws
import Derived.Lib.Strings
import Derived.Lib.IndexMore
import Derived.Lib.LastIndexByte
/- Hosts: names, parts of a text between marks, numbers, addresses of four and of six, and what a text is as a host, as plain functions on lists of bytes. Nothing here speaks of the program. -/
namespace Go.Proofs.YtnpbnlphmngbdaaGreatDoor
namespace Hp
def okb (c : UInt8) : Bool := B.unr (c.toNat : Int) || B.sub (c.toNat : Int)
def hx (c : UInt8) : Bool := B.hex (c.toNat : Int)
/-- How many bytes the first piece of a name has. -/
def nb : List UInt8 → Nat
  | [] => 0
  | c :: r => if okb c then 1 else if decide (c.toNat = 37) && decide (2 ≤ r.length) && hx (r.getD 0 0) && hx (r.getD 1 0) then 3 else 0
theorem nb_cons (c : UInt8) (r : List UInt8) : nb (c :: r) = if okb c then 1 else if decide (c.toNat = 37) && decide (2 ≤ r.length) && hx (r.getD 0 0) && hx (r.getD 1 0) then 3 else 0 := rfl
theorem nb_le (l : List UInt8) : nb l ≤ l.length := by
  cases l with
  | nil => exact Nat.le_refl _
  | cons c r =>
    rw [nb_cons]
    split
    · simp
    · split
      · rename_i h
        simp only [Bool.and_eq_true, decide_eq_true_eq] at h
        simp only [List.length_cons]; omega
      · exact Nat.zero_le _
/-- Pieces of a name to the end. -/
def nmL (l : List UInt8) : Bool := if _h : l = [] then true else if _g : nb l = 0 then false else nmL (l.drop (nb l))
termination_by l.length
decreasing_by
  have := nb_le l
  rw [List.length_drop]
  omega
theorem nmL_nil : nmL [] = true := by rw [nmL, dif_pos rfl]
theorem nmL_none {l : List UInt8} (h : l ≠ []) (g : nb l = 0) : nmL l = false := by rw [nmL, dif_neg h, dif_pos g]
theorem nmL_some {l : List UInt8} (g : nb l ≠ 0) : nmL l = nmL (l.drop (nb l)) := by
  have h : l ≠ [] := by rintro rfl; exact g rfl
  rw [nmL, dif_neg h, dif_neg g]
def nameL (l : List UInt8) : Bool := !l.isEmpty && nmL l
theorem nb_ok {c : UInt8} {r : List UInt8} (h : okb c = true) : nb (c :: r) = 1 := by rw [nb_cons, if_pos h]
theorem nmL_ok {c : UInt8} {r : List UInt8} (h : okb c = true) : nmL (c :: r) = nmL r := by
  rw [nmL_some (by rw [nb_ok h]; decide), nb_ok h]; rfl
/-- Which bytes a name may hold. -/
theorem nmL_bytes : ∀ (n : Nat) (l : List UInt8), l.length ≤ n → nmL l = true → ∀ c ∈ l, okb c = true ∨ c.toNat = 37 ∨ hx c = true := by
  intro n
  induction n with
  | zero => intro l hl _ c hc; have : l = [] := List.eq_nil_of_length_eq_zero (by omega); subst this; cases hc
  | succ n ih =>
    intro l hl h c hc
    cases l with
    | nil => cases hc
    | cons d r =>
      by_cases g : nb (d :: r) = 0
      · rw [nmL_none (by simp) g] at h; cases h
      · rw [nmL_some g] at h
        have hlen : ((d :: r).drop (nb (d :: r))).length ≤ n := by rw [List.length_drop]; simp only [List.length_cons] at hl ⊢; omega
        have hi := ih _ hlen h
        by_cases ho : okb d = true
        · rw [nb_ok ho] at hi
          rcases List.mem_cons.1 hc with rfl | hc
          · exact .inl ho
          · exact hi c hc
        · rw [nb_cons, if_neg ho] at g hi
          split at g
          · rename_i hcond
            rw [if_pos hcond] at hi
            simp only [Bool.and_eq_true, decide_eq_true_eq] at hcond
            obtain ⟨⟨⟨h37, h2⟩, hx0⟩, hx1⟩ := hcond
            obtain ⟨x, y, t, rfl⟩ : ∃ x y t, r = x :: y :: t := by
              match r, h2 with
              | x :: y :: t, _ => exact ⟨x, y, t, rfl⟩
            simp only [List.getD_cons_zero, List.getD_cons_succ] at hx0 hx1
            simp only [List.mem_cons] at hc
            rcases hc with rfl | rfl | rfl | hc
            · exact .inr (.inl h37)
            · exact .inr (.inr hx0)
            · exact .inr (.inr hx1)
            · exact hi c (by simpa using hc)
          · exact absurd rfl g
theorem name_bytes {l : List UInt8} (h : nameL l = true) : ∀ c ∈ l, c ≠ 58 ∧ c ≠ 91 ∧ c ≠ 93 := by
  unfold nameL at h
  rw [Bool.and_eq_true] at h
  intro c hc
  have hb := nmL_bytes _ l (Nat.le_refl _) h.2 c hc
  have k : ∀ i : Fin 256, ((okb (UInt8.ofNat i.val) || decide ((UInt8.ofNat i.val).toNat = 37) || hx (UInt8.ofNat i.val)) = false ∨ (UInt8.ofNat i.val ≠ 58 ∧ UInt8.ofNat i.val ≠ 91 ∧ UInt8.ofNat i.val ≠ 93)) := by decide +kernel
  have k2 := k ⟨c.toNat, c.toNat_lt⟩
  simp only [UInt8.ofNat_toNat] at k2
  rcases k2 with k2 | k2
  · simp only [Bool.or_eq_false_iff, decide_eq_false_iff_not] at k2
    rcases hb with hb | hb | hb
    · rw [k2.1.1] at hb; cases hb
    · exact absurd hb k2.1.2
    · rw [k2.2] at hb; cases hb
  · exact k2
theorem nmL_all : ∀ l : List UInt8, l.all okb = true → nmL l = true
  | [], _ => nmL_nil
  | c :: r, h => by
    rw [List.all_cons, Bool.and_eq_true] at h
    rw [nmL_ok h.1]
    exact nmL_all r h.2

/-! Parts of a text between marks. -/
def parts (m : UInt8) : List UInt8 → List (List UInt8)
  | [] => [[]]
  | x :: r => if x = m then [] :: parts m r else match parts m r with
    | [] => [[x]]
    | p :: ps => (x :: p) :: ps
theorem parts_ne (m : UInt8) (l : List UInt8) : parts m l ≠ [] := by
  cases l with
  | nil => simp [parts]
  | cons x r =>
    unfold parts
    split
    · simp
    · split <;> simp
theorem parts_cons {m x : UInt8} {r p : List UInt8} {ps : List (List UInt8)} (hx : x ≠ m) (h : parts m r = p :: ps) : parts m (x :: r) = (x :: p) :: ps := by
  rw [parts, if_neg hx, h]
theorem parts_mark (m : UInt8) (r : List UInt8) : parts m (m :: r) = [] :: parts m r := by rw [parts, if_pos rfl]
theorem parts_free {m : UInt8} : ∀ {l : List UInt8}, m ∉ l → parts m l = [l]
  | [], _ => rfl
  | x :: r, h => parts_cons (fun e => h (by rw [e]; exact List.mem_cons_self)) (parts_free (l := r) fun g => h (List.mem_cons_of_mem _ g))
theorem parts_append (m : UInt8) (b : List UInt8) : ∀ a : List UInt8, parts m (a ++ m :: b) = parts m a ++ parts m b
  | [] => by rw [List.nil_append, parts_mark]; rfl
  | x :: r => by
    have ih := parts_append m b r
    by_cases hx : x = m
    · subst hx; rw [List.cons_append, parts_mark, parts_mark, ih]; rfl
    · obtain ⟨p, ps, hp⟩ := List.exists_cons_of_ne_nil (parts_ne m r)
      rw [hp] at ih
      rw [List.cons_append, parts_cons hx hp, parts_cons hx (p := p) (ps := ps ++ parts m b) (by rw [ih]; rfl)]; rfl
theorem parts_cut {m : UInt8} {a : List UInt8} (b : List UInt8) (h : m ∉ a) : parts m (a ++ m :: b) = a :: parts m b := by
  rw [parts_append, parts_free h]; rfl
theorem parts_length (m : UInt8) : ∀ l : List UInt8, (parts m l).length ≤ l.length + 1
  | [] => Nat.le_refl _
  | x :: r => by
    have ih := parts_length m r
    by_cases hx : x = m
    · subst hx; rw [parts_mark]; simp only [List.length_cons]; omega
    · obtain ⟨p, ps, hp⟩ := List.exists_cons_of_ne_nil (parts_ne m r)
      rw [hp] at ih; rw [parts_cons hx hp]; simp only [List.length_cons] at *; omega
theorem parts_size (m : UInt8) : ∀ (l p : List UInt8), p ∈ parts m l → p.length ≤ l.length
  | [], p, h => by rw [parts, List.mem_singleton] at h; subst h; exact Nat.le_refl _
  | x :: r, p, h => by
    have ih := parts_size m r
    by_cases hx : x = m
    · subst hx; rw [parts_mark] at h
      rcases List.mem_cons.1 h with rfl | h
      · exact Nat.zero_le _
      · have := ih p h; simp only [List.length_cons]; omega
    · obtain ⟨q, ps, hp⟩ := List.exists_cons_of_ne_nil (parts_ne m r)
      rw [hp] at ih; rw [parts_cons hx hp] at h
      rcases List.mem_cons.1 h with rfl | h
      · have := ih q List.mem_cons_self; simp only [List.length_cons]; omega
      · have := ih p (List.mem_cons_of_mem _ h); simp only [List.length_cons]; omega
/-- A byte that no part holds is none of the text's, but the mark. -/
theorem parts_bytes (m : UInt8) : ∀ (l : List UInt8) (c : UInt8), c ∈ l → c = m ∨ ∃ p ∈ parts m l, c ∈ p
  | [], c, h => by cases h
  | x :: r, c, h => by
    have ih := parts_bytes m r c
    by_cases hx : x = m
    · subst hx
      rcases List.mem_cons.1 h with h | h
      · exact .inl h
      · rcases ih h with e | ⟨p, hp, hc⟩
        · exact .inl e
        · exact .inr ⟨p, by rw [parts_mark]; exact List.mem_cons_of_mem _ hp, hc⟩
    · obtain ⟨q, ps, hp⟩ := List.exists_cons_of_ne_nil (parts_ne m r)
      rw [parts_cons hx hp]
      rcases List.mem_cons.1 h with rfl | h
      · exact .inr ⟨_, List.mem_cons_self, List.mem_cons_self⟩
      · rcases ih h with e | ⟨p, hp', hc⟩
        · exact .inl e
        · rw [hp] at hp'
          rcases List.mem_cons.1 hp' with rfl | hp'
          · exact .inr ⟨_, List.mem_cons_self, List.mem_cons_of_mem _ hc⟩
          · exact .inr ⟨p, List.mem_cons_of_mem _ hp', hc⟩

/-! Numbers without noughts ahead. -/
def okD (most : Int) (l : List UInt8) : Bool := decide ((Nu.rd 10 most l).2 = 0) && decide (Nu.textL 10 (Nu.rd 10 most l).1.toNat = l)
def smallV (most : Int) (l : List UInt8) : Int := if okD most l then (Nu.rd 10 most l).1 else -1
/-- What such a number is. -/
theorem okD_form {most : Int} {l : List UInt8} (h : okD most l = true) : ∃ n : Nat, (n : Int) ≤ most ∧ l = Nu.textL 10 n ∧ Nu.rd 10 most l = ((n : Int), 0) := by
  unfold okD at h
  rw [Bool.and_eq_true, decide_eq_true_eq, decide_eq_true_eq] at h
  obtain ⟨h1, h2⟩ := h
  unfold Nu.rd at h1 h2 ⊢
  split at h1
  · cases h1
  · rename_i hz
    rw [if_neg hz] at h2 ⊢
    split at h1
    · cases h1
    · rename_i hm
      rw [if_neg hm] at h2 ⊢
      exact ⟨Nu.val 10 l, by omega, by simpa using h2.symm, rfl⟩
theorem okD_text {most : Int} {n : Nat} (h : (n : Int) ≤ most) : okD most (Nu.textL 10 n) = true ∧ Nu.rd 10 most (Nu.textL 10 n) = ((n : Int), 0) := by
  have e : Nu.rd 10 most (Nu.textL 10 n) = ((n : Int), 0) := by
    unfold Nu.rd
    have e1 : (Nu.textL 10 n).isEmpty = false := by
      have := Nu.textL_ne 10 (by omega) n
      simpa using this
    rw [e1, Nu.textL_isD 10 (by omega) (by omega), Nu.textL_val 10 (by omega) (by omega), if_neg (by simp), if_neg (by omega)]
  refine ⟨?_, e⟩
  unfold okD
  rw [e]
  simp
theorem okD_isD {most : Int} {l : List UInt8} (h : okD most l = true) : l ≠ [] ∧ ∀ c ∈ l, Nu.isD 10 c = true := by
  obtain ⟨n, -, rfl, -⟩ := okD_form h
  exact ⟨Nu.textL_ne 10 (by omega) n, fun c hc => List.all_eq_true.1 (Nu.textL_isD 10 (by omega) (by omega) n) c hc⟩
theorem okD_short {most : Int} {l : List UInt8} (hm : most ≤ 65535) (h : okD most l = true) : l.length ≤ 5 := by
  obtain ⟨n, hn, rfl, -⟩ := okD_form h
  have h1 := Nu.digs_len 10 (by omega) n 65535 (by omega)
  have h2 : (Nu.digs 10 65535).length = 5 := by
    rw [Nu.digs_big (by omega) (by omega), Nu.digs_big (by omega) (by omega), Nu.digs_big (by omega) (by omega), Nu.digs_big (by omega) (by omega), Nu.digs_small (by omega)]; rfl
  unfold Nu.textL
  rw [List.length_map]; omega
theorem smallV_yes {most : Int} {l : List UInt8} (h : okD most l = true) : smallV most l = (Nu.rd 10 most l).1 := by unfold smallV; rw [if_pos h]
theorem smallV_no {most : Int} {l : List UInt8} (h : okD most l = false) : smallV most l = -1 := by unfold smallV; rw [h]; rfl
theorem rd_nonneg (most : Int) (l : List UInt8) : 0 ≤ (Nu.rd 10 most l).1 := by
  unfold Nu.rd
  split
  · exact Int.le_refl _
  · split
    · exact Int.le_refl _
    · exact Int.natCast_nonneg _
theorem smallV_sign (most : Int) (l : List UInt8) : (0 ≤ smallV most l) ↔ okD most l = true := by
  constructor
  · intro h
    cases e : okD most l
    · rw [smallV_no e] at h; omega
    · rfl
  · intro h; rw [smallV_yes h]; exact rd_nonneg _ _

/-! Addresses. -/
def fourL (l : List UInt8) : Bool := (parts 46 l).all (okD 255) && decide ((parts 46 l).length = 4)
theorem isD_byte (c : UInt8) (h : Nu.isD 10 c = true) : okb c = true ∧ hx c = true ∧ c ≠ 46 ∧ c ≠ 58 ∧ c ≠ 91 ∧ c ≠ 93 := by
  have k : ∀ i : Fin 256, Nu.isD 10 (UInt8.ofNat i.val) = true → (okb (UInt8.ofNat i.val) = true ∧ hx (UInt8.ofNat i.val) = true ∧ UInt8.ofNat i.val ≠ 46 ∧ UInt8.ofNat i.val ≠ 58 ∧ UInt8.ofNat i.val ≠ 91 ∧ UInt8.ofNat i.val ≠ 93) := by decide +kernel
  have := k ⟨c.toNat, c.toNat_lt⟩
  simp only [UInt8.ofNat_toNat] at this
  exact this h
theorem four_bytes {l : List UInt8} (h : fourL l = true) : ∀ c ∈ l, c = 46 ∨ Nu.isD 10 c = true := by
  unfold fourL at h
  rw [Bool.and_eq_true, List.all_eq_true] at h
  intro c hc
  rcases parts_bytes 46 l c hc with e | ⟨p, hp, hcp⟩
  · exact .inl e
  · exact .inr ((okD_isD (h.1 p hp)).2 c hcp)
theorem four_name {l : List UInt8} (h : fourL l = true) : nameL l = true := by
  have hb := four_bytes h
  unfold nameL
  rw [Bool.and_eq_true]
  constructor
  · cases l with
    | nil => revert h; decide +kernel
    | cons c r => rfl
  · refine nmL_all l (List.all_eq_true.2 fun c hc => ?_)
    rcases hb c hc with rfl | h
    · decide +kernel
    · exact (isD_byte c h).1
theorem four_dot {l : List UInt8} (h : fourL l = true) : 46 ∈ l := by
  refine Decidable.byContradiction fun g => ?_
  unfold fourL at h
  rw [parts_free g] at h
  simp at h
def grp (p : List UInt8) : Bool := !p.isEmpty && decide (p.length ≤ 4) && p.all hx
theorem four_no_grp {l : List UInt8} (h : fourL l = true) : grp l = false := by
  have hd := four_dot h
  cases hg : grp l
  · rfl
  · unfold grp at hg
    rw [Bool.and_eq_true, List.all_eq_true] at hg
    exact absurd (hg.2 _ hd) (by decide +kernel)
/-- The groups of a text; none of the empty one. -/
def As (l : List UInt8) : List (List UInt8) := if l = [] then [] else parts 58 l
def grs (l : List UInt8) : Option Nat := if (As l).all grp then some (As l).length else none
/-- What stands for the last part: two groups for an address of four. -/
def rep (q : List UInt8) : List (List UInt8) := if fourL q then [[48], [48]] else [q]
def wholeP (ps : List (List UInt8)) : Bool := (ps.dropLast ++ rep (ps.getLastD [])).all grp && decide ((ps.dropLast ++ rep (ps.getLastD [])).length = 8)
/-- A text, cut at its first double mark. -/
def dc2 : List UInt8 → Option (List UInt8 × List UInt8)
  | [] => none
  | c :: r => if c = 58 ∧ r.head? = some 58 then some ([], r.tail) else (dc2 r).map fun p => (c :: p.1, p.2)
def zeros (a : List UInt8) : Nat → List UInt8
  | 0 => a
  | n + 1 => (if zeros a n = [] then [] else zeros a n ++ [58]) ++ [48]
def fill (a b : List UInt8) (n : Nat) : List UInt8 := zeros a n ++ (if b = [] then [] else 58 :: b)
def sixR (l : List UInt8) : Bool := match dc2 l with
  | none => wholeP (parts 58 l)
  | some (a, b) => (List.range 8).any fun j => wholeP (parts 58 (fill a b (j + 1)))
/-- The place behind a text's last mark. -/
def lastC : List UInt8 → Nat
  | [] => 0
  | c :: r => if 58 ∈ r then lastC r + 1 else if c = 58 then 1 else 0
def tail4 (l : List UInt8) : List UInt8 := if fourL (l.drop (lastC l)) then l.take (lastC l) ++ [48, 58, 48] else l
def sixT (t : List UInt8) : Bool := match dc2 t with
  | none => decide (grs t = some 8)
  | some (a, b) => match grs a, grs b with
    | some x, some y => decide (x + y < 8)
    | _, _ => false
def sixC (l : List UInt8) : Bool := sixT (tail4 l)
end Hp
end Go.Proofs.YtnpbnlphmngbdaaGreatDoor
/- Hosts, second part: both ways to ask for an address of six are one; both ways to part a text at its port are one. Nothing here speaks of the program. -/
namespace Go.Proofs.YtnpbnlphmngbdaaGreatDoor
namespace Hp
theorem lastC_none : ∀ {l : List UInt8}, 58 ∉ l → lastC l = 0
  | [], _ => rfl
  | c :: r, h => by
    rw [lastC, if_neg (fun g => h (List.mem_cons_of_mem _ g)), if_neg (fun e => h (by rw [e]; exact List.mem_cons_self))]
theorem lastC_at {q : List UInt8} (hq : 58 ∉ q) : ∀ p : List UInt8, lastC (p ++ 58 :: q) = p.length + 1
  | [] => by rw [List.nil_append, lastC, if_neg hq, if_pos rfl]; rfl
  | c :: r => by rw [List.cons_append, lastC, if_pos (by simp), lastC_at hq r]; rfl
/-- What stands up to a text's last mark. -/
def Ends (p : List UInt8) : Prop := p = [] ∨ ∃ p', p = p' ++ [58]
theorem last_cases : ∀ l : List UInt8, 58 ∉ l ∨ ∃ p q, l = p ++ 58 :: q ∧ 58 ∉ q
  | [] => .inl (by simp)
  | c :: r => by
    rcases last_cases r with h | ⟨p, q, rfl, hq⟩
    · by_cases hc : c = 58
      · exact .inr ⟨[], r, by rw [hc]; rfl, h⟩
      · exact .inl (by intro g; rcases List.mem_cons.1 g with e | g; exact hc e.symm; exact h g)
    · exact .inr ⟨c :: p, q, rfl, hq⟩
theorem lastC_split (l : List UInt8) : ∃ p q, l = p ++ q ∧ lastC l = p.length ∧ 58 ∉ q ∧ Ends p := by
  rcases last_cases l with h | ⟨p, q, rfl, hq⟩
  · exact ⟨[], l, rfl, lastC_none h, h, .inl rfl⟩
  · exact ⟨p ++ [58], q, by simp, by rw [lastC_at hq]; simp, hq, .inr ⟨p, rfl⟩⟩
theorem parts_split {p q : List UInt8} (hp : Ends p) (hq : 58 ∉ q) : parts 58 (p ++ q) = (parts 58 p).dropLast ++ [q] := by
  rcases hp with rfl | ⟨p', rfl⟩
  · rw [List.nil_append, parts_free hq]; rfl
  · rw [List.append_assoc, List.singleton_append, parts_append, parts_free hq, parts_append]
    rw [show parts 58 [] = [[]] from rfl, List.dropLast_concat]
theorem dc2_cons (c : UInt8) (r : List UInt8) : dc2 (c :: r) = if c = 58 ∧ r.head? = some 58 then some ([], r.tail) else (dc2 r).map fun p => (c :: p.1, p.2) := by rw [dc2]
theorem dc2_free : ∀ {q : List UInt8}, 58 ∉ q → dc2 q = none
  | [], _ => by rw [dc2]
  | c :: r, h => by
    rw [dc2_cons, if_neg (fun e => h (by rw [e.1]; exact List.mem_cons_self)), dc2_free (fun g => h (List.mem_cons_of_mem _ g))]; rfl
theorem dc2_app {q : List UInt8} (h0 : q ≠ []) (h1 : q.head? ≠ some 58) (h2 : dc2 q = none) : ∀ p : List UInt8, dc2 (p ++ q) = (dc2 p).map fun x => (x.1, x.2 ++ q)
  | [] => by rw [List.nil_append, h2, dc2]; rfl
  | c :: r => by
    rw [List.cons_append, dc2_cons, dc2_cons, dc2_app h0 h1 h2 r]
    cases r with
    | nil =>
      rw [if_neg (fun e => h1 e.2), if_neg (fun e => by simp at e)]
      rw [show dc2 [] = none from by rw [dc2]]
      rfl
    | cons d r =>
      by_cases hc : c = 58 ∧ d = 58
      · rw [if_pos (by simpa using hc), if_pos (by simpa using hc)]; rfl
      · rw [if_neg (by simpa using hc), if_neg (by simpa using hc), Option.map_map, Option.map_map]; rfl
theorem dc2_some : ∀ {l a b : List UInt8}, dc2 l = some (a, b) → l = a ++ 58 :: 58 :: b
  | [], a, b, h => by rw [dc2] at h; cases h
  | c :: r, a, b, h => by
    rw [dc2_cons] at h
    split at h
    · rename_i hc
      obtain ⟨rfl, hr⟩ := hc
      cases r with
      | nil => cases hr
      | cons d r =>
        simp only [List.head?_cons, Option.some.injEq] at hr
        subst hr
        simp only [List.tail_cons, Option.some.injEq, Prod.mk.injEq] at h
        obtain ⟨rfl, rfl⟩ := h
        rfl
    · cases hd : dc2 r with
      | none => rw [hd] at h; cases h
      | some x =>
        rw [hd] at h
        obtain ⟨a', b'⟩ := x
        simp only [Option.map_some, Option.some.injEq, Prod.mk.injEq] at h
        obtain ⟨rfl, rfl⟩ := h
        rw [dc2_some hd]; rfl
theorem zeros_ne (a : List UInt8) (n : Nat) : zeros a (n + 1) ≠ [] := by unfold zeros; simp
theorem zeros_parts (a : List UInt8) : ∀ n : Nat, parts 58 (zeros a (n + 1)) = As a ++ List.replicate (n + 1) [48]
  | 0 => by
    unfold zeros zeros As
    by_cases h : a = []
    · rw [if_pos h, if_pos h]; decide +kernel
    · rw [if_neg h, if_neg h, List.append_assoc, List.singleton_append, parts_append]; rfl
  | n + 1 => by
    rw [zeros, if_neg (zeros_ne a n), List.append_assoc, List.singleton_append, parts_append, zeros_parts a n, List.append_assoc]
    rw [show parts 58 [48] = [[48]] from by decide +kernel, ← List.replicate_succ']
theorem fill_parts (a b : List UInt8) (n : Nat) : parts 58 (fill a b (n + 1)) = As a ++ List.replicate (n + 1) [48] ++ As b := by
  unfold fill
  by_cases h : b = []
  · rw [if_pos h, List.append_nil, zeros_parts]; unfold As; rw [if_pos h, List.append_nil]
  · rw [if_neg h, parts_append, zeros_parts]
    rw [show As b = parts 58 b from by unfold As; rw [if_neg h]]
/-- A part, put in an address of four's place. -/
def rq (q : List UInt8) : List UInt8 := if fourL q then [48, 58, 48] else q
theorem rep_zero : rep [48] = [[48]] := by decide +kernel
theorem whole_snoc (P : List (List UInt8)) (q : List UInt8) : wholeP (P ++ [q]) = ((P ++ rep q).all grp && decide ((P ++ rep q).length = 8)) := by
  unfold wholeP
  rw [List.dropLast_concat]
  simp
theorem four_ne {q : List UInt8} (h : fourL q = true) : q ≠ [] := by rintro rfl; revert h; decide +kernel
theorem As_rq {p q : List UInt8} (hp : Ends p) (hq : 58 ∉ q) : As (p ++ rq q) = if p ++ q = [] then [] else (parts 58 p).dropLast ++ rep q := by
  unfold rq rep
  by_cases hf : fourL q = true
  · have hne := four_ne hf
    rw [if_pos hf, if_pos hf, if_neg (by simp [hne])]
    unfold As
    rw [if_neg (by simp)]
    have e : p ++ [48, 58, 48] = p ++ [48] ++ 58 :: [48] := by simp
    rw [e, parts_append, parts_split hp (by decide), List.append_assoc]
    rw [show parts 58 [48] = [[48]] from by decide +kernel]; rfl
  · rw [if_neg hf, if_neg hf]
    unfold As
    by_cases h : p ++ q = []
    · rw [if_pos h, if_pos h]
    · rw [if_neg h, if_neg h, parts_split hp hq]
theorem suffix_of {a b p q : List UInt8} (h : a ++ 58 :: 58 :: b = p ++ q) (hq : 58 ∉ q) (hp : Ends p) : ∃ b0, b = b0 ++ q ∧ p = a ++ 58 :: 58 :: b0 ∧ Ends b0 := by
  have key : ∃ b0, b = b0 ++ q ∧ p = a ++ 58 :: 58 :: b0 := by
    have h' : (a ++ [58, 58]) ++ b = p ++ q := by rw [← h]; simp
    rcases List.append_eq_append_iff.1 h' with ⟨c, hc1, hc2⟩ | ⟨c, hc1, hc2⟩
    · exact ⟨c, hc2, by rw [hc1]; simp⟩
    · rcases List.eq_nil_or_concat c with rfl | ⟨c', x, rfl⟩
      · exact ⟨[], by simpa using hc2.symm, by simpa using hc1.symm⟩
      · exfalso
        have e : a ++ [58] ++ [58] = p ++ c' ++ [x] := by simpa using hc1
        have e2 := List.append_inj_right' e rfl
        simp only [List.cons.injEq, and_true] at e2
        subst e2
        exact hq (by rw [hc2]; simp)
  obtain ⟨b0, h1, h2⟩ := key
  refine ⟨b0, h1, h2, ?_⟩
  rcases hp with rfl | ⟨p', rfl⟩
  · simp at h2
  · rcases List.eq_nil_or_concat b0 with rfl | ⟨c', x, rfl⟩
    · exact .inl rfl
    · have e : p' ++ [58] = (a ++ 58 :: 58 :: c') ++ [x] := by simpa using h2
      have e2 := List.append_inj_right' e rfl
      simp only [List.cons.injEq, and_true] at e2
      subst e2
      exact .inr ⟨c', by simp⟩
theorem dc2_two {p q : List UInt8} (hp : Ends p) (hq : 58 ∉ q) :
    (dc2 (p ++ q) = none ∧ dc2 (p ++ rq q) = none) ∨ ∃ a b0, dc2 (p ++ q) = some (a, b0 ++ q) ∧ dc2 (p ++ rq q) = some (a, b0 ++ rq q) ∧ Ends b0 := by
  by_cases hf : fourL q = true
  · have hne := four_ne hf
    have h1 : q.head? ≠ some 58 := by
      intro e
      exact hq (List.mem_of_head? e)
    have e1 := dc2_app hne h1 (dc2_free hq) p
    have e2 := dc2_app (q := [48, 58, 48]) (by simp) (by simp) (by decide +kernel) p
    unfold rq
    rw [if_pos hf, e1, e2]
    cases hd : dc2 p with
    | none => exact .inl ⟨rfl, rfl⟩
    | some x =>
      obtain ⟨a, b0⟩ := x
      refine .inr ⟨a, b0, rfl, rfl, ?_⟩
      have h3 : a ++ 58 :: 58 :: (b0 ++ q) = p ++ q := by rw [dc2_some hd]; simp
      obtain ⟨b1, h4, -, h5⟩ := suffix_of h3 hq hp
      rw [List.append_cancel_right h4]; exact h5
  · unfold rq
    rw [if_neg hf]
    cases hd : dc2 (p ++ q) with
    | none => exact .inl ⟨rfl, rfl⟩
    | some x =>
      obtain ⟨a, b⟩ := x
      obtain ⟨b0, rfl, -, h5⟩ := suffix_of (dc2_some hd).symm hq hp
      exact .inr ⟨a, b0, rfl, rfl, h5⟩
theorem fill_whole (a : List UInt8) {b0 q : List UInt8} (hb : Ends b0) (hq : 58 ∉ q) (j : Nat) :
    wholeP (parts 58 (fill a (b0 ++ q) (j + 1))) = ((As a ++ List.replicate (j + 1) [48] ++ As (b0 ++ rq q)).all grp && decide ((As a ++ List.replicate (j + 1) [48] ++ As (b0 ++ rq q)).length = 8)) := by
  rw [fill_parts, As_rq hb hq]
  by_cases h : b0 ++ q = []
  · rw [if_pos h, h]
    rw [show As [] = [] from rfl, List.append_nil, List.replicate_succ', ← List.append_assoc, whole_snoc, rep_zero]
  · rw [if_neg h, As, As, if_neg h, parts_split hb hq, ← List.append_assoc, whole_snoc, ← List.append_assoc]
theorem grp_zero : grp [48] = true := by decide +kernel
theorem tail4_eq {p q : List UInt8} (hk : lastC (p ++ q) = p.length) : tail4 (p ++ q) = p ++ rq q := by
  unfold tail4 rq
  rw [hk, List.drop_left, List.take_left]
  split <;> rfl
theorem six_eq (l : List UInt8) : sixC l = sixR l := by
  obtain ⟨p, q, rfl, hk, hq, hp⟩ := lastC_split l
  unfold sixC sixT sixR
  rw [tail4_eq hk]
  rcases dc2_two hp hq with ⟨e1, e2⟩ | ⟨a, b0, e1, e2, hb⟩
  · rw [e1, e2]
    simp only
    rw [parts_split hp hq, whole_snoc]
    unfold grs
    rw [As_rq hp hq]
    by_cases h : p ++ q = []
    · have hp0 : p = [] := (List.append_eq_nil_iff.1 h).1
      have hq0 : q = [] := (List.append_eq_nil_iff.1 h).2
      subst hp0; subst hq0
      decide +kernel
    · rw [if_neg h]
      cases (List.dropLast (parts 58 p) ++ rep q).all grp <;> simp
  · rw [e1, e2]
    simp only
    have e : (fun j => wholeP (parts 58 (fill a (b0 ++ q) (j + 1)))) = fun j => ((As a ++ List.replicate (j + 1) [48] ++ As (b0 ++ rq q)).all grp && decide ((As a ++ List.replicate (j + 1) [48] ++ As (b0 ++ rq q)).length = 8)) := funext fun j => fill_whole a hb hq j
    rw [e]
    unfold grs
    have hr : ∀ j, (List.replicate (j + 1) ([48] : List UInt8)).all grp = true := fun j => List.all_eq_true.2 fun x hx => by rw [List.eq_of_mem_replicate hx]; exact grp_zero
    cases h1 : (As a).all grp
    · rw [if_neg (by simp)]
      simp [List.all_append, h1]
    · cases h2 : (As (b0 ++ rq q)).all grp
      · rw [if_pos rfl, if_neg (by simp)]
        simp only [List.all_append, h2, Bool.and_false, Bool.false_and]
        simp
      · rw [if_pos rfl, if_pos rfl]
        simp only [List.all_append, h1, h2, hr, Bool.true_and, List.length_append, List.length_replicate]
        rw [Bool.eq_iff_iff]
        simp only [decide_eq_true_eq, List.any_eq_true, List.mem_range]
        constructor
        · intro h
          exact ⟨7 - ((As a).length + (As (b0 ++ rq q)).length), by omega, by omega⟩
        · rintro ⟨j, hj, h⟩
          omega
end Hp
end Go.Proofs.YtnpbnlphmngbdaaGreatDoor
/- Hosts, third part: what a text is as a host, with its port; which names stand under which. Nothing here speaks of the program. -/
namespace Go.Proofs.YtnpbnlphmngbdaaGreatDoor
namespace Hp
theorem hx_byte (c : UInt8) (h : hx c = true) : c ≠ 91 ∧ c ≠ 93 := by
  have k : ∀ i : Fin 256, hx (UInt8.ofNat i.val) = true → (UInt8.ofNat i.val ≠ 91 ∧ UInt8.ofNat i.val ≠ 93) := by decide +kernel
  have := k ⟨c.toNat, c.toNat_lt⟩
  simp only [UInt8.ofNat_toNat] at this
  exact this h
theorem grs_bytes {l : List UInt8} {n : Nat} (h : grs l = some n) : ∀ c ∈ l, c = 58 ∨ hx c = true := by
  unfold grs at h
  split at h
  · rename_i hall
    intro c hc
    unfold As at hall
    split at hall
    · rename_i he; rw [he] at hc; cases hc
    · rcases parts_bytes 58 l c hc with e | ⟨p, hp, hcp⟩
      · exact .inl e
      · have h1 := List.all_eq_true.1 hall p hp
        unfold grp at h1
        rw [Bool.and_eq_true, List.all_eq_true] at h1
        exact .inr (h1.2 c hcp)
  · cases h
theorem sixT_bytes {t : List UInt8} (h : sixT t = true) : ∀ c ∈ t, c = 58 ∨ hx c = true := by
  unfold sixT at h
  cases hd : dc2 t with
  | none =>
    rw [hd] at h
    exact grs_bytes (by simpa using h)
  | some x =>
    obtain ⟨a, b⟩ := x
    rw [hd] at h
    simp only at h
    rw [dc2_some hd]
    cases ha : grs a with
    | none => rw [ha] at h; cases h
    | some m =>
      cases hb : grs b with
      | none => rw [ha, hb] at h; cases h
      | some n =>
        intro c hc
        simp only [List.mem_append, List.mem_cons] at hc
        rcases hc with hc | rfl | rfl | hc
        · exact grs_bytes ha c hc
        · exact .inl rfl
        · exact .inl rfl
        · exact grs_bytes hb c hc
theorem six_bytes {l : List UInt8} (h : sixC l = true) : ∀ c ∈ l, c ≠ 91 ∧ c ≠ 93 := by
  obtain ⟨p, q, rfl, hk, hq, hp⟩ := lastC_split l
  unfold sixC at h
  rw [tail4_eq hk] at h
  have hb := sixT_bytes h
  have h58 : ∀ c : UInt8, (c = 58 ∨ hx c = true) → c ≠ 91 ∧ c ≠ 93 := by
    rintro c (rfl | h)
    · decide
    · exact hx_byte c h
  intro c hc
  rcases List.mem_append.1 hc with hc | hc
  · exact h58 c (hb c (List.mem_append_left _ hc))
  · by_cases hf : fourL q = true
    · rcases four_bytes hf c hc with rfl | h
      · decide
      · exact ⟨(isD_byte c h).2.2.2.2.1, (isD_byte c h).2.2.2.2.2⟩
    · unfold rq at hb
      rw [if_neg hf] at hb
      exact h58 c (hb c (List.mem_append_right _ hc))
theorem six_nil : sixC [] = false := by decide +kernel
/-- What stands between a text's brackets. -/
def inn (l : List UInt8) : Option (List UInt8) := if l.head? = some 91 ∧ l.tail.getLast? = some 93 then some l.tail.dropLast else none
theorem inn_some {l m : List UInt8} (h : inn l = some m) : l = 91 :: (m ++ [93]) := by
  unfold inn at h
  split at h
  · rename_i hc
    cases l with
    | nil => cases hc.1
    | cons c r =>
      simp only [List.head?_cons, Option.some.injEq, List.tail_cons] at hc h
      obtain ⟨rfl, hr⟩ := hc
      rcases List.eq_nil_or_concat r with rfl | ⟨r', x, rfl⟩
      · cases hr
      · simp only [List.concat_eq_append, List.getLast?_append, List.getLast?_singleton, Option.some_or, Option.some.injEq] at hr
        subst hr
        simp at h
        rw [h, List.concat_eq_append]
  · cases h
theorem inn_of (m : List UInt8) : inn (91 :: (m ++ [93])) = some m := by unfold inn; simp
/-- What a text is as a host: of kind 0: none. -/
def hostL (l : List UInt8) : Int × List UInt8 :=
  if (inn l).any sixC then (3, (inn l).getD []) else if fourL l then (2, l) else if nameL l then (1, l) else (0, [])
theorem host_six {l m : List UInt8} (h : inn l = some m) (h6 : sixC m = true) : hostL l = (3, m) := by unfold hostL; rw [h]; simp [h6]
theorem host_rest {l : List UInt8} (h : (inn l).any sixC = false) : hostL l = if fourL l then (2, l) else if nameL l then (1, l) else (0, []) := by unfold hostL; rw [h]; rfl
theorem host_kinds (l : List UInt8) (h : (hostL l).1 ≠ 0) :
    (∃ m, l = 91 :: (m ++ [93]) ∧ sixC m = true ∧ hostL l = (3, m)) ∨ (fourL l = true ∧ hostL l = (2, l)) ∨ (fourL l = false ∧ nameL l = true ∧ hostL l = (1, l)) := by
  cases h6 : (inn l).any sixC
  · have e := host_rest h6
    cases hf : fourL l
    · cases hn : nameL l
      · rw [e, hf, hn] at h; exact absurd rfl h
      · exact .inr (.inr ⟨rfl, rfl, by rw [e, hf, hn]; rfl⟩)
    · exact .inr (.inl ⟨rfl, by rw [e, hf]; rfl⟩)
  · cases hi : inn l with
    | none => rw [hi] at h6; cases h6
    | some m =>
      rw [hi] at h6
      exact .inl ⟨m, inn_some hi, by simpa using h6, host_six hi (by simpa using h6)⟩
theorem host_shape (l : List UInt8) (h : (hostL l).1 ≠ 0) :
    (∃ m, l = 91 :: (m ++ [93]) ∧ ∀ c ∈ m, c ≠ 91 ∧ c ≠ 93) ∨ (l ≠ [] ∧ ∀ c ∈ l, c ≠ 58 ∧ c ≠ 91 ∧ c ≠ 93) := by
  have nm : nameL l = true → (l ≠ [] ∧ ∀ c ∈ l, c ≠ 58 ∧ c ≠ 91 ∧ c ≠ 93) := fun hn => ⟨(by rintro rfl; cases hn), name_bytes hn⟩
  rcases host_kinds l h with ⟨m, e, h6, -⟩ | ⟨hf, -⟩ | ⟨-, hn, -⟩
  · exact .inl ⟨m, e, six_bytes h6⟩
  · exact .inr (nm (four_name hf))
  · exact .inr (nm hn)

/-! The first place of a byte. -/
theorem idx_none : ∀ {l : List UInt8} {c : UInt8}, c ∉ l → Lib.indexByte l c = -1
  | [], _, _ => rfl
  | b :: l, c, h => by
    have hb : (b == c) = false := by rw [beq_eq_false_iff_ne]; rintro rfl; exact h List.mem_cons_self
    rw [Lib.indexByte, hb, idx_none (fun g => h (List.mem_cons_of_mem _ g))]; rfl
theorem idx_at {c : UInt8} (b : List UInt8) : ∀ {a : List UInt8}, c ∉ a → Lib.indexByte (a ++ c :: b) c = a.length
  | [], _ => by rw [List.nil_append, Lib.indexByte]; simp
  | d :: a, h => by
    have hb : (d == c) = false := by rw [beq_eq_false_iff_ne]; rintro rfl; exact h List.mem_cons_self
    rw [List.cons_append, Lib.indexByte, hb, idx_at b (fun g => h (List.mem_cons_of_mem _ g))]
    have : ((a.length : Int) == -1) = false := by rw [beq_eq_false_iff_ne]; omega
    rw [this]; simp
theorem first_cases (c : UInt8) : ∀ l : List UInt8, c ∉ l ∨ ∃ a b, l = a ++ c :: b ∧ c ∉ a
  | [] => .inl (by simp)
  | d :: r => by
    by_cases hd : d = c
    · exact .inr ⟨[], r, by rw [hd]; rfl, by simp⟩
    · rcases first_cases c r with h | ⟨a, b, rfl, h⟩
      · exact .inl (by intro g; rcases List.mem_cons.1 g with e | g; exact hd e.symm; exact h g)
      · exact .inr ⟨d :: a, b, rfl, by intro g; rcases List.mem_cons.1 g with e | g; exact hd e.symm; exact h g⟩
/-- The place behind the first closing bracket; the place at which a text's host ends. -/
def fromL (l : List UInt8) : Nat := (Lib.indexByte l 93 + 1).toNat
def hEnd (l : List UInt8) : Nat := if 0 ≤ Lib.indexByte (l.drop (fromL l)) 58 then fromL l + (Lib.indexByte (l.drop (fromL l)) 58).toNat else l.length
theorem fromL_le (l : List UInt8) : fromL l ≤ l.length := by
  unfold fromL
  rcases first_cases 93 l with h | ⟨a, b, rfl, h⟩
  · rw [idx_none h]; exact Nat.zero_le _
  · rw [idx_at b h]; simp
theorem fromL_eq (l : List UInt8) : Lib.indexByte l 93 + 1 = (fromL l : Int) := by
  unfold fromL
  have := Lib.indexByte_ge l 93
  omega
theorem hEnd_spec (l : List UInt8) : hEnd l ≤ l.length ∧ (l.drop (hEnd l) = [] ∨ ∃ d, l.drop (hEnd l) = 58 :: d) := by
  have hf := fromL_le l
  unfold hEnd
  rcases first_cases 58 (l.drop (fromL l)) with h | ⟨a, b, he, h⟩
  · rw [idx_none h, if_neg (by omega)]
    exact ⟨Nat.le_refl _, .inl (by simp)⟩
  · have hl := congrArg List.length he
    rw [List.length_drop, List.length_append, List.length_cons] at hl
    rw [he, idx_at b h, if_pos (by omega)]
    refine ⟨by omega, .inr ⟨b, ?_⟩⟩
    rw [← List.drop_drop, he]
    simp
/-- A host, with a port: parted as the code does. -/
def prs (l : List UInt8) : Option (Int × List UInt8 × Int) :=
  if (hostL (l.take (hEnd l))).1 = 0 then none else
  if l.drop (hEnd l) = [] then some ((hostL (l.take (hEnd l))).1, (hostL (l.take (hEnd l))).2, -1) else
  if okD 65535 (l.drop (hEnd l)).tail then some ((hostL (l.take (hEnd l))).1, (hostL (l.take (hEnd l))).2, (Nu.rd 10 65535 (l.drop (hEnd l)).tail).1) else none
/-- The same, parted as the document does. -/
def prsR (l : List UInt8) : Option (Int × List UInt8 × Int) :=
  if (hostL l).1 ≠ 0 then some ((hostL l).1, (hostL l).2, -1) else
  if 58 ∉ l then none else
  if (hostL (l.take (lastC l - 1))).1 = 0 ∨ smallV 65535 (l.drop (lastC l)) < 0 then none else
  some ((hostL (l.take (lastC l - 1))).1, (hostL (l.take (lastC l - 1))).2, smallV 65535 (l.drop (lastC l)))
def Is (l : List UInt8) (x : Int × List UInt8 × Int) : Prop :=
  ∃ a, (hostL a).1 ≠ 0 ∧ x.1 = (hostL a).1 ∧ x.2.1 = (hostL a).2 ∧ ((l = a ∧ x.2.2 = -1) ∨ ∃ d, l = a ++ 58 :: d ∧ okD 65535 d = true ∧ x.2.2 = (Nu.rd 10 65535 d).1)
theorem okD_free {most : Int} {d : List UInt8} (h : okD most d = true) : d ≠ [] ∧ 58 ∉ d ∧ 93 ∉ d ∧ 91 ∉ d := by
  obtain ⟨h0, h1⟩ := okD_isD h
  refine ⟨h0, fun g => ?_, fun g => ?_, fun g => ?_⟩
  · exact (isD_byte _ (h1 _ g)).2.2.2.1 rfl
  · exact (isD_byte _ (h1 _ g)).2.2.2.2.2 rfl
  · exact (isD_byte _ (h1 _ g)).2.2.2.2.1 rfl
theorem hEnd_of {a b : List UInt8} (h : (hostL a).1 ≠ 0) (hb : b = [] ∨ ∃ d, b = 58 :: d ∧ 93 ∉ d) : hEnd (a ++ b) = a.length := by
  have h93 : 93 ∉ b := by
    rcases hb with rfl | ⟨d, rfl, hd⟩
    · simp
    · intro g; rcases List.mem_cons.1 g with e | g
      · cases e
      · exact hd g
  have hend : ∀ k, k ≤ a.length → 58 ∉ a.drop k → fromL (a ++ b) = k → hEnd (a ++ b) = a.length := by
    intro k hk h58 hf
    unfold hEnd
    rw [hf, List.drop_append_of_le_length hk]
    rcases hb with rfl | ⟨d, rfl, -⟩
    · rw [List.append_nil, idx_none h58, if_neg (by omega)]; simp
    · rw [idx_at d h58, if_pos (by omega)]
      simp only [List.length_drop]
      omega
  rcases host_shape a h with ⟨m, rfl, hm⟩ | ⟨-, hm⟩
  · refine hend _ (Nat.le_refl _) (by simp) ?_
    unfold fromL
    have e : 91 :: (m ++ [93]) ++ b = (91 :: m) ++ 93 :: b := by simp
    rw [e, idx_at b (by intro g; rcases List.mem_cons.1 g with e | g; cases e; exact (hm _ g).2 rfl)]
    simp only [List.length_cons, List.length_append, List.length_nil]
    omega
  · refine hend 0 (Nat.zero_le _) (by intro g; exact (hm _ (by simpa using g)).1 rfl) ?_
    unfold fromL
    rw [idx_none (by intro g; rcases List.mem_append.1 g with g | g; exact (hm _ g).2.2 rfl; exact h93 g)]; rfl
theorem prs_iff (l : List UInt8) (x : Int × List UInt8 × Int) : prs l = some x ↔ Is l x := by
  obtain ⟨k, nm, p⟩ := x
  constructor
  · intro h
    obtain ⟨-, hs⟩ := hEnd_spec l
    unfold prs at h
    split at h
    · cases h
    · rename_i h0
      refine ⟨l.take (hEnd l), h0, ?_⟩
      split at h
      · rename_i h1
        injection h with h
        simp only [Prod.mk.injEq] at h
        obtain ⟨rfl, rfl, rfl⟩ := h
        refine ⟨rfl, rfl, .inl ⟨?_, rfl⟩⟩
        conv => lhs; rw [← List.take_append_drop (hEnd l) l, h1, List.append_nil]
      · rename_i h1
        split at h
        · rename_i h2
          injection h with h
          simp only [Prod.mk.injEq] at h
          obtain ⟨rfl, rfl, rfl⟩ := h
          obtain ⟨d, hd⟩ := hs.resolve_left h1
          refine ⟨rfl, rfl, .inr ⟨d, ?_, by rw [hd] at h2; exact h2, by rw [hd]; rfl⟩⟩
          rw [← hd, List.take_append_drop]
        · cases h
  · rintro ⟨a, h0, h1, h2, ⟨rfl, h3⟩ | ⟨d, rfl, hd, h3⟩⟩
    · have he := hEnd_of h0 (.inl rfl)
      rw [List.append_nil] at he
      simp only at h1 h2 h3
      subst h1 h2 h3
      unfold prs
      rw [he, List.take_length, if_neg h0, if_pos (by simp)]
    · obtain ⟨-, hd1, hd2, -⟩ := okD_free hd
      have he := hEnd_of h0 (b := 58 :: d) (.inr ⟨d, rfl, hd2⟩)
      simp only at h1 h2 h3
      subst h1 h2 h3
      unfold prs
      rw [he, List.take_left, List.drop_left, if_neg h0, if_neg (by simp), List.tail_cons, if_pos hd]
theorem prsR_iff (l : List UInt8) (x : Int × List UInt8 × Int) : prsR l = some x ↔ Is l x := by
  obtain ⟨k, nm, p⟩ := x
  constructor
  · intro h
    unfold prsR at h
    split at h
    · rename_i h0
      injection h with h
      simp only [Prod.mk.injEq] at h
      obtain ⟨rfl, rfl, rfl⟩ := h
      exact ⟨l, h0, rfl, rfl, .inl ⟨rfl, rfl⟩⟩
    · split at h
      · cases h
      · rename_i h58
        split at h
        · cases h
        · rename_i hc
          rw [not_or] at hc
          injection h with h
          simp only [Prod.mk.injEq] at h
          obtain ⟨rfl, rfl, rfl⟩ := h
          rcases last_cases l with h | ⟨p, q, rfl, hq⟩
          · exact absurd h h58
          · rw [lastC_at hq] at hc ⊢
            have e1 : (p ++ 58 :: q).take (p.length + 1 - 1) = p := by simp
            have e2 : (p ++ 58 :: q).drop (p.length + 1) = q := by
              have : p ++ 58 :: q = (p ++ [58]) ++ q := by simp
              rw [this, List.drop_left' (by simp)]
            rw [e1, e2] at hc ⊢
            have hok := (smallV_sign 65535 q).1 (by omega)
            exact ⟨p, hc.1, rfl, rfl, .inr ⟨q, rfl, hok, smallV_yes hok⟩⟩
  · rintro ⟨a, h0, h1, h2, ⟨rfl, h3⟩ | ⟨d, rfl, hd, h3⟩⟩
    · simp only at h1 h2 h3
      subst h1 h2 h3
      unfold prsR
      rw [if_pos h0]
    · obtain ⟨hd0, hd1, hd2, hd3⟩ := okD_free hd
      simp only at h1 h2 h3
      subst h1 h2 h3
      have hz : ¬ (hostL (a ++ 58 :: d)).1 ≠ 0 := by
        intro h
        rcases host_shape _ h with ⟨m, e, -⟩ | ⟨-, e⟩
        · obtain ⟨d', y, rfl⟩ := (List.eq_nil_or_concat d).resolve_left hd0
          have e2 : (a ++ 58 :: d') ++ [y] = (91 :: m) ++ [93] := by simpa using e
          have e3 := List.append_inj_right' e2 rfl
          simp only [List.cons.injEq, and_true] at e3
          subst e3
          exact hd2 (by simp)
        · exact (e 58 (by simp)).1 rfl
      unfold prsR
      rw [if_neg hz, if_neg (by simp), lastC_at hd1]
      have e1 : (a ++ 58 :: d).take (a.length + 1 - 1) = a := by simp
      have e2 : (a ++ 58 :: d).drop (a.length + 1) = d := by
        have : a ++ 58 :: d = (a ++ [58]) ++ d := by simp
        rw [this, List.drop_left' (by simp)]
      rw [e1, e2, smallV_yes hd, if_neg]
      have := rd_nonneg 65535 d
      rintro (h | h)
      · exact h0 h
      · omega
theorem prs_eq (l : List UInt8) : prsR l = prs l := by
  ext x
  rw [prsR_iff, prs_iff]
end Hp
end Go.Proofs.YtnpbnlphmngbdaaGreatDoor
/- Hosts, fourth part: a host's text; names under names; the library's cuts in these words. Nothing here speaks of the program. -/
namespace Go.Proofs.YtnpbnlphmngbdaaGreatDoor
namespace Hp
def writeL (k : Int) (nm : List UInt8) (p : Int) : List UInt8 := (if k = 3 then 91 :: (nm ++ [93]) else nm) ++ (if p = -1 then [] else 58 :: (Nu.tx 10 p).data.toList)
theorem tx_list (n : Nat) : (Nu.tx 10 (n : Int)).data.toList = Nu.textL 10 n := by
  unfold Nu.tx
  rw [if_neg (by omega), Nu.text_list]; rfl
theorem write_back {l nm : List UInt8} {k p : Int} (h : prs l = some (k, nm, p)) : writeL k nm p = l := by
  obtain ⟨a, h0, h1, h2, h3⟩ := (prs_iff l _).1 h
  simp only at h1 h2 h3
  subst h1 h2
  have ha : (if (hostL a).1 = 3 then 91 :: ((hostL a).2 ++ [93]) else (hostL a).2) = a := by
    rcases host_kinds a h0 with ⟨m, rfl, -, e⟩ | ⟨-, e⟩ | ⟨-, -, e⟩ <;> rw [e] <;> simp
  unfold writeL
  rw [ha]
  rcases h3 with ⟨rfl, rfl⟩ | ⟨d, rfl, hd, rfl⟩
  · rw [if_pos rfl, List.append_nil]
  · obtain ⟨n, -, rfl, e⟩ := okD_form hd
    rw [e, if_neg (by simp), tx_list]
/-- The text of a host that is one. -/
def textH (k : Int) (nm : List UInt8) (p : Int) : Option (List UInt8) := if prs (writeL k nm p) = some (k, nm, p) then some (writeL k nm p) else none
def isN (l : List UInt8) : Bool := decide (prs l = some (1, l, -1))
theorem isN_eq (l : List UInt8) : isN l = (nameL l && !fourL l) := by
  unfold isN
  rw [Bool.eq_iff_iff]
  simp only [decide_eq_true_eq, Bool.and_eq_true, Bool.not_eq_true']
  constructor
  · intro h
    obtain ⟨a, h0, h1, h2, h3⟩ := (prs_iff l _).1 h
    simp only at h1 h2 h3
    rcases h3 with ⟨rfl, -⟩ | ⟨d, -, -, h3⟩
    · rcases host_kinds l h0 with ⟨m, -, -, e⟩ | ⟨-, e⟩ | ⟨e1, e2, -⟩
      · rw [e] at h1; cases h1
      · rw [e] at h1; cases h1
      · exact ⟨e2, e1⟩
    · have := rd_nonneg 65535 d; omega
  · rintro ⟨h1, h2⟩
    refine (prs_iff l _).2 ⟨l, ?_⟩
    have hi : inn l = none := by
      cases e : inn l with
      | none => rfl
      | some m => exact absurd rfl (name_bytes h1 91 (by rw [inn_some e]; exact List.mem_cons_self)).2.1
    have e : hostL l = (1, l) := by rw [host_rest (by rw [hi]; rfl), h2, h1]; rfl
    rw [e]
    exact ⟨by simp, rfl, rfl, .inl ⟨rfl, rfl⟩⟩
def belowN (A C : List UInt8) : Bool := decide (A = C) || (46 :: C).isSuffixOf A
def und (a b : List UInt8) : Bool := isN a && isN b && belowN (B.fold a) (B.fold b)
theorem below_iff (A C : List UInt8) : belowN A C = true ↔ (A = C ∨ ∃ t, A = t ++ 46 :: C) := by
  unfold belowN
  rw [Bool.or_eq_true, decide_eq_true_eq, List.isSuffixOf_iff_suffix]
  constructor
  · rintro (h | ⟨t, h⟩)
    · exact .inl h
    · exact .inr ⟨t, h.symm⟩
  · rintro (h | ⟨t, h⟩)
    · exact .inl h
    · exact .inr ⟨t, h.symm⟩
theorem below_trans {A C D : List UInt8} (h : belowN A C = true) (k : belowN C D = true) : belowN A D = true := by
  rw [below_iff] at *
  rcases h with rfl | ⟨t, rfl⟩
  · exact k
  · rcases k with rfl | ⟨u, rfl⟩
    · exact .inr ⟨t, rfl⟩
    · exact .inr ⟨t ++ 46 :: u, by simp⟩
theorem und_trans {a b c : List UInt8} (h : und a b = true) (k : und b c = true) : und a c = true := by
  unfold und at *
  simp only [Bool.and_eq_true] at *
  exact ⟨⟨h.1.1, k.1.2⟩, below_trans h.2 k.2⟩
theorem und_self (a : List UInt8) : und a a = isN a := by
  unfold und belowN
  simp
/-! The library's cuts. -/
theorem index_dc2 : ∀ l : List UInt8, match dc2 l with | none => Lib.index l [58, 58] = -1 | some (a, _) => Lib.index l [58, 58] = a.length
  | [] => by rw [dc2]; decide +kernel
  | c :: r => by
    have ih := index_dc2 r
    rw [dc2_cons]
    by_cases hc : c = 58 ∧ r.head? = some 58
    · rw [if_pos hc]
      obtain ⟨rfl, hr⟩ := hc
      cases r with
      | nil => cases hr
      | cons d r =>
        simp only [List.head?_cons, Option.some.injEq] at hr
        subst hr
        simp [Lib.index, List.isPrefixOf]
    · rw [if_neg hc]
      have hp : List.isPrefixOf [58, 58] (c :: r) = false := by
        cases hq : List.isPrefixOf [58, 58] (c :: r)
        · rfl
        · exfalso
          apply hc
          obtain ⟨t, ht⟩ := List.isPrefixOf_iff_prefix.1 hq
          simp only [List.cons_append, List.nil_append, List.cons.injEq] at ht
          obtain ⟨rfl, rfl⟩ := ht
          exact ⟨rfl, rfl⟩
      rw [Lib.index, hp]
      cases hd : dc2 r with
      | none =>
        rw [hd] at ih
        simp only at ih
        rw [ih]; rfl
      | some x =>
        obtain ⟨a, b⟩ := x
        rw [hd] at ih
        simp only at ih
        rw [ih]
        have : ((a.length : Int) == -1) = false := by rw [beq_eq_false_iff_ne]; omega
        simp [this]
theorem cut_dc2 (l : List UInt8) : Lib.cut l [58, 58] = match dc2 l with | none => (l, [], false) | some (a, b) => (a, b, true) := by
  have h := index_dc2 l
  unfold Lib.cut
  cases hd : dc2 l with
  | none =>
    rw [hd] at h
    simp only at h
    rw [h, if_neg (by omega)]
  | some x =>
    obtain ⟨a, b⟩ := x
    rw [hd] at h
    simp only at h
    rw [h, if_pos (by omega)]
    have e := dc2_some hd
    simp only [Int.toNat_natCast, Prod.mk.injEq, and_true]
    refine ⟨by rw [e, List.take_left], ?_⟩
    have e2 : a ++ 58 :: 58 :: b = (a ++ [58, 58]) ++ b := by simp
    rw [e, e2, List.drop_left' (by simp)]
theorem bang_list (s : ByteArray) (j : Nat) (h : j < s.size) : s.data[j]! = s.data.toList[j]'(by simpa using h) := by
  have h' : j < s.data.size := h
  rw [getElem!_pos s.data j h']
  simp
theorem last_index (s : ByteArray) : Lib.lastIndexByte s 58 + 1 = (lastC s.data.toList : Int) := by
  have hz : s.data.toList.length = s.size := by simp
  unfold Lib.lastIndexByte
  rcases last_cases s.data.toList with h | ⟨p, q, e, hq⟩
  · rw [lastC_none h]
    rcases Lib.lastIdx_spec s 58 s.size with ⟨h1, -⟩ | ⟨i, hi, -, h2, -⟩
    · rw [h1]; rfl
    · exfalso
      rw [bang_list s i hi] at h2
      have : s.data.toList[i]'(by simpa using hi) = 58 := UInt8.toNat_inj.1 (by have : ((58 : UInt8).toNat : Int) = 58 := rfl; omega)
      exact h (this ▸ List.getElem_mem _)
  · rw [e, lastC_at hq]
    have hl : p.length + 1 + q.length = s.size := by rw [← hz, e]; simp; omega
    have at0 : ∀ (i : Nat) (hi : i < s.size), s.data[i]! = (p ++ 58 :: q)[i]'(by simp; omega) := fun i hi => by
      rw [bang_list s i hi]; simp only [e]
    have hp : s.data[p.length]! = 58 := by rw [at0 _ (by omega)]; simp
    rcases Lib.lastIdx_spec s 58 s.size with ⟨-, h2⟩ | ⟨i, hi, h1, h2, h3⟩
    · exact absurd (by rw [hp]; rfl) (h2 p.length (by omega))
    · rw [h1]
      rcases Nat.lt_trichotomy i p.length with hlt | rfl | hgt
      · exact absurd (by rw [hp]; rfl) (h3 p.length hlt (by omega))
      · push_cast; rfl
      · exfalso
        rw [at0 i hi, List.getElem_append_right (by omega)] at h2
        have hne : i - p.length ≠ 0 := by omega
        obtain ⟨j, hj⟩ := Nat.exists_eq_succ_of_ne_zero hne
        simp only [hj, Nat.succ_eq_add_one, List.getElem_cons_succ] at h2
        have hjl : j < q.length := by omega
        have : q[j] = 58 := UInt8.toNat_inj.1 (by have : ((58 : UInt8).toNat : Int) = 58 := rfl; omega)
        exact hq (this ▸ List.getElem_mem _)
theorem ext_list (s : ByteArray) (a b : Nat) : (s.extract a b).data.toList = (s.data.toList.drop a).take (b - a) := by
  rw [ByteArray.data_extract, Array.toList_extract, List.extract_eq_take_drop]
theorem ext_end (s : ByteArray) (a : Nat) : (s.extract a s.size).data.toList = s.data.toList.drop a := by
  rw [ext_list, List.take_of_length_le]
  simp
theorem ext_start (s : ByteArray) (b : Nat) : (s.extract 0 b).data.toList = s.data.toList.take b := by
  rw [ext_list]; simp
theorem ofL (s : ByteArray) (l : List UInt8) (h : s.data.toList = l) : s = ⟨l.toArray⟩ := by
  subst h
  apply ByteArray.ext
  simp
theorem ofL_list (l : List UInt8) : (⟨l.toArray⟩ : ByteArray).data.toList = l := by simp
end Hp
end Go.Proofs.YtnpbnlphmngbdaaGreatDoor
