/- Hosts: names, parts of a text between marks, numbers, addresses of four and of six, and what a text is as a host, as plain functions on lists of bytes. Nothing here speaks of the program. -/
import Derived.Test.YtnnhlkbjdfgcaaaNumC
namespace Go.Proofs.Ytnnhlkbjdfgcaaa
namespace Hp
def okb (c : UInt8) : Bool := B.unr (c.toNat : Int) || B.sub (c.toNat : Int)
def hx (c : UInt8) : Bool := B.hex (c.toNat : Int)
/-- How many bytes the first piece of a name has. -/
def nb : List UInt8 → Nat
  | [] => 0
  | c :: r => if okb c then 1 else if decide (c.toNat = 37) && decide (2 ≤ r.length) && hx (r.getD 0 0) && hx (r.getD 1 0) then 3 else 0
theorem nb_cons (c : UInt8) (r : List UInt8) : nb (c :: r) = if okb c then 1 else if decide (c.toNat = 37) && decide (2 ≤ r.length) && hx (r.getD 0 0) && hx (r.getD 1 0) then 3 else 0 := rfl
theorem nb_le (l : List UInt8) : nb l ≤ l.length := by
  cases l with
  | nil => exact Nat.le_refl _
  | cons c r =>
    rw [nb_cons]
    split
    · simp
    · split
      · rename_i h
        simp only [Bool.and_eq_true, decide_eq_true_eq] at h
        simp only [List.length_cons]; omega
      · exact Nat.zero_le _
/-- Pieces of a name to the end. -/
def nmL (l : List UInt8) : Bool := if _h : l = [] then true else if _g : nb l = 0 then false else nmL (l.drop (nb l))
termination_by l.length
decreasing_by
  have := nb_le l
  rw [List.length_drop]
  omega
theorem nmL_nil : nmL [] = true := by rw [nmL, dif_pos rfl]
theorem nmL_none {l : List UInt8} (h : l ≠ []) (g : nb l = 0) : nmL l = false := by rw [nmL, dif_neg h, dif_pos g]
theorem nmL_some {l : List UInt8} (g : nb l ≠ 0) : nmL l = nmL (l.drop (nb l)) := by
  have h : l ≠ [] := by rintro rfl; exact g rfl
  rw [nmL, dif_neg h, dif_neg g]
def nameL (l : List UInt8) : Bool := !l.isEmpty && nmL l
theorem nb_ok {c : UInt8} {r : List UInt8} (h : okb c = true) : nb (c :: r) = 1 := by rw [nb_cons, if_pos h]
theorem nmL_ok {c : UInt8} {r : List UInt8} (h : okb c = true) : nmL (c :: r) = nmL r := by
  rw [nmL_some (by rw [nb_ok h]; decide), nb_ok h]; rfl
/-- Which bytes a name may hold. -/
theorem nmL_bytes : ∀ (n : Nat) (l : List UInt8), l.length ≤ n → nmL l = true → ∀ c ∈ l, okb c = true ∨ c.toNat = 37 ∨ hx c = true := by
  intro n
  induction n with
  | zero => intro l hl _ c hc; have : l = [] := List.eq_nil_of_length_eq_zero (by omega); subst this; cases hc
  | succ n ih =>
    intro l hl h c hc
    cases l with
    | nil => cases hc
    | cons d r =>
      by_cases g : nb (d :: r) = 0
      · rw [nmL_none (by simp) g] at h; cases h
      · rw [nmL_some g] at h
        have hlen : ((d :: r).drop (nb (d :: r))).length ≤ n := by rw [List.length_drop]; simp only [List.length_cons] at hl ⊢; omega
        have hi := ih _ hlen h
        by_cases ho : okb d = true
        · rw [nb_ok ho] at hi
          rcases List.mem_cons.1 hc with rfl | hc
          · exact .inl ho
          · exact hi c hc
        · rw [nb_cons, if_neg ho] at g hi
          split at g
          · rename_i hcond
            rw [if_pos hcond] at hi
            simp only [Bool.and_eq_true, decide_eq_true_eq] at hcond
            obtain ⟨⟨⟨h37, h2⟩, hx0⟩, hx1⟩ := hcond
            obtain ⟨x, y, t, rfl⟩ : ∃ x y t, r = x :: y :: t := by
              match r, h2 with
              | x :: y :: t, _ => exact ⟨x, y, t, rfl⟩
            simp only [List.getD_cons_zero, List.getD_cons_succ] at hx0 hx1
            simp only [List.mem_cons] at hc
            rcases hc with rfl | rfl | rfl | hc
            · exact .inr (.inl h37)
            · exact .inr (.inr hx0)
            · exact .inr (.inr hx1)
            · exact hi c (by simpa using hc)
          · exact absurd rfl g
theorem name_bytes {l : List UInt8} (h : nameL l = true) : ∀ c ∈ l, c ≠ 58 ∧ c ≠ 91 ∧ c ≠ 93 := by
  unfold nameL at h
  rw [Bool.and_eq_true] at h
  intro c hc
  have hb := nmL_bytes _ l (Nat.le_refl _) h.2 c hc
  have k : ∀ i : Fin 256, ((okb (UInt8.ofNat i.val) || decide ((UInt8.ofNat i.val).toNat = 37) || hx (UInt8.ofNat i.val)) = false ∨ (UInt8.ofNat i.val ≠ 58 ∧ UInt8.ofNat i.val ≠ 91 ∧ UInt8.ofNat i.val ≠ 93)) := by decide +kernel
  have k2 := k ⟨c.toNat, c.toNat_lt⟩
  simp only [UInt8.ofNat_toNat] at k2
  rcases k2 with k2 | k2
  · simp only [Bool.or_eq_false_iff, decide_eq_false_iff_not] at k2
    rcases hb with hb | hb | hb
    · rw [k2.1.1] at hb; cases hb
    · exact absurd hb k2.1.2
    · rw [k2.2] at hb; cases hb
  · exact k2
theorem nmL_all : ∀ l : List UInt8, l.all okb = true → nmL l = true
  | [], _ => nmL_nil
  | c :: r, h => by
    rw [List.all_cons, Bool.and_eq_true] at h
    rw [nmL_ok h.1]
    exact nmL_all r h.2

/-! Parts of a text between marks. -/
def parts (m : UInt8) : List UInt8 → List (List UInt8)
  | [] => [[]]
  | x :: r => if x = m then [] :: parts m r else match parts m r with
    | [] => [[x]]
    | p :: ps => (x :: p) :: ps
theorem parts_ne (m : UInt8) (l : List UInt8) : parts m l ≠ [] := by
  cases l with
  | nil => simp [parts]
  | cons x r =>
    unfold parts
    split
    · simp
    · split <;> simp
theorem parts_cons {m x : UInt8} {r p : List UInt8} {ps : List (List UInt8)} (hx : x ≠ m) (h : parts m r = p :: ps) : parts m (x :: r) = (x :: p) :: ps := by
  rw [parts, if_neg hx, h]
theorem parts_mark (m : UInt8) (r : List UInt8) : parts m (m :: r) = [] :: parts m r := by rw [parts, if_pos rfl]
theorem parts_free {m : UInt8} : ∀ {l : List UInt8}, m ∉ l → parts m l = [l]
  | [], _ => rfl
  | x :: r, h => parts_cons (fun e => h (by rw [e]; exact List.mem_cons_self)) (parts_free (l := r) fun g => h (List.mem_cons_of_mem _ g))
theorem parts_append (m : UInt8) (b : List UInt8) : ∀ a : List UInt8, parts m (a ++ m :: b) = parts m a ++ parts m b
  | [] => by rw [List.nil_append, parts_mark]; rfl
  | x :: r => by
    have ih := parts_append m b r
    by_cases hx : x = m
    · subst hx; rw [List.cons_append, parts_mark, parts_mark, ih]; rfl
    · obtain ⟨p, ps, hp⟩ := List.exists_cons_of_ne_nil (parts_ne m r)
      rw [hp] at ih
      rw [List.cons_append, parts_cons hx hp, parts_cons hx (p := p) (ps := ps ++ parts m b) (by rw [ih]; rfl)]; rfl
theorem parts_cut {m : UInt8} {a : List UInt8} (b : List UInt8) (h : m ∉ a) : parts m (a ++ m :: b) = a :: parts m b := by
  rw [parts_append, parts_free h]; rfl
theorem parts_length (m : UInt8) : ∀ l : List UInt8, (parts m l).length ≤ l.length + 1
  | [] => Nat.le_refl _
  | x :: r => by
    have ih := parts_length m r
    by_cases hx : x = m
    · subst hx; rw [parts_mark]; simp only [List.length_cons]; omega
    · obtain ⟨p, ps, hp⟩ := List.exists_cons_of_ne_nil (parts_ne m r)
      rw [hp] at ih; rw [parts_cons hx hp]; simp only [List.length_cons] at *; omega
theorem parts_size (m : UInt8) : ∀ (l p : List UInt8), p ∈ parts m l → p.length ≤ l.length
  | [], p, h => by rw [parts, List.mem_singleton] at h; subst h; exact Nat.le_refl _
  | x :: r, p, h => by
    have ih := parts_size m r
    by_cases hx : x = m
    · subst hx; rw [parts_mark] at h
      rcases List.mem_cons.1 h with rfl | h
      · exact Nat.zero_le _
      · have := ih p h; simp only [List.length_cons]; omega
    · obtain ⟨q, ps, hp⟩ := List.exists_cons_of_ne_nil (parts_ne m r)
      rw [hp] at ih; rw [parts_cons hx hp] at h
      rcases List.mem_cons.1 h with rfl | h
      · have := ih q List.mem_cons_self; simp only [List.length_cons]; omega
      · have := ih p (List.mem_cons_of_mem _ h); simp only [List.length_cons]; omega
/-- A byte that no part holds is none of the text's, but the mark. -/
theorem parts_bytes (m : UInt8) : ∀ (l : List UInt8) (c : UInt8), c ∈ l → c = m ∨ ∃ p ∈ parts m l, c ∈ p
  | [], c, h => by cases h
  | x :: r, c, h => by
    have ih := parts_bytes m r c
    by_cases hx : x = m
    · subst hx
      rcases List.mem_cons.1 h with h | h
      · exact .inl h
      · rcases ih h with e | ⟨p, hp, hc⟩
        · exact .inl e
        · exact .inr ⟨p, by rw [parts_mark]; exact List.mem_cons_of_mem _ hp, hc⟩
    · obtain ⟨q, ps, hp⟩ := List.exists_cons_of_ne_nil (parts_ne m r)
      rw [parts_cons hx hp]
      rcases List.mem_cons.1 h with rfl | h
      · exact .inr ⟨_, List.mem_cons_self, List.mem_cons_self⟩
      · rcases ih h with e | ⟨p, hp', hc⟩
        · exact .inl e
        · rw [hp] at hp'
          rcases List.mem_cons.1 hp' with rfl | hp'
          · exact .inr ⟨_, List.mem_cons_self, List.mem_cons_of_mem _ hc⟩
          · exact .inr ⟨p, List.mem_cons_of_mem _ hp', hc⟩

/-! Numbers without noughts ahead. -/
def okD (most : Int) (l : List UInt8) : Bool := decide ((Nu.rd 10 most l).2 = 0) && decide (Nu.textL 10 (Nu.rd 10 most l).1.toNat = l)
def smallV (most : Int) (l : List UInt8) : Int := if okD most l then (Nu.rd 10 most l).1 else -1
/-- What such a number is. -/
theorem okD_form {most : Int} {l : List UInt8} (h : okD most l = true) : ∃ n : Nat, (n : Int) ≤ most ∧ l = Nu.textL 10 n ∧ Nu.rd 10 most l = ((n : Int), 0) := by
  unfold okD at h
  rw [Bool.and_eq_true, decide_eq_true_eq, decide_eq_true_eq] at h
  obtain ⟨h1, h2⟩ := h
  unfold Nu.rd at h1 h2 ⊢
  split at h1
  · cases h1
  · rename_i hz
    rw [if_neg hz] at h2 ⊢
    split at h1
    · cases h1
    · rename_i hm
      rw [if_neg hm] at h2 ⊢
      exact ⟨Nu.val 10 l, by omega, by simpa using h2.symm, rfl⟩
theorem okD_text {most : Int} {n : Nat} (h : (n : Int) ≤ most) : okD most (Nu.textL 10 n) = true ∧ Nu.rd 10 most (Nu.textL 10 n) = ((n : Int), 0) := by
  have e : Nu.rd 10 most (Nu.textL 10 n) = ((n : Int), 0) := by
    unfold Nu.rd
    have e1 : (Nu.textL 10 n).isEmpty = false := by
      have := Nu.textL_ne 10 (by omega) n
      simpa using this
    rw [e1, Nu.textL_isD 10 (by omega) (by omega), Nu.textL_val 10 (by omega) (by omega), if_neg (by simp), if_neg (by omega)]
  refine ⟨?_, e⟩
  unfold okD
  rw [e]
  simp
theorem okD_isD {most : Int} {l : List UInt8} (h : okD most l = true) : l ≠ [] ∧ ∀ c ∈ l, Nu.isD 10 c = true := by
  obtain ⟨n, -, rfl, -⟩ := okD_form h
  exact ⟨Nu.textL_ne 10 (by omega) n, fun c hc => List.all_eq_true.1 (Nu.textL_isD 10 (by omega) (by omega) n) c hc⟩
theorem okD_short {most : Int} {l : List UInt8} (hm : most ≤ 65535) (h : okD most l = true) : l.length ≤ 5 := by
  obtain ⟨n, hn, rfl, -⟩ := okD_form h
  have h1 := Nu.digs_len 10 (by omega) n 65535 (by omega)
  have h2 : (Nu.digs 10 65535).length = 5 := by
    rw [Nu.digs_big (by omega) (by omega), Nu.digs_big (by omega) (by omega), Nu.digs_big (by omega) (by omega), Nu.digs_big (by omega) (by omega), Nu.digs_small (by omega)]; rfl
  unfold Nu.textL
  rw [List.length_map]; omega
theorem smallV_yes {most : Int} {l : List UInt8} (h : okD most l = true) : smallV most l = (Nu.rd 10 most l).1 := by unfold smallV; rw [if_pos h]
theorem smallV_no {most : Int} {l : List UInt8} (h : okD most l = false) : smallV most l = -1 := by unfold smallV; rw [h]; rfl
theorem rd_nonneg (most : Int) (l : List UInt8) : 0 ≤ (Nu.rd 10 most l).1 := by
  unfold Nu.rd
  split
  · exact Int.le_refl _
  · split
    · exact Int.le_refl _
    · exact Int.natCast_nonneg _
theorem smallV_sign (most : Int) (l : List UInt8) : (0 ≤ smallV most l) ↔ okD most l = true := by
  constructor
  · intro h
    cases e : okD most l
    · rw [smallV_no e] at h; omega
    · rfl
  · intro h; rw [smallV_yes h]; exact rd_nonneg _ _

/-! Addresses. -/
def fourL (l : List UInt8) : Bool := (parts 46 l).all (okD 255) && decide ((parts 46 l).length = 4)
theorem isD_byte (c : UInt8) (h : Nu.isD 10 c = true) : okb c = true ∧ hx c = true ∧ c ≠ 46 ∧ c ≠ 58 ∧ c ≠ 91 ∧ c ≠ 93 := by
  have k : ∀ i : Fin 256, Nu.isD 10 (UInt8.ofNat i.val) = true → (okb (UInt8.ofNat i.val) = true ∧ hx (UInt8.ofNat i.val) = true ∧ UInt8.ofNat i.val ≠ 46 ∧ UInt8.ofNat i.val ≠ 58 ∧ UInt8.ofNat i.val ≠ 91 ∧ UInt8.ofNat i.val ≠ 93) := by decide +kernel
  have := k ⟨c.toNat, c.toNat_lt⟩
  simp only [UInt8.ofNat_toNat] at this
  exact this h
theorem four_bytes {l : List UInt8} (h : fourL l = true) : ∀ c ∈ l, c = 46 ∨ Nu.isD 10 c = true := by
  unfold fourL at h
  rw [Bool.and_eq_true, List.all_eq_true] at h
  intro c hc
  rcases parts_bytes 46 l c hc with e | ⟨p, hp, hcp⟩
  · exact .inl e
  · exact .inr ((okD_isD (h.1 p hp)).2 c hcp)
theorem four_name {l : List UInt8} (h : fourL l = true) : nameL l = true := by
  have hb := four_bytes h
  unfold nameL
  rw [Bool.and_eq_true]
  constructor
  · cases l with
    | nil => revert h; decide +kernel
    | cons c r => rfl
  · refine nmL_all l (List.all_eq_true.2 fun c hc => ?_)
    rcases hb c hc with rfl | h
    · decide +kernel
    · exact (isD_byte c h).1
theorem four_dot {l : List UInt8} (h : fourL l = true) : 46 ∈ l := by
  refine Decidable.byContradiction fun g => ?_
  unfold fourL at h
  rw [parts_free g] at h
  simp at h
def grp (p : List UInt8) : Bool := !p.isEmpty && decide (p.length ≤ 4) && p.all hx
theorem four_no_grp {l : List UInt8} (h : fourL l = true) : grp l = false := by
  have hd := four_dot h
  cases hg : grp l
  · rfl
  · unfold grp at hg
    rw [Bool.and_eq_true, List.all_eq_true] at hg
    exact absurd (hg.2 _ hd) (by decide +kernel)
/-- The groups of a text; none of the empty one. -/
def As (l : List UInt8) : List (List UInt8) := if l = [] then [] else parts 58 l
def grs (l : List UInt8) : Option Nat := if (As l).all grp then some (As l).length else none
/-- What stands for the last part: two groups for an address of four. -/
def rep (q : List UInt8) : List (List UInt8) := if fourL q then [[48], [48]] else [q]
def wholeP (ps : List (List UInt8)) : Bool := (ps.dropLast ++ rep (ps.getLastD [])).all grp && decide ((ps.dropLast ++ rep (ps.getLastD [])).length = 8)
/-- A text, cut at its first double mark. -/
def dc2 : List UInt8 → Option (List UInt8 × List UInt8)
  | [] => none
  | c :: r => if c = 58 ∧ r.head? = some 58 then some ([], r.tail) else (dc2 r).map fun p => (c :: p.1, p.2)
def zeros (a : List UInt8) : Nat → List UInt8
  | 0 => a
  | n + 1 => (if zeros a n = [] then [] else zeros a n ++ [58]) ++ [48]
def fill (a b : List UInt8) (n : Nat) : List UInt8 := zeros a n ++ (if b = [] then [] else 58 :: b)
def sixR (l : List UInt8) : Bool := match dc2 l with
  | none => wholeP (parts 58 l)
  | some (a, b) => (List.range 8).any fun j => wholeP (parts 58 (fill a b (j + 1)))
/-- The place behind a text's last mark. -/
def lastC : List UInt8 → Nat
  | [] => 0
  | c :: r => if 58 ∈ r then lastC r + 1 else if c = 58 then 1 else 0
def tail4 (l : List UInt8) : List UInt8 := if fourL (l.drop (lastC l)) then l.take (lastC l) ++ [48, 58, 48] else l
def sixT (t : List UInt8) : Bool := match dc2 t with
  | none => decide (grs t = some 8)
  | some (a, b) => match grs a, grs b with
    | some x, some y => decide (x + y < 8)
    | _, _ => false
def sixC (l : List UInt8) : Bool := sixT (tail4 l)
end Hp
end Go.Proofs.Ytnnhlkbjdfgcaaa
