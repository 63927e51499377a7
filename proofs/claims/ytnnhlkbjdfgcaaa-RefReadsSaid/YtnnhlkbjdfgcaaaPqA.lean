/- Paths and queries: a text of a path's bytes; a text's mark; a path without dots: as plain functions on lists of bytes. Nothing here speaks of the program. -/
import Derived.Test.YtnnhlkbjdfgcaaaHoD
import Derived.Lib.IndexAny
namespace Go.Proofs.Ytnnhlkbjdfgcaaa
namespace Pq
def pb (c : UInt8) : Bool := B.pat (c.toNat : Int)
/-- A text of a path's bytes, and some others. -/
def pcL (more : List UInt8) : List UInt8 → Bool
  | [] => true
  | [c] => !decide (c = 37) && (pb c || more.contains c)
  | [c, x] => !decide (c = 37) && (pb c || more.contains c) && pcL more [x]
  | c :: x :: y :: t => if c = 37 then Hp.hx x && Hp.hx y && pcL more t else (pb c || more.contains c) && pcL more (x :: y :: t)
theorem pcL_nil (more : List UInt8) : pcL more [] = true := by rw [pcL]
theorem pcL_esc (more : List UInt8) (x y : UInt8) (t : List UInt8) : pcL more (37 :: x :: y :: t) = (Hp.hx x && Hp.hx y && pcL more t) := by rw [pcL, if_pos rfl]
theorem pcL_short {more r : List UInt8} (h : r.length < 2) : pcL more (37 :: r) = false := by
  match r, h with
  | [], _ => rw [pcL]; rfl
  | [x], _ => rw [pcL]; rfl
theorem pcL_cons {more : List UInt8} {c : UInt8} (r : List UInt8) (h : c ≠ 37) : pcL more (c :: r) = ((pb c || more.contains c) && pcL more r) := by
  match r with
  | [] => rw [pcL_nil, show pcL more [c] = (!decide (c = 37) && (pb c || more.contains c)) by rw [pcL], decide_eq_false h]; simp
  | [x] => rw [show pcL more [c, x] = (!decide (c = 37) && (pb c || more.contains c) && pcL more [x]) by (conv => lhs; rw [pcL]), decide_eq_false h]; simp
  | x :: y :: t => rw [pcL, if_neg h]
theorem byte3 (c : UInt8) : (Hp.hx c = true → pb c = true) ∧ (Hp.hx c = true → c ≠ 47 ∧ c ≠ 63 ∧ c ≠ 37) := by
  have k : ∀ i : Fin 256, (Hp.hx (UInt8.ofNat i.val) = true → pb (UInt8.ofNat i.val) = true) ∧ (Hp.hx (UInt8.ofNat i.val) = true → UInt8.ofNat i.val ≠ 47 ∧ UInt8.ofNat i.val ≠ 63 ∧ UInt8.ofNat i.val ≠ 37) := by decide +kernel
  have := k ⟨c.toNat, c.toNat_lt⟩
  simpa only [UInt8.ofNat_toNat] using this
theorem pct37 : pb 37 = false := by decide +kernel
/-- An escape at a text's beginning. -/
def escL : List UInt8 → Bool
  | c :: x :: y :: _ => decide (c = 37) && Hp.hx x && Hp.hx y
  | _ => false
/-- The same, byte by byte. -/
def allC (more : List UInt8) : List UInt8 → Bool
  | [] => true
  | c :: r => (pb c || more.contains c || escL (c :: r)) && allC more r
theorem esc_no {c : UInt8} (r : List UInt8) (h : c ≠ 37) : escL (c :: r) = false := by
  match r with
  | [] => rfl
  | [x] => rfl
  | x :: y :: t => show (decide (c = 37) && Hp.hx x && Hp.hx y) = false; rw [decide_eq_false h]; rfl
theorem esc_short {r : List UInt8} (h : r.length < 2) : escL (37 :: r) = false := by
  match r, h with
  | [], _ => rfl
  | [x], _ => rfl
theorem allC_eq {more : List UInt8} (hm : more.contains 37 = false) : ∀ (n : Nat) (l : List UInt8), l.length ≤ n → allC more l = pcL more l := by
  intro n
  induction n with
  | zero => intro l h; have : l = [] := List.eq_nil_of_length_eq_zero (by omega); subst this; rw [pcL_nil]; rfl
  | succ n ih =>
    intro l h
    match l with
    | [] => rw [pcL_nil]; rfl
    | c :: r =>
      have hr : r.length ≤ n := by simpa using h
      by_cases hc : c = 37
      · subst hc
        rw [allC, pct37, hm]
        match r, hr with
        | [], _ => rw [pcL_short (by simp), esc_short (by simp)]; rfl
        | [x], _ => rw [pcL_short (by simp), esc_short (by simp)]; rfl
        | x :: y :: t, hr =>
          have ht : t.length ≤ n := by simp only [List.length_cons] at hr; omega
          rw [pcL_esc, ← ih t ht]
          have he : escL (37 :: x :: y :: t) = (Hp.hx x && Hp.hx y) := by unfold escL; simp
          rw [he, allC, allC]
          cases hx : Hp.hx x
          · simp
          · cases hy : Hp.hx y
            · simp
            · rw [(byte3 x).1 hx, (byte3 y).1 hy]; simp
      · rw [allC, esc_no r hc, pcL_cons r hc, ih r hr, Bool.or_false]
/-- A mark parts such a text. -/
theorem pcL_slash {more : List UInt8} (hs : more.contains 47 = true) (b : List UInt8) : ∀ (n : Nat) (a : List UInt8), a.length ≤ n → pcL more (a ++ 47 :: b) = (pcL more a && pcL more b) := by
  have h0 : ∀ b, pcL more (47 :: b) = pcL more b := fun b => by rw [pcL_cons b (by decide), hs]; simp
  have hx47 : Hp.hx 47 = false := by decide +kernel
  intro n
  induction n with
  | zero => intro a h; have : a = [] := List.eq_nil_of_length_eq_zero (by omega); subst this; rw [List.nil_append, h0, pcL_nil]; simp
  | succ n ih =>
    intro a h
    match a with
    | [] => rw [List.nil_append, h0, pcL_nil]; simp
    | c :: r =>
      have hr : r.length ≤ n := by simpa using h
      by_cases hc : c = 37
      · subst hc
        match r, hr with
        | [], _ =>
          rw [pcL_short (r := []) (by simp)]
          cases b with
          | nil => rw [List.cons_append, List.nil_append, pcL_short (by simp)]; rfl
          | cons y t => rw [List.cons_append, List.nil_append, pcL_esc, hx47]; rfl
        | [x], _ => rw [pcL_short (r := [x]) (by simp), List.cons_append, List.cons_append, List.nil_append, pcL_esc, hx47]; simp
        | x :: y :: t, hr =>
          have ht : t.length ≤ n := by simp only [List.length_cons] at hr; omega
          rw [List.cons_append, List.cons_append, List.cons_append, pcL_esc, pcL_esc, ih t ht]; simp only [Bool.and_assoc]
      · rw [List.cons_append, pcL_cons _ hc, pcL_cons _ hc, ih r hr, Bool.and_assoc]

/-! A path, a query; a text's mark. -/
def pathL (l : List UInt8) : Bool := Lib.hasPrefix l [47] && pcL [47] l
def queryL (l : List UInt8) : Bool := pcL [47, 63] l
theorem pre_cons (c : UInt8) (r : List UInt8) : Lib.hasPrefix (c :: r) [47] = decide (c = 47) := by
  unfold Lib.hasPrefix
  show ((47 : UInt8) == c && true) = _
  rw [Bool.and_true, Bool.eq_iff_iff, beq_iff_eq, decide_eq_true_eq]
  exact eq_comm
theorem pre_nil : Lib.hasPrefix [] [47] = false := rfl
theorem path_form {l : List UInt8} (h : pathL l = true) : ∃ r, l = 47 :: r ∧ pcL [47] r = true := by
  unfold pathL at h
  rw [Bool.and_eq_true] at h
  match l, h with
  | [], h => rw [pre_nil] at h; cases h.1
  | c :: r, h =>
    rw [pre_cons, decide_eq_true_eq] at h
    obtain ⟨rfl, h2⟩ := h
    refine ⟨r, rfl, ?_⟩
    rw [pcL_cons r (by decide), Bool.and_eq_true] at h2
    exact h2.2
theorem path_of {r : List UInt8} (h : pcL [47] r = true) : pathL (47 :: r) = true := by
  unfold pathL
  rw [pre_cons, pcL_cons r (by decide), h]; rfl
/-- The place of the first mark; the length: there is none. -/
def markN : List UInt8 → Nat
  | [] => 0
  | c :: r => if c = 63 then 0 else markN r + 1
theorem mark_le : ∀ l : List UInt8, markN l ≤ l.length
  | [] => Nat.le_refl _
  | c :: r => by
    have := mark_le r
    unfold markN
    split
    · exact Nat.zero_le _
    · simp only [List.length_cons]; omega
theorem mark_index : ∀ l : List UInt8, Lib.indexByte l 63 = if markN l < l.length then (markN l : Int) else -1
  | [] => rfl
  | c :: r => by
    have ih := mark_index r
    have hl := mark_le r
    unfold Lib.indexByte markN
    by_cases hc : c = 63
    · subst hc
      rw [if_pos (by decide), if_pos rfl, if_pos (by simp)]; rfl
    · rw [if_neg (by simpa using hc), if_neg hc, ih]
      by_cases hr : markN r < r.length
      · rw [if_pos hr, if_neg (by simp), if_pos (by simpa using hr)]; rfl
      · rw [if_neg hr, if_pos (by decide), if_neg (by simpa using hr)]
theorem cut_mark (l : List UInt8) : Lib.cut l [63] = (l.take (markN l), l.drop (markN l + 1), decide (markN l < l.length)) := by
  have hl := mark_le l
  unfold Lib.cut
  rw [Lib.index_one, mark_index]
  by_cases h : markN l < l.length
  · rw [if_pos h, if_pos (by omega), decide_eq_true h]; rfl
  · rw [if_neg h, if_neg (by decide), decide_eq_false h, List.take_of_length_le (by omega), List.drop_of_length_le (by omega)]
/-- What Cut answers. -/
def cutL (l : List UInt8) : List UInt8 × List UInt8 × Bool × Int :=
  if pathL (l.take (markN l)) && queryL (l.drop (markN l + 1)) then (l.take (markN l), l.drop (markN l + 1), decide (markN l < l.length), 0) else ([], [], false, 2)

/-! A path without dots. -/
def stepK (K : List (List UInt8)) (g : List UInt8) : List (List UInt8) × Bool := if g = [46] then (K, false) else if g = [46, 46] then (K.dropLast, false) else (K ++ [g], true)
def runK : List (List UInt8) × Bool → List (List UInt8) → List (List UInt8) × Bool
  | st, [] => st
  | st, g :: gs => runK (stepK st.1 g) gs
theorem run_append (st : List (List UInt8) × Bool) (a b : List (List UInt8)) : runK st (a ++ b) = runK (runK st a) b := by
  induction a generalizing st with
  | nil => rfl
  | cons g gs ih => exact ih _
theorem run_snoc (st : List (List UInt8) × Bool) (a : List (List UInt8)) (g : List UInt8) : runK st (a ++ [g]) = stepK (runK st a).1 g := by rw [run_append]; rfl
def flatK (K : List (List UInt8)) : List UInt8 := K.flatMap fun g => 47 :: g
theorem flatK_nil : flatK [] = [] := rfl
theorem flatK_cons (g : List UInt8) (K : List (List UInt8)) : flatK (g :: K) = 47 :: (g ++ flatK K) := by unfold flatK; simp
theorem flatK_append (a b : List (List UInt8)) : flatK (a ++ b) = flatK a ++ flatK b := by unfold flatK; simp
theorem flatK_snoc (K : List (List UInt8)) (g : List UInt8) : flatK (K ++ [g]) = flatK K ++ 47 :: g := by unfold flatK; simp
def doneK (st : List (List UInt8) × Bool) : List (List UInt8) := if st.2 then st.1 else st.1 ++ [[]]
def segs (l : List UInt8) : List (List UInt8) := Hp.parts 47 (l.drop 1)
def dotsL (l : List UInt8) : List UInt8 := flatK (doneK (runK ([], false) (segs l)))
theorem dots_eq (l : List UInt8) : dotsL l = flatK (runK ([], false) (segs l)).1 ++ (if (runK ([], false) (segs l)).2 then [] else [47]) := by
  unfold dotsL doneK
  split
  · simp
  · rw [flatK_snoc]
def dotsR (l : List UInt8) : List UInt8 × Int := if pathL l then (dotsL l, 0) else ([], 2)
theorem parts_none (m : UInt8) : ∀ (l p : List UInt8), p ∈ Hp.parts m l → m ∉ p
  | [], p, h => by rw [Hp.parts, List.mem_singleton] at h; subst h; simp
  | x :: r, p, h => by
    have ih := parts_none m r
    by_cases hx : x = m
    · subst hx; rw [Hp.parts_mark] at h
      rcases List.mem_cons.1 h with rfl | h
      · simp
      · exact ih p h
    · obtain ⟨q, ps, hp⟩ := List.exists_cons_of_ne_nil (Hp.parts_ne m r)
      rw [hp] at ih; rw [Hp.parts_cons hx hp] at h
      rcases List.mem_cons.1 h with rfl | h
      · intro g
        rcases List.mem_cons.1 g with g | g
        · exact hx g.symm
        · exact ih q List.mem_cons_self g
      · exact ih p (List.mem_cons_of_mem _ h)
theorem parts_flat : ∀ (K : List (List UInt8)) (a : List UInt8), 47 ∉ a → (∀ g ∈ K, 47 ∉ g) → Hp.parts 47 (a ++ flatK K) = a :: K
  | [], a, ha, _ => by rw [flatK_nil, List.append_nil, Hp.parts_free ha]
  | g :: K, a, ha, hK => by
    rw [flatK_cons, Hp.parts_cut _ ha, parts_flat K g (hK g List.mem_cons_self) fun x hx => hK x (List.mem_cons_of_mem _ hx)]
theorem flat_parts : ∀ l : List UInt8, flatK (Hp.parts 47 l) = 47 :: l
  | [] => rfl
  | x :: r => by
    have ih := flat_parts r
    by_cases hx : x = 47
    · subst hx; rw [Hp.parts_mark, flatK_cons, ih]; rfl
    · obtain ⟨q, ps, hp⟩ := List.exists_cons_of_ne_nil (Hp.parts_ne 47 r)
      rw [hp, flatK_cons] at ih
      rw [Hp.parts_cons hx hp, flatK_cons, List.cons_append, (List.cons.inj ih).2]
theorem pcL_flat : ∀ (K : List (List UInt8)) (a : List UInt8), pcL [47] (a ++ flatK K) = (pcL [47] a && K.all (pcL [47]))
  | [], a => by rw [flatK_nil, List.append_nil]; simp
  | g :: K, a => by rw [flatK_cons, pcL_slash (by decide) _ _ a (Nat.le_refl _), pcL_flat K g, List.all_cons]
/-- What stays. -/
structure Clean (g : List UInt8) : Prop where
  free : 47 ∉ g
  one : g ≠ [46]
  two : g ≠ [46, 46]
  ok : pcL [47] g = true
theorem clean_nil : Clean [] := ⟨by simp, by simp, by simp, pcL_nil _⟩
theorem run_clean : ∀ (gs : List (List UInt8)) (st : List (List UInt8) × Bool), (∀ g ∈ gs, 47 ∉ g ∧ pcL [47] g = true) → (∀ g ∈ st.1, Clean g) → ∀ g ∈ (runK st gs).1, Clean g
  | [], _, _, h => h
  | x :: gs, st, hg, h => by
    refine run_clean gs _ (fun g hm => hg g (List.mem_cons_of_mem _ hm)) ?_
    unfold stepK
    split
    · exact h
    · split
      · exact fun g hm => h g (List.dropLast_subset _ hm)
      · rename_i h1 h2
        intro g hm
        rcases List.mem_append.1 hm with hm | hm
        · exact h g hm
        · rw [List.mem_singleton] at hm
          subst hm
          have := hg g List.mem_cons_self
          exact ⟨this.1, h1, h2, this.2⟩
theorem run_same : ∀ (K : List (List UInt8)) (st : List (List UInt8) × Bool), (∀ g ∈ K, Clean g) → K ≠ [] → runK st K = (st.1 ++ K, true)
  | [], _, _, h => absurd rfl h
  | g :: K, st, h, _ => by
    have hg := h g List.mem_cons_self
    have e : stepK st.1 g = (st.1 ++ [g], true) := by unfold stepK; rw [if_neg hg.one, if_neg hg.two]
    rw [runK, e]
    by_cases hK : K = []
    · subst hK; rfl
    · rw [run_same K _ (fun x hx => h x (List.mem_cons_of_mem _ hx)) hK]; simp
theorem run_ne : ∀ (gs : List (List UInt8)) (st : List (List UInt8) × Bool), (st.2 = true → st.1 ≠ []) → (runK st gs).2 = true → (runK st gs).1 ≠ []
  | [], _, h => h
  | x :: gs, st, _ => by
    refine run_ne gs _ ?_
    unfold stepK
    split
    · intro h; cases h
    · split
      · intro h; cases h
      · intro _; simp
theorem done_ne {st : List (List UInt8) × Bool} (h : st.2 = true → st.1 ≠ []) : doneK st ≠ [] := by
  unfold doneK
  split
  · exact h (by assumption)
  · simp
theorem done_clean {st : List (List UInt8) × Bool} (h : ∀ g ∈ st.1, Clean g) : ∀ g ∈ doneK st, Clean g := by
  unfold doneK
  split
  · exact h
  · intro g hm
    rcases List.mem_append.1 hm with hm | hm
    · exact h g hm
    · rw [List.mem_singleton] at hm; subst hm; exact clean_nil
theorem flat_run (gs : List (List UInt8)) : ∀ st : List (List UInt8) × Bool, (flatK (runK st gs).1).length ≤ (flatK st.1).length + (flatK gs).length := by
  induction gs with
  | nil => intro st; exact Nat.le_add_right _ _
  | cons g gs ih =>
    intro st
    have h := ih (stepK st.1 g)
    have h2 : (flatK (stepK st.1 g).1).length ≤ (flatK st.1).length + (47 :: g).length := by
      unfold stepK
      split
      · exact Nat.le_add_right _ _
      · split
        · show (flatK st.1.dropLast).length ≤ _
          by_cases hK : st.1 = []
          · rw [hK]; exact Nat.zero_le _
          · conv => rhs; rw [← List.dropLast_concat_getLast hK, flatK_snoc, List.length_append]
            omega
        · show (flatK (st.1 ++ [g])).length ≤ _
          rw [flatK_snoc, List.length_append]; exact Nat.le_refl _
    rw [flatK_cons, ← List.cons_append, List.length_append]
    show (flatK (runK (stepK st.1 g) gs).1).length ≤ _
    omega
theorem segs_ne (l : List UInt8) : segs l ≠ [] := Hp.parts_ne _ _
theorem segs_path (r : List UInt8) : segs (47 :: r) = Hp.parts 47 r := rfl
theorem parts_path (r : List UInt8) : Hp.parts 47 (47 :: r) = [] :: segs (47 :: r) := Hp.parts_mark 47 r
theorem segs_ok {r : List UInt8} (h : pcL [47] r = true) : ∀ g ∈ segs (47 :: r), 47 ∉ g ∧ pcL [47] g = true := by
  have e := pcL_flat (Hp.parts 47 r) []
  rw [List.nil_append, flat_parts, pcL_cons r (by decide), h, pcL_nil] at e
  have e2 : (Hp.parts 47 r).all (pcL [47]) = true := by
    have : (pb 47 || [47].contains (47 : UInt8)) = true := by decide +kernel
    rw [this] at e
    simpa using e.symm
  exact fun g hg => ⟨parts_none 47 r g hg, List.all_eq_true.1 e2 g hg⟩
/-- Dots, once more. -/
theorem dots_back {l : List UInt8} (h : pathL l = true) : ∃ K, K ≠ [] ∧ (∀ g ∈ K, Clean g) ∧ dotsL l = flatK K ∧ pathL (dotsL l) = true ∧ dotsL (dotsL l) = dotsL l ∧ Hp.parts 47 (dotsL l) = [] :: K := by
  obtain ⟨r, rfl, hr⟩ := path_form h
  have hc := done_clean (run_clean (segs (47 :: r)) ([], false) (segs_ok hr) (by simp))
  have hn := done_ne (run_ne (segs (47 :: r)) ([], false) (by simp))
  have hd : dotsL (47 :: r) = flatK (doneK (runK ([], false) (segs (47 :: r)))) := rfl
  generalize doneK (runK ([], false) (segs (47 :: r))) = K at *
  refine ⟨K, hn, hc, hd, ?_⟩
  rw [hd]
  obtain ⟨g, G, rfl⟩ := List.exists_cons_of_ne_nil hn
  have hp : Hp.parts 47 (flatK (g :: G)) = [] :: g :: G := by
    have := parts_flat (g :: G) [] (by simp) (fun x hx => (hc x hx).free)
    rwa [List.nil_append] at this
  have hs : segs (flatK (g :: G)) = g :: G := by
    rw [flatK_cons, Hp.parts_mark] at hp
    rw [flatK_cons]
    exact (List.cons.inj hp).2
  refine ⟨?_, ?_, hp⟩
  · rw [flatK_cons]
    refine path_of ?_
    rw [pcL_flat, ← List.all_cons]
    exact List.all_eq_true.2 fun x hx => (hc x hx).ok
  · unfold dotsL
    rw [hs, run_same _ _ hc (by simp)]; rfl
theorem dots_len {l : List UInt8} (h : pathL l = true) : (dotsL l).length ≤ l.length + 1 := by
  obtain ⟨r, rfl, -⟩ := path_form h
  have h1 := flat_run (segs (47 :: r)) ([], false)
  rw [segs_path, flat_parts, flatK_nil] at h1
  rw [dots_eq, List.length_append, segs_path]
  have h2 : (if (runK ([], false) (Hp.parts 47 r)).2 = true then ([] : List UInt8) else [47]).length ≤ 1 := by split <;> simp
  simp only [List.length_nil] at h1
  omega
/-- The bytes that stand at a place in a path's walk. -/
theorem run_take_len (r : List UInt8) (pre : List (List UInt8)) (h : pre <+: Hp.parts 47 r) : (flatK (runK ([], false) pre).1).length ≤ r.length + 1 := by
  obtain ⟨t, ht⟩ := h
  have h1 := flat_run pre ([], false)
  have h2 := flat_parts r
  rw [← ht, flatK_append] at h2
  have h3 := congrArg List.length h2
  rw [List.length_append, List.length_cons] at h3
  rw [flatK_nil] at h1
  simp only [List.length_nil] at h1
  omega
theorem run_free (pre : List (List UInt8)) (h : ∀ g ∈ pre, 47 ∉ g) : ∀ (st : List (List UInt8) × Bool), (∀ g ∈ st.1, 47 ∉ g) → ∀ g ∈ (runK st pre).1, 47 ∉ g := by
  induction pre with
  | nil => exact fun st hs => hs
  | cons x pre ih =>
    intro st hs
    refine ih (fun g hg => h g (List.mem_cons_of_mem _ hg)) _ ?_
    unfold stepK
    split
    · exact hs
    · split
      · exact fun g hm => hs g (List.dropLast_subset _ hm)
      · intro g hm
        rcases List.mem_append.1 hm with hm | hm
        · exact hs g hm
        · rw [List.mem_singleton] at hm; subst hm; exact h g List.mem_cons_self

/-! The last mark. -/
def LastAt (l : List UInt8) (x : UInt8) (z : Int) : Prop := (x ∉ l ∧ z = -1) ∨ ∃ p q, l = p ++ x :: q ∧ x ∉ q ∧ z = (p.length : Int)
theorem last_same {p q p' q' : List UInt8} {x : UInt8} (h : p ++ x :: q = p' ++ x :: q') (hq : x ∉ q) (hq' : x ∉ q') : p = p' := by
  rcases List.append_eq_append_iff.1 h with ⟨a, h1, h2⟩ | ⟨a, h1, h2⟩
  · cases a with
    | nil => rw [h1, List.append_nil]
    | cons y a =>
      obtain ⟨rfl, h3⟩ := List.cons.inj h2
      exact absurd (by rw [h3]; simp) hq
  · cases a with
    | nil => rw [h1, List.append_nil]
    | cons y a =>
      obtain ⟨rfl, h3⟩ := List.cons.inj h2
      exact absurd (by rw [h3]; simp) hq'
theorem last_flat {K : List (List UInt8)} (h : ∀ g ∈ K, 47 ∉ g) {z : Int} (hz : LastAt (flatK K) 47 z) : max z 0 = ((flatK K.dropLast).length : Int) ∧ ∃ t, flatK K = flatK K.dropLast ++ t := by
  by_cases hK : K = []
  · subst hK
    rcases hz with ⟨-, rfl⟩ | ⟨p, q, h1, -, -⟩
    · exact ⟨rfl, [], rfl⟩
    · rw [flatK_nil] at h1; simp at h1
  · have e : flatK K = flatK K.dropLast ++ 47 :: K.getLast hK := by
      conv => lhs; rw [← List.dropLast_concat_getLast hK, flatK_snoc]
    refine ⟨?_, _, e⟩
    rw [e] at hz
    rcases hz with ⟨h1, -⟩ | ⟨p, q, h1, h2, rfl⟩
    · exact absurd (by simp) h1
    · have := last_same h1 (h _ (List.getLast_mem hK)) h2
      rw [this]; omega
end Pq
end Go.Proofs.Ytnnhlkbjdfgcaaa
