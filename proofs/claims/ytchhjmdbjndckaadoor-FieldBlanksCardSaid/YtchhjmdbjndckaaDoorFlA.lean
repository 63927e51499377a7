/- Lines of fields, as plain functions on lists of bytes. Nothing here speaks of the program. -/
import Derived.Test.YtchhjmdbjndckaaDoorMath
import Derived.Test.YtchhjmdbjndckaaDoorBlA
namespace Go.Proofs.YtchhjmdbjndckaaDoor
namespace Fl

/-- A token's byte, a value's, a line's end, any but a colon. -/
def tk (c : UInt8) : Bool := B.tok (c.toNat : Int)
def vl (c : UInt8) : Bool := B.val (c.toNat : Int)
def en (c : UInt8) : Bool := ([13, 10] : List UInt8).contains c
def nc (c : UInt8) : Bool := !decide ((c.toNat : Int) = 58)
theorem all256 {p : UInt8 → Bool} (h : ∀ i : Fin 256, p (UInt8.ofNat i.val) = true) (c : UInt8) : p c = true := by
  have := h ⟨c.toNat, c.toNat_lt⟩
  simpa using this
theorem tk_bl (c : UInt8) (h : tk c = true) : Cm.bl c = false := by
  have := all256 (p := fun c => !tk c || !Cm.bl c) (by decide +kernel) c
  simpa [h] using this
theorem tk_nc (c : UInt8) (h : tk c = true) : nc c = true := by
  have := all256 (p := fun c => !tk c || nc c) (by decide +kernel) c
  simpa [h] using this
theorem tk_en (c : UInt8) (h : tk c = true) : en c = false := by
  have := all256 (p := fun c => !tk c || !en c) (by decide +kernel) c
  simpa [h] using this
theorem bl_nc (c : UInt8) (h : Cm.bl c = true) : nc c = true := by
  have := all256 (p := fun c => !Cm.bl c || nc c) (by decide +kernel) c
  simpa [h] using this
theorem bl_tk (c : UInt8) (h : Cm.bl c = true) : tk c = false := by
  have := all256 (p := fun c => !Cm.bl c || !tk c) (by decide +kernel) c
  simpa [h] using this
theorem bl_en (c : UInt8) (h : Cm.bl c = true) : en c = false := by
  have := all256 (p := fun c => !Cm.bl c || !en c) (by decide +kernel) c
  simpa [h] using this
theorem bl_vl (c : UInt8) (h : Cm.bl c = true) : vl c = true := by
  have := all256 (p := fun c => !Cm.bl c || vl c) (by decide +kernel) c
  simpa [h] using this
theorem vl_en (c : UInt8) (h : vl c = true) : en c = false := by
  have := all256 (p := fun c => !vl c || !en c) (by decide +kernel) c
  simpa [h] using this
theorem tk_vl (c : UInt8) (h : tk c = true) : vl c = true := by
  have := all256 (p := fun c => !tk c || vl c) (by decide +kernel) c
  simpa [h] using this
theorem nc_58 (c : UInt8) (h : nc c = false) : c = 58 := by
  unfold nc at h
  simp at h
  have h2 : c.toNat = 58 := by omega
  exact UInt8.toNat_inj.1 h2

/-- takeWhile of a text that goes on with no byte of the class. -/
theorem tw_cut {p : UInt8 → Bool} : ∀ {a : List UInt8} {r : List UInt8}, a.all p = true → (∀ c r', r = c :: r' → p c = false) → (a ++ r).takeWhile p = a
  | [], [], _, _ => rfl
  | [], c :: r', _, h => by rw [List.nil_append, List.takeWhile_cons_of_neg (by rw [h c r' rfl]; decide)]
  | c :: a, r, ha, h => by
    rw [List.all_cons, Bool.and_eq_true] at ha
    rw [List.cons_append, List.takeWhile_cons_of_pos ha.1, tw_cut ha.2 h]
theorem tw_all {p : UInt8 → Bool} : ∀ (l : List UInt8), (l.takeWhile p).all p = true
  | [] => rfl
  | c :: r => by
    cases hc : p c
    · rw [List.takeWhile_cons_of_neg (by simp [hc])]; rfl
    · rw [List.takeWhile_cons_of_pos hc, List.all_cons, hc, tw_all r]; rfl
theorem tw_drop {p : UInt8 → Bool} : ∀ (l : List UInt8), l = l.takeWhile p ++ l.drop (l.takeWhile p).length
  | [] => rfl
  | c :: r => by
    cases hc : p c
    · rw [List.takeWhile_cons_of_neg (by simp [hc])]; rfl
    · rw [List.takeWhile_cons_of_pos hc]
      show c :: r = c :: (r.takeWhile p ++ r.drop (r.takeWhile p).length)
      rw [← tw_drop r]
theorem tw_stop {p : UInt8 → Bool} : ∀ {l : List UInt8} {c : UInt8} {r : List UInt8}, l.drop (l.takeWhile p).length = c :: r → p c = false
  | [], _, _, h => by cases h
  | d :: l, c, r, h => by
    cases hd : p d
    · rw [List.takeWhile_cons_of_neg (by simp [hd])] at h
      have h' : d :: l = c :: r := h
      cases h'
      exact hd
    · rw [List.takeWhile_cons_of_pos hd] at h
      exact tw_stop (l := l) h
theorem all_sub {p q : UInt8 → Bool} (h : ∀ c, p c = true → q c = true) {l : List UInt8} (hl : l.all p = true) : l.all q = true := by
  rw [List.all_eq_true] at hl ⊢
  exact fun c hc => h c (hl c hc)
theorem any_none {p q : UInt8 → Bool} (h : ∀ c, p c = true → q c = false) {l : List UInt8} (hl : l.all p = true) : l.any q = false := by
  rw [List.any_eq_false]
  intro c hc
  rw [h c (List.all_eq_true.1 hl c hc)]
  decide
/-- Cutting off. -/
theorem R_more {p : UInt8 → Bool} (a : List UInt8) : ∀ {b : List UInt8}, b.all p = true → Cm.R p (a ++ b) = Cm.R p a := by
  intro b
  induction b generalizing a with
  | nil => intro _; rw [List.append_nil]
  | cons c b ih =>
    intro h
    rw [List.all_cons, Bool.and_eq_true] at h
    have := ih (a ++ [c]) h.2
    rw [List.append_assoc, List.singleton_append] at this
    rw [this, Cm.R_snoc _ _ _ h.1]
theorem R_same {p q : UInt8 → Bool} (h : ∀ c, q c = true → p c = false) : ∀ {a : List UInt8}, a.all q = true → Cm.R p a = a
  | [], _ => rfl
  | c :: r, ha => by
    rw [List.all_cons, Bool.and_eq_true] at ha
    rw [Cm.R_cons, R_same h ha.2, if_neg (by rw [h c ha.1]; simp)]
theorem R_form {p : UInt8 → Bool} : ∀ (l : List UInt8), ∃ b, l = Cm.R p l ++ b ∧ b.all p = true
  | [] => ⟨[], rfl, rfl⟩
  | c :: r => by
    obtain ⟨b, h1, h2⟩ := R_form (p := p) r
    rw [Cm.R_cons]
    split
    · rename_i h
      refine ⟨c :: r, rfl, ?_⟩
      rw [h.1, List.nil_append] at h1
      rw [List.all_cons, h.2, h1, h2]; rfl
    · exact ⟨b, by rw [List.cons_append, ← h1], h2⟩
theorem dw_none {p : UInt8 → Bool} {l : List UInt8} (h : l.takeWhile p = []) : l.dropWhile p = l := by
  cases l with
  | nil => rfl
  | cons c r =>
    cases hc : p c
    · rw [List.dropWhile_cons_of_neg (by simp [hc])]
    · rw [List.takeWhile_cons_of_pos hc] at h; cases h
theorem dw_more {p : UInt8 → Bool} : ∀ {b : List UInt8} (a : List UInt8), b.all p = true → (b ++ a).dropWhile p = a.dropWhile p
  | [], _, _ => rfl
  | c :: b, a, h => by
    rw [List.all_cons, Bool.and_eq_true] at h
    rw [List.cons_append, List.dropWhile_cons_of_pos h.1, dw_more a h.2]
theorem tw_none {p q : UInt8 → Bool} (h : ∀ c, q c = true → p c = false) {a : List UInt8} (ha : a.all q = true) (r : List UInt8) (hne : a ≠ []) : (a ++ r).takeWhile p = [] := by
  cases a with
  | nil => exact absurd rfl hne
  | cons c a =>
    rw [List.all_cons, Bool.and_eq_true] at ha
    rw [List.cons_append, List.takeWhile_cons_of_neg (by rw [h c ha.1]; decide)]
/-- Blanks about a text go. -/
theorem trim_about (x y v : List UInt8) (hx : x.all Cm.bl = true) (hy : y.all Cm.bl = true) (hv : Cm.trim v = v) : Cm.trim (x ++ (v ++ y)) = v := by
  rw [Cm.trim_eq', dw_more _ hx, Cm.LR, R_more _ hy, ← Cm.trim_eq, hv]
theorem trim_tok {N b : List UInt8} (hN : N.all tk = true) (hb : b.all Cm.bl = true) : Cm.trim (N ++ b) = N := by
  have h1 : Cm.trim N = N := by
    rw [Cm.trim_eq, R_same tk_bl hN]
    cases N with
    | nil => rfl
    | cons c r => exact dw_none (by have := tw_none (p := Cm.bl) tk_bl hN [] (by simp); rwa [List.append_nil] at this)
  have := trim_about [] b N rfl hb h1
  rwa [List.nil_append] at this

def tokL (l : List UInt8) : Bool := decide (0 < l.length) && l.all tk
theorem tokL_yes {l : List UInt8} (h : tokL l = true) : l ≠ [] ∧ l.all tk = true := by
  unfold tokL at h
  rw [Bool.and_eq_true, decide_eq_true_eq] at h
  exact ⟨fun e => by rw [e] at h; simp at h, h.2⟩
theorem tokL_of {l : List UInt8} (h : l ≠ []) (h2 : l.all tk = true) : tokL l = true := by
  unfold tokL
  rw [h2, decide_eq_true (List.length_pos_iff.2 h)]; rfl
/-- Where the token that begins a line ends; where the blanks behind it end. -/
def k1 (l : List UInt8) : Nat := (l.takeWhile tk).length
def k2 (l : List UInt8) : Nat := k1 l + ((l.drop (k1 l)).takeWhile Cm.bl).length
def headC (l : List UInt8) : Bool := decide (0 < k1 l) && decide (k2 l < l.length ∧ ((l.getD (k2 l) 0).toNat : Int) = 58)
/-- The first colon's place. -/
def nD (l : List UInt8) : Nat := (l.takeWhile nc).length
def headD (l : List UInt8) : Bool := decide (nD l < l.length) && tokL (Cm.trim (l.take (nD l)))
structure Form (l N b r : List UInt8) : Prop where
  eq : l = N ++ (b ++ 58 :: r)
  ne : N ≠ []
  tok : N.all tk = true
  bla : b.all Cm.bl = true
theorem Form.hk1 {l N b r : List UInt8} (h : Form l N b r) : l.takeWhile tk = N := by
  rw [h.eq]
  refine tw_cut h.tok fun c r' e => ?_
  cases hb : b with
  | nil => rw [hb] at e; cases e; decide +kernel
  | cons d b' =>
    rw [hb] at e; cases e
    have := h.bla
    rw [hb, List.all_cons, Bool.and_eq_true] at this
    exact bl_tk _ this.1
theorem Form.hk1' {l N b r : List UInt8} (h : Form l N b r) : k1 l = N.length := by unfold k1; rw [h.hk1]
theorem Form.hk2 {l N b r : List UInt8} (h : Form l N b r) : k2 l = N.length + b.length := by
  unfold k2
  rw [h.hk1']
  congr 2
  rw [h.eq, List.drop_left]
  exact tw_cut h.bla fun c r' e => by cases e; decide +kernel
theorem Form.hn {l N b r : List UInt8} (h : Form l N b r) : l.takeWhile nc = N ++ b := by
  rw [h.eq, ← List.append_assoc]
  refine tw_cut ?_ fun c r' e => by cases e; decide +kernel
  rw [List.all_append, all_sub tk_nc h.tok, all_sub bl_nc h.bla]; rfl
theorem Form.hn' {l N b r : List UInt8} (h : Form l N b r) : nD l = N.length + b.length := by unfold nD; rw [h.hn, List.length_append]
theorem Form.name {l N b r : List UInt8} (h : Form l N b r) : Cm.trim (l.take (nD l)) = N := by
  rw [h.hn', h.eq, ← List.append_assoc, ← List.length_append, List.take_left]
  exact trim_tok h.tok h.bla
theorem Form.rest {l N b r : List UInt8} (h : Form l N b r) : l.drop (N.length + b.length + 1) = r := by
  rw [h.eq, ← List.append_assoc, ← List.length_append, ← List.drop_drop, List.drop_left]; rfl
theorem Form.lt {l N b r : List UInt8} (h : Form l N b r) : l.length = N.length + b.length + 1 + r.length := by
  rw [h.eq]; simp; omega
theorem Form.headC {l N b r : List UInt8} (h : Form l N b r) : headC l = true := by
  unfold Fl.headC
  rw [h.hk1', h.hk2, decide_eq_true (List.length_pos_iff.2 h.ne), Bool.true_and, decide_eq_true]
  refine ⟨by rw [h.lt]; omega, ?_⟩
  rw [h.eq, ← List.append_assoc, ← List.length_append, List.getD_eq_getElem?_getD, List.getElem?_append_right (Nat.le_refl _), Nat.sub_self]; rfl
theorem Form.headD {l N b r : List UInt8} (h : Form l N b r) : headD l = true := by
  unfold Fl.headD
  rw [h.name, h.hn', tokL_of h.ne h.tok, decide_eq_true (by rw [h.lt]; omega)]; rfl
theorem Form.fold {l N b r : List UInt8} (h : Form l N b r) : l.takeWhile Cm.bl = [] := by
  rw [h.eq]
  exact tw_none tk_bl h.tok _ h.ne
theorem headC_form {l : List UInt8} (h : headC l = true) : ∃ N b r, Form l N b r := by
  unfold headC at h
  rw [Bool.and_eq_true, decide_eq_true_eq, decide_eq_true_eq] at h
  obtain ⟨h0, h1, h2⟩ := h
  refine ⟨l.takeWhile tk, (l.drop (k1 l)).takeWhile Cm.bl, l.drop (k2 l + 1), ?_, ?_, tw_all _, tw_all _⟩
  · have e1 := tw_drop (p := tk) l
    have e2 := tw_drop (p := Cm.bl) (l.drop (k1 l))
    rw [List.drop_drop] at e2
    have e3 := List.drop_eq_getElem_cons h1
    have e4 : l[k2 l] = 58 := by
      rw [List.getD_eq_getElem?_getD, List.getElem?_eq_getElem h1, Option.getD_some] at h2
      have h3 : (l[k2 l]).toNat = 58 := by omega
      exact UInt8.toNat_inj.1 h3
    rw [e4] at e3
    show l = l.takeWhile tk ++ ((l.drop (k1 l)).takeWhile Cm.bl ++ 58 :: l.drop (k2 l + 1))
    rw [← e3]
    show l = l.takeWhile tk ++ ((l.drop (k1 l)).takeWhile Cm.bl ++ l.drop (k1 l + ((l.drop (k1 l)).takeWhile Cm.bl).length))
    rw [← e2]
    exact e1
  · exact List.length_pos_iff.1 h0
theorem headD_form {l : List UInt8} (hf : l.takeWhile Cm.bl = []) (h : headD l = true) : ∃ N b r, Form l N b r := by
  unfold headD at h
  rw [Bool.and_eq_true, decide_eq_true_eq] at h
  obtain ⟨h1, h2⟩ := h
  obtain ⟨hne, hall⟩ := tokL_yes h2
  have e1 := tw_drop (p := nc) l
  have e3 := List.drop_eq_getElem_cons h1
  have e4 : l[nD l] = 58 := nc_58 _ (tw_stop (p := nc) e3)
  have ht : l.take (nD l) = l.takeWhile nc := by
    have e5 : (l.takeWhile nc ++ l.drop (l.takeWhile nc).length).take (l.takeWhile nc).length = l.takeWhile nc := List.take_left
    rw [← e1] at e5
    exact e5
  rw [ht] at h2 hne hall
  have hd : (l.takeWhile nc).takeWhile Cm.bl = [] := by
    cases l with
    | nil => rfl
    | cons c r =>
      cases hb : Cm.bl c
      · cases hc : nc c
        · rw [List.takeWhile_cons_of_neg (by simp [hc])]; rfl
        · rw [List.takeWhile_cons_of_pos hc, List.takeWhile_cons_of_neg (by simp [hb])]
      · rw [List.takeWhile_cons_of_pos hb] at hf; cases hf
  have ht2 : Cm.trim (l.takeWhile nc) = Cm.R Cm.bl (l.takeWhile nc) := by rw [Cm.trim_eq', dw_none hd]
  rw [ht2] at hne hall
  obtain ⟨b, hb1, hb2⟩ := R_form (p := Cm.bl) (l.takeWhile nc)
  refine ⟨Cm.R Cm.bl (l.takeWhile nc), b, l.drop (nD l + 1), ?_, hne, hall, hb2⟩
  rw [← List.append_assoc, ← hb1]
  rw [e4] at e3
  rw [← e3]
  exact e1
theorem head_eq {l : List UInt8} (hf : l.takeWhile Cm.bl = []) : headC l = headD l := by
  cases h1 : headC l
  · cases h2 : headD l
    · rfl
    · obtain ⟨N, b, r, h⟩ := headD_form hf h2
      rw [h.headC] at h1; cases h1
  · obtain ⟨N, b, r, h⟩ := headC_form h1
    exact h.headD.symm

/-- The document's way: name, value, error. -/
def parseD (l : List UInt8) : List UInt8 × List UInt8 × Int :=
  if l.any en = true then ([], [], 24)
  else if l.takeWhile Cm.bl ≠ [] then ([], [], 23)
  else if headD l = false then ([], [], 21)
  else if (Cm.trim (l.take (nD l))).length < nD l then ([], [], 22)
  else if (l.drop (nD l + 1)).all vl = false then ([], [], 25)
  else (Cm.trim (l.take (nD l)), Cm.trim (l.drop (nD l + 1)), 0)
/-- The program's: the name first. -/
def nameC (l : List UInt8) : List UInt8 × Int :=
  if l.takeWhile Cm.bl ≠ [] then ([], 23)
  else if headC l = false then ([], 21)
  else if k1 l < k2 l then ([], 22)
  else (l.take (k1 l), 0)
def parseC (l : List UInt8) : List UInt8 × List UInt8 × Int :=
  if l.any en = true then ([], [], 24)
  else if (nameC l).2 ≠ 0 then ([], [], (nameC l).2)
  else if (l.drop (k2 l + 1)).all vl = false then ([], [], 25)
  else ((nameC l).1, Cm.trim (l.drop (k2 l + 1)), 0)
theorem parse_eq (l : List UInt8) : parseC l = parseD l := by
  unfold parseC parseD nameC
  by_cases h1 : l.any en = true
  · rw [if_pos h1, if_pos h1]
  rw [if_neg h1, if_neg h1]
  by_cases h2 : l.takeWhile Cm.bl ≠ []
  · rw [if_pos h2, if_pos h2, if_pos (by decide)]
  rw [if_neg h2, if_neg h2]
  have h2' : l.takeWhile Cm.bl = [] := Classical.byContradiction h2
  rw [← head_eq h2']
  cases h3 : headC l
  · rw [if_pos rfl, if_pos rfl, if_pos (by decide)]
  · rw [if_neg (show ¬ (true = false) by decide), if_neg (show ¬ (true = false) by decide)]
    obtain ⟨N, b, r, h⟩ := headC_form h3
    rw [h.hk1', h.hk2, h.hn', h.rest, show Cm.trim (l.take (N.length + b.length)) = N by rw [← h.hn', h.name]]
    by_cases h4 : N.length < N.length + b.length
    · rw [if_pos h4, if_pos h4, if_pos (by decide)]
    · rw [if_neg h4, if_neg h4, if_neg (show ¬ (0 : Int) ≠ 0 by decide)]
      split
      · rfl
      · rw [show l.take N.length = N by rw [h.eq]; exact List.take_left]
/-- A line that has a name and a value. -/
theorem parse_form {N x v y : List UInt8} (hne : N ≠ []) (hN : N.all tk = true) (hx : x.all Cm.bl = true) (hy : y.all Cm.bl = true) (hv : v.all vl = true) (ht : Cm.trim v = v) :
    parseD (N ++ 58 :: (x ++ (v ++ y))) = (N, v, 0) := by
  have h : Form (N ++ 58 :: (x ++ (v ++ y))) N [] (x ++ (v ++ y)) := ⟨rfl, hne, hN, rfl⟩
  have hall : (x ++ (v ++ y)).all vl = true := by rw [List.all_append, List.all_append, all_sub bl_vl hx, hv, all_sub bl_vl hy]; rfl
  unfold parseD
  rw [if_neg (by rw [List.any_append, any_none tk_en hN, List.any_cons, any_none vl_en hall]; decide +kernel), if_neg (by rw [h.fold]; simp), h.headD, if_neg (by decide), h.name, h.hn', if_neg (by simp), h.rest, hall, if_neg (by decide), trim_about x y v hx hy ht]
theorem parse_space {N x r : List UInt8} (hne : N ≠ []) (hN : N.all tk = true) (hx : x.all Cm.bl = true) (hx0 : x ≠ []) (hr : r.all vl = true) :
    (parseD (N ++ (x ++ 58 :: r))).2.2 = 22 := by
  have h : Form (N ++ (x ++ 58 :: r)) N x r := ⟨rfl, hne, hN, hx⟩
  unfold parseD
  rw [if_neg (by rw [List.any_append, any_none tk_en hN, List.any_append, any_none bl_en hx, List.any_cons, any_none vl_en hr]; decide +kernel), if_neg (by rw [h.fold]; simp), h.headD, if_neg (by decide), h.name, h.hn', if_pos (by have := List.length_pos_iff.2 hx0; omega)]
theorem parse_fold {N x r : List UInt8} (hN : N.all tk = true) (hx : x.all Cm.bl = true) (hx0 : x ≠ []) (hr : r.all vl = true) :
    (parseD (x ++ (N ++ 58 :: r))).2.2 = 23 := by
  unfold parseD
  rw [if_neg (by rw [List.any_append, any_none bl_en hx, List.any_append, any_none tk_en hN, List.any_cons, any_none vl_en hr]; decide +kernel), if_pos]
  intro h
  cases x with
  | nil => exact hx0 rfl
  | cons c x =>
    rw [List.all_cons, Bool.and_eq_true] at hx
    rw [List.cons_append, List.takeWhile_cons_of_pos hx.1] at h
    cases h
/-- Check; a field's line. -/
def checkL (n v : List UInt8) : Int := if tokL n = false then 21 else if (v.all vl && decide (Cm.trim v = v)) = false then 25 else 0
def lineL (n v : List UInt8) : List UInt8 := n ++ 58 :: (if v = [] then [] else 32 :: v)
theorem check_ok {n v : List UInt8} (h : checkL n v = 0) : n ≠ [] ∧ n.all tk = true ∧ v.all vl = true ∧ Cm.trim v = v := by
  unfold checkL at h
  cases h1 : tokL n
  · rw [if_pos h1] at h; cases h
  · rw [if_neg (by rw [h1]; decide)] at h
    cases h2 : (v.all vl && decide (Cm.trim v = v))
    · rw [if_pos h2] at h; cases h
    · rw [Bool.and_eq_true, decide_eq_true_eq] at h2
      exact ⟨(tokL_yes h1).1, (tokL_yes h1).2, h2.1, h2.2⟩
theorem ok_check {n v : List UInt8} (h0 : n ≠ []) (h1 : n.all tk = true) (h2 : v.all vl = true) (h3 : Cm.trim v = v) : checkL n v = 0 := by
  unfold checkL
  rw [tokL_of h0 h1, if_neg (by decide), h2, decide_eq_true h3, if_neg (by decide)]
theorem line_back {n v : List UInt8} (h : checkL n v = 0) : parseD (lineL n v) = (n, v, 0) := by
  obtain ⟨h0, h1, h2, h3⟩ := check_ok h
  unfold lineL
  by_cases hv : v = []
  · subst hv
    exact parse_form (x := []) (y := []) h0 h1 rfl rfl rfl h3
  · rw [if_neg hv]
    have := parse_form (x := [32]) (y := []) h0 h1 (by decide +kernel) rfl h2 h3
    rwa [List.append_nil, List.singleton_append] at this
theorem parse_ok {l : List UInt8} (h : (parseD l).2.2 = 0) : checkL (parseD l).1 (parseD l).2.1 = 0 ∧ (lineL (parseD l).1 (parseD l).2.1).length ≤ l.length + 1 := by
  unfold parseD at h ⊢
  split at h
  · cases h
  rename_i c1
  rw [if_neg c1]
  split at h
  · cases h
  rename_i c2
  rw [if_neg c2]
  split at h
  · cases h
  rename_i c3
  rw [if_neg c3]
  split at h
  · cases h
  rename_i c4
  rw [if_neg c4]
  split at h
  · cases h
  rename_i c5
  rw [if_neg c5]
  obtain ⟨N, b, r, hf⟩ := headD_form (Classical.byContradiction c2) (by simpa using c3)
  rw [hf.name, hf.hn'] at c4
  rw [hf.hn', hf.rest] at c5
  rw [hf.name, hf.hn', hf.rest]
  refine ⟨ok_check hf.ne hf.tok ?_ (Cm.trim_trim r), ?_⟩
  · have h5 : r.all vl = true := by simpa using c5
    rw [List.all_eq_true] at h5 ⊢
    intro c hc
    refine h5 c ?_
    rw [Cm.trim_eq] at hc
    have := (List.dropWhile_sublist Cm.bl).subset hc
    obtain ⟨b2, e1, _⟩ := R_form (p := Cm.bl) r
    rw [e1]
    exact List.mem_append_left _ this
  · have h6 := Cm.trim_le r
    have h7 := hf.lt
    show (N ++ 58 :: (if Cm.trim r = [] then [] else 32 :: Cm.trim r)).length ≤ _
    rw [List.length_append, List.length_cons]
    split
    · simp; omega
    · rw [List.length_cons]; omega
theorem parse_le (l : List UInt8) : (parseD l).1.length ≤ l.length ∧ (parseD l).2.1.length ≤ l.length := by
  unfold parseD
  have h1 := Cm.trim_le (l.take (nD l))
  have h2 := Cm.trim_le (l.drop (nD l + 1))
  rw [List.length_take] at h1
  rw [List.length_drop] at h2
  split
  · simp
  split
  · simp
  split
  · simp
  split
  · simp
  split
  · simp
  · exact ⟨by show (Cm.trim _).length ≤ _; omega, by show (Cm.trim _).length ≤ _; omega⟩
end Fl
end Go.Proofs.YtchhjmdbjndckaaDoor
