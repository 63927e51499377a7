/- A region that draws its order, by one look at each operation: whatever has been carried out before, each operation's value is as stated, in whatever world. Nothing here speaks of the program. -/
import Derived.WalkKit
namespace Go.Proofs.YtchhjmdbjndckaaDoor
open Go.RowKit
section
variable {P : Program} {ops : Array Oper} {Q : Exit → Act → World → Prop}

/-- Each operation's edges lead back, its slot lies within the frame, and no two write one slot. -/
def regOk (ops : Array Oper) (n : Nat) : Bool :=
  (List.range ops.size).all fun i => match ops[i]? with
    | none => true
    | some o => (o.after.all fun e => decide (e.on < i)) && (match o.dst with
      | none => true
      | some d => decide (d < n) && (List.range ops.size).all fun k => decide (k = i) || ((ops[k]?).bind (·.dst)) != some d)
theorem regOk_back {n i : Nat} {o : Oper} (h : regOk ops n = true) (ho : ops[i]? = some o) : ∀ e ∈ o.after, e.on < i := by
  have hi : i < ops.size := by obtain ⟨h1, _⟩ := Array.getElem?_eq_some_iff.1 ho; exact h1
  unfold regOk at h
  have := List.all_eq_true.1 h i (List.mem_range.2 hi)
  rw [ho] at this
  simp only [Bool.and_eq_true] at this
  intro e he
  have h2 := Array.all_eq_true_iff_forall_mem.1 this.1 e he
  simpa using h2
theorem regOk_slot {n i d : Nat} {o : Oper} (h : regOk ops n = true) (ho : ops[i]? = some o) (hd : o.dst = some d) : d < n ∧ ∀ k ok, ops[k]? = some ok → ok.dst = some d → k = i := by
  have hi : i < ops.size := by obtain ⟨h1, _⟩ := Array.getElem?_eq_some_iff.1 ho; exact h1
  unfold regOk at h
  have := List.all_eq_true.1 h i (List.mem_range.2 hi)
  rw [ho] at this
  simp only [Bool.and_eq_true, hd] at this
  refine ⟨by simpa using this.2.1, fun k ok hk hkd => ?_⟩
  have hk' : k < ops.size := by obtain ⟨h1, _⟩ := Array.getElem?_eq_some_iff.1 hk; exact h1
  have h2 := List.all_eq_true.1 this.2.2 k (List.mem_range.2 hk')
  rw [hk] at h2
  simp [hkd] at h2
  exact h2

/-- Operation k is asked for ahead of operation i. -/
def depOf (ops : Array Oper) (i j : Nat) : Prop := ∃ o, ops[i]? = some o ∧ ∃ e ∈ o.after, Region.binds .any e = true ∧ e.on = j

/-- What is known of the frame when some operations have been carried out. -/
structure RegInv (ops : Array Oper) (V : Nat → Value → World → Prop) (R : World → World → Prop) (a0 : Act) (w0 : World) (listed : Array Bool) (a : Act) (w : World) : Prop where
  size : listed.size = ops.size
  tmps : a.tmps.size = a0.tmps.size
  defers : a.defers = a0.defers
  grown : R w0 w
  closed : ∀ k, listed.getD k false = true → ∀ j, depOf ops k j → listed.getD j false = true
  old : ∀ t, (∀ k o, ops[k]? = some o → o.dst = some t → listed.getD k false = false) → a.tmps.getD t undef = a0.tmps.getD t undef
  said : ∀ k o d, listed.getD k false = true → ops[k]? = some o → o.dst = some d → V k (a.tmps.getD d undef) w

theorem getD_set (l : Array Bool) (i k : Nat) (hi : i < l.size) : (l.setIfInBounds i true).getD k false = if k = i then true else l.getD k false := by
  by_cases h : k = i
  · subst h; simp [hi]
  · have h' : ¬ i = k := fun e => h e.symm
    simp [h, h']

theorem put_getD_other (a : Act) (d : Option Tmp) (t : Tmp) (v : Value) (h : d ≠ some t) : (a.put d v).tmps.getD t undef = a.tmps.getD t undef := by
  cases d with
  | none => rfl
  | some d =>
    have : ¬ d = t := fun e => h (by rw [e])
    simp [Act.put, this]
theorem put_getD_same (a : Act) (d : Tmp) (v : Value) (h : d < a.tmps.size) : (a.put (some d) v).tmps.getD d undef = v := by
  simp [Act.put, h]
theorem put_tmps_size (a : Act) (d : Option Tmp) (v : Value) : (a.put d v).tmps.size = a.tmps.size := by cases d <;> simp [Act.put]
theorem put_defers (a : Act) (d : Option Tmp) (v : Value) : (a.put d v).defers = a.defers := by cases d <;> rfl

/-- One operation more. -/
theorem RegInv.step {V : Nat → Value → World → Prop} {R : World → World → Prop} (hRt : ∀ a b c, R a b → R b c → R a c) (hV : ∀ i v w w', V i v w → R w w' → V i v w')
    {a0 a : Act} {w0 w w' : World} {listed : Array Bool} {i : Nat} {o : Oper} {v : Value} (hok : regOk ops a0.tmps.size = true) (h : RegInv ops V R a0 w0 listed a w) (ho : ops[i]? = some o)
    (hready : i ∈ Region.ready .any ops listed) (hv : V i v w') (hR : R w w') : RegInv ops V R a0 w0 (listed.setIfInBounds i true) (a.put o.dst v) w' := by
  have hi : i < ops.size := by obtain ⟨h1, _⟩ := Array.getElem?_eq_some_iff.1 ho; exact h1
  have hil : i < listed.size := by rw [h.size]; exact hi
  unfold Region.ready at hready
  obtain ⟨_, hr⟩ := List.mem_filter.1 hready
  rw [ho] at hr
  simp only [Bool.and_eq_true, Option.map_some, Option.getD_some] at hr
  refine ⟨by simpa using h.size, by rw [put_tmps_size]; exact h.tmps, by rw [put_defers]; exact h.defers, hRt _ _ _ h.grown hR, ?_, ?_, ?_⟩
  · intro k hk j hj
    rw [getD_set _ _ _ hil] at hk ⊢
    by_cases e : j = i
    · rw [if_pos e]
    · rw [if_neg e]
      by_cases ek : k = i
      · subst ek
        obtain ⟨o', ho', x, hx, hb, hon⟩ := hj
        rw [ho] at ho'
        obtain rfl := Option.some.inj ho'
        have h2 := Array.all_eq_true_iff_forall_mem.1 hr.2 x hx
        rw [hb, hon] at h2
        simpa using h2
      · rw [if_neg ek] at hk
        exact h.closed k hk j hj
  · intro t ht
    have hne : o.dst ≠ some t := by
      intro e
      have := ht i o ho e
      rw [getD_set _ _ _ hil, if_pos rfl] at this
      simp at this
    rw [put_getD_other _ _ _ _ hne]
    refine h.old t fun k ok hk hkd => ?_
    have := ht k ok hk hkd
    rw [getD_set _ _ _ hil] at this
    by_cases e : k = i
    · rw [if_pos e] at this; simp at this
    · rwa [if_neg e] at this
  · intro k ok d hk hko hkd
    rw [getD_set _ _ _ hil] at hk
    by_cases e : k = i
    · subst e
      rw [ho] at hko
      obtain rfl := Option.some.inj hko
      rw [hkd, put_getD_same _ _ _ (by rw [h.tmps]; exact (regOk_slot hok ho hkd).1)]
      exact hv
    · rw [if_neg e] at hk
      have hne : o.dst ≠ some d := fun e2 => e ((regOk_slot hok ho e2).2 k ok hko hkd)
      rw [put_getD_other _ _ _ _ hne]
      exact hV _ _ _ _ (h.said k ok d hk hko hkd) hR

/-- How many are still to come. -/
def toCome (n : Nat) (listed : Array Bool) : Nat := (List.range n).countP fun i => !listed.getD i false
theorem toCome_set (n : Nat) (listed : Array Bool) (i : Nat) (hi : i < n) (hl : i < listed.size) (hno : listed.getD i false = false) : toCome n (listed.setIfInBounds i true) < toCome n listed := by
  unfold toCome
  have hle : ∀ (l : List Nat), l.countP (fun k => !(listed.setIfInBounds i true).getD k false) ≤ l.countP (fun k => !listed.getD k false) := by
    intro l
    refine List.countP_mono_left fun k _ hk => ?_
    rw [getD_set _ _ _ hl] at hk
    by_cases e : k = i
    · rw [if_pos e] at hk; simp at hk
    · rwa [if_neg e] at hk
  have hsplit : List.range n = List.range i ++ (i :: (List.range (n - i - 1)).map (· + (i + 1))) := by
    have e : n = i + (1 + (n - i - 1)) := by omega
    conv => lhs; rw [e]
    rw [List.range_add, List.range_add]
    simp [List.range_succ]
    intro a _
    omega
  rw [hsplit, List.countP_append, List.countP_append, List.countP_cons, List.countP_cons]
  have h1 := hle (List.range i)
  have h2 := hle ((List.range (n - i - 1)).map (· + (i + 1)))
  have h3 : (!(listed.setIfInBounds i true).getD i false) = false := by rw [getD_set _ _ _ hl, if_pos rfl]; rfl
  have h4 : (!listed.getD i false) = true := by rw [hno]; rfl
  rw [h3, h4]
  simp only [Bool.false_eq_true, if_false, if_true]
  omega

/-- Where nothing may come up any more, all has come. -/
theorem all_listed {n : Nat} {listed : Array Bool} (hok : regOk ops n = true) (hs : listed.size = ops.size) (hr : Region.ready .any ops listed = []) : ∀ i, i < ops.size → listed.getD i false = true := by
  intro i
  induction i using Nat.strongRecOn with
  | ind i ih =>
    intro hi
    by_cases h : listed.getD i false = true
    · exact h
    · exfalso
      have hm : i ∈ Region.ready .any ops listed := by
        unfold Region.ready
        refine List.mem_filter.2 ⟨List.mem_range.2 hi, ?_⟩
        have ho : ops[i]? = some ops[i] := Array.getElem?_eq_getElem hi
        rw [ho]
        simp only [Bool.and_eq_true, Option.map_some, Option.getD_some]
        refine ⟨?_, Array.all_eq_true_iff_forall_mem.2 fun e he => ?_⟩
        · have hl : i < listed.size := by rw [hs]; exact hi
          simp [hl] at h ⊢
          exact h
        · have hlt := regOk_back hok ho e he
          rw [ih e.on hlt (by omega)]
          simp
      rw [hr] at hm
      simp at hm

/-- The law: one look at each operation. -/
theorem wp_region_said {id : Nat} {a0 : Act} {w0 : World} (hm : P.follows .mixedOrders = true) (V : Nat → Value → World → Prop) (R : World → World → Prop) (hR0 : ∀ w, R w w) (hRt : ∀ a b c, R a b → R b c → R a c)
    (hV : ∀ i v w w', V i v w → R w w' → V i v w') (hok : regOk ops a0.tmps.size = true)
    (hstep : ∀ (i : Nat) (o : Oper), ops[i]? = some o → ∀ a w, a.tmps.size = a0.tmps.size → a.defers = a0.defers → R w0.drew w →
      (∀ t, (∀ (k : Nat) (ok : Oper), ops[k]? = some ok → ok.dst = some t → k = i ∨ depOf ops k i) → a.tmps.getD t undef = a0.tmps.getD t undef) →
      (∀ (j : Nat) (oj : Oper) (d : Tmp), depOf ops i j → ops[j]? = some oj → oj.dst = some d → V j (a.tmps.getD d undef) w) →
      wpOp P ops Q i (fun a' w' => ∃ v, a' = a.put o.dst v ∧ V i v w' ∧ R w w') a w)
    (hfin : ∀ a w, a.tmps.size = a0.tmps.size → a.defers = a0.defers → R w0.drew w → (∀ t, (∀ (k : Nat) (ok : Oper), ops[k]? = some ok → ok.dst ≠ some t) → a.tmps.getD t undef = a0.tmps.getD t undef) →
      (∀ (j : Nat) (oj : Oper) (d : Tmp), ops[j]? = some oj → oj.dst = some d → V j (a.tmps.getD d undef) w) → Q .normal a w) :
    (Code.region id ops true).wp P Q a0 w0 := by
  have main : ∀ (fuel : Nat) (listed : Array Bool) (a : Act) (w : World), RegInv ops V R a0 w0.drew listed a w → toCome ops.size listed ≤ fuel → wpAny P .any ops Q fuel listed a w := by
    have fin : ∀ (listed : Array Bool) (a : Act) (w : World), RegInv ops V R a0 w0.drew listed a w → Region.ready .any ops listed = [] → Q .normal a w := by
      intro listed a w h hr
      have hall := all_listed hok h.size hr
      refine hfin a w h.tmps h.defers h.grown (fun t ht => h.old t fun k ok hk hkd => absurd hkd (ht k ok hk)) fun j oj d hj hd => ?_
      have hlt : j < ops.size := by obtain ⟨h1, _⟩ := Array.getElem?_eq_some_iff.1 hj; exact h1
      exact h.said j oj d (hall j hlt) hj hd
    intro fuel
    induction fuel with
    | zero =>
      intro listed a w h hc
      have hr : Region.ready .any ops listed = [] := by
        unfold Region.ready
        refine List.filter_eq_nil_iff.2 fun i hi hcon => ?_
        have h0 : toCome ops.size listed = 0 := by omega
        unfold toCome at h0
        have h1 := List.countP_eq_zero.1 h0 i hi
        have hl : i < listed.size := by rw [h.size]; exact List.mem_range.1 hi
        simp [hl] at h1 hcon
        rw [h1] at hcon
        simp at hcon
      exact ⟨hr, fin listed a w h hr⟩
    | succ fuel ih =>
      intro listed a w h hc
      refine ⟨fun hr => fin listed a w h hr, fun i hi => ?_⟩
      have hi' := hi
      unfold Region.ready at hi'
      obtain ⟨hrange, hcond⟩ := List.mem_filter.1 hi'
      have hlt : i < ops.size := List.mem_range.1 hrange
      have hl : i < listed.size := by rw [h.size]; exact hlt
      have ho : ops[i]? = some ops[i] := Array.getElem?_eq_getElem hlt
      have hno : listed.getD i false = false := by
        simp only [Bool.and_eq_true] at hcond
        have := hcond.1
        simp [hl] at this ⊢
        exact this
      refine wpOp_mono ?_ (hstep i ops[i] ho a w h.tmps h.defers h.grown (fun t ht => h.old t fun k ok hk hkd => ?_) fun j oj d hj hoj hd => ?_)
      · rintro a' w' ⟨v, rfl, hv, hR⟩
        exact ih _ _ _ (RegInv.step hRt hV hok h ho hi hv hR) (by have := toCome_set ops.size listed i hlt hl hno; omega)
      · rcases ht k ok hk hkd with rfl | hdep
        · exact hno
        · by_cases hkl : listed.getD k false = true
          · have := h.closed k hkl i hdep
            rw [hno] at this
            simp at this
          · simpa using hkl
      · refine h.said j oj d ?_ hoj hd
        rw [ho] at hcond
        simp only [Bool.and_eq_true, Option.map_some, Option.getD_some] at hcond
        obtain ⟨o', ho', x, hx, hb, hon⟩ := hj
        rw [ho] at ho'
        obtain rfl := Option.some.inj ho'
        have h2 := Array.all_eq_true_iff_forall_mem.1 hcond.2 x hx
        rw [hb, hon] at h2
        simpa using h2
  refine wp_region_any hm ?_
  refine main _ _ a0 w0.drew ⟨by simp, rfl, rfl, hR0 _, ?_, fun _ _ => rfl, ?_⟩ ?_
  · intro k hk
    by_cases hks : k < ops.size <;> simp [hks] at hk
  · intro k o d hk
    by_cases hks : k < ops.size <;> simp [hks] at hk
  · unfold toCome
    exact Nat.le_trans List.countP_le_length (by simp)

/-- A frame, slot by slot. -/
theorem act_eq (a : Act) (n : Nat) (h : a.tmps.size = n) (hd : a.defers = []) : a = ⟨((List.range n).map fun i => a.tmps.getD i undef).toArray, []⟩ := by
  obtain ⟨t, d⟩ := a
  simp only at h hd
  subst hd
  subst h
  congr 1
  apply Array.ext
  · simp
  · intro i h1 h2
    simp [h1]

/-! The same with closed conditions, for worlds that only grow. -/
/-- What an operation's value is, in whatever later world. -/
structure Spec where
  says : Value → World → Prop
  stays : ∀ v w w', says v w → Below w.heap.size w w' → says v w'
def Spec.is (c : Value) : Spec := ⟨fun v _ => v = c, fun _ _ _ h _ => h⟩
def Spec.any : Spec := ⟨fun _ _ => True, fun _ _ _ h _ => h⟩
/-- A new row of one cell. -/
def Spec.one (base : Nat) (c : Value) : Spec :=
  ⟨fun v w => ∃ b, v = .slice (some ⟨b, 0, none⟩) 1 1 ∧ base ≤ b ∧ b < w.heap.size ∧ w.cell? ⟨b, 0, none⟩ = some c,
   fun _ _ _ ⟨b, h1, h2, h3, h4⟩ k => ⟨b, h1, h2, Nat.lt_of_lt_of_le h3 k.size, by rw [k.cell h3]; exact h4⟩⟩
/-- Where the guard holds. -/
def Spec.when (b : Bool) (s : Spec) : Spec := match b with
  | true => s
  | false => Spec.any
/-- A function value over a box that holds c. -/
def Spec.boxed (f : Nat) (c : Value) : Spec :=
  ⟨fun v w => ∃ b, v = .func (.func f) #[] #[.pointer (some ⟨b, 0, none⟩)] ∧ b < w.heap.size ∧ w.cell? ⟨b, 0, none⟩ = some c,
   fun _ _ _ ⟨b, h1, h3, h4⟩ k => ⟨b, h1, Nat.lt_of_lt_of_le h3 k.size, by rw [k.cell h3]; exact h4⟩⟩
/-- A new row of these cells. -/
def Spec.row (cs : List Value) : Spec :=
  ⟨fun v w => ∃ b, v = .slice (some ⟨b, 0, none⟩) cs.length cs.length ∧ b < w.heap.size ∧ ∀ i c, cs[i]? = some c → w.cell? ⟨b, i, none⟩ = some c,
   fun _ _ _ ⟨b, h1, h3, h4⟩ k => ⟨b, h1, Nat.lt_of_lt_of_le h3 k.size, fun i c h => by rw [k.cell h3]; exact h4 i c h⟩⟩
def sayOf (specs : List Spec) (i : Nat) : Value → World → Prop := ((specs[i]?).getD Spec.any).says
def dstOf (ops : Array Oper) (j : Nat) : Option Tmp := (ops[j]?).bind (·.dst)
def depB (ops : Array Oper) (i j : Nat) : Bool := match ops[i]? with
  | none => false
  | some o => o.after.any fun e => Region.binds .any e && e.on == j
def freeB (ops : Array Oper) (i t : Nat) : Bool := (List.range ops.size).all fun k => dstOf ops k != some t || k == i || depB ops k i
def otherB (ops : Array Oper) (t : Nat) : Bool := (List.range ops.size).all fun k => dstOf ops k != some t
theorem depOf_of {i j : Nat} (h : depB ops i j = true) : depOf ops i j := by
  unfold depB at h
  split at h
  · simp at h
  · rename_i o ho
    rw [← Array.any_toList] at h
    obtain ⟨e, he, hh⟩ := List.any_eq_true.1 h
    simp only [Bool.and_eq_true, beq_iff_eq] at hh
    exact ⟨o, ho, e, by simpa using he, hh.1, hh.2⟩
theorem yielded_of {a : Act} {g : Nat} {d : Tmp} {b : Bool} (hd : dstOf ops g = some d) (h : a.tmps.getD d undef = .bool b) : yielded ops a.tmps g = some b := by
  unfold dstOf at hd
  unfold yielded
  rw [hd]
  rcases hx : a.tmps[d]? with _ | x
  · have : a.tmps.getD d undef = undef := by simp [Array.getD_eq_getD_getElem?, hx]
    rw [this] at h
    simp [undef] at h
  · have : a.tmps.getD d undef = x := by simp [Array.getD_eq_getD_getElem?, hx]
    rw [this] at h
    subst h
    simp [hx]
theorem want_of {a : Act} {o : Oper} {g : Nat} {d : Tmp} {b : Bool} (ho : o.guard = some (g, b)) (hd : dstOf ops g = some d) (h : a.tmps.getD d undef = .bool b) : Region.wanted o (yielded ops a.tmps) = true := by
  unfold Region.wanted; rw [ho]; simp [yielded_of hd h]
theorem unwant_of {a : Act} {o : Oper} {g : Nat} {d : Tmp} {b c : Bool} (ho : o.guard = some (g, b)) (hd : dstOf ops g = some d) (h : a.tmps.getD d undef = .bool c) (hc : (c == b) = false := by rfl) : Region.wanted o (yielded ops a.tmps) = false := by
  unfold Region.wanted; rw [ho]; simp only [yielded_of hd h]
  cases b <;> cases c <;> first | rfl | cases hc
theorem unwant_undef {a : Act} {o : Oper} {g : Nat} {d : Tmp} {b : Bool} (ho : o.guard = some (g, b)) (hd : dstOf ops g = some d) (h : a.tmps.getD d undef = undef) : Region.wanted o (yielded ops a.tmps) = false := by
  have e : yielded ops a.tmps g = none := by
    unfold dstOf at hd
    unfold yielded
    rw [hd]
    rcases hx : a.tmps[d]? with _ | x
    · simp [hx]
    · have : a.tmps.getD d undef = x := by simp [Array.getD_eq_getD_getElem?, hx]
      rw [this] at h
      subst h
      simp [hx, undef]
  unfold Region.wanted; rw [ho]; simp [e]
/-- Something of each operation, one behind the other. -/
def AllOps (Pr : Nat → Oper → Prop) : List Oper → Nat → Prop
  | [], _ => True
  | o :: r, k => Pr k o ∧ AllOps Pr r (k + 1)
theorem AllOps.get {Pr : Nat → Oper → Prop} : ∀ {l : List Oper} {k : Nat}, AllOps Pr l k → ∀ i o, l[i]? = some o → Pr (k + i) o
  | [], _, _, i, o, h => by simp at h
  | x :: r, k, h, 0, o, ho => by simp at ho; subst ho; exact h.1
  | x :: r, k, h, i + 1, o, ho => by
    have := AllOps.get (l := r) (k := k + 1) h.2 i o (by simpa using ho)
    rw [show k + (i + 1) = k + 1 + i from by omega]
    exact this
/-- What is asked of one operation. -/
def StepOk (P : Program) (ops : Array Oper) (Q : Exit → Act → World → Prop) (specs : List Spec) (a0 : Act) (w0 : World) (i : Nat) (o : Oper) : Prop :=
  ∀ (a : Act) (w : World), a.tmps.size = a0.tmps.size → Below w0.heap.size w0 w →
    (∀ t, freeB ops i t = true → a.tmps.getD t undef = a0.tmps.getD t undef) →
    (∀ j d, depB ops i j = true → dstOf ops j = some d → sayOf specs j (a.tmps.getD d undef) w) →
    ∀ K : Act → World → Prop, (∀ v w', sayOf specs i v w' → Below w.heap.size w w' → K (a.put o.dst v) w') →
      (Region.wanted o (yielded ops a.tmps) = true ∧ o.wp P a w K Q) ∨ (Region.wanted o (yielded ops a.tmps) = false ∧ K (a.put o.dst undef) w)
theorem wp_region_specs {id : Nat} {a0 : Act} {w0 : World} (hm : P.follows .mixedOrders = true) (specs : List Spec) (hok : regOk ops a0.tmps.size = true)
    (hstep : AllOps (StepOk P ops Q specs a0 w0) ops.toList 0)
    (hfin : ∀ a w, a.tmps.size = a0.tmps.size → a.defers = a0.defers → Below w0.heap.size w0 w → (∀ t, otherB ops t = true → a.tmps.getD t undef = a0.tmps.getD t undef) →
      (∀ j d, dstOf ops j = some d → sayOf specs j (a.tmps.getD d undef) w) → Q .normal a w) :
    (Code.region id ops true).wp P Q a0 w0 := by
  refine wp_region_said hm (sayOf specs) (fun w w' => Below w.heap.size w w') (fun w => Below.refl _ _) (fun a b c h k => h.trans (k.mono h.size)) (fun i v w w' h k => ((specs[i]?).getD Spec.any).stays v w w' h k) hok ?_ ?_
  · intro i o ho a w hs hd hR hold hdep
    have hst := AllOps.get hstep i o (by simpa using ho)
    rw [Nat.zero_add] at hst
    have hst' := hst a w hs (show Below w0.heap.size w0 w from (Below.refl w0.heap.size w0).drew.trans hR) (fun t ht => hold t fun k ok hk hkd => ?_) (fun j d hj hjd => ?_) (fun a' w' => ∃ v, a' = a.put o.dst v ∧ sayOf specs i v w' ∧ Below w.heap.size w w')
      (fun v w' h1 h2 => ⟨v, rfl, h1, h2⟩)
    · unfold wpOp
      simp only [ho]
      rcases hst' with ⟨h1, h2⟩ | ⟨h1, h2⟩
      · rw [if_pos h1]; exact Or.inl h2
      · rw [if_neg (by rw [h1]; simp)]; exact h2
    · have hk' : k < ops.size := by obtain ⟨h1, _⟩ := Array.getElem?_eq_some_iff.1 hk; exact h1
      have h1 := List.all_eq_true.1 ht k (List.mem_range.2 hk')
      have h2 : dstOf ops k = some t := by unfold dstOf; rw [hk]; exact hkd
      simp only [h2, Bool.or_eq_true, beq_iff_eq] at h1
      rcases h1 with (h1 | h1) | h1
      · simp at h1
      · exact Or.inl h1
      · exact Or.inr (depOf_of h1)
    · rcases ho2 : ops[j]? with _ | oj
      · unfold dstOf at hjd; rw [ho2] at hjd; simp at hjd
      · exact hdep j oj d (depOf_of hj) ho2 (by unfold dstOf at hjd; rw [ho2] at hjd; exact hjd)
  · intro a w hs hd hR hold hall
    refine hfin a w hs hd ((Below.refl w0.heap.size w0).drew.trans hR) (fun t ht => hold t fun k ok hk hkd => ?_) fun j d hjd => ?_
    · have hk' : k < ops.size := by obtain ⟨h1, _⟩ := Array.getElem?_eq_some_iff.1 hk; exact h1
      have h1 := List.all_eq_true.1 ht k (List.mem_range.2 hk')
      have h2 : dstOf ops k = some t := by unfold dstOf; rw [hk]; exact hkd
      simp [h2] at h1
    · rcases ho2 : ops[j]? with _ | oj
      · unfold dstOf at hjd; rw [ho2] at hjd; simp at hjd
      · exact hall j oj d ho2 (by unfold dstOf at hjd; rw [ho2] at hjd; exact hjd)
end
end Go.Proofs.YtchhjmdbjndckaaDoor
