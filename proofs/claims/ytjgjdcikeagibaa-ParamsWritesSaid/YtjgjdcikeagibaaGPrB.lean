/- Contracts and lemmas that the claim rests on: PrB. -/
import Derived.Test.YtjgjdcikeagibaaGPrA
import Derived.Test.YtjgjdcikeagibaaGQuil
/- Rows of params in a world: what they hold; one param appended. -/
namespace Go.Proofs.Ytjgjdcikeagibaa
open Go.RowKit

/-- A row's cells. -/
def cellsP : List Pair → List Value
  | [] => []
  | p :: r => .string p.1 :: .string p.2 :: cellsP r
theorem cellsP_len : ∀ l : List Pair, (cellsP l).length = l.length * 2
  | [] => rfl
  | p :: r => by
    show (cellsP r).length + 1 + 1 = (r.length + 1) * 2
    rw [cellsP_len r]; omega
theorem cellsP_app : ∀ l m : List Pair, cellsP (l ++ m) = cellsP l ++ cellsP m
  | [], _ => rfl
  | p :: r, m => by
    show _ :: _ :: cellsP (r ++ m) = _
    rw [cellsP_app r m]; rfl
/-- The pair at k. -/
def at_ (l : List Pair) (k : Nat) : Pair := l.getD k (ByteArray.empty, ByteArray.empty)
theorem at_get (l : List Pair) (k : Nat) (h : k < l.length) : at_ l k = l[k] := by unfold at_; simp [List.getD, h]
theorem at_mem (l : List Pair) (k : Nat) (h : k < l.length) : at_ l k ∈ l := by rw [at_get l k h]; exact List.getElem_mem h
theorem at_take (l : List Pair) (k : Nat) (h : k < l.length) : l.take k ++ [at_ l k] = l.take (k + 1) := by rw [at_get l k h, List.take_succ_eq_append_getElem h]
theorem at_drop (l : List Pair) (k : Nat) (h : k < l.length) : l.drop k = at_ l k :: l.drop (k + 1) := by rw [at_get l k h]; exact List.drop_eq_getElem_cons h
theorem cellsP_at : ∀ (l : List Pair) (i : Nat), i < l.length → (cellsP l)[i * 2]? = some (.string (at_ l i).1) ∧ (cellsP l)[i * 2 + 1]? = some (.string (at_ l i).2)
  | [], i, h => by simp at h
  | p :: r, 0, _ => ⟨rfl, rfl⟩
  | p :: r, i + 1, h => by
    have := cellsP_at r i (by simpa using h)
    rw [show (i + 1) * 2 = i * 2 + 1 + 1 by omega]
    exact this

/-- A row of params in a world. -/
def IsParams (w : World) (a : Option Addr) (len : Nat) (l : List Pair) : Prop :=
  l.length = len ∧ ((a = none ∧ len = 0) ∨ ∃ x, a = some x ∧ len ≤ 9223372036854775807 ∧ ∀ i, i < len → w.cell? (x.add (i * 2)) = some (.string (at_ l i).1) ∧ w.cell? ⟨(x.add (i * 2)).block, (x.add (i * 2)).off + 1, none⟩ = some (.string (at_ l i).2))
theorem add_block (x : Addr) (j : Nat) : (x.add j).block = x.block := by unfold Addr.add; split <;> rfl
theorem IsParams.small {w : World} {a : Option Addr} {len : Nat} {l : List Pair} (h : IsParams w a len l) : len ≤ 9223372036854775807 := by
  rcases h.2 with ⟨_, rfl⟩ | ⟨x, _, hl, _⟩
  · omega
  · exact hl
theorem IsParams.kept {P : Nat → Prop} {w w' : World} {a : Option Addr} {len : Nat} {l : List Pair} (h : IsParams w a len l) (hk : Kept P w w') (hn : ∀ x, a = some x → ¬ P x.block) : IsParams w' a len l := by
  obtain ⟨h1, h3⟩ := h
  refine ⟨h1, ?_⟩
  rcases h3 with h | ⟨x, h, h', hc⟩
  · exact .inl h
  · refine .inr ⟨x, h, h', fun i hi => ?_⟩
    obtain ⟨c0, c1⟩ := hc i hi
    have hb := add_block x (i * 2)
    refine ⟨(hk.cell (p := x.add (i * 2)) (lt_of_cell c0) (by rw [hb]; exact hn x h)).trans c0, ?_⟩
    exact (hk.cell (p := ⟨(x.add (i * 2)).block, (x.add (i * 2)).off + 1, none⟩) (lt_of_cell c1) (by show ¬ P (x.add (i * 2)).block; rw [hb]; exact hn x h)).trans c1
theorem IsParams.below {w w' : World} {a : Option Addr} {len : Nat} {l : List Pair} (h : IsParams w a len l) (hb : Below w.heap.size w w') : IsParams w' a len l :=
  h.kept (P := fun _ => False) (Kept.of_below hb) (fun _ _ h => h)
theorem IsParams.none (w : World) : IsParams w none 0 [] := ⟨rfl, .inl ⟨rfl, rfl⟩⟩
theorem IsParams.lt {w : World} {x : Addr} {len : Nat} {l : List Pair} (h : IsParams w (some x) len l) (hp : 0 < len) : x.block < w.heap.size := by
  rcases h.2 with ⟨h, _⟩ | ⟨y, hy, _, hc⟩
  · cases h
  · cases hy
    have := lt_of_cell (hc 0 hp).1
    rwa [add_block] at this

/-- A row of params that a call has made. -/
def OwnP (w : World) (base : Nat) (v : Value) (n : Nat) (l : List Pair) : Prop := w.ownsRow base 41 2 v n (cellsP l)
theorem OwnP.nil (w : World) (base : Nat) : OwnP w base (.slice none 0 0) 0 [] := World.ownsRow_nil _ _ _ _
theorem OwnP.len {w : World} {base : Nat} {v : Value} {n : Nat} {l : List Pair} (h : OwnP w base v n l) : l.length = n := by
  have := h.1
  rw [cellsP_len] at this
  omega
theorem OwnP.small {w : World} {base : Nat} {v : Value} {n : Nat} {l : List Pair} (h : OwnP w base v n l) : n ≤ 9223372036854775807 := own_small h
theorem OwnP.params {w : World} {base : Nat} {a : Option Addr} {n c : Nat} {l : List Pair} (h : OwnP w base (.slice a n c) n l) : IsParams w a n l := by
  have hl := h.len
  refine ⟨hl, ?_⟩
  cases a with
  | none =>
    rcases h.2 with ⟨h1, rfl⟩ | ⟨g, c', cur, h1, _⟩
    · exact .inl ⟨rfl, rfl⟩
    · cases h1
  | some x =>
    refine .inr ⟨x, rfl, h.small, fun i hi => ?_⟩
    have hx : x = ⟨x.block, 0, Option.none⟩ := by
      rcases h.2 with ⟨h1, _⟩ | ⟨g, c', cur, h1, _⟩
      · cases h1
      · cases h1; rfl
    obtain ⟨c0, c1⟩ := cellsP_at l i (by omega)
    have d0 := h.cells (g := x.block) rfl _ _ c0
    have d1 := h.cells (g := x.block) rfl _ _ c1
    rw [add_none] at d0 d1
    rw [hx, add_none]
    exact ⟨d0, d1⟩
theorem OwnP.lt {w : World} {base : Nat} {a : Option Addr} {n c : Nat} {l : List Pair} (h : OwnP w base (.slice a n c) n l) : ∀ x, a = some x → base ≤ x.block ∧ x.block < w.heap.size := fun x hx => by
  subst hx
  exact World.ownsRow.lt h x.block rfl
theorem OwnP.cap {w : World} {base : Nat} {a : Option Addr} {n c : Nat} {l : List Pair} (h : OwnP w base (.slice a n c) n l) : n ≤ c ∧ (a = none → c = 0) := by
  rcases h.2 with ⟨h1, rfl⟩ | ⟨g, c', cur, h1, _, _, h2, _⟩
  · cases h1; exact ⟨Nat.le_refl _, fun _ => rfl⟩
  · cases h1; exact ⟨h2, fun h => by cases h⟩
theorem OwnP.kept_ {P : Nat → Prop} {w w' : World} {base : Nat} {v : Value} {n : Nat} {l : List Pair} (h : OwnP w base v n l) (hk : Kept P w w') (hn : ∀ k, v.ownBlock = some k → ¬ P k) : OwnP w' base v n l := own_kept h hk hn
theorem OwnP.below {w w' : World} {base : Nat} {v : Value} {n : Nat} {l : List Pair} (h : OwnP w base v n l) (hb : Below w.heap.size w w') : OwnP w' base v n l := h.kept_ (P := fun _ => False) (Kept.of_below hb) (fun _ _ h => h)
theorem OwnP.base_ {w : World} {B B' : Nat} {v : Value} {n : Nat} {l : List Pair} (h : OwnP w B v n l) (hb : B' ≤ B) : OwnP w B' v n l := own_base h hb
theorem OwnP.form {w : World} {base : Nat} {v : Value} {n : Nat} {l : List Pair} (h : OwnP w base v n l) : ∃ a c, v = .slice a n c := by
  obtain ⟨a, c, h1, _⟩ := own_form h
  exact ⟨a, c, h1⟩
theorem OwnP.made (w : World) (cur : Array Value) (cap base : Nat) (hb : base ≤ w.heap.size) (hm : cap ≤ maxLen) (hs : cur.size = cap * 2) : OwnP (w.alloc (.cells cur 41)) base (.slice (some ⟨w.heap.size, 0, none⟩) 0 cap) 0 [] := World.ownsRow_made w cur cap hb hm hs

theorem info_param : (Try.prog.info? 41).map (fun i => (i.zero, i.size, i.bytes)) = some (some (.agg #[.string ⟨#[]⟩, .string ⟨#[]⟩]), 2, 32) := by kernel_rfl
/-- A param, appended to a row that is the call's own. -/
theorem wpList_append_param (w : World) {ops : Array Oper} {rest : List Oper} {o : Oper} {a : Act} {Q : Exit → Act → World → Prop} (hgd : o.guard = none) (s x : Operand)
    (ho : o.op = .call { callee := .builtin .append, args := #[s, x], argTypes := #[23, 23] }) (base : Nat)
    (v : Value) (n : Nat) (l : List Pair) (hs : a.eval s = v) (hown : OwnP w base v n l)
    (b c : Nat) (p : Pair) (hx : a.eval x = .slice (some ⟨b, 0, none⟩) 1 c) (hc : w.cell? ⟨b, 0, none⟩ = some (.string p.1)) (hc1 : w.cell? ⟨b, 1, none⟩ = some (.string p.2))
    (hn : n ≤ 200000000) (hbase : base ≤ w.heap.size)
    (h : ∀ a' c' w', OwnP w' base (.slice a' (n + 1) c') (n + 1) (l ++ [p]) → w.grownBy w' v.ownBlock → NewOwn v (.slice a' (n + 1) c') w → wpList Try.prog ops Q rest (a.put o.dst (.slice a' (n + 1) c')) w') : wpList Try.prog ops Q (o :: rest) a w := by
  obtain ⟨i0, hi, hz0, hz1, hz2⟩ := info_parts info_param
  refine wpList_plain hgd fun K hK => ?_
  obtain ⟨v', w', hr, h2, h3, h4⟩ := run_append_fresh (P := Try.prog) w base 23 o.type 41 i0 _ 2 32 Try.underlying23 hi hz0 hz1 hz2 rfl (by omega) v n _ hown ⟨b, 0, none⟩ 1 c [.string p.1, .string p.2] rfl
    (by
      intro j u hj
      rcases j with _ | _ | j
      · simp at hj; subst hj; exact hc
      · simp at hj; subst hj; exact hc1
      · simp at hj)
    (by
      intro u hu
      simp at hu
      rcases hu with rfl | rfl <;> rfl) (by omega) (by omega) hbase
  obtain ⟨a', c', rfl, _⟩ := own_form h2
  have h5 : OwnP w' base (.slice a' (n + 1) c') (n + 1) (l ++ [p]) := by
    show w'.ownsRow _ _ _ _ _ _
    rw [cellsP_app]
    exact h2
  unfold Oper.wp execOp
  simp only [ho, resolve, invoke, builtin, Sem.run_bind, Sem.run_pure, Result.andThen_ok, List.map_toArray, List.map_cons, List.map_nil, hs, hx, hr]
  exact hK _ _ (h a' c' w' h5 h3 h4)
/-- What a call hands back: a row of params, and whether it is right. -/
def Rows_ (o : Option (List Pair)) (w : World) (e : Ending) (w' : World) : Prop :=
  ∃ a n c, e = .returned (.tuple #[.slice a n c, .int .i64 (if o.isSome then 0 else 2)]) ∧ OwnP w' w.heap.size (.slice a n c) n (o.getD []) ∧ Below w.heap.size w w'
theorem Rows_.bad {o : Option (List Pair)} {w w' : World} {e : Ending} (h : o = none) (he : e = .returned (.tuple #[.slice none 0 0, .int .i64 2])) (hb : Below w.heap.size w w') : Rows_ o w e w' := by
  subst h
  exact ⟨none, 0, 0, he, OwnP.nil _ _, hb⟩
theorem Rows_.ok {o : Option (List Pair)} {l : List Pair} {w w' : World} {e : Ending} {a : Option Addr} {n c B : Nat} (h : o = some l) (he : e = .returned (.tuple #[.slice a n c, .int .i64 0])) (ho : OwnP w' B (.slice a n c) n l) (hB : w.heap.size ≤ B) (hb : Below w.heap.size w w') : Rows_ o w e w' := by
  subst h
  exact ⟨a, n, c, he, ho.base_ hB, hb⟩
end Go.Proofs.Ytjgjdcikeagibaa
