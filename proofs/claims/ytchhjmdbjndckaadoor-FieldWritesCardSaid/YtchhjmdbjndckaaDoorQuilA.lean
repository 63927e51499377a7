/- Rows of texts, and a quill, in a world; what they amount to. -/
import Derived.Test.YtchhjmdbjndckaaDoorScanA
import Derived.Laws.AppendOwnNone
import Derived.Laws.IdiomStrings
import Derived.Lib.AppendStr
import Derived.Lib.Builder
namespace Go.Proofs.YtchhjmdbjndckaaDoor
open Go.RowKit

theorem Kept.grown {P : Nat → Prop} {a b c : World} {row : Option Nat} (h : Kept P a b) (hg : b.grownBy c row) (hr : ∀ k, row = some k → P k ∨ a.heap.size ≤ k) : Kept P a c := by
  refine ⟨hg.os.trans h.os, hg.tape.trans h.tape, hg.output.trans h.output, Nat.le_trans h.size hg.size, fun i hi hn => ?_⟩
  have hne : some i ≠ row := by
    intro e
    rcases hr i e.symm with hp | hp
    · exact hn hp
    · omega
  exact (hg.block i (Nat.lt_of_lt_of_le hi h.size) hne).trans (h.block i hi hn)

/-- All texts, one behind the other. -/
def cat (ss : List ByteArray) : ByteArray := ⟨(flat ss).toArray⟩
theorem cat_data (ss : List ByteArray) : (cat ss).data.toList = flat ss := rfl
theorem cat_size (ss : List ByteArray) : (cat ss).size = (flat ss).length := by
  show (flat ss).toArray.size = _
  simp
theorem bytes_eq {a b : ByteArray} (h : a.data.toList = b.data.toList) : a = b := by
  obtain ⟨x⟩ := a
  obtain ⟨y⟩ := b
  congr 1
  exact Array.toList_inj.1 h
theorem list_append (a b : ByteArray) : (a ++ b).data.toList = a.data.toList ++ b.data.toList := by
  show (a ++ b).data.toList = _
  rw [ByteArray.data_append]
  simp
theorem flat_sizes (ss : List ByteArray) : (flat ss).length = (ss.map (·.size)).sum := by
  unfold flat
  rw [List.length_flatMap]
  congr 1
theorem getD_at (ss : List ByteArray) (k : Nat) (h : k < ss.length) : ss.getD k ByteArray.empty = ss[k] := by simp [List.getD, h]
theorem cat_snoc (ss : List ByteArray) (k : Nat) (h : k < ss.length) : cat (ss.take k) ++ ss.getD k ByteArray.empty = cat (ss.take (k + 1)) := by
  apply bytes_eq
  rw [list_append, cat_data, cat_data, flat_snoc ss k h, getD_at ss k h]
theorem cat_on (s : ByteArray) (ss : List ByteArray) (k : Nat) (h : k < ss.length) : (s ++ cat (ss.take k)) ++ ss.getD k ByteArray.empty = s ++ cat (ss.take (k + 1)) := by
  rw [← cat_snoc ss k h]
  apply bytes_eq
  simp
theorem cat_all (ss : List ByteArray) (k : Nat) (h : ss.length ≤ k) : cat (ss.take k) = cat ss := by rw [List.take_of_length_le h]
theorem cat_zero (ss : List ByteArray) : cat (ss.take 0) = ByteArray.empty := rfl
theorem cat_nil (s : ByteArray) (ss : List ByteArray) : s ++ cat (ss.take 0) = s := by
  apply bytes_eq
  rw [list_append, cat_data]
  simp [flat]
theorem flat_take_le (ss : List ByteArray) (k : Nat) : (flat (ss.take k)).length ≤ (flat ss).length := by
  conv => rhs; rw [← List.take_append_drop k ss]
  unfold flat
  rw [List.flatMap_append, List.length_append]
  omega
theorem flat_step (ss : List ByteArray) (k : Nat) (h : k < ss.length) : (flat (ss.take (k + 1))).length = (flat (ss.take k)).length + (ss.getD k ByteArray.empty).size := by
  rw [flat_snoc ss k h, List.length_append, getD_at ss k h]
  rfl
theorem flat_le (ss : List ByteArray) (k : Nat) (h : k < ss.length) : (flat (ss.take k)).length + (ss.getD k ByteArray.empty).size ≤ (flat ss).length := by
  rw [← flat_step ss k h]; exact flat_take_le ss (k + 1)
theorem cells_cat (s t : ByteArray) : Lib.strCells s ++ Lib.strCells t = Lib.strCells (s ++ t) := by
  unfold Lib.strCells
  rw [list_append, List.map_append]
theorem size_append (s t : ByteArray) : (s ++ t).size = s.size + t.size := by simp

/-- A row of texts in a world. -/
def IsTexts (w : World) (a : Option Addr) (len : Nat) (ss : List ByteArray) : Prop :=
  ss.length = len ∧ ((a = none ∧ len = 0) ∨ ∃ x, a = some x ∧ len ≤ 9223372036854775807 ∧ ∀ i, i < len → w.cell? (x.add i) = some (.string (ss.getD i ByteArray.empty)))
theorem IsTexts.small {w : World} {a : Option Addr} {len : Nat} {ss : List ByteArray} (h : IsTexts w a len ss) : len ≤ 9223372036854775807 := by
  rcases h.2 with ⟨_, rfl⟩ | ⟨x, _, hl, _⟩
  · omega
  · exact hl
theorem IsTexts.kept {P : Nat → Prop} {w w' : World} {a : Option Addr} {len : Nat} {ss : List ByteArray} (h : IsTexts w a len ss) (hk : Kept P w w') (hn : ∀ x, a = some x → ¬ P x.block) : IsTexts w' a len ss := by
  obtain ⟨h1, h3⟩ := h
  refine ⟨h1, ?_⟩
  rcases h3 with h | ⟨x, h, h', hc⟩
  · exact .inl h
  · refine .inr ⟨x, h, h', fun i hi => ?_⟩
    have hc := hc i hi
    have hb : (x.add i).block = x.block := by unfold Addr.add; split <;> rfl
    exact (hk.cell (p := x.add i) (lt_of_cell hc) (by rw [hb]; exact hn x h)).trans hc
theorem IsTexts.below {w w' : World} {a : Option Addr} {len : Nat} {ss : List ByteArray} (h : IsTexts w a len ss) (hb : Below w.heap.size w w') : IsTexts w' a len ss :=
  h.kept (P := fun _ => False) (Kept.of_below hb) (fun _ _ h => h)
theorem IsTexts.none (w : World) : IsTexts w none 0 [] := ⟨rfl, .inl ⟨rfl, rfl⟩⟩

/-- What a row of texts that was made by append is. -/
theorem own_form {w : World} {B : Nat} {e : TypeId} {z : Nat} {v : Value} {n : Nat} {xs : List Value} (h : w.ownsRow B e z v n xs) : ∃ a c, v = .slice a n c ∧ (a = none → n = 0 ∧ c = 0) ∧ (∀ x, a = some x → v.ownBlock = some x.block ∧ x = ⟨x.block, 0, none⟩) := by
  rcases h.2 with ⟨rfl, rfl⟩ | ⟨g, c, cur, rfl, _⟩
  · exact ⟨none, 0, rfl, fun _ => ⟨rfl, rfl⟩, fun x h => by cases h⟩
  · exact ⟨_, c, rfl, fun h => (by cases h), fun x h => (by cases h; exact ⟨rfl, rfl⟩)⟩
theorem own_strs {w : World} {B : Nat} {e : TypeId} {a : Option Addr} {n c : Nat} {ss : List ByteArray} (h : w.ownsRow B e 1 (.slice a n c) n (ss.map Value.string)) (hn : n ≤ 9223372036854775807) : IsTexts w a n ss := by
  have hl : ss.length = n := by have := h.1; simpa using this
  refine ⟨hl, ?_⟩
  cases a with
  | none =>
    rcases h.2 with ⟨h1, rfl⟩ | ⟨g, c', cur, h1, _⟩
    · exact .inl ⟨rfl, rfl⟩
    · cases h1
  | some x =>
    refine .inr ⟨x, rfl, hn, fun i hi => ?_⟩
    have hx : x = ⟨x.block, 0, none⟩ := by
      rcases h.2 with ⟨h1, _⟩ | ⟨g, c', cur, h1, _⟩
      · cases h1
      · cases h1; rfl
    have := h.cells (g := x.block) rfl i (.string (ss.getD i ByteArray.empty)) (by
      rw [List.getElem?_map, List.getElem?_eq_getElem (by omega), getD_at ss i (by omega)]
      rfl)
    rw [← hx] at this
    exact this

/-- The blocks that it calls its own. -/
def ownQ (b : Nat) (v : Value) (k : Nat) : Prop := k = b ∨ v.ownBlock = some k
/-- Blocks that a value calls its own now: they were its, or are new. -/
def NewOwn (v v' : Value) (w : World) : Prop := ∀ k, v'.ownBlock = some k → v.ownBlock = some k ∨ w.heap.size ≤ k
theorem NewOwn.refl (v : Value) (w : World) : NewOwn v v w := fun _ h => .inl h
theorem NewOwn.trans {v v' v'' : Value} {w w' : World} (h : NewOwn v v' w) (k : NewOwn v' v'' w') (hs : w.heap.size ≤ w'.heap.size) : NewOwn v v'' w := by
  intro x hx
  rcases k x hx with h1 | h1
  · exact h x h1
  · exact .inr (by omega)
theorem NewOwn.later {v v' : Value} {w w' : World} (k : NewOwn v v' w') (hs : w.heap.size ≤ w'.heap.size) : NewOwn v v' w := (NewOwn.refl v w).trans k hs
theorem own_weak {w : World} {B : Nat} {e : TypeId} {z : Nat} {v : Value} {n : Nat} {xs : List Value} (h : w.ownsRow B e z v n xs) : w.ownsRow 0 e z v n xs := by
  refine ⟨h.1, ?_⟩
  rcases h.2 with hv | ⟨g, c, cur, hv, _, hr⟩
  · exact .inl hv
  · exact .inr ⟨g, c, cur, hv, Nat.zero_le _, hr⟩
theorem own_kept {P : Nat → Prop} {w w' : World} {B : Nat} {e : TypeId} {z : Nat} {v : Value} {n : Nat} {xs : List Value} (h : w.ownsRow B e z v n xs) (hk : Kept P w w') (hn : ∀ k, v.ownBlock = some k → ¬ P k) : w'.ownsRow B e z v n xs := by
  refine ⟨h.1, ?_⟩
  rcases h.2 with hv | ⟨g, c, cur, hv, h0, hg, hr⟩
  · exact .inl hv
  · have hgl : g < w.heap.size := (Array.getElem?_eq_some_iff.1 hg).1
    exact .inr ⟨g, c, cur, hv, h0, (hk.block g hgl (hn g (by rw [hv]; rfl))).trans hg, hr⟩
theorem info_string : (Tryd.prog.info? 9).map (fun i => (i.zero, i.size, i.bytes)) = some (some (.string ⟨#[]⟩), 1, 16) := by kernel_rfl
/-- Bytes of a text, appended: what is owned then was owned, or is new. -/
theorem run_append_new {P : Program} (w : World) (t u ty e : TypeId) (i : TypeInfo) (ht : P.underlying t = some (.slice e)) (hu : P.underlying u = some .string) (hi : P.info? e = some i) (hz : i.zero = some (.int .u8 0))
    (hsize : i.size = 1) (hby : i.bytes = 1) (v : Value) (n : Nat) (xs : List Value) (hown : w.ownsRow 0 e 1 v n xs) (s : ByteArray) (h : n + s.size ≤ 140737488355328) :
    ∃ v' w', (Builtin.append_ #[t, u] ty #[v, .string s]).run P w = .ok v' w' ∧ w'.ownsRow 0 e 1 v' (n + s.size) (xs ++ Lib.strCells s) ∧ w.grownBy w' v.ownBlock ∧ NewOwn v v' w := by
  have hm : n + s.size ≤ maxLen := by unfold maxLen; omega
  rcases hown.2 with ⟨rfl, rfl⟩ | ⟨g, c, cur, rfl, h0, hg, hnc, hcm, hcs, htk⟩
  · have hx : xs = [] := List.eq_nil_of_length_eq_zero (by have := hown.1; simpa using this)
    subst hx
    obtain ⟨v', w', hr, h2, h3, _⟩ := Lib.run_append_own_string (P := P) w w.heap.size t u ty e i ht hu hi hz hsize hby (.slice none 0 0) 0 [] (World.ownsRow_nil _ _ _ _) s hm h (Nat.le_refl _)
    exact ⟨v', w', hr, own_weak h2, h3, fun k hk => .inr (h2.lt k hk).1⟩
  · obtain ⟨v', w', hr, h2, h3, _⟩ := Lib.run_append_own_string (P := P) w 0 t u ty e i ht hu hi hz hsize hby _ n xs hown s hm h (Nat.zero_le _)
    refine ⟨v', w', hr, h2, h3, ?_⟩
    by_cases hroom : n + s.size ≤ c
    · have hr' := Lib.run_append_room_string (P := P) w t u ty e i ht hu hi hsize g n c cur hg s hroom (by rw [hcs]; omega)
      rw [hr] at hr'
      injection hr' with e1 e2
      subst e1
      exact fun k hk => .inl hk
    · have hr' := Lib.run_append_grow_string (P := P) w t u ty e i (.int .u8 0) ht hu hi hz ⟨g, 0, none⟩ n c xs (by rw [hsize]; exact hown.1) (hown.cells (g := g) rfl) s (by omega) (by omega) (by rw [hby]; exact growslice_fits (by omega) (by omega))
      rw [hr] at hr'
      injection hr' with e1 e2
      subst e1
      intro k hk
      simp only [Value.ownBlock, Option.some.injEq] at hk
      exact .inr (by omega)
theorem wpList_append_new {P : Program} (w : World) {ops : Array Oper} {rest : List Oper} {o : Oper} {a : Act} {Q : Exit → Act → World → Prop} (hgd : o.guard = none) (sl x : Operand) (t u : TypeId)
    (ho : o.op = .call { callee := .builtin .append, args := #[sl, x], argTypes := #[t, u] }) (e : TypeId) (i : TypeInfo) (ht : P.underlying t = some (.slice e)) (hu : P.underlying u = some .string) (hi : P.info? e = some i) (hz : i.zero = some (.int .u8 0))
    (hsize : i.size = 1) (hby : i.bytes = 1) (v : Value) (n : Nat) (xs : List Value) (hs : a.eval sl = v) (hown : w.ownsRow 0 e 1 v n xs) (s : ByteArray) (hx : a.eval x = .string s) (hb : n + s.size ≤ 140737488355328)
    (h : ∀ v' w', w'.ownsRow 0 e 1 v' (n + s.size) (xs ++ Lib.strCells s) → w.grownBy w' v.ownBlock → NewOwn v v' w → wpList P ops Q rest (a.put o.dst v') w') : wpList P ops Q (o :: rest) a w := by
  refine wpList_plain hgd fun K hK => ?_
  obtain ⟨v', w', hr, h2, h3, h4⟩ := run_append_new (P := P) w t u o.type e i ht hu hi hz hsize hby v n xs hown s hb
  unfold Oper.wp execOp
  simp only [ho, resolve, invoke, builtin, Sem.run_bind, Sem.run_pure, Result.andThen_ok, List.map_toArray, List.map_cons, List.map_nil, hs, hx, hr]
  exact hK _ _ (h v' w' h2 h3 h4)

end Go.Proofs.YtchhjmdbjndckaaDoor
