/- Rows that are the call's own: appended, and what they hold. -/
import Derived.Test.YtchhjmdbjndckaaDoorQuilA
namespace Go.Proofs.YtchhjmdbjndckaaDoor
open Go.RowKit

theorem own_base {w : World} {B B' : Nat} {e : TypeId} {z : Nat} {v : Value} {n : Nat} {xs : List Value} (h : w.ownsRow B e z v n xs) (hb : B' ≤ B) : w.ownsRow B' e z v n xs := by
  refine ⟨h.1, ?_⟩
  rcases h.2 with hv | ⟨g, c, cur, hv, h0, hr⟩
  · exact .inl hv
  · exact .inr ⟨g, c, cur, hv, Nat.le_trans hb h0, hr⟩
theorem texts_snoc (acc : List ByteArray) (x : ByteArray) : acc.map Value.string ++ [.string x] = (acc ++ [x]).map Value.string := by simp

/-- Cells of a row, appended: what is owned then was owned, or is new. -/
theorem run_append_fresh {P : Program} (w : World) (base : Nat) (t ty e : TypeId) (i : TypeInfo) (z : Value) (size bytes : Nat) (ht : P.underlying t = some (.slice e)) (hi : P.info? e = some i) (hz : i.zero = some z)
    (hsize : i.size = size) (hby : i.bytes = bytes) (hzs : z.cells.size = size) (hsz : 0 < size)
    (v : Value) (n : Nat) (xs : List Value) (hown : w.ownsRow base e size v n xs)
    (a : Addr) (m c : Nat) (news : List Value) (hl : news.length = m * size) (hnews : ∀ j u, news[j]? = some u → w.cell? (a.add j) = some u) (h1 : ∀ u ∈ news, u.oneCell' = true)
    (h63 : n + m ≤ 9223372036854775807) (hbytes : (n + m) * bytes ≤ 140737488355328) (hbase : base ≤ w.heap.size) :
    ∃ v' w', (Builtin.append_ #[t, t] ty #[v, .slice (some a) m c]).run P w = .ok v' w' ∧ w'.ownsRow base e size v' (n + m) (xs ++ news) ∧ w.grownBy w' v.ownBlock ∧ NewOwn v v' w := by
  have hm : n + m ≤ maxLen := by unfold maxLen; omega
  obtain ⟨v', w', hr, h2, h3, _⟩ := run_append_own (P := P) w base t ty e i z size bytes ht hi hz hsize hby hzs hsz v n xs hown a m c news hl hnews h1 hm hbytes hbase
  refine ⟨v', w', hr, h2, h3, ?_⟩
  rcases hown.2 with ⟨rfl, rfl⟩ | ⟨g, cap, cur, rfl, hbg, hg, hnc, hcm, hcs, htake⟩
  · have hx : xs = [] := List.eq_nil_of_length_eq_zero (by have := hown.1; simpa using this)
    subst hx
    obtain ⟨v2, w2, hr2, h22, _, _⟩ := run_append_own (P := P) w w.heap.size t ty e i z size bytes ht hi hz hsize hby hzs hsz (.slice none 0 0) 0 [] (World.ownsRow_nil _ _ _ _) a m c news hl hnews h1 hm hbytes (Nat.le_refl _)
    rw [hr] at hr2
    injection hr2 with e1 e2
    subst e1
    subst e2
    exact fun k hk => .inr (h22.lt k hk).1
  · subst hsize
    subst hby
    by_cases hroom : n + m ≤ cap
    · have hr2 := run_append_room (P := P) w t ty e i ht hi g n cap cur hg a m c news hl hnews h1 hroom (by rw [hl, hcs, ← Nat.add_mul]; exact Nat.mul_le_mul_right _ hroom)
      rw [hr] at hr2
      injection hr2 with e1 e2
      subst e1
      exact fun k hk => .inl hk
    · have hr2 := run_append_grow (P := P) w t ty e i z ht hi hz ⟨g, 0, none⟩ n cap xs hown.1 (hown.cells (g := g) rfl) a m c news hl hnews (by omega) (by omega) (growslice_fits (by omega) hbytes)
      rw [hr] at hr2
      injection hr2 with e1 e2
      subst e1
      intro k hk
      simp only [Value.ownBlock, Option.some.injEq] at hk
      exact .inr (by omega)
/-- A text, appended to a row of texts that is the call's own. -/
theorem wpList_append_text (w : World) {ops : Array Oper} {rest : List Oper} {o : Oper} {a : Act} {Q : Exit → Act → World → Prop} (hgd : o.guard = none) (s x : Operand)
    (ho : o.op = .call { callee := .builtin .append, args := #[s, x], argTypes := #[52, 52] }) (base : Nat)
    (v : Value) (n : Nat) (l : List ByteArray) (hs : a.eval s = v) (hown : w.ownsRow base 9 1 v n (l.map Value.string))
    (b c : Nat) (y : ByteArray) (hx : a.eval x = .slice (some ⟨b, 0, none⟩) 1 c) (hc : w.cell? ⟨b, 0, none⟩ = some (.string y))
    (hn : n ≤ 200000000) (hbase : base ≤ w.heap.size)
    (h : ∀ a' c' w', w'.ownsRow base 9 1 (.slice a' (n + 1) c') (n + 1) ((l ++ [y]).map Value.string) → w.grownBy w' v.ownBlock → NewOwn v (.slice a' (n + 1) c') w → wpList Tryd.prog ops Q rest (a.put o.dst (.slice a' (n + 1) c')) w') : wpList Tryd.prog ops Q (o :: rest) a w := by
  obtain ⟨i0, hi, hz0, hz1, hz2⟩ := info_parts info_string
  refine wpList_plain hgd fun K hK => ?_
  obtain ⟨v', w', hr, h2, h3, h4⟩ := run_append_fresh (P := Tryd.prog) w base 52 o.type 9 i0 _ 1 16 Tryd.underlying52 hi hz0 hz1 hz2 rfl (by omega) v n _ hown ⟨b, 0, none⟩ 1 c [.string y] rfl (by intro j u hj; rcases j with _ | j <;> simp at hj; subst hj; exact hc) (by intro u hu; simp at hu; subst hu; rfl) (by omega) (by omega) hbase
  obtain ⟨a', c', rfl, _⟩ := own_form h2
  rw [texts_snoc] at h2
  unfold Oper.wp execOp
  simp only [ho, resolve, invoke, builtin, Sem.run_bind, Sem.run_pure, Result.andThen_ok, List.map_toArray, List.map_cons, List.map_nil, hs, hx, hr]
  exact hK _ _ (h a' c' w' h2 h3 h4)

theorem own_len {w : World} {B : Nat} {v : Value} {n : Nat} {x : List ByteArray} (h : w.ownsRow B 9 1 v n (x.map Value.string)) : x.length = n := by have := h.1; simpa using this
theorem own_small {w : World} {B : Nat} {e : TypeId} {z : Nat} {v : Value} {n : Nat} {xs : List Value} (h : w.ownsRow B e z v n xs) : n ≤ 9223372036854775807 := by
  rcases h.2 with ⟨_, rfl⟩ | ⟨_, cap, _, _, _, _, h1, h2, _⟩
  · omega
  · unfold maxLen at h2
    omega
def strLen : Value → Nat
  | .string s => s.size
  | _ => 0
/-- What a row that a call has made gives. -/
theorem row_facts {w : World} {B : Nat} {a : Option Addr} {n c : Nat} {ss : List ByteArray} (h : w.ownsRow B 9 1 (.slice a n c) n (ss.map Value.string)) (hs : ss.length ≤ 1000) :
    n = ss.length ∧ IsTexts w a n ss ∧ (a = none → c = 0) ∧ (∀ x, a = some x → x = ⟨x.block, 0, none⟩ ∧ x.block < w.heap.size) ∧ n ≤ c := by
  have hl : ss.length = n := by have := h.1; simpa using this
  refine ⟨hl.symm, own_strs h (by omega), ?_, ?_, ?_⟩
  · rintro rfl
    rcases h.2 with ⟨h1, _⟩ | ⟨g, c', cur, h1, _⟩
    · cases h1; rfl
    · cases h1
  · rintro x rfl
    refine ⟨?_, (h.lt x.block rfl).2⟩
    rcases h.2 with ⟨h1, _⟩ | ⟨g, c', cur, h1, _⟩
    · cases h1
    · cases h1; rfl
  · rcases h.2 with ⟨h1, h2⟩ | ⟨g, c', cur, h1, _, _, h3, _⟩
    · omega
    · cases h1; exact h3
/-- A call's own row of texts, behind a call and in a frame. -/
theorem row_grown {B : Nat} {w wr w' : World} {a : Option Addr} {n c : Nat} {l : List ByteArray} (h : wr.ownsRow B 9 1 (.slice a n c) n (l.map Value.string)) (hB : w.heap.size ≤ B) (hb : Below w.heap.size w wr) (o : Obj) (hg : (wr.alloc o).grownBy w' (Value.slice a n c).ownBlock) : Below w.heap.size w w' := by
  have hk : Kept (fun k => (Value.slice a n c).ownBlock = some k) wr w' := Kept.grown ((Kept.refl _ wr).alloc o) hg (fun k hk => .inl hk)
  exact hb.trans ((hk.mono (Q := fun k => w.heap.size ≤ k) (fun i _ hi => by have := (h.lt i hi).1; omega)).below hb.size)
end Go.Proofs.YtchhjmdbjndckaaDoor
