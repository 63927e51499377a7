/- Contracts and lemmas that the claim rests on: QuilA QuilB QuilC QuilF QuilD QuilE QuilG QuilH QuilI RowA. -/
import Derived.Test.YtnpbnlphmngbdaaGreatDoorGScan
import Derived.Laws.AppendOwnNone
import Derived.Laws.IdiomStrings
import Derived.Lib.AppendStr
import Derived.Lib.Builder
import Derived.OwnWalk
import Derived.Shelf.Strings.OnBuilder
import Derived.Shelf.Spec.SlicesGrow
import Derived.Deep.RegionLaw
/- Rows of texts, and a quill, in a world; what they amount to. -/
namespace Go.Proofs.YtnpbnlphmngbdaaGreatDoor
open Go.RowKit

theorem Kept.grown {P : Nat → Prop} {a b c : World} {row : Option Nat} (h : Kept P a b) (hg : b.grownBy c row) (hr : ∀ k, row = some k → P k ∨ a.heap.size ≤ k) : Kept P a c := by
  refine ⟨hg.os.trans h.os, hg.tape.trans h.tape, hg.output.trans h.output, Nat.le_trans h.size hg.size, fun i hi hn => ?_⟩
  have hne : some i ≠ row := by
    intro e
    rcases hr i e.symm with hp | hp
    · exact hn hp
    · omega
  exact (hg.block i (Nat.lt_of_lt_of_le hi h.size) hne).trans (h.block i hi hn)

/-- All texts, one behind the other. -/
def cat (ss : List ByteArray) : ByteArray := ⟨(flat ss).toArray⟩
theorem cat_data (ss : List ByteArray) : (cat ss).data.toList = flat ss := rfl
theorem cat_size (ss : List ByteArray) : (cat ss).size = (flat ss).length := by
  show (flat ss).toArray.size = _
  simp
theorem bytes_eq {a b : ByteArray} (h : a.data.toList = b.data.toList) : a = b := by
  obtain ⟨x⟩ := a
  obtain ⟨y⟩ := b
  congr 1
  exact Array.toList_inj.1 h
theorem list_append (a b : ByteArray) : (a ++ b).data.toList = a.data.toList ++ b.data.toList := by
  show (a ++ b).data.toList = _
  rw [ByteArray.data_append]
  simp
theorem flat_sizes (ss : List ByteArray) : (flat ss).length = (ss.map (·.size)).sum := by
  unfold flat
  rw [List.length_flatMap]
  congr 1
theorem getD_at (ss : List ByteArray) (k : Nat) (h : k < ss.length) : ss.getD k ByteArray.empty = ss[k] := by simp [List.getD, h]
theorem cat_snoc (ss : List ByteArray) (k : Nat) (h : k < ss.length) : cat (ss.take k) ++ ss.getD k ByteArray.empty = cat (ss.take (k + 1)) := by
  apply bytes_eq
  rw [list_append, cat_data, cat_data, flat_snoc ss k h, getD_at ss k h]
theorem cat_on (s : ByteArray) (ss : List ByteArray) (k : Nat) (h : k < ss.length) : (s ++ cat (ss.take k)) ++ ss.getD k ByteArray.empty = s ++ cat (ss.take (k + 1)) := by
  rw [← cat_snoc ss k h]
  apply bytes_eq
  simp
theorem cat_all (ss : List ByteArray) (k : Nat) (h : ss.length ≤ k) : cat (ss.take k) = cat ss := by rw [List.take_of_length_le h]
theorem cat_zero (ss : List ByteArray) : cat (ss.take 0) = ByteArray.empty := rfl
theorem cat_nil (s : ByteArray) (ss : List ByteArray) : s ++ cat (ss.take 0) = s := by
  apply bytes_eq
  rw [list_append, cat_data]
  simp [flat]
theorem flat_take_le (ss : List ByteArray) (k : Nat) : (flat (ss.take k)).length ≤ (flat ss).length := by
  conv => rhs; rw [← List.take_append_drop k ss]
  unfold flat
  rw [List.flatMap_append, List.length_append]
  omega
theorem flat_step (ss : List ByteArray) (k : Nat) (h : k < ss.length) : (flat (ss.take (k + 1))).length = (flat (ss.take k)).length + (ss.getD k ByteArray.empty).size := by
  rw [flat_snoc ss k h, List.length_append, getD_at ss k h]
  rfl
theorem flat_le (ss : List ByteArray) (k : Nat) (h : k < ss.length) : (flat (ss.take k)).length + (ss.getD k ByteArray.empty).size ≤ (flat ss).length := by
  rw [← flat_step ss k h]; exact flat_take_le ss (k + 1)
theorem cells_cat (s t : ByteArray) : Lib.strCells s ++ Lib.strCells t = Lib.strCells (s ++ t) := by
  unfold Lib.strCells
  rw [list_append, List.map_append]
theorem size_append (s t : ByteArray) : (s ++ t).size = s.size + t.size := by simp

/-- A row of texts in a world. -/
def IsTexts (w : World) (a : Option Addr) (len : Nat) (ss : List ByteArray) : Prop :=
  ss.length = len ∧ ((a = none ∧ len = 0) ∨ ∃ x, a = some x ∧ len ≤ 9223372036854775807 ∧ ∀ i, i < len → w.cell? (x.add i) = some (.string (ss.getD i ByteArray.empty)))
theorem IsTexts.small {w : World} {a : Option Addr} {len : Nat} {ss : List ByteArray} (h : IsTexts w a len ss) : len ≤ 9223372036854775807 := by
  rcases h.2 with ⟨_, rfl⟩ | ⟨x, _, hl, _⟩
  · omega
  · exact hl
theorem IsTexts.kept {P : Nat → Prop} {w w' : World} {a : Option Addr} {len : Nat} {ss : List ByteArray} (h : IsTexts w a len ss) (hk : Kept P w w') (hn : ∀ x, a = some x → ¬ P x.block) : IsTexts w' a len ss := by
  obtain ⟨h1, h3⟩ := h
  refine ⟨h1, ?_⟩
  rcases h3 with h | ⟨x, h, h', hc⟩
  · exact .inl h
  · refine .inr ⟨x, h, h', fun i hi => ?_⟩
    have hc := hc i hi
    have hb : (x.add i).block = x.block := by unfold Addr.add; split <;> rfl
    exact (hk.cell (p := x.add i) (lt_of_cell hc) (by rw [hb]; exact hn x h)).trans hc
theorem IsTexts.below {w w' : World} {a : Option Addr} {len : Nat} {ss : List ByteArray} (h : IsTexts w a len ss) (hb : Below w.heap.size w w') : IsTexts w' a len ss :=
  h.kept (P := fun _ => False) (Kept.of_below hb) (fun _ _ h => h)
theorem IsTexts.none (w : World) : IsTexts w none 0 [] := ⟨rfl, .inl ⟨rfl, rfl⟩⟩

/-- What a row of texts that was made by append is. -/
theorem own_form {w : World} {B : Nat} {e : TypeId} {z : Nat} {v : Value} {n : Nat} {xs : List Value} (h : w.ownsRow B e z v n xs) : ∃ a c, v = .slice a n c ∧ (a = none → n = 0 ∧ c = 0) ∧ (∀ x, a = some x → v.ownBlock = some x.block ∧ x = ⟨x.block, 0, none⟩) := by
  rcases h.2 with ⟨rfl, rfl⟩ | ⟨g, c, cur, rfl, _⟩
  · exact ⟨none, 0, rfl, fun _ => ⟨rfl, rfl⟩, fun x h => by cases h⟩
  · exact ⟨_, c, rfl, fun h => (by cases h), fun x h => (by cases h; exact ⟨rfl, rfl⟩)⟩
theorem own_strs {w : World} {B : Nat} {e : TypeId} {a : Option Addr} {n c : Nat} {ss : List ByteArray} (h : w.ownsRow B e 1 (.slice a n c) n (ss.map Value.string)) (hn : n ≤ 9223372036854775807) : IsTexts w a n ss := by
  have hl : ss.length = n := by have := h.1; simpa using this
  refine ⟨hl, ?_⟩
  cases a with
  | none =>
    rcases h.2 with ⟨h1, rfl⟩ | ⟨g, c', cur, h1, _⟩
    · exact .inl ⟨rfl, rfl⟩
    · cases h1
  | some x =>
    refine .inr ⟨x, rfl, hn, fun i hi => ?_⟩
    have hx : x = ⟨x.block, 0, none⟩ := by
      rcases h.2 with ⟨h1, _⟩ | ⟨g, c', cur, h1, _⟩
      · cases h1
      · cases h1; rfl
    have := h.cells (g := x.block) rfl i (.string (ss.getD i ByteArray.empty)) (by
      rw [List.getElem?_map, List.getElem?_eq_getElem (by omega), getD_at ss i (by omega)]
      rfl)
    rw [← hx] at this
    exact this

/-- The blocks that it calls its own. -/
def ownQ (b : Nat) (v : Value) (k : Nat) : Prop := k = b ∨ v.ownBlock = some k
/-- Blocks that a value calls its own now: they were its, or are new. -/
def NewOwn (v v' : Value) (w : World) : Prop := ∀ k, v'.ownBlock = some k → v.ownBlock = some k ∨ w.heap.size ≤ k
theorem NewOwn.refl (v : Value) (w : World) : NewOwn v v w := fun _ h => .inl h
theorem NewOwn.trans {v v' v'' : Value} {w w' : World} (h : NewOwn v v' w) (k : NewOwn v' v'' w') (hs : w.heap.size ≤ w'.heap.size) : NewOwn v v'' w := by
  intro x hx
  rcases k x hx with h1 | h1
  · exact h x h1
  · exact .inr (by omega)
theorem NewOwn.later {v v' : Value} {w w' : World} (k : NewOwn v v' w') (hs : w.heap.size ≤ w'.heap.size) : NewOwn v v' w := (NewOwn.refl v w).trans k hs
theorem own_weak {w : World} {B : Nat} {e : TypeId} {z : Nat} {v : Value} {n : Nat} {xs : List Value} (h : w.ownsRow B e z v n xs) : w.ownsRow 0 e z v n xs := by
  refine ⟨h.1, ?_⟩
  rcases h.2 with hv | ⟨g, c, cur, hv, _, hr⟩
  · exact .inl hv
  · exact .inr ⟨g, c, cur, hv, Nat.zero_le _, hr⟩
theorem own_kept {P : Nat → Prop} {w w' : World} {B : Nat} {e : TypeId} {z : Nat} {v : Value} {n : Nat} {xs : List Value} (h : w.ownsRow B e z v n xs) (hk : Kept P w w') (hn : ∀ k, v.ownBlock = some k → ¬ P k) : w'.ownsRow B e z v n xs := by
  refine ⟨h.1, ?_⟩
  rcases h.2 with hv | ⟨g, c, cur, hv, h0, hg, hr⟩
  · exact .inl hv
  · have hgl : g < w.heap.size := (Array.getElem?_eq_some_iff.1 hg).1
    exact .inr ⟨g, c, cur, hv, h0, (hk.block g hgl (hn g (by rw [hv]; rfl))).trans hg, hr⟩
theorem info_string : (Tryz.prog.info? 9).map (fun i => (i.zero, i.size, i.bytes)) = some (some (.string ⟨#[]⟩), 1, 16) := by kernel_rfl
/-- Bytes of a text, appended: what is owned then was owned, or is new. -/
theorem run_append_new {P : Program} (w : World) (t u ty e : TypeId) (i : TypeInfo) (ht : P.underlying t = some (.slice e)) (hu : P.underlying u = some .string) (hi : P.info? e = some i) (hz : i.zero = some (.int .u8 0))
    (hsize : i.size = 1) (hby : i.bytes = 1) (v : Value) (n : Nat) (xs : List Value) (hown : w.ownsRow 0 e 1 v n xs) (s : ByteArray) (h : n + s.size ≤ 140737488355328) :
    ∃ v' w', (Builtin.append_ #[t, u] ty #[v, .string s]).run P w = .ok v' w' ∧ w'.ownsRow 0 e 1 v' (n + s.size) (xs ++ Lib.strCells s) ∧ w.grownBy w' v.ownBlock ∧ NewOwn v v' w := by
  have hm : n + s.size ≤ maxLen := by unfold maxLen; omega
  rcases hown.2 with ⟨rfl, rfl⟩ | ⟨g, c, cur, rfl, h0, hg, hnc, hcm, hcs, htk⟩
  · have hx : xs = [] := List.eq_nil_of_length_eq_zero (by have := hown.1; simpa using this)
    subst hx
    obtain ⟨v', w', hr, h2, h3, _⟩ := Lib.run_append_own_string (P := P) w w.heap.size t u ty e i ht hu hi hz hsize hby (.slice none 0 0) 0 [] (World.ownsRow_nil _ _ _ _) s hm h (Nat.le_refl _)
    exact ⟨v', w', hr, own_weak h2, h3, fun k hk => .inr (h2.lt k hk).1⟩
  · obtain ⟨v', w', hr, h2, h3, _⟩ := Lib.run_append_own_string (P := P) w 0 t u ty e i ht hu hi hz hsize hby _ n xs hown s hm h (Nat.zero_le _)
    refine ⟨v', w', hr, h2, h3, ?_⟩
    by_cases hroom : n + s.size ≤ c
    · have hr' := Lib.run_append_room_string (P := P) w t u ty e i ht hu hi hsize g n c cur hg s hroom (by rw [hcs]; omega)
      rw [hr] at hr'
      injection hr' with e1 e2
      subst e1
      exact fun k hk => .inl hk
    · have hr' := Lib.run_append_grow_string (P := P) w t u ty e i (.int .u8 0) ht hu hi hz ⟨g, 0, none⟩ n c xs (by rw [hsize]; exact hown.1) (hown.cells (g := g) rfl) s (by omega) (by omega) (by rw [hby]; exact growslice_fits (by omega) (by omega))
      rw [hr] at hr'
      injection hr' with e1 e2
      subst e1
      intro k hk
      simp only [Value.ownBlock, Option.some.injEq] at hk
      exact .inr (by omega)
theorem wpList_append_new {P : Program} (w : World) {ops : Array Oper} {rest : List Oper} {o : Oper} {a : Act} {Q : Exit → Act → World → Prop} (hgd : o.guard = none) (sl x : Operand) (t u : TypeId)
    (ho : o.op = .call { callee := .builtin .append, args := #[sl, x], argTypes := #[t, u] }) (e : TypeId) (i : TypeInfo) (ht : P.underlying t = some (.slice e)) (hu : P.underlying u = some .string) (hi : P.info? e = some i) (hz : i.zero = some (.int .u8 0))
    (hsize : i.size = 1) (hby : i.bytes = 1) (v : Value) (n : Nat) (xs : List Value) (hs : a.eval sl = v) (hown : w.ownsRow 0 e 1 v n xs) (s : ByteArray) (hx : a.eval x = .string s) (hb : n + s.size ≤ 140737488355328)
    (h : ∀ v' w', w'.ownsRow 0 e 1 v' (n + s.size) (xs ++ Lib.strCells s) → w.grownBy w' v.ownBlock → NewOwn v v' w → wpList P ops Q rest (a.put o.dst v') w') : wpList P ops Q (o :: rest) a w := by
  refine wpList_plain hgd fun K hK => ?_
  obtain ⟨v', w', hr, h2, h3, h4⟩ := run_append_new (P := P) w t u o.type e i ht hu hi hz hsize hby v n xs hown s hb
  unfold Oper.wp execOp
  simp only [ho, resolve, invoke, builtin, Sem.run_bind, Sem.run_pure, Result.andThen_ok, List.map_toArray, List.map_cons, List.map_nil, hs, hx, hr]
  exact hK _ _ (h v' w' h2 h3 h4)

end Go.Proofs.YtnpbnlphmngbdaaGreatDoor
/- What reads a row of texts, or a quill: contracts. -/
namespace Go.Proofs.YtnpbnlphmngbdaaGreatDoor
open Go.RowKit

/-- Have the texts together at most so many bytes? -/
def fits (room : Int) (ss : List ByteArray) : Bool := decide (((flat ss).length : Int) ≤ room)
end Go.Proofs.YtnpbnlphmngbdaaGreatDoor
/- Put: its contract. -/
namespace Go.Proofs.YtnpbnlphmngbdaaGreatDoor
open Go.RowKit

/-- What Put does: the text behind it, and the error. -/
def putS (most : Int) (s : ByteArray) (ss : List ByteArray) : ByteArray := if fits (most - s.size) ss = true then s ++ cat ss else s
def putE (most : Int) (s : ByteArray) (ss : List ByteArray) : Int := if fits (most - s.size) ss = true then 0 else 10
theorem info_byte : (Tryz.prog.info? 5).map (fun i => (i.zero, i.size, i.bytes)) = some (some (.int .u8 0), 1, 1) := by kernel_rfl

end Go.Proofs.YtnpbnlphmngbdaaGreatDoor
/- strings.Join and slices.Grow by the shelf's contracts, laid at this program's numbers. -/
namespace Go.Proofs.YtnpbnlphmngbdaaGreatDoor
open Go.RowKit

set_option maxRecDepth 100000
def join_ren : Go.Shelf.Ren := ⟨fun | 156 => 50 | 165 => 68 | 166 => 69 | 169 => 70 | 240 => 86 | 241 => 87 | 276 => 106 | 277 => 107 | n => n, fun | 0 => 0 | 3 => 3 | 4 => 4 | 5 => 5 | 9 => 9 | 20 => 20 | 31 => 47 | 37 => 76 | 70 => 84 | 72 => 86 | 75 => 89 | 76 => 90 | 80 => 92 | 127 => 102 | 164 => 115 | n => n, fun n => n⟩
theorem join_lays : Lays.n156 Tryz.prog join_ren := {
  mixed := by kernel_rfl,
  f156 := Tryz.func50.trans (congrArg some (by kernel_rfl)),
  f165 := Tryz.func68.trans (congrArg some (by kernel_rfl)),
  f166 := Tryz.func69.trans (congrArg some (by kernel_rfl)),
  f169 := Tryz.func70.trans (congrArg some (by kernel_rfl)),
  f240 := Tryz.func86.trans (congrArg some (by kernel_rfl)),
  f241 := Tryz.func87.trans (congrArg some (by kernel_rfl)),
  f276 := Tryz.func106.trans (congrArg some (by kernel_rfl)),
  f277 := Tryz.func107.trans (congrArg some (by kernel_rfl)),
  t0 := Tryz.underlying0,
  a0 := Tryz.isAgg0,
  z0 := Tryz.sizeOf0,
  v0 := Tryz.zeroValue0,
  t3 := Tryz.underlying3,
  a3 := Tryz.isAgg3,
  z3 := Tryz.sizeOf3,
  v3 := Tryz.zeroValue3,
  t4 := Tryz.underlying4,
  a4 := Tryz.isAgg4,
  z4 := Tryz.sizeOf4,
  v4 := Tryz.zeroValue4,
  t9 := Tryz.underlying9,
  a9 := Tryz.isAgg9,
  z9 := Tryz.sizeOf9,
  v9 := Tryz.zeroValue9,
  t20 := Tryz.underlying20,
  a20 := Tryz.isAgg20,
  z20 := Tryz.sizeOf20,
  v20 := Tryz.zeroValue20,
  t31 := Tryz.underlying47,
  a31 := Tryz.isAgg47,
  z31 := Tryz.sizeOf47,
  v31 := Tryz.zeroValue47,
  t37 := Tryz.underlying76,
  a37 := Tryz.isAgg76,
  z37 := Tryz.sizeOf76,
  v37 := Tryz.zeroValue76,
  t70 := Tryz.underlying84,
  a70 := Tryz.isAgg84,
  z70 := Tryz.sizeOf84,
  v70 := Tryz.zeroValue84,
  t72 := Tryz.underlying86,
  a72 := Tryz.isAgg86,
  z72 := Tryz.sizeOf86,
  v72 := Tryz.zeroValue86,
  t75 := Tryz.underlying89,
  a75 := Tryz.isAgg89,
  z75 := Tryz.sizeOf89,
  v75 := Tryz.zeroValue89,
  t76 := Tryz.underlying90,
  a76 := Tryz.isAgg90,
  z76 := Tryz.sizeOf90,
  v76 := Tryz.zeroValue90,
  t127 := Tryz.underlying102,
  a127 := Tryz.isAgg102,
  z127 := Tryz.sizeOf102,
  v127 := Tryz.zeroValue102,
  t164 := Tryz.underlying115,
  a164 := Tryz.isAgg115,
  z164 := Tryz.sizeOf115,
  v164 := Tryz.zeroValue115 }
theorem join_extra : Builder.Extra Tryz.prog join_ren := {
  sizeBuilder := by kernel_rfl,
  liesBuilder := by kernel_rfl,
  t5 := Tryz.underlying5,
  a5 := Tryz.isAgg5,
  z5 := Tryz.sizeOf5,
  v5 := Tryz.zeroValue5,
  infoByte := by kernel_rfl,
  cellsByte := by kernel_rfl,
  sizeByte := by kernel_rfl,
  neB5 := by decide }
end Go.Proofs.YtnpbnlphmngbdaaGreatDoor
/- slices.Concat of a row and one text more, and Line: contracts. -/
namespace Go.Proofs.YtnpbnlphmngbdaaGreatDoor
open Go.RowKit

/-- A row of texts that a call has made. -/
def Row_ (ss : List ByteArray) (w : World) (e : Ending) (w' : World) : Prop := ∃ a n c, e = .returned (.slice a n c) ∧ w'.ownsRow w.heap.size 9 1 (.slice a n c) n (ss.map Value.string) ∧ Below w.heap.size w w'

end Go.Proofs.YtnpbnlphmngbdaaGreatDoor
/- Line: its contract. -/
namespace Go.Proofs.YtnpbnlphmngbdaaGreatDoor
open Go.RowKit

/-- A line's end. -/
def crlf : ByteArray := ⟨#[13, 10]⟩
theorem flat_line (ss : List ByteArray) (t : ByteArray) : (flat (ss ++ [t])).length = (flat ss).length + t.size := by
  unfold flat
  rw [List.flatMap_append, List.length_append, List.flatMap_cons, List.flatMap_nil, List.append_nil]
  rfl

end Go.Proofs.YtnpbnlphmngbdaaGreatDoor
/- What the laws of layer 4 call besides: contracts. -/
namespace Go.Proofs.YtnpbnlphmngbdaaGreatDoor
open Go.RowKit

/-- A text, cut40. -/
def cut40 (s : ByteArray) : ByteArray := s.extract 0 (min (s.size : Int) 40).toNat
/-- Texts, not more and not longer than the law looks. -/
def fewQ (ss : List ByteArray) : List ByteArray := (ss.take 6).map cut40
theorem cut40_size (s : ByteArray) : (cut40 s).size ≤ 40 := by
  unfold cut40
  simp
  omega
theorem few_snoc (ss : List ByteArray) (k : Nat) (h : k < ss.length) : ((ss.take k).map cut40).map Value.string ++ [.string (cut40 (ss.getD k ByteArray.empty))] = ((ss.take (k + 1)).map cut40).map Value.string := by
  rw [List.take_succ_eq_append_getElem h, getD_at ss k h]
  simp only [List.map_append, List.map_cons, List.map_nil]
theorem few_length (ss : List ByteArray) : (fewQ ss).length ≤ 6 := by
  unfold fewQ
  simp
  omega
theorem flat_cuts : ∀ (l : List ByteArray), (flat (l.map cut40)).length ≤ 40 * l.length
  | [] => by simp [flat]
  | s :: l => by
    have h1 := flat_cuts l
    have h2 := cut40_size s
    have h3 : (flat ((s :: l).map cut40)).length = (cut40 s).size + (flat (l.map cut40)).length := by
      unfold flat
      rw [List.map_cons, List.flatMap_cons, List.length_append]
      rfl
    rw [h3, List.length_cons]
    omega
theorem flat_few (ss : List ByteArray) : (flat (fewQ ss)).length ≤ 240 := by
  have h1 := flat_cuts (ss.take 6)
  have h2 : (ss.take 6).length ≤ 6 := by simp; omega
  show (flat ((ss.take 6).map cut40)).length ≤ 240
  omega

/-- append onto a row of the call's own, as one step of a region that draws. -/
theorem step_append_own {P : Program} {ops : Array Oper} {o : Oper} {a : Act} {w : World} {K : Act → World → Prop} {Q : Exit → Act → World → Prop} {E : Prop}
    (hg : o.guard = none) (s x : Operand) (t : TypeId) (hop : o.op = Op.call { callee := Callee.builtin Builtin.append, args := #[s, x], argTypes := #[t, t] })
    (base : Nat) (e : TypeId) (i : TypeInfo) (z : Value) (size bytes : Nat) (h1 : P.underlying t = some (.slice e)) (h2 : P.info? e = some i) (h3 : i.zero = some z) (h4 : i.size = size) (h5 : i.bytes = bytes) (h6 : z.cells.size = size) (h7 : 0 < size)
    (v : Value) (n : Nat) (xs : List Value) (hs : a.eval s = v) (hown : w.ownsRow base e size v n xs)
    (ad : Addr) (m c : Nat) (news : List Value) (hx : a.eval x = .slice (some ad) m c) (hn : news.length = m * size) (hc : ∀ j u, news[j]? = some u → w.cell? (ad.add j) = some u) (h1c : ∀ u ∈ news, u.oneCell' = true)
    (b1 : n + m ≤ maxLen) (b2 : (n + m) * bytes ≤ 140737488355328) (hb : base ≤ w.heap.size)
    (hK : ∀ v' w', w'.ownsRow base e size v' (n + m) (xs ++ news) → w.grownBy w' v.ownBlock → K (a.put o.dst v') w') :
    if Region.wanted o (yielded ops a.tmps) = true then Oper.wp P o a w K Q else E := by
  have hw : Region.wanted o (yielded ops a.tmps) = true := by simp [Region.wanted, hg]
  rw [if_pos hw]
  obtain ⟨v', w', hrun, r1, r2, _⟩ := run_append_own (P := P) w base t o.type e i z size bytes h1 h2 h3 h4 h5 h6 h7 v n xs hown ad m c news hn hc h1c b1 b2 hb
  unfold Oper.wp
  simp [execOp, hop, resolve, invoke, builtin, hs, hx, hrun, Result.andThen]
  exact hK v' w' r1 r2

end Go.Proofs.YtnpbnlphmngbdaaGreatDoor
/- The document's Put and Join; Join; the page's example: contracts. -/
namespace Go.Proofs.YtnpbnlphmngbdaaGreatDoor
open Go.RowKit

theorem join_flat (xs : List (List UInt8)) : Lib.join xs [] = xs.flatten := by
  cases xs with
  | nil => rfl
  | cons x r => rw [Lib.join_cons]; simp [Lib.joinTail]
/-- All texts, with another one between each two. -/
def joinB (sep : ByteArray) (ss : List ByteArray) : ByteArray := ⟨(Lib.join (ss.map (·.data.toList)) sep.data.toList).toArray⟩
theorem joinB_list (sep : ByteArray) (ss : List ByteArray) : (joinB sep ss).data.toList = Lib.join (ss.map (·.data.toList)) sep.data.toList := rfl
theorem joinB_size (sep : ByteArray) (ss : List ByteArray) : (joinB sep ss).size = (Lib.join (ss.map (·.data.toList)) sep.data.toList).length := by
  show (Lib.join (ss.map (·.data.toList)) sep.data.toList).toArray.size = _
  simp
theorem joinB_empty (ss : List ByteArray) : joinB ByteArray.empty ss = cat ss := by
  apply bytes_eq
  rw [joinB_list, cat_data]
  show Lib.join _ [] = _
  rw [join_flat]
  unfold flat
  rw [List.flatMap_def]
theorem joinB_nil (sep : ByteArray) : joinB sep [] = ByteArray.empty := rfl
theorem joinB_one (sep : ByteArray) (ss : List ByteArray) (h : 0 < ss.length) : ByteArray.empty ++ ss.getD 0 ByteArray.empty = joinB sep (ss.take 1) := by
  apply bytes_eq
  rw [list_append, joinB_list, getD_at ss 0 h, List.take_succ_eq_append_getElem h]
  simp [Lib.join_one]
theorem joinB_snoc (sep : ByteArray) (ss : List ByteArray) (k : Nat) (h0 : 0 < k) (h : k < ss.length) : (joinB sep (ss.take k) ++ sep) ++ ss.getD k ByteArray.empty = joinB sep (ss.take (k + 1)) := by
  apply bytes_eq
  obtain ⟨x, r, rfl⟩ := List.exists_cons_of_length_pos (show 0 < ss.length by omega)
  obtain ⟨j, rfl⟩ : ∃ j, k = j + 1 := ⟨k - 1, by omega⟩
  have hj : j < r.length := by simpa using h
  rw [list_append, list_append, joinB_list, joinB_list, getD_at _ _ h, List.take_succ_cons, List.take_succ_cons, List.map_cons, List.map_cons, Lib.join_cons, Lib.join_cons, List.map_take, List.map_take, Lib.joinTail_take_succ sep.data.toList (r.map (·.data.toList)) j r[j].data.toList (by simp [hj])]
  simp
theorem lens_flat (ss : List ByteArray) : Lib.lens (ss.map (·.data.toList)) = (flat ss).length := by
  unfold Lib.lens flat
  rw [List.length_flatMap, List.map_map]
  rfl
theorem joinB_le (sep : ByteArray) (ss : List ByteArray) : (joinB sep ss).size ≤ sep.size * ss.length + (flat ss).length := by
  rw [joinB_size]
  cases ss with
  | nil => simp [Lib.join_nil]
  | cons x r =>
    rw [List.map_cons, Lib.join_length]
    have e0 := lens_flat (x :: r)
    rw [List.map_cons] at e0
    rw [e0]
    have e : sep.data.toList.length = sep.size := by simp
    rw [e, List.length_map, List.length_cons, Nat.mul_succ]
    omega
theorem joinB_take_le (sep : ByteArray) (ss : List ByteArray) (k : Nat) : (joinB sep (ss.take k)).size ≤ sep.size * ss.length + (flat ss).length := by
  have h1 := joinB_le sep (ss.take k)
  have h2 : (ss.take k).length ≤ ss.length := by simp; omega
  have h3 := Nat.mul_le_mul_left sep.size h2
  have h4 := flat_take_le ss k
  omega
end Go.Proofs.YtnpbnlphmngbdaaGreatDoor
/- The document's Join; Join by the shelf's contract; the page's example: contracts. -/
namespace Go.Proofs.YtnpbnlphmngbdaaGreatDoor
open Go.RowKit

theorem add_none (b j : Nat) : (⟨b, 0, none⟩ : Addr).add j = ⟨b, j, none⟩ := by unfold Addr.add; split <;> simp_all
theorem SJoin_any (sep : ByteArray) (a : Option Addr) (len cp : Nat) (ss : List ByteArray) (w : World) (hz : IsTexts w a len ss) (hx : ∀ x, a = some x → x = ⟨x.block, 0, none⟩ ∧ x.block < w.heap.size) (hcp : len ≤ cp) (hlen : len ≤ 1000000)
    (hb : sep.size * ss.length + (flat ss).length ≤ 100000000) :
    Calls Tryz.prog 50 #[.slice a len cp, .string sep] w fun e w' => e = .returned (.string (joinB sep ss)) ∧ Below w.heap.size w w' := by
  obtain ⟨hl, hz⟩ := hz
  rcases hz with ⟨rfl, rfl⟩ | ⟨x, rfl, hxl, hc⟩
  · obtain rfl := List.eq_nil_of_length_eq_zero hl
    exact (Any.strings_Join_none join_lays join_extra none cp sep w).mono fun e w' ⟨he, hw⟩ => ⟨he, hw ▸ Below.refl _ _⟩
  · obtain ⟨hx1, hx2⟩ := hx x rfl
    subst hl
    rw [hx1]
    refine Any.strings_Join join_lays join_extra x.block 0 cp ss sep w ?_ hx2 (by omega) hcp ?_
    · intro j y hj
      obtain ⟨hjl, rfl⟩ := List.getElem?_eq_some_iff.1 hj
      have := hc j hjl
      rw [getD_at ss j hjl, hx1] at this
      rw [add_none] at this
      rw [Nat.zero_add]
      exact this
    · rw [← joinB_size]
      have := joinB_le sep ss
      omega
theorem QJoin_any (sep : ByteArray) (a : Option Addr) (len cp : Nat) (ss : List ByteArray) (w : World) (hz : IsTexts w a len ss) (hx : ∀ x, a = some x → x = ⟨x.block, 0, none⟩ ∧ x.block < w.heap.size) (hcp : len ≤ cp) (hlen : len ≤ 1000000)
    (hb : sep.size * ss.length + (flat ss).length ≤ 100000000) :
    Calls Tryz.prog 33 #[.string sep, .slice a len cp] w fun e w' => e = .returned (.string (joinB sep ss)) ∧ Below w.heap.size w w' := by
  have hJ := Lib.hid (SJoin_any sep a len cp ss w hz hx hcp hlen hb)
  clear hz hx hcp hlen hb
  go_enter Tryz.func33, Tryz.ntmps33
  go_wp2_with fail
  refine hJ.out.mono ?_
  rintro e w1 ⟨rfl, hb1⟩
  go_wp2_with fail
  go_ret
  exact ⟨rfl, hb1⟩

def tAb : ByteArray := ⟨#[97, 98]⟩
def tC : ByteArray := ⟨#[99]⟩
def tDef : ByteArray := ⟨#[100, 101, 102]⟩
def tAbc : ByteArray := ⟨#[97, 98, 99]⟩
def tEnd : ByteArray := ⟨#[97, 98, 99, 13, 10]⟩
theorem one_text (w : World) (t : ByteArray) (y : TypeId) : IsTexts (w.alloc (.cells #[.string t] y)) (some ⟨w.heap.size, 0, none⟩) 1 [t] :=
  ⟨rfl, .inr ⟨_, rfl, by omega, fun i hi => by rcases i with _ | i <;> first | omega | simp [go_sem]⟩⟩
theorem two_texts (w : World) (t u : ByteArray) (y : TypeId) : IsTexts (w.alloc (.cells #[.string t, .string u] y)) (some ⟨w.heap.size, 0, none⟩) 2 [t, u] :=
  ⟨rfl, .inr ⟨_, rfl, by omega, fun i hi => by rcases i with _ | _ | i <;> first | omega | simp [go_sem]⟩⟩
end Go.Proofs.YtnpbnlphmngbdaaGreatDoor
/- Rows that are the call's own: appended, and what they hold. -/
namespace Go.Proofs.YtnpbnlphmngbdaaGreatDoor
open Go.RowKit

theorem own_base {w : World} {B B' : Nat} {e : TypeId} {z : Nat} {v : Value} {n : Nat} {xs : List Value} (h : w.ownsRow B e z v n xs) (hb : B' ≤ B) : w.ownsRow B' e z v n xs := by
  refine ⟨h.1, ?_⟩
  rcases h.2 with hv | ⟨g, c, cur, hv, h0, hr⟩
  · exact .inl hv
  · exact .inr ⟨g, c, cur, hv, Nat.le_trans hb h0, hr⟩
theorem texts_snoc (acc : List ByteArray) (x : ByteArray) : acc.map Value.string ++ [.string x] = (acc ++ [x]).map Value.string := by simp

/-- Cells of a row, appended: what is owned then was owned, or is new. -/
theorem run_append_fresh {P : Program} (w : World) (base : Nat) (t ty e : TypeId) (i : TypeInfo) (z : Value) (size bytes : Nat) (ht : P.underlying t = some (.slice e)) (hi : P.info? e = some i) (hz : i.zero = some z)
    (hsize : i.size = size) (hby : i.bytes = bytes) (hzs : z.cells.size = size) (hsz : 0 < size)
    (v : Value) (n : Nat) (xs : List Value) (hown : w.ownsRow base e size v n xs)
    (a : Addr) (m c : Nat) (news : List Value) (hl : news.length = m * size) (hnews : ∀ j u, news[j]? = some u → w.cell? (a.add j) = some u) (h1 : ∀ u ∈ news, u.oneCell' = true)
    (h63 : n + m ≤ 9223372036854775807) (hbytes : (n + m) * bytes ≤ 140737488355328) (hbase : base ≤ w.heap.size) :
    ∃ v' w', (Builtin.append_ #[t, t] ty #[v, .slice (some a) m c]).run P w = .ok v' w' ∧ w'.ownsRow base e size v' (n + m) (xs ++ news) ∧ w.grownBy w' v.ownBlock ∧ NewOwn v v' w := by
  have hm : n + m ≤ maxLen := by unfold maxLen; omega
  obtain ⟨v', w', hr, h2, h3, _⟩ := run_append_own (P := P) w base t ty e i z size bytes ht hi hz hsize hby hzs hsz v n xs hown a m c news hl hnews h1 hm hbytes hbase
  refine ⟨v', w', hr, h2, h3, ?_⟩
  rcases hown.2 with ⟨rfl, rfl⟩ | ⟨g, cap, cur, rfl, hbg, hg, hnc, hcm, hcs, htake⟩
  · have hx : xs = [] := List.eq_nil_of_length_eq_zero (by have := hown.1; simpa using this)
    subst hx
    obtain ⟨v2, w2, hr2, h22, _, _⟩ := run_append_own (P := P) w w.heap.size t ty e i z size bytes ht hi hz hsize hby hzs hsz (.slice none 0 0) 0 [] (World.ownsRow_nil _ _ _ _) a m c news hl hnews h1 hm hbytes (Nat.le_refl _)
    rw [hr] at hr2
    injection hr2 with e1 e2
    subst e1
    subst e2
    exact fun k hk => .inr (h22.lt k hk).1
  · subst hsize
    subst hby
    by_cases hroom : n + m ≤ cap
    · have hr2 := run_append_room (P := P) w t ty e i ht hi g n cap cur hg a m c news hl hnews h1 hroom (by rw [hl, hcs, ← Nat.add_mul]; exact Nat.mul_le_mul_right _ hroom)
      rw [hr] at hr2
      injection hr2 with e1 e2
      subst e1
      exact fun k hk => .inl hk
    · have hr2 := run_append_grow (P := P) w t ty e i z ht hi hz ⟨g, 0, none⟩ n cap xs hown.1 (hown.cells (g := g) rfl) a m c news hl hnews (by omega) (by omega) (growslice_fits (by omega) hbytes)
      rw [hr] at hr2
      injection hr2 with e1 e2
      subst e1
      intro k hk
      simp only [Value.ownBlock, Option.some.injEq] at hk
      exact .inr (by omega)
/-- A text, appended to a row of texts that is the call's own. -/
theorem wpList_append_text (w : World) {ops : Array Oper} {rest : List Oper} {o : Oper} {a : Act} {Q : Exit → Act → World → Prop} (hgd : o.guard = none) (s x : Operand)
    (ho : o.op = .call { callee := .builtin .append, args := #[s, x], argTypes := #[47, 47] }) (base : Nat)
    (v : Value) (n : Nat) (l : List ByteArray) (hs : a.eval s = v) (hown : w.ownsRow base 9 1 v n (l.map Value.string))
    (b c : Nat) (y : ByteArray) (hx : a.eval x = .slice (some ⟨b, 0, none⟩) 1 c) (hc : w.cell? ⟨b, 0, none⟩ = some (.string y))
    (hn : n ≤ 200000000) (hbase : base ≤ w.heap.size)
    (h : ∀ a' c' w', w'.ownsRow base 9 1 (.slice a' (n + 1) c') (n + 1) ((l ++ [y]).map Value.string) → w.grownBy w' v.ownBlock → NewOwn v (.slice a' (n + 1) c') w → wpList Tryz.prog ops Q rest (a.put o.dst (.slice a' (n + 1) c')) w') : wpList Tryz.prog ops Q (o :: rest) a w := by
  obtain ⟨i0, hi, hz0, hz1, hz2⟩ := info_parts info_string
  refine wpList_plain hgd fun K hK => ?_
  obtain ⟨v', w', hr, h2, h3, h4⟩ := run_append_fresh (P := Tryz.prog) w base 47 o.type 9 i0 _ 1 16 Tryz.underlying47 hi hz0 hz1 hz2 rfl (by omega) v n _ hown ⟨b, 0, none⟩ 1 c [.string y] rfl (by intro j u hj; rcases j with _ | j <;> simp at hj; subst hj; exact hc) (by intro u hu; simp at hu; subst hu; rfl) (by omega) (by omega) hbase
  obtain ⟨a', c', rfl, _⟩ := own_form h2
  rw [texts_snoc] at h2
  unfold Oper.wp execOp
  simp only [ho, resolve, invoke, builtin, Sem.run_bind, Sem.run_pure, Result.andThen_ok, List.map_toArray, List.map_cons, List.map_nil, hs, hx, hr]
  exact hK _ _ (h a' c' w' h2 h3 h4)

theorem own_len {w : World} {B : Nat} {v : Value} {n : Nat} {x : List ByteArray} (h : w.ownsRow B 9 1 v n (x.map Value.string)) : x.length = n := by have := h.1; simpa using this
theorem own_small {w : World} {B : Nat} {e : TypeId} {z : Nat} {v : Value} {n : Nat} {xs : List Value} (h : w.ownsRow B e z v n xs) : n ≤ 9223372036854775807 := by
  rcases h.2 with ⟨_, rfl⟩ | ⟨_, cap, _, _, _, _, h1, h2, _⟩
  · omega
  · unfold maxLen at h2
    omega
def strLen : Value → Nat
  | .string s => s.size
  | _ => 0
/-- What a row that a call has made gives. -/
theorem row_facts {w : World} {B : Nat} {a : Option Addr} {n c : Nat} {ss : List ByteArray} (h : w.ownsRow B 9 1 (.slice a n c) n (ss.map Value.string)) (hs : ss.length ≤ 1000) :
    n = ss.length ∧ IsTexts w a n ss ∧ (a = none → c = 0) ∧ (∀ x, a = some x → x = ⟨x.block, 0, none⟩ ∧ x.block < w.heap.size) ∧ n ≤ c := by
  have hl : ss.length = n := by have := h.1; simpa using this
  refine ⟨hl.symm, own_strs h (by omega), ?_, ?_, ?_⟩
  · rintro rfl
    rcases h.2 with ⟨h1, _⟩ | ⟨g, c', cur, h1, _⟩
    · cases h1; rfl
    · cases h1
  · rintro x rfl
    refine ⟨?_, (h.lt x.block rfl).2⟩
    rcases h.2 with ⟨h1, _⟩ | ⟨g, c', cur, h1, _⟩
    · cases h1
    · cases h1; rfl
  · rcases h.2 with ⟨h1, h2⟩ | ⟨g, c', cur, h1, _, _, h3, _⟩
    · omega
    · cases h1; exact h3
/-- A call's own row of texts, behind a call and in a frame. -/
theorem row_grown {B : Nat} {w wr w' : World} {a : Option Addr} {n c : Nat} {l : List ByteArray} (h : wr.ownsRow B 9 1 (.slice a n c) n (l.map Value.string)) (hB : w.heap.size ≤ B) (hb : Below w.heap.size w wr) (o : Obj) (hg : (wr.alloc o).grownBy w' (Value.slice a n c).ownBlock) : Below w.heap.size w w' := by
  have hk : Kept (fun k => (Value.slice a n c).ownBlock = some k) wr w' := Kept.grown ((Kept.refl _ wr).alloc o) hg (fun k hk => .inl hk)
  exact hb.trans ((hk.mono (Q := fun k => w.heap.size ≤ k) (fun i _ hi => by have := (h.lt i hi).1; omega)).below hb.size)
end Go.Proofs.YtnpbnlphmngbdaaGreatDoor
