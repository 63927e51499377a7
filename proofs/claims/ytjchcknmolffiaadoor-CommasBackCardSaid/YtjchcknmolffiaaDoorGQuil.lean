/- Contracts and lemmas that the claim rests on: QuilA QuilB QuilC QuilF QuilD QuilE QuilG QuilH QuilI QuilJ QuilK QuilL QuilM. -/
import Derived.Test.YtjchcknmolffiaaDoorGScan
import Derived.Laws.AppendOwnNone
import Derived.Laws.IdiomStrings
import Derived.Lib.AppendStr
import Derived.Lib.Builder
import Derived.OwnWalk
import Derived.Shelf.Strings.OnBuilder
import Derived.Shelf.Spec.SlicesGrow
import Derived.Deep.RegionLaw
import Derived.Deep.RegionWith
import Derived.ProofKit
import Derived.OpenShut
import Derived.Deep.Slices
/- Rows of texts, and a quill, in a world; what they amount to. -/
namespace Go.Proofs.YtjchcknmolffiaaDoor
open Go.RowKit

theorem Kept.grown {P : Nat → Prop} {a b c : World} {row : Option Nat} (h : Kept P a b) (hg : b.grownBy c row) (hr : ∀ k, row = some k → P k ∨ a.heap.size ≤ k) : Kept P a c := by
  refine ⟨hg.os.trans h.os, hg.tape.trans h.tape, hg.output.trans h.output, Nat.le_trans h.size hg.size, fun i hi hn => ?_⟩
  have hne : some i ≠ row := by
    intro e
    rcases hr i e.symm with hp | hp
    · exact hn hp
    · omega
  exact (hg.block i (Nat.lt_of_lt_of_le hi h.size) hne).trans (h.block i hi hn)

/-- All texts, one behind the other. -/
def cat (ss : List ByteArray) : ByteArray := ⟨(flat ss).toArray⟩
theorem cat_data (ss : List ByteArray) : (cat ss).data.toList = flat ss := rfl
theorem cat_size (ss : List ByteArray) : (cat ss).size = (flat ss).length := by
  show (flat ss).toArray.size = _
  simp
theorem bytes_eq {a b : ByteArray} (h : a.data.toList = b.data.toList) : a = b := by
  obtain ⟨x⟩ := a
  obtain ⟨y⟩ := b
  congr 1
  exact Array.toList_inj.1 h
theorem list_append (a b : ByteArray) : (a ++ b).data.toList = a.data.toList ++ b.data.toList := by
  show (a ++ b).data.toList = _
  rw [ByteArray.data_append]
  simp
theorem flat_sizes (ss : List ByteArray) : (flat ss).length = (ss.map (·.size)).sum := by
  unfold flat
  rw [List.length_flatMap]
  congr 1
theorem getD_at (ss : List ByteArray) (k : Nat) (h : k < ss.length) : ss.getD k ByteArray.empty = ss[k] := by simp [List.getD, h]
theorem cat_snoc (ss : List ByteArray) (k : Nat) (h : k < ss.length) : cat (ss.take k) ++ ss.getD k ByteArray.empty = cat (ss.take (k + 1)) := by
  apply bytes_eq
  rw [list_append, cat_data, cat_data, flat_snoc ss k h, getD_at ss k h]
theorem cat_on (s : ByteArray) (ss : List ByteArray) (k : Nat) (h : k < ss.length) : (s ++ cat (ss.take k)) ++ ss.getD k ByteArray.empty = s ++ cat (ss.take (k + 1)) := by
  rw [← cat_snoc ss k h]
  apply bytes_eq
  simp
theorem cat_all (ss : List ByteArray) (k : Nat) (h : ss.length ≤ k) : cat (ss.take k) = cat ss := by rw [List.take_of_length_le h]
theorem cat_zero (ss : List ByteArray) : cat (ss.take 0) = ByteArray.empty := rfl
theorem cat_nil (s : ByteArray) (ss : List ByteArray) : s ++ cat (ss.take 0) = s := by
  apply bytes_eq
  rw [list_append, cat_data]
  simp [flat]
theorem flat_take_le (ss : List ByteArray) (k : Nat) : (flat (ss.take k)).length ≤ (flat ss).length := by
  conv => rhs; rw [← List.take_append_drop k ss]
  unfold flat
  rw [List.flatMap_append, List.length_append]
  omega
theorem flat_step (ss : List ByteArray) (k : Nat) (h : k < ss.length) : (flat (ss.take (k + 1))).length = (flat (ss.take k)).length + (ss.getD k ByteArray.empty).size := by
  rw [flat_snoc ss k h, List.length_append, getD_at ss k h]
  rfl
theorem flat_le (ss : List ByteArray) (k : Nat) (h : k < ss.length) : (flat (ss.take k)).length + (ss.getD k ByteArray.empty).size ≤ (flat ss).length := by
  rw [← flat_step ss k h]; exact flat_take_le ss (k + 1)
theorem cells_cat (s t : ByteArray) : Lib.strCells s ++ Lib.strCells t = Lib.strCells (s ++ t) := by
  unfold Lib.strCells
  rw [list_append, List.map_append]
theorem size_append (s t : ByteArray) : (s ++ t).size = s.size + t.size := by simp

/-- A row of texts in a world. -/
def IsTexts (w : World) (a : Option Addr) (len : Nat) (ss : List ByteArray) : Prop :=
  ss.length = len ∧ ((a = none ∧ len = 0) ∨ ∃ x, a = some x ∧ len ≤ 9223372036854775807 ∧ ∀ i, i < len → w.cell? (x.add i) = some (.string (ss.getD i ByteArray.empty)))
theorem IsTexts.small {w : World} {a : Option Addr} {len : Nat} {ss : List ByteArray} (h : IsTexts w a len ss) : len ≤ 9223372036854775807 := by
  rcases h.2 with ⟨_, rfl⟩ | ⟨x, _, hl, _⟩
  · omega
  · exact hl
theorem IsTexts.kept {P : Nat → Prop} {w w' : World} {a : Option Addr} {len : Nat} {ss : List ByteArray} (h : IsTexts w a len ss) (hk : Kept P w w') (hn : ∀ x, a = some x → ¬ P x.block) : IsTexts w' a len ss := by
  obtain ⟨h1, h3⟩ := h
  refine ⟨h1, ?_⟩
  rcases h3 with h | ⟨x, h, h', hc⟩
  · exact .inl h
  · refine .inr ⟨x, h, h', fun i hi => ?_⟩
    have hc := hc i hi
    have hb : (x.add i).block = x.block := by unfold Addr.add; split <;> rfl
    exact (hk.cell (p := x.add i) (lt_of_cell hc) (by rw [hb]; exact hn x h)).trans hc
theorem IsTexts.below {w w' : World} {a : Option Addr} {len : Nat} {ss : List ByteArray} (h : IsTexts w a len ss) (hb : Below w.heap.size w w') : IsTexts w' a len ss :=
  h.kept (P := fun _ => False) (Kept.of_below hb) (fun _ _ h => h)
theorem IsTexts.none (w : World) : IsTexts w none 0 [] := ⟨rfl, .inl ⟨rfl, rfl⟩⟩

/-- What a row of texts that was made by append is. -/
theorem own_form {w : World} {B : Nat} {e : TypeId} {z : Nat} {v : Value} {n : Nat} {xs : List Value} (h : w.ownsRow B e z v n xs) : ∃ a c, v = .slice a n c ∧ (a = none → n = 0 ∧ c = 0) ∧ (∀ x, a = some x → v.ownBlock = some x.block ∧ x = ⟨x.block, 0, none⟩) := by
  rcases h.2 with ⟨rfl, rfl⟩ | ⟨g, c, cur, rfl, _⟩
  · exact ⟨none, 0, rfl, fun _ => ⟨rfl, rfl⟩, fun x h => by cases h⟩
  · exact ⟨_, c, rfl, fun h => (by cases h), fun x h => (by cases h; exact ⟨rfl, rfl⟩)⟩
theorem own_strs {w : World} {B : Nat} {e : TypeId} {a : Option Addr} {n c : Nat} {ss : List ByteArray} (h : w.ownsRow B e 1 (.slice a n c) n (ss.map Value.string)) (hn : n ≤ 9223372036854775807) : IsTexts w a n ss := by
  have hl : ss.length = n := by have := h.1; simpa using this
  refine ⟨hl, ?_⟩
  cases a with
  | none =>
    rcases h.2 with ⟨h1, rfl⟩ | ⟨g, c', cur, h1, _⟩
    · exact .inl ⟨rfl, rfl⟩
    · cases h1
  | some x =>
    refine .inr ⟨x, rfl, hn, fun i hi => ?_⟩
    have hx : x = ⟨x.block, 0, none⟩ := by
      rcases h.2 with ⟨h1, _⟩ | ⟨g, c', cur, h1, _⟩
      · cases h1
      · cases h1; rfl
    have := h.cells (g := x.block) rfl i (.string (ss.getD i ByteArray.empty)) (by
      rw [List.getElem?_map, List.getElem?_eq_getElem (by omega), getD_at ss i (by omega)]
      rfl)
    rw [← hx] at this
    exact this

/-- The blocks that it calls its own. -/
def ownQ (b : Nat) (v : Value) (k : Nat) : Prop := k = b ∨ v.ownBlock = some k
/-- Blocks that a value calls its own now: they were its, or are new. -/
def NewOwn (v v' : Value) (w : World) : Prop := ∀ k, v'.ownBlock = some k → v.ownBlock = some k ∨ w.heap.size ≤ k
theorem NewOwn.refl (v : Value) (w : World) : NewOwn v v w := fun _ h => .inl h
theorem NewOwn.trans {v v' v'' : Value} {w w' : World} (h : NewOwn v v' w) (k : NewOwn v' v'' w') (hs : w.heap.size ≤ w'.heap.size) : NewOwn v v'' w := by
  intro x hx
  rcases k x hx with h1 | h1
  · exact h x h1
  · exact .inr (by omega)
theorem NewOwn.later {v v' : Value} {w w' : World} (k : NewOwn v v' w') (hs : w.heap.size ≤ w'.heap.size) : NewOwn v v' w := (NewOwn.refl v w).trans k hs
theorem own_weak {w : World} {B : Nat} {e : TypeId} {z : Nat} {v : Value} {n : Nat} {xs : List Value} (h : w.ownsRow B e z v n xs) : w.ownsRow 0 e z v n xs := by
  refine ⟨h.1, ?_⟩
  rcases h.2 with hv | ⟨g, c, cur, hv, _, hr⟩
  · exact .inl hv
  · exact .inr ⟨g, c, cur, hv, Nat.zero_le _, hr⟩
theorem own_kept {P : Nat → Prop} {w w' : World} {B : Nat} {e : TypeId} {z : Nat} {v : Value} {n : Nat} {xs : List Value} (h : w.ownsRow B e z v n xs) (hk : Kept P w w') (hn : ∀ k, v.ownBlock = some k → ¬ P k) : w'.ownsRow B e z v n xs := by
  refine ⟨h.1, ?_⟩
  rcases h.2 with hv | ⟨g, c, cur, hv, h0, hg, hr⟩
  · exact .inl hv
  · have hgl : g < w.heap.size := (Array.getElem?_eq_some_iff.1 hg).1
    exact .inr ⟨g, c, cur, hv, h0, (hk.block g hgl (hn g (by rw [hv]; rfl))).trans hg, hr⟩
/-- Bytes of a text, appended: what is owned then was owned, or is new. -/
theorem run_append_new {P : Program} (w : World) (t u ty e : TypeId) (i : TypeInfo) (ht : P.underlying t = some (.slice e)) (hu : P.underlying u = some .string) (hi : P.info? e = some i) (hz : i.zero = some (.int .u8 0))
    (hsize : i.size = 1) (hby : i.bytes = 1) (v : Value) (n : Nat) (xs : List Value) (hown : w.ownsRow 0 e 1 v n xs) (s : ByteArray) (h : n + s.size ≤ 140737488355328) :
    ∃ v' w', (Builtin.append_ #[t, u] ty #[v, .string s]).run P w = .ok v' w' ∧ w'.ownsRow 0 e 1 v' (n + s.size) (xs ++ Lib.strCells s) ∧ w.grownBy w' v.ownBlock ∧ NewOwn v v' w := by
  have hm : n + s.size ≤ maxLen := by unfold maxLen; omega
  rcases hown.2 with ⟨rfl, rfl⟩ | ⟨g, c, cur, rfl, h0, hg, hnc, hcm, hcs, htk⟩
  · have hx : xs = [] := List.eq_nil_of_length_eq_zero (by have := hown.1; simpa using this)
    subst hx
    obtain ⟨v', w', hr, h2, h3, _⟩ := Lib.run_append_own_string (P := P) w w.heap.size t u ty e i ht hu hi hz hsize hby (.slice none 0 0) 0 [] (World.ownsRow_nil _ _ _ _) s hm h (Nat.le_refl _)
    exact ⟨v', w', hr, own_weak h2, h3, fun k hk => .inr (h2.lt k hk).1⟩
  · obtain ⟨v', w', hr, h2, h3, _⟩ := Lib.run_append_own_string (P := P) w 0 t u ty e i ht hu hi hz hsize hby _ n xs hown s hm h (Nat.zero_le _)
    refine ⟨v', w', hr, h2, h3, ?_⟩
    by_cases hroom : n + s.size ≤ c
    · have hr' := Lib.run_append_room_string (P := P) w t u ty e i ht hu hi hsize g n c cur hg s hroom (by rw [hcs]; omega)
      rw [hr] at hr'
      injection hr' with e1 e2
      subst e1
      exact fun k hk => .inl hk
    · have hr' := Lib.run_append_grow_string (P := P) w t u ty e i (.int .u8 0) ht hu hi hz ⟨g, 0, none⟩ n c xs (by rw [hsize]; exact hown.1) (hown.cells (g := g) rfl) s (by omega) (by omega) (by rw [hby]; exact growslice_fits (by omega) (by omega))
      rw [hr] at hr'
      injection hr' with e1 e2
      subst e1
      intro k hk
      simp only [Value.ownBlock, Option.some.injEq] at hk
      exact .inr (by omega)
theorem wpList_append_new {P : Program} (w : World) {ops : Array Oper} {rest : List Oper} {o : Oper} {a : Act} {Q : Exit → Act → World → Prop} (hgd : o.guard = none) (sl x : Operand) (t u : TypeId)
    (ho : o.op = .call { callee := .builtin .append, args := #[sl, x], argTypes := #[t, u] }) (e : TypeId) (i : TypeInfo) (ht : P.underlying t = some (.slice e)) (hu : P.underlying u = some .string) (hi : P.info? e = some i) (hz : i.zero = some (.int .u8 0))
    (hsize : i.size = 1) (hby : i.bytes = 1) (v : Value) (n : Nat) (xs : List Value) (hs : a.eval sl = v) (hown : w.ownsRow 0 e 1 v n xs) (s : ByteArray) (hx : a.eval x = .string s) (hb : n + s.size ≤ 140737488355328)
    (h : ∀ v' w', w'.ownsRow 0 e 1 v' (n + s.size) (xs ++ Lib.strCells s) → w.grownBy w' v.ownBlock → NewOwn v v' w → wpList P ops Q rest (a.put o.dst v') w') : wpList P ops Q (o :: rest) a w := by
  refine wpList_plain hgd fun K hK => ?_
  obtain ⟨v', w', hr, h2, h3, h4⟩ := run_append_new (P := P) w t u o.type e i ht hu hi hz hsize hby v n xs hown s hb
  unfold Oper.wp execOp
  simp only [ho, resolve, invoke, builtin, Sem.run_bind, Sem.run_pure, Result.andThen_ok, List.map_toArray, List.map_cons, List.map_nil, hs, hx, hr]
  exact hK _ _ (h v' w' h2 h3 h4)

end Go.Proofs.YtjchcknmolffiaaDoor
/- What reads a row of texts, or a quill: contracts. -/
namespace Go.Proofs.YtjchcknmolffiaaDoor
open Go.RowKit

/-- Have the texts together at most so many bytes? -/
def fits (room : Int) (ss : List ByteArray) : Bool := decide (((flat ss).length : Int) ≤ room)
end Go.Proofs.YtjchcknmolffiaaDoor
/- Put: its contract. -/
namespace Go.Proofs.YtjchcknmolffiaaDoor
open Go.RowKit

/-- What Put does: the text behind it, and the error. -/
def putS (most : Int) (s : ByteArray) (ss : List ByteArray) : ByteArray := if fits (most - s.size) ss = true then s ++ cat ss else s
def putE (most : Int) (s : ByteArray) (ss : List ByteArray) : Int := if fits (most - s.size) ss = true then 0 else 10
theorem info_byte : (Tryd.prog.info? 5).map (fun i => (i.zero, i.size, i.bytes)) = some (some (.int .u8 0), 1, 1) := by kernel_rfl

end Go.Proofs.YtjchcknmolffiaaDoor
/- strings.Join and slices.Grow by the shelf's contracts, laid at this program's numbers. -/
namespace Go.Proofs.YtjchcknmolffiaaDoor
open Go.RowKit

set_option maxRecDepth 100000
def join_ren : Go.Shelf.Ren := ⟨fun | 156 => 51 | 165 => 66 | 166 => 67 | 169 => 68 | 240 => 77 | 241 => 78 | 276 => 84 | 277 => 85 | n => n, fun | 0 => 0 | 3 => 3 | 4 => 4 | 5 => 5 | 9 => 9 | 20 => 20 | 31 => 22 | 37 => 69 | 70 => 79 | 72 => 81 | 75 => 84 | 76 => 85 | 80 => 53 | 127 => 89 | 164 => 99 | n => n, fun n => n⟩
theorem join_lays : Lays.n156 Tryd.prog join_ren := {
  mixed := by kernel_rfl,
  f156 := Tryd.func51.trans (congrArg some (by kernel_rfl)),
  f165 := Tryd.func66.trans (congrArg some (by kernel_rfl)),
  f166 := Tryd.func67.trans (congrArg some (by kernel_rfl)),
  f169 := Tryd.func68.trans (congrArg some (by kernel_rfl)),
  f240 := Tryd.func77.trans (congrArg some (by kernel_rfl)),
  f241 := Tryd.func78.trans (congrArg some (by kernel_rfl)),
  f276 := Tryd.func84.trans (congrArg some (by kernel_rfl)),
  f277 := Tryd.func85.trans (congrArg some (by kernel_rfl)),
  t0 := Tryd.underlying0,
  a0 := Tryd.isAgg0,
  z0 := Tryd.sizeOf0,
  v0 := Tryd.zeroValue0,
  t3 := Tryd.underlying3,
  a3 := Tryd.isAgg3,
  z3 := Tryd.sizeOf3,
  v3 := Tryd.zeroValue3,
  t4 := Tryd.underlying4,
  a4 := Tryd.isAgg4,
  z4 := Tryd.sizeOf4,
  v4 := Tryd.zeroValue4,
  t9 := Tryd.underlying9,
  a9 := Tryd.isAgg9,
  z9 := Tryd.sizeOf9,
  v9 := Tryd.zeroValue9,
  t20 := Tryd.underlying20,
  a20 := Tryd.isAgg20,
  z20 := Tryd.sizeOf20,
  v20 := Tryd.zeroValue20,
  t31 := Tryd.underlying22,
  a31 := Tryd.isAgg22,
  z31 := Tryd.sizeOf22,
  v31 := Tryd.zeroValue22,
  t37 := Tryd.underlying69,
  a37 := Tryd.isAgg69,
  z37 := Tryd.sizeOf69,
  v37 := Tryd.zeroValue69,
  t70 := Tryd.underlying79,
  a70 := Tryd.isAgg79,
  z70 := Tryd.sizeOf79,
  v70 := Tryd.zeroValue79,
  t72 := Tryd.underlying81,
  a72 := Tryd.isAgg81,
  z72 := Tryd.sizeOf81,
  v72 := Tryd.zeroValue81,
  t75 := Tryd.underlying84,
  a75 := Tryd.isAgg84,
  z75 := Tryd.sizeOf84,
  v75 := Tryd.zeroValue84,
  t76 := Tryd.underlying85,
  a76 := Tryd.isAgg85,
  z76 := Tryd.sizeOf85,
  v76 := Tryd.zeroValue85,
  t127 := Tryd.underlying89,
  a127 := Tryd.isAgg89,
  z127 := Tryd.sizeOf89,
  v127 := Tryd.zeroValue89,
  t164 := Tryd.underlying99,
  a164 := Tryd.isAgg99,
  z164 := Tryd.sizeOf99,
  v164 := Tryd.zeroValue99 }
theorem join_extra : Builder.Extra Tryd.prog join_ren := {
  sizeBuilder := by kernel_rfl,
  liesBuilder := by kernel_rfl,
  t5 := Tryd.underlying5,
  a5 := Tryd.isAgg5,
  z5 := Tryd.sizeOf5,
  v5 := Tryd.zeroValue5,
  infoByte := by kernel_rfl,
  cellsByte := by kernel_rfl,
  sizeByte := by kernel_rfl,
  neB5 := by decide }
end Go.Proofs.YtjchcknmolffiaaDoor
/- slices.Concat of a row and one text more, and Line: contracts. -/
namespace Go.Proofs.YtjchcknmolffiaaDoor
open Go.RowKit

theorem info_string : (Tryd.prog.info? 9).map (fun i => (i.zero, i.size, i.bytes)) = some (some (.string ⟨#[]⟩), 1, 16) := by kernel_rfl
/-- A row of texts that a call has made. -/
def Row_ (ss : List ByteArray) (w : World) (e : Ending) (w' : World) : Prop := ∃ a n c, e = .returned (.slice a n c) ∧ w'.ownsRow w.heap.size 9 1 (.slice a n c) n (ss.map Value.string) ∧ Below w.heap.size w w'

end Go.Proofs.YtjchcknmolffiaaDoor
/- Line: its contract. -/
namespace Go.Proofs.YtjchcknmolffiaaDoor
open Go.RowKit

/-- A line's end. -/
def crlf : ByteArray := ⟨#[13, 10]⟩
theorem flat_line (ss : List ByteArray) (t : ByteArray) : (flat (ss ++ [t])).length = (flat ss).length + t.size := by
  unfold flat
  rw [List.flatMap_append, List.length_append, List.flatMap_cons, List.flatMap_nil, List.append_nil]
  rfl

end Go.Proofs.YtjchcknmolffiaaDoor
/- What the laws of layer 4 call besides: contracts. -/
namespace Go.Proofs.YtjchcknmolffiaaDoor
open Go.RowKit

/-- A text, cut40. -/
def cut40 (s : ByteArray) : ByteArray := s.extract 0 (min (s.size : Int) 40).toNat
/-- Texts, not more and not longer than the law looks. -/
def fewQ (ss : List ByteArray) : List ByteArray := (ss.take 6).map cut40
theorem cut40_size (s : ByteArray) : (cut40 s).size ≤ 40 := by
  unfold cut40
  simp
  omega
theorem few_snoc (ss : List ByteArray) (k : Nat) (h : k < ss.length) : ((ss.take k).map cut40).map Value.string ++ [.string (cut40 (ss.getD k ByteArray.empty))] = ((ss.take (k + 1)).map cut40).map Value.string := by
  rw [List.take_succ_eq_append_getElem h, getD_at ss k h]
  simp only [List.map_append, List.map_cons, List.map_nil]
theorem few_length (ss : List ByteArray) : (fewQ ss).length ≤ 6 := by
  unfold fewQ
  simp
  omega
theorem flat_cuts : ∀ (l : List ByteArray), (flat (l.map cut40)).length ≤ 40 * l.length
  | [] => by simp [flat]
  | s :: l => by
    have h1 := flat_cuts l
    have h2 := cut40_size s
    have h3 : (flat ((s :: l).map cut40)).length = (cut40 s).size + (flat (l.map cut40)).length := by
      unfold flat
      rw [List.map_cons, List.flatMap_cons, List.length_append]
      rfl
    rw [h3, List.length_cons]
    omega
theorem flat_few (ss : List ByteArray) : (flat (fewQ ss)).length ≤ 240 := by
  have h1 := flat_cuts (ss.take 6)
  have h2 : (ss.take 6).length ≤ 6 := by simp; omega
  show (flat ((ss.take 6).map cut40)).length ≤ 240
  omega

/-- append onto a row of the call's own, as one step of a region that draws. -/
theorem step_append_own {P : Program} {ops : Array Oper} {o : Oper} {a : Act} {w : World} {K : Act → World → Prop} {Q : Exit → Act → World → Prop} {E : Prop}
    (hg : o.guard = none) (s x : Operand) (t : TypeId) (hop : o.op = Op.call { callee := Callee.builtin Builtin.append, args := #[s, x], argTypes := #[t, t] })
    (base : Nat) (e : TypeId) (i : TypeInfo) (z : Value) (size bytes : Nat) (h1 : P.underlying t = some (.slice e)) (h2 : P.info? e = some i) (h3 : i.zero = some z) (h4 : i.size = size) (h5 : i.bytes = bytes) (h6 : z.cells.size = size) (h7 : 0 < size)
    (v : Value) (n : Nat) (xs : List Value) (hs : a.eval s = v) (hown : w.ownsRow base e size v n xs)
    (ad : Addr) (m c : Nat) (news : List Value) (hx : a.eval x = .slice (some ad) m c) (hn : news.length = m * size) (hc : ∀ j u, news[j]? = some u → w.cell? (ad.add j) = some u) (h1c : ∀ u ∈ news, u.oneCell' = true)
    (b1 : n + m ≤ maxLen) (b2 : (n + m) * bytes ≤ 140737488355328) (hb : base ≤ w.heap.size)
    (hK : ∀ v' w', w'.ownsRow base e size v' (n + m) (xs ++ news) → w.grownBy w' v.ownBlock → K (a.put o.dst v') w') :
    if Region.wanted o (yielded ops a.tmps) = true then Oper.wp P o a w K Q else E := by
  have hw : Region.wanted o (yielded ops a.tmps) = true := by simp [Region.wanted, hg]
  rw [if_pos hw]
  obtain ⟨v', w', hrun, r1, r2, _⟩ := run_append_own (P := P) w base t o.type e i z size bytes h1 h2 h3 h4 h5 h6 h7 v n xs hown ad m c news hn hc h1c b1 b2 hb
  unfold Oper.wp
  simp [execOp, hop, resolve, invoke, builtin, hs, hx, hrun, Result.andThen]
  exact hK v' w' r1 r2

end Go.Proofs.YtjchcknmolffiaaDoor
/- The document's Put and Join; Join; the page's example: contracts. -/
namespace Go.Proofs.YtjchcknmolffiaaDoor
open Go.RowKit

theorem join_flat (xs : List (List UInt8)) : Lib.join xs [] = xs.flatten := by
  cases xs with
  | nil => rfl
  | cons x r => rw [Lib.join_cons]; simp [Lib.joinTail]
/-- All texts, with another one between each two. -/
def joinB (sep : ByteArray) (ss : List ByteArray) : ByteArray := ⟨(Lib.join (ss.map (·.data.toList)) sep.data.toList).toArray⟩
theorem joinB_list (sep : ByteArray) (ss : List ByteArray) : (joinB sep ss).data.toList = Lib.join (ss.map (·.data.toList)) sep.data.toList := rfl
theorem joinB_size (sep : ByteArray) (ss : List ByteArray) : (joinB sep ss).size = (Lib.join (ss.map (·.data.toList)) sep.data.toList).length := by
  show (Lib.join (ss.map (·.data.toList)) sep.data.toList).toArray.size = _
  simp
theorem joinB_empty (ss : List ByteArray) : joinB ByteArray.empty ss = cat ss := by
  apply bytes_eq
  rw [joinB_list, cat_data]
  show Lib.join _ [] = _
  rw [join_flat]
  unfold flat
  rw [List.flatMap_def]
theorem joinB_nil (sep : ByteArray) : joinB sep [] = ByteArray.empty := rfl
theorem joinB_one (sep : ByteArray) (ss : List ByteArray) (h : 0 < ss.length) : ByteArray.empty ++ ss.getD 0 ByteArray.empty = joinB sep (ss.take 1) := by
  apply bytes_eq
  rw [list_append, joinB_list, getD_at ss 0 h, List.take_succ_eq_append_getElem h]
  simp [Lib.join_one]
theorem joinB_snoc (sep : ByteArray) (ss : List ByteArray) (k : Nat) (h0 : 0 < k) (h : k < ss.length) : (joinB sep (ss.take k) ++ sep) ++ ss.getD k ByteArray.empty = joinB sep (ss.take (k + 1)) := by
  apply bytes_eq
  obtain ⟨x, r, rfl⟩ := List.exists_cons_of_length_pos (show 0 < ss.length by omega)
  obtain ⟨j, rfl⟩ : ∃ j, k = j + 1 := ⟨k - 1, by omega⟩
  have hj : j < r.length := by simpa using h
  rw [list_append, list_append, joinB_list, joinB_list, getD_at _ _ h, List.take_succ_cons, List.take_succ_cons, List.map_cons, List.map_cons, Lib.join_cons, Lib.join_cons, List.map_take, List.map_take, Lib.joinTail_take_succ sep.data.toList (r.map (·.data.toList)) j r[j].data.toList (by simp [hj])]
  simp
theorem lens_flat (ss : List ByteArray) : Lib.lens (ss.map (·.data.toList)) = (flat ss).length := by
  unfold Lib.lens flat
  rw [List.length_flatMap, List.map_map]
  rfl
theorem joinB_le (sep : ByteArray) (ss : List ByteArray) : (joinB sep ss).size ≤ sep.size * ss.length + (flat ss).length := by
  rw [joinB_size]
  cases ss with
  | nil => simp [Lib.join_nil]
  | cons x r =>
    rw [List.map_cons, Lib.join_length]
    have e0 := lens_flat (x :: r)
    rw [List.map_cons] at e0
    rw [e0]
    have e : sep.data.toList.length = sep.size := by simp
    rw [e, List.length_map, List.length_cons, Nat.mul_succ]
    omega
theorem joinB_take_le (sep : ByteArray) (ss : List ByteArray) (k : Nat) : (joinB sep (ss.take k)).size ≤ sep.size * ss.length + (flat ss).length := by
  have h1 := joinB_le sep (ss.take k)
  have h2 : (ss.take k).length ≤ ss.length := by simp; omega
  have h3 := Nat.mul_le_mul_left sep.size h2
  have h4 := flat_take_le ss k
  omega
end Go.Proofs.YtjchcknmolffiaaDoor
/- The document's Join; Join by the shelf's contract; the page's example: contracts. -/
namespace Go.Proofs.YtjchcknmolffiaaDoor
open Go.RowKit

theorem RJoin_any (sep : ByteArray) (a : Option Addr) (len cp : Nat) (ss : List ByteArray) (w : World) (hz : IsTexts w a len ss) (hb : sep.size * ss.length + (flat ss).length ≤ 100000000) (hsep : sep.size ≤ 100000000) :
    Calls Tryd.prog 16 #[.string sep, .slice a len cp] w fun e w' => e = .returned (.string (joinB sep ss)) ∧ w = w' := by
  obtain ⟨hlen, hz⟩ := hz
  rcases hz with ⟨rfl, rfl⟩ | ⟨x, rfl, hl, hc⟩
  · obtain rfl := List.eq_nil_of_length_eq_zero hlen
    clear hlen hb
    go_enter Tryd.func16, Tryd.ntmps16
    go_wp2_with fail
    refine wp_loop_rounds 1 ?_
    rw [rounds_succ]
    go_wp2_with fail
    go_ret
    exact ⟨rfl, rfl⟩
  · have HC := Lib.hid hc
    have HL := Lib.hid hlen
    have HB := Lib.hid hb
    clear hc hlen hb
    go_enter Tryd.func16, Tryd.ntmps16
    go_wp2_with fail
    go_loop [5, 6] (fun s i => ∃ (k : Nat), k ≤ len ∧ i = .int .i64 k ∧ s = .string (joinB sep (ss.take k))) (fun _ i => len - (intOf i).toNat)
    case atStart => exact ⟨0, Nat.zero_le _, rfl, rfl⟩
    case round =>
      obtain ⟨k, hk, rfl, rfl⟩ := hrel
      by_cases hlt : k < len
      · have hc := HC.out k hlt
        have hkl : k < ss.length := by rw [HL.out]; exact hlt
        have hy : (ss.getD k ByteArray.empty).size ≤ 100000000 := by
          have h1 := flat_le ss k hkl
          have h2 := HB.out
          have h3 := Nat.zero_le (sep.size * ss.length)
          omega
        have hj : (joinB sep (ss.take k)).size ≤ 100000000 := Nat.le_trans (joinB_take_le sep ss k) HB.out
        rcases Nat.eq_zero_or_pos k with rfl | hpos
        · have hs := Lib.hid (joinB_one sep ss hkl)
          have he : joinB sep (ss.take 0) = ByteArray.empty := rfl
          have hx0 : x.add 0 = x := by unfold Addr.add; simp
          rw [hx0] at hc
          rw [he]
          generalize ss.getD 0 ByteArray.empty = y at *
          clear hj he hkl hx0
          go_wp2_with fail
          exact ⟨⟨1, by omega, by go_num, by rw [← hs.out]; exact congrArg Value.string (bytes_eq (by rw [list_append]; rfl))⟩, by simp [intOf]; omega⟩
        · have hs := Lib.hid (joinB_snoc sep ss k hpos hkl)
          generalize ss.getD k ByteArray.empty = y at *
          generalize joinB sep (ss.take k) = z at *
          go_wp2_with fail
          exact ⟨⟨k + 1, by omega, by go_num, by rw [hs.out]⟩, by simp [intOf]; omega⟩
      · have hE := Lib.hid (show ss.take k = ss from List.take_of_length_le (by rw [HL.out]; omega))
        go_wp2_with fail
        go_ret
        rw [hE.out]
        exact ⟨rfl, rfl⟩

theorem add_none (b j : Nat) : (⟨b, 0, none⟩ : Addr).add j = ⟨b, j, none⟩ := by unfold Addr.add; split <;> simp_all
theorem SJoin_any (sep : ByteArray) (a : Option Addr) (len cp : Nat) (ss : List ByteArray) (w : World) (hz : IsTexts w a len ss) (hx : ∀ x, a = some x → x = ⟨x.block, 0, none⟩ ∧ x.block < w.heap.size) (hcp : len ≤ cp) (hlen : len ≤ 1000000)
    (hb : sep.size * ss.length + (flat ss).length ≤ 100000000) :
    Calls Tryd.prog 51 #[.slice a len cp, .string sep] w fun e w' => e = .returned (.string (joinB sep ss)) ∧ Below w.heap.size w w' := by
  obtain ⟨hl, hz⟩ := hz
  rcases hz with ⟨rfl, rfl⟩ | ⟨x, rfl, hxl, hc⟩
  · obtain rfl := List.eq_nil_of_length_eq_zero hl
    exact (Any.strings_Join_none join_lays join_extra none cp sep w).mono fun e w' ⟨he, hw⟩ => ⟨he, hw ▸ Below.refl _ _⟩
  · obtain ⟨hx1, hx2⟩ := hx x rfl
    subst hl
    rw [hx1]
    refine Any.strings_Join join_lays join_extra x.block 0 cp ss sep w ?_ hx2 (by omega) hcp ?_
    · intro j y hj
      obtain ⟨hjl, rfl⟩ := List.getElem?_eq_some_iff.1 hj
      have := hc j hjl
      rw [getD_at ss j hjl, hx1] at this
      rw [add_none] at this
      rw [Nat.zero_add]
      exact this
    · rw [← joinB_size]
      have := joinB_le sep ss
      omega
theorem QJoin_any (sep : ByteArray) (a : Option Addr) (len cp : Nat) (ss : List ByteArray) (w : World) (hz : IsTexts w a len ss) (hx : ∀ x, a = some x → x = ⟨x.block, 0, none⟩ ∧ x.block < w.heap.size) (hcp : len ≤ cp) (hlen : len ≤ 1000000)
    (hb : sep.size * ss.length + (flat ss).length ≤ 100000000) :
    Calls Tryd.prog 29 #[.string sep, .slice a len cp] w fun e w' => e = .returned (.string (joinB sep ss)) ∧ Below w.heap.size w w' := by
  have hJ := Lib.hid (SJoin_any sep a len cp ss w hz hx hcp hlen hb)
  clear hz hx hcp hlen hb
  go_enter Tryd.func29, Tryd.ntmps29
  go_wp2_with fail
  refine hJ.out.mono ?_
  rintro e w1 ⟨rfl, hb1⟩
  go_wp2_with fail
  go_ret
  exact ⟨rfl, hb1⟩

def tAb : ByteArray := ⟨#[97, 98]⟩
def tC : ByteArray := ⟨#[99]⟩
def tDef : ByteArray := ⟨#[100, 101, 102]⟩
def tAbc : ByteArray := ⟨#[97, 98, 99]⟩
def tEnd : ByteArray := ⟨#[97, 98, 99, 13, 10]⟩
theorem one_text (w : World) (t : ByteArray) (y : TypeId) : IsTexts (w.alloc (.cells #[.string t] y)) (some ⟨w.heap.size, 0, none⟩) 1 [t] :=
  ⟨rfl, .inr ⟨_, rfl, by omega, fun i hi => by rcases i with _ | i <;> first | omega | simp [go_sem]⟩⟩
theorem two_texts (w : World) (t u : ByteArray) (y : TypeId) : IsTexts (w.alloc (.cells #[.string t, .string u] y)) (some ⟨w.heap.size, 0, none⟩) 2 [t, u] :=
  ⟨rfl, .inr ⟨_, rfl, by omega, fun i hi => by rcases i with _ | _ | i <;> first | omega | simp [go_sem]⟩⟩
end Go.Proofs.YtjchcknmolffiaaDoor
/- The law QuillNone: its walk. -/
namespace Go.Proofs.YtjchcknmolffiaaDoor
open Go.RowKit

/-- What a row that a call has made gives. -/
theorem row_facts {w : World} {B : Nat} {a : Option Addr} {n c : Nat} {ss : List ByteArray} (h : w.ownsRow B 9 1 (.slice a n c) n (ss.map Value.string)) (hs : ss.length ≤ 1000) :
    n = ss.length ∧ IsTexts w a n ss ∧ (a = none → c = 0) ∧ (∀ x, a = some x → x = ⟨x.block, 0, none⟩ ∧ x.block < w.heap.size) ∧ n ≤ c := by
  have hl : ss.length = n := by have := h.1; simpa using this
  refine ⟨hl.symm, own_strs h (by omega), ?_, ?_, ?_⟩
  · rintro rfl
    rcases h.2 with ⟨h1, _⟩ | ⟨g, c', cur, h1, _⟩
    · cases h1; rfl
    · cases h1
  · rintro x rfl
    refine ⟨?_, (h.lt x.block rfl).2⟩
    rcases h.2 with ⟨h1, _⟩ | ⟨g, c', cur, h1, _⟩
    · cases h1
    · cases h1; rfl
  · rcases h.2 with ⟨h1, h2⟩ | ⟨g, c', cur, h1, _, _, h3, _⟩
    · omega
    · cases h1; exact h3
theorem put_zero (ss : List ByteArray) (h : (flat ss).length = 0) : putE 0 ByteArray.empty ss = 0 ∧ putS 0 ByteArray.empty ss = ByteArray.empty := by
  have hf : fits (0 - (ByteArray.empty.size : Nat)) ss = true := by
    have e : ByteArray.empty.size = 0 := rfl
    unfold fits
    rw [h, e]
    rfl
  refine ⟨by unfold putE; rw [if_pos hf], ?_⟩
  unfold putS
  rw [if_pos hf]
  apply bytes_eq
  rw [list_append, cat_data, List.eq_nil_of_length_eq_zero h]
  rfl
theorem put_some (ss : List ByteArray) (h : 0 < (flat ss).length) : putE 0 ByteArray.empty ss = 10 ∧ putS 0 ByteArray.empty ss = ByteArray.empty := by
  have hf : ¬ fits (0 - (ByteArray.empty.size : Nat)) ss = true := by
    have e : ByteArray.empty.size = 0 := rfl
    unfold fits
    rw [e]
    simp
    intro hn
    rw [hn] at h
    simp at h
  exact ⟨by unfold putE; rw [if_neg hf], by unfold putS; rw [if_neg hf]⟩

end Go.Proofs.YtjchcknmolffiaaDoor
/- The law QuillJoins: its walk. -/
namespace Go.Proofs.YtjchcknmolffiaaDoor
open Go.RowKit

theorem put_all (most : Int) (ss : List ByteArray) (h : ((flat ss).length : Int) ≤ most) : putE most ByteArray.empty ss = 0 ∧ putS most ByteArray.empty ss = cat ss := by
  have hf : fits (most - (ByteArray.empty.size : Nat)) ss = true := by
    have e : ByteArray.empty.size = 0 := rfl
    unfold fits
    rw [e]
    exact decide_eq_true (by omega)
  refine ⟨by unfold putE; rw [if_pos hf], ?_⟩
  unfold putS
  rw [if_pos hf]
  apply bytes_eq
  rw [list_append]
  rfl

end Go.Proofs.YtjchcknmolffiaaDoor
/- The law QuillPlays: its walk. -/
namespace Go.Proofs.YtjchcknmolffiaaDoor
open Go.RowKit

/-- A row of deeds that came in, read at its cells. -/
def IsDeeds4 (w : World) (a : Option Addr) (len : Nat) : Prop :=
  (a = none ∧ len = 0) ∨ ∃ x, a = some x ∧ len ≤ 9223372036854775807 ∧ ∀ i, i < len → ∃ (ln tk : Bool) (a2 : Option Addr) (len2 cp2 : Nat) (ss : List ByteArray), IsTexts w a2 len2 ss ∧
    w.cell? (x.add (i * 3)) = some (.bool ln) ∧ w.cell? ⟨(x.add (i * 3)).block, (x.add (i * 3)).off + 1, none⟩ = some (.bool tk) ∧ w.cell? ⟨(x.add (i * 3)).block, (x.add (i * 3)).off + 2, none⟩ = some (.slice a2 len2 cp2)
theorem IsDeeds4.below {w w' : World} {a : Option Addr} {len : Nat} (h : IsDeeds4 w a len) (hb : Below w.heap.size w w') : IsDeeds4 w' a len := by
  rcases h with h | ⟨x, rfl, hl, h⟩
  · exact .inl h
  · refine .inr ⟨x, rfl, hl, fun i hi => ?_⟩
    obtain ⟨ln, tk, a2, len2, cp2, ss, ht, c0, c1, c2⟩ := h i hi
    exact ⟨ln, tk, a2, len2, cp2, ss, ht.below hb, (hb.cell (lt_of_cell c0)).trans c0, (hb.cell (lt_of_cell c1)).trans c1, (hb.cell (lt_of_cell c2)).trans c2⟩
theorem putS_le (M : Int) (s : ByteArray) (ss : List ByteArray) : (putS M s ss).size ≤ s.size + (flat ss).length := by
  unfold putS
  split
  · rw [size_append, cat_size]; omega
  · omega

end Go.Proofs.YtjchcknmolffiaaDoor
/- A row of texts, and a row of deeds, that came in, opened at their cells. -/
namespace Go.Proofs.YtjchcknmolffiaaDoor
open Go.ChangeShapes Go.WideShapes Go.ChangeAt Go.RowKit Go.Deep

/-- The text that a value is. -/
def textOf : Value → ByteArray
  | .string t => t
  | _ => ByteArray.empty
theorem texts_trod {H : Type} {enc : TypeId × Value → H} {w : World} {base : Nat} {spare : Nat → Bool} {held : Bool} {fuel : Nat} {v : Value} {x : DataW H × List MemPlace}
    (hf : DataW.trod enc Tryd.prog w base spare held fuel 22 [v] = some x) : ∃ a len cap ss, v = .slice a len cap ∧ IsTexts w a len ss := by
  rcases open_slice1 Tryd.underlying22 (by kernel_rfl) hf with ⟨hcs, _⟩ | ⟨y, l, c, m, n, V, D, Pl, hcs, _, hl, hm, hmm, _, hi⟩
  · simp at hcs
    exact ⟨none, 0, 0, [], hcs, IsTexts.none w⟩
  · simp at hcs
    refine ⟨some y, l, c, (List.range l).map fun i => textOf (V i), hcs, by simp, .inr ⟨y, rfl, by unfold maxLen at hm; omega, fun i hil => ?_⟩⟩
    have him : i < m := by rw [hmm]; split <;> omega
    obtain ⟨hc, ht⟩ := hi i him
    obtain ⟨t, q, _, _⟩ := DataW.trod_string Tryd.underlying9 ht
    simp only [List.cons.injEq, and_true] at q
    rw [hc, getD_at _ i (by simpa using hil)]
    simp [q, textOf]
theorem texts_open {H : Type} {enc : TypeId × Value → H} {w : World} {base : Nat} {spare : Nat → Bool} {held : Bool} {a : Option Addr} {len cap : Nat} {d : DataW H} {p : List MemPlace}
    (h : DataW.Trod enc Tryd.prog w base spare held 22 (.slice a len cap) d p) : ∃ ss, IsTexts w a len ss := by
  obtain ⟨fuel, hf⟩ := h
  have e : (Value.slice a len cap).cells.toList = [.slice a len cap] := rfl
  obtain ⟨a', len', cap', ss, hv, ht⟩ := texts_trod (v := .slice a len cap) hf
  injection hv with h1 h2 h3
  subst h1 h2 h3
  exact ⟨ss, ht⟩
end Go.Proofs.YtjchcknmolffiaaDoor
