/- The world behind a call that may turn some blocks, told by a predicate, and lays new ones. Nothing here speaks of the program. -/
import Derived.WalkKit
import Derived.WalkSpells
import Derived.WalkLawsBesides
import Derived.BigGuardPart
import Derived.Lib.Hide
import Derived.Deep.QuietTactic
import Derived.BigQuiet
import Derived.Deep.OwnRows
namespace Go.Proofs.YtchhjmdbjndckaaDoor
open Go.RowKit

/-- Of the blocks that lay in w all are in w' as they were, but for those that P names. -/
structure Kept (P : Nat → Prop) (w w' : World) : Prop where
  os : w'.os = w.os
  tape : w'.tape = w.tape
  output : w'.output = w.output
  size : w.heap.size ≤ w'.heap.size
  block : ∀ k, k < w.heap.size → ¬ P k → w'.heap[k]? = w.heap[k]?
namespace Kept
theorem refl (P : Nat → Prop) (w : World) : Kept P w w := ⟨rfl, rfl, rfl, Nat.le_refl _, fun _ _ _ => rfl⟩
theorem trans {P : Nat → Prop} {a b c : World} (h : Kept P a b) (k : Kept P b c) : Kept P a c :=
  ⟨k.os.trans h.os, k.tape.trans h.tape, k.output.trans h.output, Nat.le_trans h.size k.size, fun i hi hp => (k.block i (Nat.lt_of_lt_of_le hi h.size) hp).trans (h.block i hi hp)⟩
theorem mono {P Q : Nat → Prop} {a b : World} (h : Kept P a b) (hpq : ∀ k, k < a.heap.size → P k → Q k) : Kept Q a b :=
  ⟨h.os, h.tape, h.output, h.size, fun i hi hq => h.block i hi fun hp => hq (hpq i hi hp)⟩
theorem of_below {P : Nat → Prop} {a b : World} (h : Below a.heap.size a b) : Kept P a b := ⟨h.os, h.tape, h.output, h.size, fun i hi _ => h.block i hi⟩
theorem of_below' {P : Nat → Prop} {B : Nat} {a b : World} (h : Below B a b) (hp : ∀ k, B ≤ k → P k) : Kept P a b :=
  ⟨h.os, h.tape, h.output, h.size, fun i _ hn => h.block i (Nat.lt_of_not_le fun hb => hn (hp i hb))⟩
theorem below {B : Nat} {a b : World} (h : Kept (fun k => B ≤ k) a b) (hb : B ≤ a.heap.size) : Below B a b :=
  ⟨h.os, h.tape, h.output, h.size, fun i hi => h.block i (by omega) (by omega)⟩
theorem drewN {P : Nat → Prop} {a b : World} (h : Kept P a b) (n : Nat) : Kept P a (b.drewN n) := ⟨h.os, h.tape, h.output, h.size, h.block⟩
theorem alloc {P : Nat → Prop} {a b : World} (h : Kept P a b) (o : Obj) : Kept P a (b.alloc o) :=
  h.trans (of_below ((Below.refl _ _).alloc (Nat.le_refl _) _))
theorem setCell {P : Nat → Prop} {a b : World} (h : Kept P a b) {p : Addr} (hp : P p.block ∨ a.heap.size ≤ p.block) (v : Value) : Kept P a (b.setCell p v) := by
  refine ⟨h.os, h.tape, h.output, by simp only [World.setCell, Array.size_modify]; exact h.size, fun i hi hn => ?_⟩
  have hne : i ≠ p.block := by
    rintro rfl
    rcases hp with hp | hp
    · exact hn hp
    · omega
  exact (Below.heap_setCell _ _ _ _ hne).trans (h.block i hi hn)
theorem setCellL {P : Nat → Prop} {a b : World} (h : Kept P a b) {p : Addr} (hp : P p.block) (v : Value) : Kept P a (b.setCell p v) := h.setCell (.inl hp) v
theorem setCellR {P : Nat → Prop} {a b : World} (h : Kept P a b) {p : Addr} (hp : a.heap.size ≤ p.block) (v : Value) : Kept P a (b.setCell p v) := h.setCell (.inr hp) v
theorem drew {P : Nat → Prop} {a b : World} (h : Kept P a b) : Kept P a b.drew := ⟨h.os, h.tape, h.output, h.size, h.block⟩
theorem cell {P : Nat → Prop} {a b : World} (h : Kept P a b) {p : Addr} (hlt : p.block < a.heap.size) (hn : ¬ P p.block) : b.cell? p = a.cell? p :=
  World.cell?_of_block (h.block _ hlt hn)
theorem frozen {P : Nat → Prop} {a b : World} (h : Kept P a b) {p : Addr} (hlt : p.block < a.heap.size) (hn : ¬ P p.block) : b.frozen? p = a.frozen? p :=
  World.frozen?_of_block (h.block _ hlt hn)
/-- A call whose frame began later, in a frame that began earlier. -/
theorem later {P : Nat → Prop} {B : Nat} {a b c : World} (h : Kept P a b) (k : Kept (fun i => P i ∨ B ≤ i) b c) (hB : a.heap.size ≤ B) : Kept P a c :=
  ⟨k.os.trans h.os, k.tape.trans h.tape, k.output.trans h.output, Nat.le_trans h.size k.size, fun i hi hp => (k.block i (Nat.lt_of_lt_of_le hi h.size) (fun hq => hq.elim hp (by omega))).trans (h.block i hi hp)⟩
end Kept

/-- Block b begins with these cells, none of them frozen. -/
def Has (w : World) (b : Nat) (l : List Value) : Prop := ∀ i v, l[i]? = some v → w.cell? ⟨b, i, none⟩ = some v ∧ w.frozen? ⟨b, i, none⟩ = false
namespace Has
theorem lt {w : World} {b : Nat} {l : List Value} (h : Has w b l) (hl : 0 < l.length) : b < w.heap.size := by
  obtain ⟨x, r, rfl⟩ := List.exists_cons_of_length_pos hl
  have := (h 0 x rfl).1
  unfold World.cell? at this
  rcases hx : w.heap[b]? with _ | o
  · rw [hx] at this; simp at this
  · exact (Array.getElem?_eq_some_iff.1 hx).1
theorem c0 {w : World} {b : Nat} {x : Value} {l : List Value} (h : Has w b (x :: l)) : w.cell? ⟨b, 0, none⟩ = some x := (h 0 x rfl).1
theorem f0 {w : World} {b : Nat} {x : Value} {l : List Value} (h : Has w b (x :: l)) : w.frozen? ⟨b, 0, none⟩ = false := (h 0 x rfl).2
theorem c1 {w : World} {b : Nat} {x y : Value} {l : List Value} (h : Has w b (x :: y :: l)) : w.cell? ⟨b, 1, none⟩ = some y := (h 1 y rfl).1
theorem f1 {w : World} {b : Nat} {x y : Value} {l : List Value} (h : Has w b (x :: y :: l)) : w.frozen? ⟨b, 1, none⟩ = false := (h 1 y rfl).2
theorem c2 {w : World} {b : Nat} {x y z : Value} {l : List Value} (h : Has w b (x :: y :: z :: l)) : w.cell? ⟨b, 2, none⟩ = some z := (h 2 z rfl).1
theorem f2 {w : World} {b : Nat} {x y z : Value} {l : List Value} (h : Has w b (x :: y :: z :: l)) : w.frozen? ⟨b, 2, none⟩ = false := (h 2 z rfl).2
theorem c3 {w : World} {b : Nat} {x y z u : Value} {l : List Value} (h : Has w b (x :: y :: z :: u :: l)) : w.cell? ⟨b, 3, none⟩ = some u := (h 3 u rfl).1
theorem f3 {w : World} {b : Nat} {x y z u : Value} {l : List Value} (h : Has w b (x :: y :: z :: u :: l)) : w.frozen? ⟨b, 3, none⟩ = false := (h 3 u rfl).2
theorem made (w : World) (l : Array Value) (t : TypeId) : Has (w.alloc (.cells l t)) w.heap.size l.toList := by
  intro i v hv
  have hv' : l[i]? = some v := by simpa using hv
  exact ⟨by simp [go_sem, hv'], by simp [go_sem]⟩
theorem kept {P : Nat → Prop} {w w' : World} {b : Nat} {l : List Value} (h : Has w b l) (hk : Kept P w w') (hl : 0 < l.length) (hp : ¬ P b) : Has w' b l := by
  have hb := h.lt hl
  intro i v hv
  exact ⟨(hk.cell (p := ⟨b, i, none⟩) hb hp).trans (h i v hv).1, (hk.frozen (p := ⟨b, i, none⟩) hb hp).trans (h i v hv).2⟩
theorem below {w w' : World} {b : Nat} {l : List Value} (h : Has w b l) (hk : Below w.heap.size w w') (hl : 0 < l.length) : Has w' b l := h.kept (P := fun _ => False) (Kept.of_below hk) hl (fun x => x)
theorem alloc {w : World} {b : Nat} {l : List Value} (h : Has w b l) (hl : 0 < l.length) (o : Obj) : Has (w.alloc o) b l := h.kept (P := fun _ => False) ((Kept.refl _ _).alloc o) hl (fun x => x)
theorem drewN {w : World} {b : Nat} {l : List Value} (h : Has w b l) (n : Nat) : Has (w.drewN n) b l := h
theorem set {w : World} {b : Nat} {l : List Value} (h : Has w b l) (i : Nat) (v : Value) : Has (w.setCell ⟨b, i, none⟩ v) b (l.set i v) := by
  intro j u hj
  by_cases e : i = j
  · subst e
    have hlt : i < l.length := by
      by_cases hlt : i < l.length
      · exact hlt
      · rw [List.getElem?_eq_none (by simp; omega)] at hj; simp at hj
    rw [List.getElem?_set_self hlt] at hj
    obtain rfl := Option.some.inj hj
    have := h i l[i] (List.getElem?_eq_getElem hlt)
    exact ⟨World.cell?_setCell_same _ _ _ this.1, by rw [World.frozen?_setCell]; exact this.2⟩
  · rw [List.getElem?_set_ne e] at hj
    have := h j u hj
    exact ⟨by rw [World.cell?_setCell_other _ _ _ _ (by simp)]; exact this.1, by rw [World.frozen?_setCell]; exact this.2⟩
theorem other {w : World} {b : Nat} {l : List Value} (h : Has w b l) {a : Addr} (ha : a.block ≠ b) (v : Value) : Has (w.setCell a v) b l := by
  intro j u hj
  have := h j u hj
  exact ⟨by rw [World.cell?_setCell_other _ _ _ _ (by rintro rfl; exact ha rfl)]; exact this.1, by rw [World.frozen?_setCell]; exact this.2⟩
end Has
/-- A cell, or its mark, carried over a call. -/
theorem Kept.at_cell {P : Nat → Prop} {a c : World} (h : Kept P a c) {b i : Nat} {x : Option Value} (hlt : b < a.heap.size) (hn : ¬ P b) (hx : a.cell? ⟨b, i, none⟩ = x) : c.cell? ⟨b, i, none⟩ = x := (h.cell (p := ⟨b, i, none⟩) hlt hn).trans hx
theorem Kept.at_frozen {P : Nat → Prop} {a c : World} (h : Kept P a c) {b i : Nat} {x : Bool} (hlt : b < a.heap.size) (hn : ¬ P b) (hx : a.frozen? ⟨b, i, none⟩ = x) : c.frozen? ⟨b, i, none⟩ = x := (h.frozen (p := ⟨b, i, none⟩) hlt hn).trans hx
theorem below_cell {a c : World} (h : Below a.heap.size a c) {b i : Nat} {x : Option Value} (hlt : b < a.heap.size) (hx : a.cell? ⟨b, i, none⟩ = x) : c.cell? ⟨b, i, none⟩ = x := (h.cell (p := ⟨b, i, none⟩) hlt).trans hx
theorem below_frozen {a c : World} (h : Below a.heap.size a c) {b i : Nat} {x : Bool} (hlt : b < a.heap.size) (hx : a.frozen? ⟨b, i, none⟩ = x) : c.frozen? ⟨b, i, none⟩ = x := (h.frozen (p := ⟨b, i, none⟩) hlt).trans hx
theorem below_drewN (B : Nat) (w : World) (n : Nat) : Below B w (w.drewN n) := ⟨rfl, rfl, rfl, Nat.le_refl _, fun _ _ => rfl⟩
theorem below_then {w a b : World} (h : Below w.heap.size w a) (k : Below a.heap.size a b) : Below w.heap.size w b := h.trans (k.mono h.size)
theorem lt_of_cell {w : World} {a : Addr} {v : Value} (h : w.cell? a = some v) : a.block < w.heap.size := by
  unfold World.cell? at h
  rcases hx : w.heap[a.block]? with _ | o
  · rw [hx] at h; simp at h
  · exact (Array.getElem?_eq_some_iff.1 hx).1
theorem size_setCell (w : World) (a : Addr) (v : Value) : (w.setCell a v).heap.size = w.heap.size := by simp only [World.setCell, Array.size_modify]
theorem bcell {W w1 : World} (hb : Below W.heap.size W w1) : (∀ b o, b < W.heap.size → w1.cell? ⟨b, o, none⟩ = W.cell? ⟨b, o, none⟩) ∧ (∀ b o, b < W.heap.size → w1.frozen? ⟨b, o, none⟩ = W.frozen? ⟨b, o, none⟩) :=
  ⟨fun b o h => hb.cell (p := ⟨b, o, none⟩) h, fun b o h => hb.frozen (p := ⟨b, o, none⟩) h⟩
end Go.Proofs.YtchhjmdbjndckaaDoor
