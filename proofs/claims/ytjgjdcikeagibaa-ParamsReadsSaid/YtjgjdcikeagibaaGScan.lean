/- Contracts and lemmas that the claim rests on: World Lift ScanA ScanB ScanC ScanD ScanE ScanF. -/
import Derived.WalkKit
import Derived.WalkSpells
import Derived.WalkLawsBesides
import Derived.BigGuardPart
import Derived.Lib.Hide
import Derived.Deep.QuietTactic
import Derived.BigQuiet
import Derived.Deep.OwnRows
import Derived.Test.YtjgjdcikeagibaaRows
import Derived.ProofKit
import Derived.OpenShut
import Derived.Deep.Slices
import Derived.Test.YtjgjdcikeagibaaGOct
/- The world behind a call that may turn some blocks, told by a predicate, and lays new ones. Nothing here speaks of the program. -/
namespace Go.Proofs.Ytjgjdcikeagibaa
open Go.RowKit

/-- Of the blocks that lay in w all are in w' as they were, but for those that P names. -/
structure Kept (P : Nat → Prop) (w w' : World) : Prop where
  os : w'.os = w.os
  tape : w'.tape = w.tape
  output : w'.output = w.output
  size : w.heap.size ≤ w'.heap.size
  block : ∀ k, k < w.heap.size → ¬ P k → w'.heap[k]? = w.heap[k]?
namespace Kept
theorem refl (P : Nat → Prop) (w : World) : Kept P w w := ⟨rfl, rfl, rfl, Nat.le_refl _, fun _ _ _ => rfl⟩
theorem trans {P : Nat → Prop} {a b c : World} (h : Kept P a b) (k : Kept P b c) : Kept P a c :=
  ⟨k.os.trans h.os, k.tape.trans h.tape, k.output.trans h.output, Nat.le_trans h.size k.size, fun i hi hp => (k.block i (Nat.lt_of_lt_of_le hi h.size) hp).trans (h.block i hi hp)⟩
theorem mono {P Q : Nat → Prop} {a b : World} (h : Kept P a b) (hpq : ∀ k, k < a.heap.size → P k → Q k) : Kept Q a b :=
  ⟨h.os, h.tape, h.output, h.size, fun i hi hq => h.block i hi fun hp => hq (hpq i hi hp)⟩
theorem of_below {P : Nat → Prop} {a b : World} (h : Below a.heap.size a b) : Kept P a b := ⟨h.os, h.tape, h.output, h.size, fun i hi _ => h.block i hi⟩
theorem of_below' {P : Nat → Prop} {B : Nat} {a b : World} (h : Below B a b) (hp : ∀ k, B ≤ k → P k) : Kept P a b :=
  ⟨h.os, h.tape, h.output, h.size, fun i _ hn => h.block i (Nat.lt_of_not_le fun hb => hn (hp i hb))⟩
theorem below {B : Nat} {a b : World} (h : Kept (fun k => B ≤ k) a b) (hb : B ≤ a.heap.size) : Below B a b :=
  ⟨h.os, h.tape, h.output, h.size, fun i hi => h.block i (by omega) (by omega)⟩
theorem drewN {P : Nat → Prop} {a b : World} (h : Kept P a b) (n : Nat) : Kept P a (b.drewN n) := ⟨h.os, h.tape, h.output, h.size, h.block⟩
theorem alloc {P : Nat → Prop} {a b : World} (h : Kept P a b) (o : Obj) : Kept P a (b.alloc o) :=
  h.trans (of_below ((Below.refl _ _).alloc (Nat.le_refl _) _))
theorem setCell {P : Nat → Prop} {a b : World} (h : Kept P a b) {p : Addr} (hp : P p.block ∨ a.heap.size ≤ p.block) (v : Value) : Kept P a (b.setCell p v) := by
  refine ⟨h.os, h.tape, h.output, by simp only [World.setCell, Array.size_modify]; exact h.size, fun i hi hn => ?_⟩
  have hne : i ≠ p.block := by
    rintro rfl
    rcases hp with hp | hp
    · exact hn hp
    · omega
  exact (Below.heap_setCell _ _ _ _ hne).trans (h.block i hi hn)
theorem setCellL {P : Nat → Prop} {a b : World} (h : Kept P a b) {p : Addr} (hp : P p.block) (v : Value) : Kept P a (b.setCell p v) := h.setCell (.inl hp) v
theorem setCellR {P : Nat → Prop} {a b : World} (h : Kept P a b) {p : Addr} (hp : a.heap.size ≤ p.block) (v : Value) : Kept P a (b.setCell p v) := h.setCell (.inr hp) v
theorem drew {P : Nat → Prop} {a b : World} (h : Kept P a b) : Kept P a b.drew := ⟨h.os, h.tape, h.output, h.size, h.block⟩
theorem cell {P : Nat → Prop} {a b : World} (h : Kept P a b) {p : Addr} (hlt : p.block < a.heap.size) (hn : ¬ P p.block) : b.cell? p = a.cell? p :=
  World.cell?_of_block (h.block _ hlt hn)
theorem frozen {P : Nat → Prop} {a b : World} (h : Kept P a b) {p : Addr} (hlt : p.block < a.heap.size) (hn : ¬ P p.block) : b.frozen? p = a.frozen? p :=
  World.frozen?_of_block (h.block _ hlt hn)
/-- A call whose frame began later, in a frame that began earlier. -/
theorem later {P : Nat → Prop} {B : Nat} {a b c : World} (h : Kept P a b) (k : Kept (fun i => P i ∨ B ≤ i) b c) (hB : a.heap.size ≤ B) : Kept P a c :=
  ⟨k.os.trans h.os, k.tape.trans h.tape, k.output.trans h.output, Nat.le_trans h.size k.size, fun i hi hp => (k.block i (Nat.lt_of_lt_of_le hi h.size) (fun hq => hq.elim hp (by omega))).trans (h.block i hi hp)⟩
end Kept

/-- Block b begins with these cells, none of them frozen. -/
def Has (w : World) (b : Nat) (l : List Value) : Prop := ∀ i v, l[i]? = some v → w.cell? ⟨b, i, none⟩ = some v ∧ w.frozen? ⟨b, i, none⟩ = false
namespace Has
theorem lt {w : World} {b : Nat} {l : List Value} (h : Has w b l) (hl : 0 < l.length) : b < w.heap.size := by
  obtain ⟨x, r, rfl⟩ := List.exists_cons_of_length_pos hl
  have := (h 0 x rfl).1
  unfold World.cell? at this
  rcases hx : w.heap[b]? with _ | o
  · rw [hx] at this; simp at this
  · exact (Array.getElem?_eq_some_iff.1 hx).1
theorem c0 {w : World} {b : Nat} {x : Value} {l : List Value} (h : Has w b (x :: l)) : w.cell? ⟨b, 0, none⟩ = some x := (h 0 x rfl).1
theorem f0 {w : World} {b : Nat} {x : Value} {l : List Value} (h : Has w b (x :: l)) : w.frozen? ⟨b, 0, none⟩ = false := (h 0 x rfl).2
theorem c1 {w : World} {b : Nat} {x y : Value} {l : List Value} (h : Has w b (x :: y :: l)) : w.cell? ⟨b, 1, none⟩ = some y := (h 1 y rfl).1
theorem f1 {w : World} {b : Nat} {x y : Value} {l : List Value} (h : Has w b (x :: y :: l)) : w.frozen? ⟨b, 1, none⟩ = false := (h 1 y rfl).2
theorem c2 {w : World} {b : Nat} {x y z : Value} {l : List Value} (h : Has w b (x :: y :: z :: l)) : w.cell? ⟨b, 2, none⟩ = some z := (h 2 z rfl).1
theorem f2 {w : World} {b : Nat} {x y z : Value} {l : List Value} (h : Has w b (x :: y :: z :: l)) : w.frozen? ⟨b, 2, none⟩ = false := (h 2 z rfl).2
theorem c3 {w : World} {b : Nat} {x y z u : Value} {l : List Value} (h : Has w b (x :: y :: z :: u :: l)) : w.cell? ⟨b, 3, none⟩ = some u := (h 3 u rfl).1
theorem f3 {w : World} {b : Nat} {x y z u : Value} {l : List Value} (h : Has w b (x :: y :: z :: u :: l)) : w.frozen? ⟨b, 3, none⟩ = false := (h 3 u rfl).2
theorem made (w : World) (l : Array Value) (t : TypeId) : Has (w.alloc (.cells l t)) w.heap.size l.toList := by
  intro i v hv
  have hv' : l[i]? = some v := by simpa using hv
  exact ⟨by simp [go_sem, hv'], by simp [go_sem]⟩
theorem kept {P : Nat → Prop} {w w' : World} {b : Nat} {l : List Value} (h : Has w b l) (hk : Kept P w w') (hl : 0 < l.length) (hp : ¬ P b) : Has w' b l := by
  have hb := h.lt hl
  intro i v hv
  exact ⟨(hk.cell (p := ⟨b, i, none⟩) hb hp).trans (h i v hv).1, (hk.frozen (p := ⟨b, i, none⟩) hb hp).trans (h i v hv).2⟩
theorem below {w w' : World} {b : Nat} {l : List Value} (h : Has w b l) (hk : Below w.heap.size w w') (hl : 0 < l.length) : Has w' b l := h.kept (P := fun _ => False) (Kept.of_below hk) hl (fun x => x)
theorem alloc {w : World} {b : Nat} {l : List Value} (h : Has w b l) (hl : 0 < l.length) (o : Obj) : Has (w.alloc o) b l := h.kept (P := fun _ => False) ((Kept.refl _ _).alloc o) hl (fun x => x)
theorem drewN {w : World} {b : Nat} {l : List Value} (h : Has w b l) (n : Nat) : Has (w.drewN n) b l := h
theorem set {w : World} {b : Nat} {l : List Value} (h : Has w b l) (i : Nat) (v : Value) : Has (w.setCell ⟨b, i, none⟩ v) b (l.set i v) := by
  intro j u hj
  by_cases e : i = j
  · subst e
    have hlt : i < l.length := by
      by_cases hlt : i < l.length
      · exact hlt
      · rw [List.getElem?_eq_none (by simp; omega)] at hj; simp at hj
    rw [List.getElem?_set_self hlt] at hj
    obtain rfl := Option.some.inj hj
    have := h i l[i] (List.getElem?_eq_getElem hlt)
    exact ⟨World.cell?_setCell_same _ _ _ this.1, by rw [World.frozen?_setCell]; exact this.2⟩
  · rw [List.getElem?_set_ne e] at hj
    have := h j u hj
    exact ⟨by rw [World.cell?_setCell_other _ _ _ _ (by simp)]; exact this.1, by rw [World.frozen?_setCell]; exact this.2⟩
theorem other {w : World} {b : Nat} {l : List Value} (h : Has w b l) {a : Addr} (ha : a.block ≠ b) (v : Value) : Has (w.setCell a v) b l := by
  intro j u hj
  have := h j u hj
  exact ⟨by rw [World.cell?_setCell_other _ _ _ _ (by rintro rfl; exact ha rfl)]; exact this.1, by rw [World.frozen?_setCell]; exact this.2⟩
end Has
/-- A cell, or its mark, carried over a call. -/
theorem Kept.at_cell {P : Nat → Prop} {a c : World} (h : Kept P a c) {b i : Nat} {x : Option Value} (hlt : b < a.heap.size) (hn : ¬ P b) (hx : a.cell? ⟨b, i, none⟩ = x) : c.cell? ⟨b, i, none⟩ = x := (h.cell (p := ⟨b, i, none⟩) hlt hn).trans hx
theorem Kept.at_frozen {P : Nat → Prop} {a c : World} (h : Kept P a c) {b i : Nat} {x : Bool} (hlt : b < a.heap.size) (hn : ¬ P b) (hx : a.frozen? ⟨b, i, none⟩ = x) : c.frozen? ⟨b, i, none⟩ = x := (h.frozen (p := ⟨b, i, none⟩) hlt hn).trans hx
theorem below_cell {a c : World} (h : Below a.heap.size a c) {b i : Nat} {x : Option Value} (hlt : b < a.heap.size) (hx : a.cell? ⟨b, i, none⟩ = x) : c.cell? ⟨b, i, none⟩ = x := (h.cell (p := ⟨b, i, none⟩) hlt).trans hx
theorem below_frozen {a c : World} (h : Below a.heap.size a c) {b i : Nat} {x : Bool} (hlt : b < a.heap.size) (hx : a.frozen? ⟨b, i, none⟩ = x) : c.frozen? ⟨b, i, none⟩ = x := (h.frozen (p := ⟨b, i, none⟩) hlt).trans hx
theorem below_drewN (B : Nat) (w : World) (n : Nat) : Below B w (w.drewN n) := ⟨rfl, rfl, rfl, Nat.le_refl _, fun _ _ => rfl⟩
theorem below_then {w a b : World} (h : Below w.heap.size w a) (k : Below a.heap.size a b) : Below w.heap.size w b := h.trans (k.mono h.size)
theorem lt_of_cell {w : World} {a : Addr} {v : Value} (h : w.cell? a = some v) : a.block < w.heap.size := by
  unfold World.cell? at h
  rcases hx : w.heap[a.block]? with _ | o
  · rw [hx] at h; simp at h
  · exact (Array.getElem?_eq_some_iff.1 hx).1
theorem size_setCell (w : World) (a : Addr) (v : Value) : (w.setCell a v).heap.size = w.heap.size := by simp only [World.setCell, Array.size_modify]
theorem bcell {W w1 : World} (hb : Below W.heap.size W w1) : (∀ b o, b < W.heap.size → w1.cell? ⟨b, o, none⟩ = W.cell? ⟨b, o, none⟩) ∧ (∀ b o, b < W.heap.size → w1.frozen? ⟨b, o, none⟩ = W.frozen? ⟨b, o, none⟩) :=
  ⟨fun b o h => hb.cell (p := ⟨b, o, none⟩) h, fun b o h => hb.frozen (p := ⟨b, o, none⟩) h⟩
end Go.Proofs.Ytjgjdcikeagibaa
/- Small lemmas for the step from a law's walk to its row. -/
namespace Go.Proofs.Ytjgjdcikeagibaa
open Go.ChangeShapes Go.WideShapes Go.ChangeAt Go.RowKit Go.Deep

/-- A field of one cell, read at its own cell. -/
theorem field_cell {H : Type} {enc : TypeId × Value → H} {P : Program} {w : World} {base n o i : Nat} {spare : Nat → Bool} {held : Bool} {t : TypeId} {cs : List Value} {ys : List (DataW H × List MemPlace)}
    (h1 : P.cellsOf t = 1) (ho : o < cs.length) (hi : i < ys.length) (h : DataW.trod enc P w base spare held n t ((cs.drop o).take (P.cellsOf t)) = ys[i]?) : ∃ y, DataW.trod enc P w base spare held n t [cs[o]] = some y := by
  rw [h1, List.drop_eq_getElem_cons ho, List.take_succ_cons, List.take_zero, List.getElem?_eq_getElem hi] at h
  exact ⟨_, h⟩
theorem own : ownKnob Try.prog.godebug = none := by kernel_rfl
theorem laidOut : laidOutB Try.prog = true := by kernel_rfl
end Go.Proofs.Ytjgjdcikeagibaa
/- The scanner's plain methods: contracts. -/
namespace Go.Proofs.Ytjgjdcikeagibaa
open Go.RowKit

theorem ret_pair {a b c d : Value} (h : a = c) (k : b = d) : Ending.returned (.tuple #[a, b]) = .returned (.tuple #[c, d]) := by rw [h, k]
/-- Block t is a scanner of s, at k. -/
structure Scn (t : Nat) (s : ByteArray) (k : Nat) (w : World) : Prop where
  text : w.cell? ⟨t, 0, none⟩ = some (.string s)
  place : w.cell? ⟨t, 1, none⟩ = some (.int .i64 k)
  free0 : w.frozen? ⟨t, 0, none⟩ = false
  free1 : w.frozen? ⟨t, 1, none⟩ = false
  le : k ≤ s.size
theorem Scn.lt {t : Nat} {s : ByteArray} {k : Nat} {w : World} (h : Scn t s k w) : t < w.heap.size := lt_of_cell h.text
theorem Scn.kept {P : Nat → Prop} {t : Nat} {s : ByteArray} {k : Nat} {w w' : World} (h : Scn t s k w) (hk : Kept P w w') (hp : ¬ P t) : Scn t s k w' :=
  ⟨(hk.cell (p := ⟨t, 0, none⟩) h.lt hp).trans h.text, (hk.cell (p := ⟨t, 1, none⟩) h.lt hp).trans h.place, (hk.frozen (p := ⟨t, 0, none⟩) h.lt hp).trans h.free0, (hk.frozen (p := ⟨t, 1, none⟩) h.lt hp).trans h.free1, h.le⟩
theorem Scn.drewN {t : Nat} {s : ByteArray} {k : Nat} {w : World} (h : Scn t s k w) (n : Nat) : Scn t s k (w.drewN n) := ⟨h.text, h.place, h.free0, h.free1, h.le⟩
theorem Scn.put {t : Nat} {s : ByteArray} {k : Nat} {w : World} (h : Scn t s k w) (j : Nat) (hj : j ≤ s.size) : Scn t s j (w.setCell ⟨t, 1, none⟩ (.int .i64 j)) := by
  refine ⟨?_, World.cell?_setCell_same _ _ _ h.place, ?_, ?_, hj⟩
  · rw [World.cell?_setCell_other _ _ _ _ (by simp)]; exact h.text
  · rw [World.frozen?_setCell]; exact h.free0
  · rw [World.frozen?_setCell]; exact h.free1

theorem New_any (s : ByteArray) (w : World) :
    Calls Try.prog 17 #[.string s] w fun e w' => e = .returned (.pointer (some ⟨w.heap.size, 0, none⟩)) ∧ w' = w.alloc (.cells #[.string s, .int .i64 0] 59) := by
  go_enter Try.func17, Try.ntmps17
  go_wp2
  go_ret
  exact ⟨rfl, rfl⟩
theorem scn_new (s : ByteArray) (w : World) : Scn w.heap.size s 0 (w.alloc (.cells #[.string s, .int .i64 0] 59)) := by
  refine ⟨?_, ?_, ?_, ?_, Nat.zero_le _⟩ <;> simp [go_sem]

theorem At_some (t : Nat) (s : ByteArray) (k : Nat) (w : World) (h : Scn t s k w) :
    Calls Try.prog 60 #[.pointer (some ⟨t, 0, none⟩)] w fun e w' => e = .returned (.int .i64 k) ∧ w = w' := by
  have h1 := h.place
  go_enter Try.func60, Try.ntmps60
  go_wp2
  go_ret
  exact ⟨rfl, rfl⟩
theorem At_nil (w : World) :
    Calls Try.prog 60 #[.pointer none] w fun e w' => e = .returned (.int .i64 0) ∧ w = w' := by
  go_enter Try.func60, Try.ntmps60
  go_wp2
  go_ret
  exact ⟨rfl, rfl⟩
/-- What is left. -/
def restS (s : ByteArray) (k : Nat) : ByteArray := s.extract k s.size
theorem Rest_some (t : Nat) (s : ByteArray) (k : Nat) (w : World) (h : Scn t s k w) :
    Calls Try.prog 33 #[.pointer (some ⟨t, 0, none⟩)] w fun e w' => e = .returned (.string (restS s k)) ∧ ∃ n, w' = w.drewN n := by
  obtain ⟨h0, h1, _, _, hle⟩ := h
  go_enter Try.func33, Try.ntmps33
  go_wp2
  go_quiet (fail)
  go_wp2
  go_ret
  exact ⟨rfl, _, rfl⟩
theorem Rest_nil (w : World) :
    Calls Try.prog 33 #[.pointer none] w fun e w' => e = .returned (.string ByteArray.empty) ∧ ∃ n, w' = w.drewN n := by
  go_enter Try.func33, Try.ntmps33
  go_wp2
  go_ret
  exact ⟨rfl, 0, rfl⟩

theorem restS_empty (s : ByteArray) (k : Nat) (hk : k ≤ s.size) : (restS s k).toList.isEmpty = decide (k = s.size) := by
  rw [ByteArray.toList_eq, Bool.eq_iff_iff]
  unfold restS
  rw [ByteArray.data_extract]
  simp
  omega
theorem restS_size (s : ByteArray) (k : Nat) (_hk : k ≤ s.size) : (restS s k).size = s.size - k := by unfold restS; simp
theorem restS_list (s : ByteArray) (k : Nat) : (restS s k).data.toList = s.data.toList.drop k := by
  unfold restS
  rw [ByteArray.data_extract, Array.toList_extract, List.extract_eq_take_drop, List.take_of_length_le]
  simp
theorem End_some (t : Nat) (s : ByteArray) (k : Nat) (w : World) (h : Scn t s k w) :
    Calls Try.prog 19 #[.pointer (some ⟨t, 0, none⟩)] w fun e w' => e = .returned (.bool (decide (k = s.size))) ∧ ∃ n, w' = w.drewN n := by
  have he := Lib.hid (restS_empty s k h.le)
  have hr := Lib.hid (Rest_some t s k w h)
  clear h
  go_enter Try.func19, Try.ntmps19
  go_wp2_with fail
  refine hr.out.mono ?_
  rintro e w' ⟨rfl, n, rfl⟩
  go_wp2
  go_ret
  exact ⟨ret_bool he.out, n, rfl⟩
theorem End_nil (w : World) :
    Calls Try.prog 19 #[.pointer none] w fun e w' => e = .returned (.bool true) ∧ ∃ n, w' = w.drewN n := by
  go_enter Try.func19, Try.ntmps19
  go_wp2_with fail
  refine (Rest_nil _).mono ?_
  rintro e w' ⟨rfl, n, rfl⟩
  go_wp2
  go_ret
  exact ⟨rfl, n, rfl⟩
/-- The byte at k; 0 behind the end. -/
def byteAt (s : ByteArray) (k : Nat) : Int := ((s.data.toList.getD k 0).toNat : Int)
theorem byteAt_range (s : ByteArray) (k : Nat) : 0 ≤ byteAt s k ∧ byteAt s k ≤ 255 := by
  unfold byteAt
  have := B.toNat_le (s.data.toList.getD k 0)
  omega
theorem byteAt_of (s : ByteArray) (k : Nat) (h : k < s.size) : byteAt s k = (s[k].toNat : Int) := by
  unfold byteAt
  have h' : k < s.data.toList.length := by simpa using h
  rw [List.getD_eq_getElem?_getD, List.getElem?_eq_getElem h']
  rfl
theorem byteAt_out (s : ByteArray) (k : Nat) (h : ¬ k < s.size) : byteAt s k = 0 := by
  unfold byteAt
  rw [List.getD_eq_getElem?_getD, List.getElem?_eq_none (by simp; omega)]
  rfl
theorem byteAt_rest (s : ByteArray) (k : Nat) (h : 0 < (restS s k).size) : ((restS s k)[0].toNat : Int) = byteAt s k := by
  have e : byteAt (restS s k) 0 = byteAt s k := by
    unfold byteAt
    rw [restS_list]
    simp [List.getD]
  rw [← e, byteAt_of _ _ h]
theorem Peek_some (t : Nat) (s : ByteArray) (k : Nat) (w : World) (h : Scn t s k w) :
    Calls Try.prog 77 #[.pointer (some ⟨t, 0, none⟩)] w fun e w' => e = .returned (.tuple #[.int .u8 (byteAt s k), .bool (decide (k < s.size))]) ∧ ∃ n, w' = w.drewN n := by
  have hr := Lib.hid (Rest_some t s k w h)
  have hle := h.le
  have he := restS_empty s k h.le
  have hz := restS_size s k h.le
  clear h
  by_cases hk : k = s.size
  · have he1 : (restS s k).toList.isEmpty = true := by rw [he]; simpa using hk
    have hb : Hid (byteAt s k = 0) := by
      show _ = _
      unfold byteAt
      rw [List.getD_eq_getElem?_getD, List.getElem?_eq_none (by simp; have e : s.data.size = s.size := rfl; omega)]
      rfl
    have hd : Hid (decide (k < s.size) = false) := by show _ = _; simp; omega
    clear he hz hle hk
    go_enter Try.func77, Try.ntmps77
    go_wp2_with fail
    refine hr.out.mono ?_
    rintro e w' ⟨rfl, n, rfl⟩
    go_wp2
    go_ret2
    exact ⟨ret_pair (congrArg (Value.int .u8) hb.out.symm) (congrArg Value.bool hd.out.symm), n, rfl⟩
  · have he1 : (restS s k).toList.isEmpty = false := by rw [he]; simpa using hk
    have hp : 0 < (restS s k).size := by omega
    have hb := Lib.hid (byteAt_rest s k hp)
    have hd : Hid (decide (k < s.size) = true) := by show _ = _; simp; omega
    clear he hz hle hk
    go_enter Try.func77, Try.ntmps77
    go_wp2_with fail
    refine hr.out.mono ?_
    rintro e w' ⟨rfl, n, rfl⟩
    go_wp2
    go_ret2
    exact ⟨ret_pair (congrArg (Value.int .u8) hb.out) (congrArg Value.bool hd.out.symm), n, rfl⟩
theorem Peek_nil (w : World) :
    Calls Try.prog 77 #[.pointer none] w fun e w' => e = .returned (.tuple #[.int .u8 0, .bool false]) ∧ ∃ n, w' = w.drewN n := by
  go_enter Try.func77, Try.ntmps77
  go_wp2_with fail
  refine (Rest_nil _).mono ?_
  rintro e w' ⟨rfl, n, rfl⟩
  go_wp2
  go_ret2
  exact ⟨rfl, n, rfl⟩
end Go.Proofs.Ytjgjdcikeagibaa
/- Beginnings of texts; the scanner's Byte, Text, Back; the document's Begins, Take, Classes, While: contracts. -/
namespace Go.Proofs.Ytjgjdcikeagibaa
open Go.RowKit

/-- Does a text begin with another one? -/
def beg (s t : ByteArray) : Bool := t.data.toList.isPrefixOf s.data.toList
theorem beg_long (s t : ByteArray) (h : s.size < t.size) : beg s t = false := by
  unfold beg
  rw [Bool.eq_false_iff]
  intro hp
  have := (List.isPrefixOf_iff_prefix.1 hp).length_le
  simp at this
  omega
theorem beg_cut (s t : ByteArray) : ((s.extract 0 t.size).toList == t.toList) = beg s t := by
  unfold beg
  rw [ByteArray.toList_eq, ByteArray.toList_eq, ByteArray.data_extract, Array.toList_extract, List.extract_eq_take_drop, Bool.eq_iff_iff, List.isPrefixOf_iff_prefix, List.prefix_iff_eq_take]
  simp
  exact eq_comm
theorem beg_le (s t : ByteArray) (h : beg s t = true) : t.size ≤ s.size := by
  by_cases hl : s.size < t.size
  · rw [beg_long s t hl] at h; simp at h
  · omega
theorem stringslite_any (s t : ByteArray) (w : World) (_hs : s.size ≤ maxLen) (_ht : t.size ≤ maxLen) :
    Calls Try.prog 59 #[.string s, .string t] w fun e w' => e = .returned (.bool (beg s t)) ∧ w = w' := by
  unfold maxLen at _hs _ht
  by_cases h : t.size ≤ s.size
  · have hb := Lib.hid (beg_cut s t)
    go_enter Try.func59, Try.ntmps59
    go_wp2
    go_ret
    exact ⟨ret_bool hb.out, rfl⟩
  · have hb := Lib.hid (beg_long s t (by omega))
    go_enter Try.func59, Try.ntmps59
    go_wp2
    go_ret
    exact ⟨ret_bool hb.out.symm, rfl⟩
theorem HasPrefix_any (s t : ByteArray) (w : World) (hs : s.size ≤ maxLen) (ht : t.size ≤ maxLen) :
    Calls Try.prog 46 #[.string s, .string t] w fun e w' => e = .returned (.bool (beg s t)) ∧ w = w' := by
  go_enter Try.func46, Try.ntmps46
  go_wp2_with fail
  refine (stringslite_any _ _ _ hs ht).mono ?_
  rintro e w' ⟨rfl, rfl⟩
  go_wp2
  go_ret
  exact ⟨rfl, rfl⟩
/-- Does what is left at k begin with t? -/
def begAt (s : ByteArray) (k : Nat) (t : ByteArray) : Bool := beg (restS s k) t
theorem begAt_le (s : ByteArray) (k : Nat) (t : ByteArray) (hk : k ≤ s.size) (h : begAt s k t = true) : k + t.size ≤ s.size := by
  have := beg_le _ _ h
  rw [restS_size s k hk] at this
  omega
theorem beg_empty (s t : ByteArray) (h : t.toList.isEmpty = true) : beg s t = true := by
  rw [ByteArray.toList_eq] at h
  unfold beg
  have : t.data.toList = [] := by simpa using h
  rw [this]; rfl
theorem size_nil (t : ByteArray) (h : t.toList.isEmpty = true) : t.size = 0 := by
  rw [ByteArray.toList_eq] at h
  have h2 : t.data = #[] := by simpa using h
  show t.data.size = 0
  rw [h2]; rfl

theorem Byte_some (t : Nat) (s : ByteArray) (k : Nat) (b : Int) (w : World) (h : Scn t s k w) (hs : s.size ≤ maxLen) :
    Calls Try.prog 72 #[.pointer (some ⟨t, 0, none⟩), .int .u8 b] w fun e w' => e = .returned (.bool (decide (k < s.size ∧ byteAt s k = b))) ∧ Scn t s (if k < s.size ∧ byteAt s k = b then k + 1 else k) w' ∧ Kept (· = t) w w' := by
  unfold maxLen at hs
  have HS := Lib.hid h
  have hp := Lib.hid (Peek_some t s k w h)
  have hle := h.le
  clear h
  by_cases hk : k < s.size
  · have hd : Hid (decide (k < s.size) = true) := by show _ = _; simpa using hk
    by_cases hb : byteAt s k = b
    · have e1 : Hid (decide (k < s.size ∧ byteAt s k = b) = true) := by show _ = _; simp [hk, hb]
      have e2 : Hid ((if k < s.size ∧ byteAt s k = b then k + 1 else k) = k + 1) := by show _ = _; rw [if_pos ⟨hk, hb⟩]
      subst hb
      rw [e1.out, e2.out]
      clear e1 e2
      have hpl := HS.out.place
      have hfr := HS.out.free1
      go_enter Try.func72, Try.ntmps72
      go_wp2_with fail
      refine hp.out.mono ?_
      rintro e w' ⟨rfl, n, rfl⟩
      rw [hd.out]
      go_wp2
      go_ret
      exact ⟨rfl, (HS.out.drewN n).put (k + 1) hk, ((Kept.refl (· = t) w).drewN n).setCell (p := ⟨t, 1, none⟩) (.inl rfl) _⟩
    · have e1 : Hid (decide (k < s.size ∧ byteAt s k = b) = false) := by show _ = _; simp [hb]
      have e2 : Hid ((if k < s.size ∧ byteAt s k = b then k + 1 else k) = k) := by show _ = _; rw [if_neg (fun x => hb x.2)]
      have hne : (byteAt s k != b) = true := by simpa using hb
      rw [e1.out, e2.out]
      clear e1 e2 hb
      go_enter Try.func72, Try.ntmps72
      go_wp2_with fail
      refine hp.out.mono ?_
      rintro e w' ⟨rfl, n, rfl⟩
      rw [hd.out]
      go_wp2
      go_ret
      exact ⟨rfl, HS.out.drewN n, (Kept.refl _ _).drewN n⟩
  · have hd : Hid (decide (k < s.size) = false) := by show _ = _; simpa using hk
    have e1 : Hid (decide (k < s.size ∧ byteAt s k = b) = false) := by show _ = _; simp [hk]
    have e2 : Hid ((if k < s.size ∧ byteAt s k = b then k + 1 else k) = k) := by show _ = _; rw [if_neg (fun x => hk x.1)]
    rw [e1.out, e2.out]
    clear e1 e2
    go_enter Try.func72, Try.ntmps72
    go_wp2_with fail
    refine hp.out.mono ?_
    rintro e w' ⟨rfl, n, rfl⟩
    rw [hd.out]
    go_wp2
    go_ret
    exact ⟨rfl, HS.out.drewN n, (Kept.refl _ _).drewN n⟩
theorem Byte_nil (b : Int) (w : World) :
    Calls Try.prog 72 #[.pointer none, .int .u8 b] w fun e w' => e = .returned (.bool false) ∧ ∃ n, w' = w.drewN n := by
  go_enter Try.func72, Try.ntmps72
  go_wp2_with fail
  refine (Peek_nil _).mono ?_
  rintro e w' ⟨rfl, n, rfl⟩
  go_wp2
  go_ret
  exact ⟨rfl, n, rfl⟩

theorem Text_some (t : Nat) (s : ByteArray) (k : Nat) (x : ByteArray) (w : World) (h : Scn t s k w) (hs : s.size ≤ maxLen) (hx : x.size ≤ maxLen) :
    Calls Try.prog 31 #[.pointer (some ⟨t, 0, none⟩), .string x] w fun e w' => e = .returned (.bool (begAt s k x)) ∧ Scn t s (if begAt s k x then k + x.size else k) w' ∧ Kept (· = t) w w' := by
  have HS := Lib.hid h
  have hr := Lib.hid (Rest_some t s k w h)
  have hrz : (restS s k).size ≤ maxLen := by rw [restS_size s k h.le]; omega
  have hle := h.le
  have hpl := h.place
  have hfr := h.free1
  clear h
  cases hb : begAt s k x
  · have HB : Hid (beg (restS s k) x = false) := hb
    have he : x.toList.isEmpty = false := by
      cases hx : x.toList.isEmpty
      · rfl
      · rw [show begAt s k x = beg (restS s k) x from rfl, beg_empty _ _ hx] at hb; simp at hb
    clear hb
    go_enter Try.func31, Try.ntmps31
    go_wp2_with fail
    refine hr.out.mono ?_
    rintro e w' ⟨rfl, n, rfl⟩
    go_wp2_with fail
    refine (HasPrefix_any _ _ _ hrz hx).mono ?_
    rintro e w' ⟨rfl, rfl⟩
    rw [HB.out]
    go_wp2
    go_ret
    exact ⟨rfl, HS.out.drewN n, (Kept.refl _ _).drewN n⟩
  · have HB : Hid (beg (restS s k) x = true) := hb
    have hz := begAt_le s k x hle hb
    clear hb
    unfold maxLen at hs
    cases he : x.toList.isEmpty
    · go_enter Try.func31, Try.ntmps31
      go_wp2_with fail
      refine hr.out.mono ?_
      rintro e w' ⟨rfl, n, rfl⟩
      go_wp2_with fail
      refine (HasPrefix_any _ _ _ hrz hx).mono ?_
      rintro e w' ⟨rfl, rfl⟩
      rw [HB.out]
      go_wp2
      go_ret
      exact ⟨rfl, (HS.out.drewN n).put (k + x.size) hz, ((Kept.refl (· = t) w).drewN n).setCell (p := ⟨t, 1, none⟩) (.inl rfl) _⟩
    · have e0 := Lib.hid (size_nil x he)
      go_enter Try.func31, Try.ntmps31
      go_wp2_with fail
      refine hr.out.mono ?_
      rintro e w' ⟨rfl, n, rfl⟩
      go_wp2_with fail
      refine (HasPrefix_any _ _ _ hrz hx).mono ?_
      rintro e w' ⟨rfl, rfl⟩
      rw [HB.out]
      go_wp2
      go_ret
      exact ⟨rfl, by rw [e0.out]; exact HS.out.drewN n, (Kept.refl _ _).drewN n⟩
theorem Text_nil (x : ByteArray) (w : World) (hx : x.size ≤ maxLen) :
    Calls Try.prog 31 #[.pointer none, .string x] w fun e w' => e = .returned (.bool (begAt ByteArray.empty 0 x)) ∧ ∃ n, w' = w.drewN n := by
  cases he : x.toList.isEmpty
  · have HB : Hid (beg ByteArray.empty x = false) := by
      show _ = _
      refine beg_long _ _ ?_
      have : x.size ≠ 0 := by
        intro h0
        have : x = ByteArray.empty := by simpa using h0
        rw [this] at he
        simp at he
      show 0 < x.size
      omega
    have HB2 : Hid (begAt ByteArray.empty 0 x = false) := HB
    go_enter Try.func31, Try.ntmps31
    go_wp2_with fail
    refine (Rest_nil _).mono ?_
    rintro e w' ⟨rfl, n, rfl⟩
    go_wp2_with fail
    refine (HasPrefix_any _ _ _ (by decide) hx).mono ?_
    rintro e w' ⟨rfl, rfl⟩
    rw [HB.out]
    go_wp2
    go_ret
    exact ⟨ret_bool HB2.out.symm, n, rfl⟩
  · have HB : Hid (beg ByteArray.empty x = true) := beg_empty _ _ he
    have HB2 : Hid (begAt ByteArray.empty 0 x = true) := beg_empty _ _ he
    go_enter Try.func31, Try.ntmps31
    go_wp2_with fail
    refine (Rest_nil _).mono ?_
    rintro e w' ⟨rfl, n, rfl⟩
    go_wp2_with fail
    refine (HasPrefix_any _ _ _ (by decide) hx).mono ?_
    rintro e w' ⟨rfl, rfl⟩
    rw [HB.out]
    go_wp2
    go_ret
    exact ⟨ret_bool HB2.out.symm, n, rfl⟩
end Go.Proofs.Ytjgjdcikeagibaa
/- The scanner's Back; the document's Take, Classes and While: contracts. -/
namespace Go.Proofs.Ytjgjdcikeagibaa
open Go.RowKit

def backOk (j : Int) (k : Nat) : Bool := decide (0 ≤ j ∧ j ≤ (k : Int))
theorem Back_some (t : Nat) (s : ByteArray) (k : Nat) (j : Int) (w : World) (h : Scn t s k w) :
    Calls Try.prog 62 #[.pointer (some ⟨t, 0, none⟩), .int .i64 j] w fun e w' => e = .returned (.bool (backOk j k)) ∧ Scn t s (if backOk j k then j.toNat else k) w' ∧ Kept (· = t) w w' := by
  have HS := Lib.hid h
  have hp := Lib.hid (At_some t s k w h)
  have hle := h.le
  have hpl := h.place
  have hfr := h.free1
  clear h
  by_cases h1 : j < 0
  · have HB : Hid (backOk j k = false) := by show _ = _; unfold backOk; simp; omega
    rw [HB.out]
    go_enter Try.func62, Try.ntmps62
    go_wp2
    go_ret
    exact ⟨rfl, HS.out, Kept.refl _ _⟩
  · by_cases h2 : (k : Int) < j
    · have HB : Hid (backOk j k = false) := by show _ = _; unfold backOk; simp; omega
      rw [HB.out]
      go_enter Try.func62, Try.ntmps62
      go_wp2_with fail
      refine hp.out.mono ?_
      rintro e w' ⟨rfl, rfl⟩
      go_wp2
      go_ret
      exact ⟨rfl, HS.out, Kept.refl _ _⟩
    · have HB : Hid (backOk j k = true) := by show _ = _; unfold backOk; simp; omega
      rw [HB.out]
      obtain ⟨i, rfl⟩ := Int.eq_ofNat_of_zero_le (show 0 ≤ j by omega)
      have hik : i ≤ k := by omega
      go_enter Try.func62, Try.ntmps62
      go_wp2_with fail
      refine hp.out.mono ?_
      rintro e w' ⟨rfl, rfl⟩
      go_wp2
      go_ret
      exact ⟨rfl, HS.out.put i (by omega), (Kept.refl (· = t) w).setCell (p := ⟨t, 1, none⟩) (.inl rfl) _⟩
theorem Back_nil (j : Int) (w : World) :
    Calls Try.prog 62 #[.pointer none, .int .i64 j] w fun e w' => e = .returned (.bool (backOk j 0)) ∧ w = w' := by
  by_cases h1 : j < 0
  · have HB : Hid (backOk j 0 = false) := by show _ = _; unfold backOk; simp; omega
    rw [HB.out]
    go_enter Try.func62, Try.ntmps62
    go_wp2
    go_ret
    exact ⟨rfl, rfl⟩
  · by_cases h2 : (0 : Int) < j
    · have HB : Hid (backOk j 0 = false) := by show _ = _; unfold backOk; simp; omega
      rw [HB.out]
      go_enter Try.func62, Try.ntmps62
      go_wp2_with fail
      refine (At_nil _).mono ?_
      rintro e w' ⟨rfl, rfl⟩
      go_wp2
      go_ret
      exact ⟨rfl, rfl⟩
    · have HB : Hid (backOk j 0 = true) := by show _ = _; unfold backOk; simp; omega
      rw [HB.out]
      go_enter Try.func62, Try.ntmps62
      go_wp2_with fail
      refine (At_nil _).mono ?_
      rintro e w' ⟨rfl, rfl⟩
      go_wp2
      go_ret
      exact ⟨rfl, rfl⟩

/-- The document's scanner, by value. -/
def scanV (s : ByteArray) (k : Nat) : Value := .agg #[.string s, .int .i64 k]
/-- Which bytes the document's While takes. -/
def clsB (c : Int) (n : Int) : Bool := if c = 0 then B.tok n else if c = 1 then B.bla n else if c = 2 then B.dig n else false
/-- How many bytes from k on are so. -/
def runLen (q : Int → Bool) (s : ByteArray) (k : Nat) : Nat := ((s.data.toList.drop k).takeWhile fun c => q (c.toNat : Int)).length
theorem runLen_le (q : Int → Bool) (s : ByteArray) (k : Nat) (hk : k ≤ s.size) : k + runLen q s k ≤ s.size := by
  unfold runLen
  have h := (List.takeWhile_prefix (l := s.data.toList.drop k) (fun c : UInt8 => q (c.toNat : Int))).length_le
  simp at h
  omega
theorem runLen_end (q : Int → Bool) (s : ByteArray) (k : Nat) (hk : ¬ k < s.size) : runLen q s k = 0 := by
  unfold runLen
  rw [List.drop_eq_nil_of_le (by simp; omega)]; rfl
theorem runLen_no (q : Int → Bool) (s : ByteArray) (k : Nat) (hk : k < s.size) (h : q (s[k].toNat : Int) = false) : runLen q s k = 0 := by
  unfold runLen
  rw [List.drop_eq_getElem_cons (by simpa using hk)]
  have e : s.data.toList[k]'(by simpa using hk) = s[k] := rfl
  rw [e, List.takeWhile_cons_of_neg (by simp [h])]; rfl
theorem runLen_yes (q : Int → Bool) (s : ByteArray) (k : Nat) (hk : k < s.size) (h : q (s[k].toNat : Int) = true) : runLen q s k = runLen q s (k + 1) + 1 := by
  unfold runLen
  rw [List.drop_eq_getElem_cons (by simpa using hk)]
  have e : s.data.toList[k]'(by simpa using hk) = s[k] := rfl
  rw [e, List.takeWhile_cons_of_pos (by simp [h])]; rfl

end Go.Proofs.Ytjgjdcikeagibaa
/- The scanner's While, over any function value: contract. -/
namespace Go.Proofs.Ytjgjdcikeagibaa
open Go.RowKit

/-- How many of the asked bytes were so. -/
def cnt (p : List UInt8 → UInt8 → Bool) (pre : List UInt8) : Nat := if (asks p [] pre).1 then pre.length else pre.length - 1
def took (p : List UInt8 → UInt8 → Bool) (l : List UInt8) : Nat := cnt p (asks p [] l).2
theorem cnt_le (p : List UInt8 → UInt8 → Bool) (pre : List UInt8) : cnt p pre ≤ pre.length := by unfold cnt; split <;> omega
theorem cnt_all (p : List UInt8 → UInt8 → Bool) (pre : List UInt8) (h : (asks p [] pre).1 = true) : cnt p pre = pre.length := by unfold cnt; rw [if_pos h]
theorem cnt_yes (p : List UInt8 → UInt8 → Bool) (pre : List UInt8) (c : UInt8) (h : (asks p [] pre).1 = true) (hc : p pre c = true) : cnt p (pre ++ [c]) = pre.length + 1 := by
  rw [cnt_all _ _ (asks_go p pre c h hc)]; simp
theorem cnt_no (p : List UInt8 → UInt8 → Bool) (pre : List UInt8) (c : UInt8) (h : (asks p [] pre).1 = true) (hc : p pre c = false) : cnt p (pre ++ [c]) = pre.length := by
  unfold cnt
  have := asks_stop p pre c [] h hc
  rw [this]; simp
theorem asks_len (p : List UInt8 → UInt8 → Bool) : ∀ (l pre : List UInt8), (asks p pre l).2.length ≤ pre.length + l.length
  | [], pre => by simp [asks]
  | c :: l, pre => by
    simp only [asks]
    split
    · have := asks_len p l (pre ++ [c]); simp at this ⊢; omega
    · simp
theorem took_le (p : List UInt8 → UInt8 → Bool) (l : List UInt8) : took p l ≤ l.length := by
  have h1 := cnt_le p (asks p [] l).2
  have h2 := asks_len p l []
  unfold took; simp at h2; omega
/-- Of a plain class: as many as are so. -/
theorem asks_plain (q : UInt8 → Bool) : ∀ (l pre : List UInt8), asks (fun _ c => q c) pre l = (l.all q, pre ++ if l.all q then l else l.takeWhile q ++ (l.drop (l.takeWhile q).length).take 1)
  | [], pre => by simp [asks]
  | c :: l, pre => by
    simp only [asks]
    by_cases hc : q c = true
    · rw [if_pos hc, asks_plain q l (pre ++ [c])]
      by_cases ha : l.all q = true
      · simp [hc, ha]
      · simp [hc, ha]
    · rw [if_neg hc]
      simp at hc
      simp [hc]
theorem takeWhile_all {q : UInt8 → Bool} : ∀ {l : List UInt8}, l.all q = true → l.takeWhile q = l
  | [], _ => rfl
  | c :: l, h => by
    simp only [List.all_cons, Bool.and_eq_true] at h
    rw [List.takeWhile_cons_of_pos h.1, takeWhile_all h.2]
theorem takeWhile_lt {q : UInt8 → Bool} : ∀ {l : List UInt8}, l.all q = false → (l.takeWhile q).length < l.length
  | [], h => by simp at h
  | c :: l, h => by
    cases hc : q c
    · rw [List.takeWhile_cons_of_neg (by simp [hc])]; simp
    · rw [List.takeWhile_cons_of_pos hc]
      have : l.all q = false := by simpa [hc] using h
      have := takeWhile_lt this
      simp; omega
theorem takeWhile_allq (q : UInt8 → Bool) : ∀ (l : List UInt8), (l.takeWhile q).all q = true
  | [] => rfl
  | c :: l => by
    cases hc : q c
    · rw [List.takeWhile_cons_of_neg (by simp [hc])]; rfl
    · rw [List.takeWhile_cons_of_pos hc, List.all_cons, hc, takeWhile_allq q l]; rfl
theorem took_plain (q : UInt8 → Bool) (l : List UInt8) : took (fun _ c => q c) l = (l.takeWhile q).length := by
  unfold took
  rw [asks_plain]
  cases ha : l.all q
  · have hlt := takeWhile_lt ha
    have hl1 : ((l.drop (l.takeWhile q).length).take 1).length = 1 := by simp; omega
    obtain ⟨d, hd⟩ := List.length_eq_one_iff.1 hl1
    have hnd : q d = false := by
      cases hq : q d
      · rfl
      · exfalso
        have h1 : l = l.takeWhile q ++ l.drop (l.takeWhile q).length := by
          conv => lhs; rw [← List.takeWhile_append_dropWhile (p := q) (l := l)]
          congr 1
          have h2 : l.drop (l.takeWhile q).length = (l.takeWhile q ++ l.dropWhile q).drop (l.takeWhile q).length := by rw [List.takeWhile_append_dropWhile]
          rw [h2, List.drop_left]
        have e1 : (l.takeWhile q ++ [d]) = l.take ((l.takeWhile q).length + 1) := by
          have h3 := List.take_add (i := (l.takeWhile q).length) (j := 1) (l := l)
          have h4 : l.take (l.takeWhile q).length = l.takeWhile q := by
            have h5 := congrArg (List.take (l.takeWhile q).length) h1
            rw [List.take_left] at h5
            exact h5
          rw [h3, h4, hd]
        have e2 : (l.take ((l.takeWhile q).length + 1)).all q = true := by rw [← e1]; simp [takeWhile_allq q l, hq]
        have e3 : l.takeWhile q = l.take ((l.takeWhile q).length + 1) ++ (l.drop ((l.takeWhile q).length + 1)).takeWhile q := by
          conv => lhs; rw [← List.take_append_drop ((l.takeWhile q).length + 1) l]
          rw [List.takeWhile_append_of_pos]
          intro a ha2
          exact List.all_eq_true.1 e2 a ha2
        have := congrArg List.length e3
        simp at this
        omega
    have hA : (asks (fun _ c => q c) [] (l.takeWhile q)).1 = true := by rw [asks_plain]; exact takeWhile_allq q l
    simp only [Bool.false_eq_true, if_false, List.nil_append]
    rw [hd]
    exact cnt_no (fun _ c => q c) _ d hA hnd
  · simp only [if_true, List.nil_append]
    rw [cnt_all _ _ (by rw [asks_plain]; exact ha), takeWhile_all ha]

/-- What the closure leaves: the count is one more if the byte is so. -/
def Counted (R : World → Prop) (y : Addr) (m : Nat) (b : Bool) (w' : World) : Prop := ∃ W, R W ∧ w' = if b then W.setCell y (.int .i64 (m + 1 : Nat)) else W
set_option maxHeartbeats 400000 in
theorem While1_any (g : Nat) (first cap : Array Value) (b : Bool) (c : Int) (x y : Addr) (m : Nat) (R : World → Prop) (w : World)
    (eg : ∀ args w, (callFunc g args).run Try.prog w = .ok (.enter g args) w)
    (hx : w.cell? x = some (.func (.func g) first cap))
    (hm : m ≤ 1000000)
    (hR : ∀ W, R W → W.cell? y = some (.int .i64 m) ∧ W.frozen? y = false)
    (hcall : Calls Try.prog g (first ++ #[.int .u8 c] ++ cap) w fun e W => e = .returned (.bool b) ∧ R W) :
    Calls Try.prog 56 #[.int .u8 c, .pointer (some x), .pointer (some y)] w fun e w' => e = .returned (.bool b) ∧ Counted R y m b w' := by
  have HR := Lib.hid hR
  have HC := Lib.hid hcall
  clear hR hcall
  cases b
  · go_enter Try.func56, Try.ntmps56
    go_wp2_with fail
    refine HC.out.mono ?_
    rintro e W ⟨rfl, hW⟩
    have HW := Lib.hid hW
    clear hW
    go_wp2
    go_ret
    exact ⟨rfl, W, HW.out, by simp⟩
  · go_enter Try.func56, Try.ntmps56
    go_wp2_with fail
    refine HC.out.mono ?_
    rintro e W ⟨rfl, hW⟩
    obtain ⟨hc, hf⟩ := HR.out W hW
    have HW := Lib.hid hW
    clear hW
    go_wp2
    go_ret
    exact ⟨rfl, W, HW.out, by simp⟩
end Go.Proofs.Ytjgjdcikeagibaa
/- The scanner's While, Token, Blanks: contracts. -/
namespace Go.Proofs.Ytjgjdcikeagibaa
open Go.RowKit

theorem enters_While1 (args : Array Value) (w : World) : (callFunc 56 args).run Try.prog w = .ok (.enter 56 args) w := by
  exact enters_of Try.func56 (by kernel_rfl) rfl args w

/-- What All keeps while it asks for While: the closure's cells, its own cell, and what the caller keeps. -/
structure Asking (S : Nat → Prop) (Inv : List UInt8 → World → Prop) (p : List UInt8 → UInt8 → Bool) (f : Value) (rs : ByteArray) (w : World) (pre : List UInt8) (W : World) : Prop where
  kept : Kept S w W
  size : w.heap.size + 4 ≤ W.heap.size
  c0 : W.cell? ⟨w.heap.size, 0, none⟩ = some f
  c1 : W.cell? ⟨w.heap.size + 1, 0, none⟩ = some (.int .i64 (cnt p pre))
  f1 : W.frozen? ⟨w.heap.size + 1, 0, none⟩ = false
  c2 : W.cell? ⟨w.heap.size + 2, 0, none⟩ = some (.string rs)
  c3 : W.cell? ⟨w.heap.size + 3, 0, none⟩ = some (.bool false)
  f3 : W.frozen? ⟨w.heap.size + 3, 0, none⟩ = false
  inv : Inv pre W

/-- What While leaves. -/
structure Whiled (S : Nat → Prop) (Inv : List UInt8 → World → Prop) (p : List UInt8 → UInt8 → Bool) (t : Nat) (s : ByteArray) (k : Nat) (w w' : World) : Prop where
  inv : Inv (asks p [] (s.data.toList.drop k)).2 w'
  scn : Scn t s (k + took p (s.data.toList.drop k)) w'
  kept : Kept (fun j => S j ∨ j = t) w w'

theorem Asking.step {S : Nat → Prop} {Inv : List UInt8 → World → Prop} {p : List UInt8 → UInt8 → Bool} {f : Value} {rs : ByteArray} {w W w' : World} {pre : List UInt8} {c : UInt8} (h : Asking S Inv p f rs w pre W)
    (hS : ∀ j, S j → j < w.heap.size) (hst : ∀ pre W W', Inv pre W → Kept (fun j => w.heap.size ≤ j) W W' → Inv pre W') (hy : (asks p [] pre).1 = true)
    (hc : Counted (fun W2 => Inv (pre ++ [c]) W2 ∧ Kept S W W2) ⟨w.heap.size + 1, 0, none⟩ pre.length (p pre c) w') : Asking S Inv p f rs w (pre ++ [c]) w' := by
  obtain ⟨W2, ⟨hi, hk⟩, rfl⟩ := hc
  have hsz := h.size
  have hn : ∀ j, w.heap.size ≤ j → ¬ S j := fun j hj hs => by have := hS j hs; omega
  have e0 := (hk.cell (p := ⟨w.heap.size, 0, none⟩) (by show w.heap.size < _; omega) (hn _ (Nat.le_refl _))).trans h.c0
  have e1 := (hk.cell (p := ⟨w.heap.size + 1, 0, none⟩) (by show w.heap.size + 1 < _; omega) (hn _ (by show _ ≤ w.heap.size + 1; omega))).trans h.c1
  have g1 := (hk.frozen (p := ⟨w.heap.size + 1, 0, none⟩) (by show w.heap.size + 1 < _; omega) (hn _ (by show _ ≤ w.heap.size + 1; omega))).trans h.f1
  have e2 := (hk.cell (p := ⟨w.heap.size + 2, 0, none⟩) (by show w.heap.size + 2 < _; omega) (hn _ (by show _ ≤ w.heap.size + 2; omega))).trans h.c2
  have e3 := (hk.cell (p := ⟨w.heap.size + 3, 0, none⟩) (by show w.heap.size + 3 < _; omega) (hn _ (by show _ ≤ w.heap.size + 3; omega))).trans h.c3
  have g3 := (hk.frozen (p := ⟨w.heap.size + 3, 0, none⟩) (by show w.heap.size + 3 < _; omega) (hn _ (by show _ ≤ w.heap.size + 3; omega))).trans h.f3
  have hs2 : w.heap.size + 4 ≤ W2.heap.size := Nat.le_trans hsz hk.size
  cases hp : p pre c
  · have hcn := cnt_no p pre c hy hp
    rw [cnt_all p pre hy] at e1
    refine ⟨h.kept.trans hk, hs2, e0, by rw [hcn]; exact e1, g1, e2, e3, g3, hi⟩
  · have hcn := cnt_yes p pre c hy hp
    simp only [if_true]
    have hks : Kept (fun j => w.heap.size ≤ j) W2 (W2.setCell ⟨w.heap.size + 1, 0, none⟩ (.int .i64 (pre.length + 1 : Nat))) := (Kept.refl _ _).setCell (.inl (by show w.heap.size ≤ w.heap.size + 1; omega)) _
    refine ⟨?_, ?_, ?_, ?_, ?_, ?_, ?_, ?_, hst _ _ _ hi hks⟩
    · exact (h.kept.trans hk).setCell (.inr (by show w.heap.size ≤ w.heap.size + 1; omega)) _
    · rw [size_setCell]; exact hs2
    · rw [World.cell?_setCell_other _ _ _ _ (by simp)]; exact e0
    · rw [hcn]; exact World.cell?_setCell_same _ _ _ e1
    · rw [World.frozen?_setCell]; exact g1
    · rw [World.cell?_setCell_other _ _ _ _ (by simp)]; exact e2
    · rw [World.cell?_setCell_other _ _ _ _ (by simp)]; exact e3
    · rw [World.frozen?_setCell]; exact g3

theorem flat_single (s : ByteArray) : flat [s] = s.data.toList := by unfold flat; simp
set_option maxHeartbeats 1000000 in
theorem While_any (g : Nat) (first cap : Array Value) (p : List UInt8 → UInt8 → Bool) (Inv : List UInt8 → World → Prop) (S : Nat → Prop) (t : Nat) (s : ByteArray) (k : Nat) (w : World) (h : Scn t s k w) (hs : s.size ≤ 100000)
    (eg : ∀ args w, (callFunc g args).run Try.prog w = .ok (.enter g args) w)
    (hS : ∀ j, S j → j < w.heap.size) (hSt : ¬ S t) (h0 : Inv [] w)
    (hst : ∀ pre W W', Inv pre W → Kept (fun j => w.heap.size ≤ j ∨ j = t) W W' → Inv pre W')
    (hcall : ∀ pre c r W, s.data.toList.drop k = pre ++ c :: r → (asks p [] pre).1 = true → w.heap.size ≤ W.heap.size → Inv pre W → Calls Try.prog g (first ++ #[.int .u8 (c.toNat : Int)] ++ cap) W fun e W' => e = .returned (.bool (p pre c)) ∧ Inv (pre ++ [c]) W' ∧ Kept S W W') :
    Calls Try.prog 44 #[.pointer (some ⟨t, 0, none⟩), .func (.func g) first cap] w fun e w' => e = .returned (.string (s.extract k (k + took p (s.data.toList.drop k)))) ∧ Whiled S Inv p t s k w w' := by
  have hmf : ∀ (fn : Fn) (first cap : Array Value) (w : World), (Instr.makeFunc fn first cap).run Try.prog w = .ok (.func fn first cap) w := fun _ _ _ _ => rfl
  have hle := h.le
  have hlt := h.lt
  have htl := took_le p (s.data.toList.drop k)
  have hdl : (s.data.toList.drop k).length = s.size - k := by simp
  have HS := Lib.hid h
  have HT : Hid (k + took p (s.data.toList.drop k) ≤ s.size) := by show _ ≤ _; omega
  have hrz : (restS s k).size ≤ 100000 := by rw [restS_size s k hle]; omega
  have hrl := restS_list s k
  have hpl := h.place
  have htx := h.text
  have hA := All_any 56 #[] #[.pointer (some ⟨w.heap.size, 0, none⟩), .pointer (some ⟨w.heap.size + 1, 0, none⟩)] p (Asking S Inv p (.func (.func g) first cap) (restS s k) w) ⟨w.heap.size + 2, 0, none⟩ 1 1 [restS s k] rfl (by omega) (by simpa using hrz)
    (((w.alloc (.cells #[.func (.func g) first cap] 50)).alloc (.cells #[.int .i64 0] 3)).alloc (.cells #[.string (restS s k)] 9)) enters_While1
    (by
      refine ⟨?_, ?_, ?_, ?_, ?_, ?_, ?_, ?_, hst [] w _ h0 ?_⟩
      · exact ((((Kept.refl _ _).alloc _).alloc _).alloc _).alloc _
      · simp
      · simp [go_sem]
      · simp [go_sem, cnt, asks]
      · simp [go_sem]
      · simp [go_sem]
      · simp [go_sem]
      · simp [go_sem]
      · exact ((((Kept.refl _ _).alloc _).alloc _).alloc _).alloc _)
    (by
      intro pre W hW
      have e3 := hW.c3
      have g3 := hW.f3
      have e2 := hW.c2
      have hz : (((w.alloc (.cells #[.func (.func g) first cap] 50)).alloc (.cells #[.int .i64 0] 3)).alloc (.cells #[.string (restS s k)] 9)).heap.size = w.heap.size + 3 := by simp
      rw [hz]
      refine ⟨e3, g3, fun i hi => ?_⟩
      obtain rfl : i = 0 := by omega
      exact e2)
    (by
      intro pre c r W hpre hy hW
      rw [flat_single, hrl] at hpre
      have e1 := hW.c1
      rw [cnt_all p pre hy] at e1
      have hpl2 : pre.length ≤ 100000 := by
        have := congrArg List.length hpre
        simp at this
        omega
      have hsz := hW.size
      have g1 := hW.f1
      have hn : ∀ j, w.heap.size ≤ j → ¬ S j := fun j hj hs => by have := hS j hs; omega
      refine (While1_any g first cap (p pre c) (c.toNat : Int) ⟨w.heap.size, 0, none⟩ ⟨w.heap.size + 1, 0, none⟩ pre.length (fun W2 => Inv (pre ++ [c]) W2 ∧ Kept S W W2) W eg hW.c0 (by omega) ?_ (hcall pre c r W hpre hy (by omega) hW.inv)).mono ?_
      · rintro W2 ⟨_, hk⟩
        exact ⟨(hk.cell (p := ⟨w.heap.size + 1, 0, none⟩) (by show w.heap.size + 1 < _; omega) (hn _ (by show _ ≤ w.heap.size + 1; omega))).trans e1, (hk.frozen (p := ⟨w.heap.size + 1, 0, none⟩) (by show w.heap.size + 1 < _; omega) (hn _ (by show _ ≤ w.heap.size + 1; omega))).trans g1⟩
      · rintro e w' ⟨rfl, hc⟩
        exact ⟨rfl, hW.step hS (fun pre W W' hi hk => hst pre W W' hi (hk.mono fun j _ hj => .inl hj)) hy hc⟩)
  rw [flat_single, hrl] at hA
  have HA := Lib.hid hA
  have HST := Lib.hid hst
  have HSS := Lib.hid hS
  clear hA h htl hdl hrl hst hS hcall
  go_enter Try.func44, Try.ntmps44
  go_wp2_with fail
  refine HA.out.mono ?_
  rintro e w' ⟨W, rfl, hW, hw'⟩
  have hz3 : (((w.alloc (.cells #[.func (.func g) first cap] 50)).alloc (.cells #[.int .i64 0] 3)).alloc (.cells #[.string (restS s k)] 9)).heap.size = w.heap.size + 3 := by simp
  rw [hz3] at hw'
  subst hw'
  clear hz3
  have hsz := hW.size
  have hkw := hW.kept
  have hscn : Scn t s k (W.setCell ⟨w.heap.size + 3, 0, none⟩ (.bool (asks p [] (s.data.toList.drop k)).1)) := by
    refine HS.out.kept (hkw.setCell (p := ⟨w.heap.size + 3, 0, none⟩) (.inr (by show _ ≤ w.heap.size + 3; omega)) _) hSt
  have e1 : (W.setCell ⟨w.heap.size + 3, 0, none⟩ (.bool (asks p [] (s.data.toList.drop k)).1)).cell? ⟨w.heap.size + 1, 0, none⟩ = some (.int .i64 (took p (s.data.toList.drop k) : Nat)) := by
    rw [World.cell?_setCell_other _ _ _ _ (by simp)]; exact hW.c1
  have hkw2 : Kept S w (W.setCell ⟨w.heap.size + 3, 0, none⟩ (.bool (asks p [] (s.data.toList.drop k)).1)) := hkw.setCell (p := ⟨w.heap.size + 3, 0, none⟩) (.inr (by show _ ≤ w.heap.size + 3; omega)) _
  have hinv : Inv (asks p [] (s.data.toList.drop k)).2 (W.setCell ⟨w.heap.size + 3, 0, none⟩ (.bool (asks p [] (s.data.toList.drop k)).1)) :=
    HST.out _ _ _ hW.inv ((Kept.refl (fun j => w.heap.size ≤ j ∨ j = t) W).setCell (p := ⟨w.heap.size + 3, 0, none⟩) (.inl (.inl (by show _ ≤ w.heap.size + 3; omega))) _)
  clear hW hkw hsz hpl htx h0
  have HI := Lib.hid hinv
  clear hinv
  generalize W.setCell ⟨w.heap.size + 3, 0, none⟩ (.bool (asks p [] (s.data.toList.drop k)).1) = W2 at *
  have hp2 := hscn.place
  have hf2 := hscn.free1
  have ht2 := hscn.text
  have HC := Lib.hid hscn
  clear hscn
  have HF : ∀ nq, Whiled S Inv p t s k w ((W2.setCell ⟨t, 1, none⟩ (.int .i64 (k + took p (s.data.toList.drop k) : Nat))).drewN nq) := fun nq =>
    ⟨HST.out _ _ _ HI.out (((Kept.refl (fun j => w.heap.size ≤ j ∨ j = t) W2).setCell (p := ⟨t, 1, none⟩) (.inl (.inr rfl)) _).drewN nq), (HC.out.put _ HT.out).drewN nq, ((hkw2.mono fun j _ hj => .inl hj).setCell (p := ⟨t, 1, none⟩) (.inl (.inr rfl)) _).drewN nq⟩
  have HFH := Lib.hid HF
  clear HF hkw2 HI
  have htk := HT.out
  generalize hm : took p (s.data.toList.drop k) = m at *
  have HM := Lib.hid hm
  clear hm
  go_wp2
  go_quiet (fail)
  go_wp2
  go_ret
  exact ⟨by rw [HM.out]; rfl, HFH.out _⟩
theorem While_nil (f : Value) (w : World) :
    Calls Try.prog 44 #[.pointer none, f] w fun e w' => e = .returned (.string ByteArray.empty) ∧ Below w.heap.size w w' := by
  go_enter Try.func44, Try.ntmps44
  go_wp2
  all_goals
    go_ret
    exact ⟨rfl, (Below.refl _ _).alloc (Nat.le_refl _) _⟩

/-- While of a plain class. -/
theorem While_plain (g : Nat) (q : Int → Bool) (t : Nat) (s : ByteArray) (k : Nat) (w : World) (h : Scn t s k w) (hs : s.size ≤ 100000)
    (eg : ∀ args w, (callFunc g args).run Try.prog w = .ok (.enter g args) w)
    (hq : ∀ (n : Int) (w : World), 0 ≤ n → n ≤ 255 → Calls Try.prog g #[.int .u8 n] w fun e w' => e = .returned (.bool (q n)) ∧ w = w') :
    Calls Try.prog 44 #[.pointer (some ⟨t, 0, none⟩), .func (.func g) #[] #[]] w fun e w' => e = .returned (.string (s.extract k (k + runLen q s k))) ∧ Scn t s (k + runLen q s k) w' ∧ Kept (· = t) w w' := by
  have e : took (fun _ c => q (c.toNat : Int)) (s.data.toList.drop k) = runLen q s k := by rw [took_plain (fun c => q (c.toNat : Int))]; rfl
  rw [← e]
  refine (While_any g #[] #[] (fun _ c => q (c.toNat : Int)) (fun _ _ => True) (fun _ => False) t s k w h hs eg (fun _ h => h.elim) (fun h => h) trivial (fun _ _ _ _ _ => trivial) ?_).mono ?_
  · intro pre c r W _ _ _ _
    refine (hq (c.toNat : Int) W (by omega) (B.toNat_le c)).mono ?_
    rintro e w' ⟨rfl, rfl⟩
    exact ⟨rfl, trivial, Kept.refl _ _⟩
  · rintro e w' ⟨rfl, hw⟩
    exact ⟨rfl, hw.scn, hw.kept.mono fun j _ hj => hj.elim (fun h => h.elim) (fun h => h)⟩
theorem enters_IsBlank (args : Array Value) (w : World) : (callFunc 48 args).run Try.prog w = .ok (.enter 48 args) w := by
  exact enters_of Try.func48 (by kernel_rfl) rfl args w
theorem enters_IsDigit (args : Array Value) (w : World) : (callFunc 71 args).run Try.prog w = .ok (.enter 71 args) w := by
  exact enters_of Try.func71 (by kernel_rfl) rfl args w
theorem cut_size (s : ByteArray) (k n : Nat) (h : k + n ≤ s.size) : (s.extract k (k + n)).size = n := by simp; omega
theorem cut_all (q : Int → Bool) (s : ByteArray) (k : Nat) : (s.extract k (k + runLen q s k)).data.toList.all (fun c => q (c.toNat : Int)) = true := by
  have e : (s.extract k (k + runLen q s k)).data.toList = (s.data.toList.drop k).takeWhile fun c => q (c.toNat : Int) := by
    rw [ByteArray.data_extract, Array.toList_extract, List.extract_eq_take_drop]
    unfold runLen
    rw [Nat.add_sub_cancel_left]
    exact (List.prefix_iff_eq_take.1 (List.takeWhile_prefix _)).symm
  rw [e]
  exact takeWhile_allq _ _
theorem tokS_cut (s : ByteArray) (k : Nat) (hk : k ≤ s.size) : tokS (s.extract k (k + runLen B.tok s k)) = decide (0 < runLen B.tok s k) := by
  unfold tokS
  rw [cut_all, cut_size _ _ _ (runLen_le B.tok s k hk)]
  simp
theorem Token_some (t : Nat) (s : ByteArray) (k : Nat) (w : World) (h : Scn t s k w) (hs : s.size ≤ 100000) :
    Calls Try.prog 30 #[.pointer (some ⟨t, 0, none⟩)] w fun e w' => e = .returned (.tuple #[.string (s.extract k (k + runLen B.tok s k)), .bool (decide (0 < runLen B.tok s k))]) ∧ Scn t s (k + runLen B.tok s k) w' ∧ Kept (· = t) w w' := by
  have hr := runLen_le B.tok s k h.le
  have HT := Lib.hid (tokS_cut s k h.le)
  have HW := Lib.hid (While_plain 45 B.tok t s k w h hs enters_IsToken (fun n w _ _ => IsToken_any n w))
  have hz : (s.extract k (k + runLen B.tok s k)).size ≤ 100000 := by rw [cut_size _ _ _ hr]; omega
  clear h hr
  generalize runLen B.tok s k = m at *
  go_enter Try.func30, Try.ntmps30
  go_wp2_with fail
  refine HW.out.mono ?_
  rintro e w1 ⟨rfl, hsc, hk⟩
  go_wp2_with fail
  refine (Token_any _ _ hz).mono ?_
  rintro e w2 ⟨rfl, hb⟩
  rw [HT.out]
  have HSC := Lib.hid (hsc.kept (Kept.of_below (P := fun _ => False) hb) (fun h => h))
  go_wp2
  go_ret2
  exact ⟨rfl, HSC.out, hk.trans (Kept.of_below hb)⟩
theorem Token_nil (w : World) :
    Calls Try.prog 30 #[.pointer none] w fun e w' => e = .returned (.tuple #[.string ByteArray.empty, .bool false]) ∧ Below w.heap.size w w' := by
  have e0 : tokS ByteArray.empty = false := by decide +kernel
  have HT := Lib.hid e0
  clear e0
  go_enter Try.func30, Try.ntmps30
  go_wp2_with fail
  refine (While_nil _ _).mono ?_
  rintro e w1 ⟨rfl, hk⟩
  go_wp2_with fail
  refine (Token_any _ _ (by decide)).mono ?_
  rintro e w2 ⟨rfl, hb⟩
  rw [HT.out]
  go_wp2
  go_ret2
  exact ⟨rfl, below_then hk hb⟩
theorem Blanks_some (t : Nat) (s : ByteArray) (k : Nat) (w : World) (h : Scn t s k w) (hs : s.size ≤ 100000) :
    Calls Try.prog 34 #[.pointer (some ⟨t, 0, none⟩)] w fun e w' => e = .returned (.string (s.extract k (k + runLen B.bla s k))) ∧ Scn t s (k + runLen B.bla s k) w' ∧ Kept (· = t) w w' := by
  have HW := Lib.hid (While_plain 48 B.bla t s k w h hs enters_IsBlank (fun n w _ _ => IsBlank_any n w))
  clear h
  go_enter Try.func34, Try.ntmps34
  go_wp2_with fail
  refine HW.out.mono ?_
  rintro e w1 ⟨rfl, hsc, hk⟩
  go_wp2
  go_ret
  exact ⟨rfl, hsc, hk⟩
theorem Blanks_nil (w : World) :
    Calls Try.prog 34 #[.pointer none] w fun e w' => e = .returned (.string ByteArray.empty) ∧ Below w.heap.size w w' := by
  go_enter Try.func34, Try.ntmps34
  go_wp2_with fail
  refine (While_nil _ _).mono ?_
  rintro e w1 ⟨rfl, hk⟩
  go_wp2
  go_ret
  exact ⟨rfl, hk⟩
end Go.Proofs.Ytjgjdcikeagibaa
/- The scanner's methods at whatever scanner, nil or not; one deed of the law: contracts. -/
namespace Go.Proofs.Ytjgjdcikeagibaa
open Go.RowKit

/-- A scanner of s, at k: nil, or a block. -/
def IsScan (v : Value) (s : ByteArray) (k : Nat) (w : World) : Prop := (v = .pointer none ∧ s = ByteArray.empty ∧ k = 0) ∨ ∃ t, v = .pointer (some ⟨t, 0, none⟩) ∧ Scn t s k w
def ownScan (v : Value) (j : Nat) : Prop := v = .pointer (some ⟨j, 0, none⟩)
theorem IsScan.le {v : Value} {s : ByteArray} {k : Nat} {w : World} (h : IsScan v s k w) : k ≤ s.size := by
  rcases h with ⟨_, rfl, rfl⟩ | ⟨t, _, h⟩
  · exact Nat.zero_le _
  · exact h.le
theorem IsScan.kept {P : Nat → Prop} {v : Value} {s : ByteArray} {k : Nat} {w w' : World} (h : IsScan v s k w) (hk : Kept P w w') (hp : ∀ j, ownScan v j → ¬ P j) : IsScan v s k w' := by
  rcases h with h | ⟨t, rfl, h⟩
  · exact .inl h
  · exact .inr ⟨t, rfl, h.kept hk (hp t rfl)⟩
theorem IsScan.below {v : Value} {s : ByteArray} {k : Nat} {w w' : World} (h : IsScan v s k w) (hk : Below w.heap.size w w') : IsScan v s k w' := h.kept (P := fun _ => False) (Kept.of_below hk) (fun _ _ x => x)
theorem IsScan.own_lt {v : Value} {s : ByteArray} {k : Nat} {w : World} (h : IsScan v s k w) {j : Nat} (hj : ownScan v j) : j < w.heap.size := by
  rcases h with ⟨rfl, _⟩ | ⟨t, rfl, h⟩
  · simp [ownScan] at hj
  · simp [ownScan] at hj; subst hj; exact h.lt
theorem runLen_empty (q : Int → Bool) : runLen q ByteArray.empty 0 = 0 := by unfold runLen; simp
theorem cut_empty : ByteArray.empty.extract 0 (0 + 0) = ByteArray.empty := by decide +kernel
theorem Token_v (v : Value) (s : ByteArray) (k : Nat) (w : World) (h : IsScan v s k w) (hs : s.size ≤ 100000) :
    Calls Try.prog 30 #[v] w fun e w' => e = .returned (.tuple #[.string (s.extract k (k + runLen B.tok s k)), .bool (decide (0 < runLen B.tok s k))]) ∧ IsScan v s (k + runLen B.tok s k) w' ∧ Kept (ownScan v) w w' := by
  rcases h with ⟨rfl, rfl, rfl⟩ | ⟨t, rfl, h⟩
  · refine (Token_nil w).mono ?_
    rintro e w' ⟨rfl, hb⟩
    rw [runLen_empty]
    exact ⟨by rw [cut_empty]; rfl, .inl ⟨rfl, rfl, rfl⟩, Kept.of_below hb⟩
  · refine (Token_some t s k w h hs).mono ?_
    rintro e w' ⟨rfl, hsc, hk⟩
    exact ⟨rfl, .inr ⟨t, rfl, hsc⟩, hk.mono fun j _ hj => by subst hj; rfl⟩
theorem Blanks_v (v : Value) (s : ByteArray) (k : Nat) (w : World) (h : IsScan v s k w) (hs : s.size ≤ 100000) :
    Calls Try.prog 34 #[v] w fun e w' => e = .returned (.string (s.extract k (k + runLen B.bla s k))) ∧ IsScan v s (k + runLen B.bla s k) w' ∧ Kept (ownScan v) w w' := by
  rcases h with ⟨rfl, rfl, rfl⟩ | ⟨t, rfl, h⟩
  · refine (Blanks_nil w).mono ?_
    rintro e w' ⟨rfl, hb⟩
    rw [runLen_empty]
    exact ⟨by rw [cut_empty], .inl ⟨rfl, rfl, rfl⟩, Kept.of_below hb⟩
  · refine (Blanks_some t s k w h hs).mono ?_
    rintro e w' ⟨rfl, hsc, hk⟩
    exact ⟨rfl, .inr ⟨t, rfl, hsc⟩, hk.mono fun j _ hj => by subst hj; rfl⟩
theorem WhileDig_v (v : Value) (s : ByteArray) (k : Nat) (w : World) (h : IsScan v s k w) (hs : s.size ≤ 100000) :
    Calls Try.prog 44 #[v, .func (.func 71) #[] #[]] w fun e w' => e = .returned (.string (s.extract k (k + runLen B.dig s k))) ∧ IsScan v s (k + runLen B.dig s k) w' ∧ Kept (ownScan v) w w' := by
  rcases h with ⟨rfl, rfl, rfl⟩ | ⟨t, rfl, h⟩
  · refine (While_nil _ w).mono ?_
    rintro e w' ⟨rfl, hb⟩
    rw [runLen_empty]
    exact ⟨by rw [cut_empty], .inl ⟨rfl, rfl, rfl⟩, Kept.of_below hb⟩
  · refine (While_plain 71 B.dig t s k w h hs enters_IsDigit (fun n w _ _ => IsDigit_any n w)).mono ?_
    rintro e w' ⟨rfl, hsc, hk⟩
    exact ⟨rfl, .inr ⟨t, rfl, hsc⟩, hk.mono fun j _ hj => by subst hj; rfl⟩
theorem Byte_v (v : Value) (s : ByteArray) (k : Nat) (b : Int) (w : World) (h : IsScan v s k w) (hs : s.size ≤ maxLen) :
    Calls Try.prog 72 #[v, .int .u8 b] w fun e w' => e = .returned (.bool (decide (k < s.size ∧ byteAt s k = b))) ∧ IsScan v s (if k < s.size ∧ byteAt s k = b then k + 1 else k) w' ∧ Kept (ownScan v) w w' := by
  rcases h with ⟨rfl, rfl, rfl⟩ | ⟨t, rfl, h⟩
  · refine (Byte_nil b w).mono ?_
    rintro e w' ⟨rfl, n, rfl⟩
    exact ⟨rfl, .inl ⟨rfl, rfl, rfl⟩, (Kept.refl _ _).drewN n⟩
  · refine (Byte_some t s k b w h hs).mono ?_
    rintro e w' ⟨rfl, hsc, hk⟩
    exact ⟨rfl, .inr ⟨t, rfl, hsc⟩, hk.mono fun j _ hj => by subst hj; rfl⟩
theorem Text_v (v : Value) (s : ByteArray) (k : Nat) (x : ByteArray) (w : World) (h : IsScan v s k w) (hs : s.size ≤ maxLen) (hx : x.size ≤ maxLen) :
    Calls Try.prog 31 #[v, .string x] w fun e w' => e = .returned (.bool (begAt s k x)) ∧ IsScan v s (if begAt s k x then k + x.size else k) w' ∧ Kept (ownScan v) w w' := by
  rcases h with ⟨rfl, rfl, rfl⟩ | ⟨t, rfl, h⟩
  · refine (Text_nil x w hx).mono ?_
    rintro e w' ⟨rfl, n, rfl⟩
    refine ⟨rfl, .inl ⟨rfl, rfl, ?_⟩, (Kept.refl _ _).drewN n⟩
    cases hb : begAt ByteArray.empty 0 x
    · rfl
    · have := begAt_le _ _ _ (Nat.zero_le _) hb
      have e : ByteArray.empty.size = 0 := rfl
      simp only [if_true]
      omega
  · refine (Text_some t s k x w h hs hx).mono ?_
    rintro e w' ⟨rfl, hsc, hk⟩
    exact ⟨rfl, .inr ⟨t, rfl, hsc⟩, hk.mono fun j _ hj => by subst hj; rfl⟩
theorem Back_v (v : Value) (s : ByteArray) (k : Nat) (j : Int) (w : World) (h : IsScan v s k w) :
    Calls Try.prog 62 #[v, .int .i64 j] w fun e w' => e = .returned (.bool (backOk j k)) ∧ IsScan v s (if backOk j k then j.toNat else k) w' ∧ Kept (ownScan v) w w' := by
  rcases h with ⟨rfl, rfl, rfl⟩ | ⟨t, rfl, h⟩
  · refine (Back_nil j w).mono ?_
    rintro e w' ⟨rfl, rfl⟩
    refine ⟨rfl, .inl ⟨rfl, rfl, ?_⟩, Kept.refl _ _⟩
    cases hb : backOk j 0
    · rfl
    · unfold backOk at hb
      simp at hb
      simp only [if_true]
      omega
  · refine (Back_some t s k j w h).mono ?_
    rintro e w' ⟨rfl, hsc, hk⟩
    exact ⟨rfl, .inr ⟨t, rfl, hsc⟩, hk.mono fun j _ hj => by subst hj; rfl⟩
theorem Peek_v (v : Value) (s : ByteArray) (k : Nat) (w : World) (h : IsScan v s k w) :
    Calls Try.prog 77 #[v] w fun e w' => e = .returned (.tuple #[.int .u8 (byteAt s k), .bool (decide (k < s.size))]) ∧ ∃ n, w' = w.drewN n := by
  rcases h with ⟨rfl, rfl, rfl⟩ | ⟨t, rfl, h⟩
  · exact Peek_nil w
  · exact Peek_some t s k w h
theorem End_v (v : Value) (s : ByteArray) (k : Nat) (w : World) (h : IsScan v s k w) :
    Calls Try.prog 19 #[v] w fun e w' => e = .returned (.bool (decide (k = s.size))) ∧ ∃ n, w' = w.drewN n := by
  rcases h with ⟨rfl, rfl, rfl⟩ | ⟨t, rfl, h⟩
  · exact End_nil w
  · exact End_some t s k w h
theorem Rest_v (v : Value) (s : ByteArray) (k : Nat) (w : World) (h : IsScan v s k w) :
    Calls Try.prog 33 #[v] w fun e w' => e = .returned (.string (restS s k)) ∧ ∃ n, w' = w.drewN n := by
  rcases h with ⟨rfl, rfl, rfl⟩ | ⟨t, rfl, h⟩
  · exact Rest_nil w
  · exact Rest_some t s k w h
theorem At_v (v : Value) (s : ByteArray) (k : Nat) (w : World) (h : IsScan v s k w) :
    Calls Try.prog 60 #[v] w fun e w' => e = .returned (.int .i64 k) ∧ w = w' := by
  rcases h with ⟨rfl, rfl, rfl⟩ | ⟨t, rfl, h⟩
  · exact At_nil w
  · exact At_some t s k w h
end Go.Proofs.Ytjgjdcikeagibaa
