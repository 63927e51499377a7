/- A range over an iterator that turns cells of its own between two rounds: a law; strings.SplitSeq at a mark of one byte: its contract. -/
import Derived.RangeFuncNested
import Derived.RangeFuncBound
import Derived.RangeFuncCalls
import Derived.RangeFuncLeaves
import Derived.Shelf.Abstract
import Derived.Shelf.RegionOpen
import Derived.WalkKit
import Derived.OwnWalkIn
import Derived.TacticsInMore
import Derived.LoopNIn
import Derived.LoopIn
import Derived.Test.YtakeicaeccbbiaaDoorSegA
import Derived.Test.YtakeicaeccbbiaaDoorPqB
namespace Go.Proofs.YtakeicaeccbbiaaDoor
open Go.RowKit Go.Shelf
attribute [local go_sem] Oper.semAt_some

/-- An iterator that hands on the row xs, and turns blocks of T alone; the body keeps these. -/
def Hands {α : Type} (n : Nat) (P : Program) (g : Nat) (lb : Array Value) (encs : α → Array Value) (T : Nat → Prop) (xs : List α) (w : World) : Prop :=
  ∀ (l : Nat) (J : List α → World → Prop) (W : World), Below w.heap.size w W → (∀ s A B, J s A → Kept T A B → J s B) →
    (∀ pre x W1, J pre W1 → pre ++ [x] <+: xs → YieldAt Fence.wide (n - 1) P l (encs x) W1 fun e W' => e = .returned (.bool true) ∧ J (pre ++ [x]) W' ∧ Kept (fun k => ¬ T k) W1 W') →
    J [] W → CallsIn Fence.wide n P g (#[.func (.yield l) #[] #[]] ++ lb) W fun e W' => (∃ v, e = .returned v) ∧ J xs W'
/-- A round's end: it goes on. -/
def RoundGoes (R : World → Prop) : Exit → Act → World → Prop
  | .normal, _, W => R W
  | _, _, _ => False
theorem wpIn_range_hands {α : Type} {n : Nat} {P : Program} {g : Operand} {ps : Array Tmp} {assign body : Code} {Q : Exit → Act → World → Prop} {a : Act} {w : World} (h1 : 1 ≤ n)
    {gf : Nat} {lb : Array Value} (hg : a.eval g = .func (.func gf) #[] lb) (eg : ∀ args w, (callFunc gf args).run P w = .ok (.enter gf args) w)
    {encs : α → Array Value} {T : Nat → Prop} {xs : List α} (hseq : Hands (n - 1) P gf lb encs T xs w) (hT : ∀ k, T k → k < w.heap.size) (hps : ∀ x, (encs x).size = ps.size)
    (I : List α → World → Prop) (hI : ∀ s A B, I s A → Kept (fun k => T k ∨ k = w.heap.size + 1) A B → I s B) (h0 : I [] w) (a1 : α → Act)
    (hassign : ∀ (l : Nat) (x : α) (W : World) (K : Act → World → Prop), K (a1 x) W →
      assign.wpIn (Fence.wide.inRound l) (n - 1 - 1) P (Exit.then K (fun _ _ _ => False)) { tmps := (ps.zip (encs x)).foldl (fun t (p, v) => t.setIfInBounds p v) a.tmps, defers := [] } W)
    (hbody : ∀ (l : Nat) (pre : List α) (x : α) (W : World), w.heap.size + 1 < W.heap.size → I pre W → pre ++ [x] <+: xs →
      body.wpIn (Fence.wide.inRound l) (n - 1 - 1) P (RoundGoes fun W' => Kept (fun k => ¬ T k ∧ k ≠ w.heap.size ∧ k ≠ w.heap.size + 1) W W' ∧ I (pre ++ [x]) W') (a1 x) W)
    (hend : ∀ W, w.heap.size + 1 < W.heap.size → I xs W → W.heap[w.heap.size]? = some (.deferred (some [])) → Q .normal { a with defers := { target := .collected w.heap.size, args := #[] } :: a.defers } W) :
    (Code.rangeFunc g ps assign body).wpIn Fence.wide n P Q a w := by
  refine wpIn_rangeFunc fun fn hfn => ?_
  obtain ⟨D, hD⟩ : ∃ D, w.heap.size = D := ⟨_, rfl⟩
  have nT : ¬ T D ∧ ¬ T (D + 1) := ⟨fun h => by have := hT _ h; omega, fun h => by have := hT _ h; omega⟩
  let rc : LoopState → Loop := fun st => { state := st, pending := none, fn := fn, tmps := a.tmps, params := ps, assign := assign, body := body, defers := D }
  let Bk : World → Prop := fun W => W.heap[D + 1]? = some (.loop (rc .ready)) ∧ W.heap[D]? = some (.deferred (some []))
  have hstart : Kept (fun _ => False) w ((w.alloc (.deferred (some []))).alloc (.loop (rc .ready))) := ((Kept.refl _ w).alloc _).alloc _
  have hbk : Bk ((w.alloc (.deferred (some []))).alloc (.loop (rc .ready))) := by
    refine ⟨?_, ?_⟩
    · have := World.alloc_heap_new (w.alloc (.deferred (some []))) (.loop (rc .ready))
      rwa [World.size_alloc, hD] at this
    · have := (Below.heap_alloc (w.alloc (.deferred (some []))) (.loop (rc .ready)) w.heap.size (by simp)).trans (World.alloc_heap_new w _)
      rwa [hD] at this
  have hbel : Below w.heap.size w ((w.alloc (.deferred (some []))).alloc (.loop (rc .ready))) := ((Below.refl _ w).alloc (by omega) _).alloc (by simp) _
  have henter : (Instr.enterLoop fn a.tmps ps assign body none).run P w = .ok (D + 1, [{ target := .collected D, args := #[] }]) ((w.alloc (.deferred (some []))).alloc (.loop (rc .ready))) := by
    have := run_enterLoop_outer (P := P) (w := w) fn a.tmps ps assign body
    rw [hD] at this
    exact this
  obtain ⟨W1, hW1⟩ : ∃ W1, (w.alloc (.deferred (some []))).alloc (.loop (rc .ready)) = W1 := ⟨_, rfl⟩
  rw [hW1] at hstart hbk hbel henter
  refine ⟨D + 1, [{ target := .collected D, args := #[] }], W1, { target := .fn (.func gf) lb, args := #[.func (.yield (D + 1)) #[] #[]] }, W1, gf, #[.func (.yield (D + 1)) #[] #[]] ++ lb, W1, henter, ?_, fun _ _ => trivial, ?_, fun _ => h1, ?_⟩
  · simp only [resolve, hg]
    simp [go_sem]
  · simp [invoke, go_sem, eg]
  · refine (hseq (D + 1) (fun pre W => I pre W ∧ Bk W) W1 hbel ?_ ?_ ⟨hI _ _ _ h0 (hstart.mono fun _ _ h => h.elim), hbk⟩).mono ?_
    · rintro s A B ⟨hi, hl, hk⟩ hAB
      exact ⟨hI _ _ _ hi (hAB.mono fun _ _ h => .inl h), (hAB.block _ (Array.getElem?_eq_some_iff.1 hl).1 nT.2).trans hl, (hAB.block _ (Array.getElem?_eq_some_iff.1 hk).1 nT.1).trans hk⟩
    · rintro pre x W ⟨hi, hl, hk⟩ hlen
      have hlt : D + 1 < W.heap.size := (Array.getElem?_eq_some_iff.1 hl).1
      refine ⟨fn, _, assign, body, run_yield hl (hps x), roundIn_of_wpIn hfn (hassign _ x W _ ⟨_, run_beginRound hl rfl, ?_⟩)⟩
      have hp1 : ∀ (V : World) (o : Obj), Kept (fun k => T k ∨ k = D + 1) V (V.putObj (D + 1) o) := fun V o => Kept.putObj V _ o (.inr rfl)
      have hq1 : ∀ (V : World) (o : Obj), Kept (fun k => ¬ T k) V (V.putObj (D + 1) o) := fun V o => Kept.putObj V _ o nT.2
      rw [hD] at hI hbody
      refine wpIn_mono (hbody (D + 1) pre x _ (by simpa using hlt) (hI _ _ _ hi (hp1 W _)) hlen) ?_
      rintro e a3 W3 hR
      cases e with
      | normal =>
        obtain ⟨hk3, hi3⟩ := hR
        have hb2 : (W.putObj (D + 1) (.loop (rc .busy))).heap[D + 1]? = some (.loop (rc .busy)) := World.putObj_heap_same hlt
        have hl3 : W3.heap[D + 1]? = some (.loop (rc .busy)) := (hk3.block _ (by simpa using hlt) (fun h => h.2.2 rfl)).trans hb2
        have hd3 : W3.heap[D]? = some (.deferred (some [])) := (hk3.block _ (by simp; omega) (fun h => h.2.1 rfl)).trans ((World.putObj_heap_other (by omega)).trans hk)
        refine ⟨_, _, run_endRound none hl3, rfl, ⟨hI _ _ _ hi3 (hp1 W3 _), World.putObj_heap_same (Array.getElem?_eq_some_iff.1 hl3).1, (World.putObj_heap_other (by omega)).trans hd3⟩, ?_⟩
        exact ((hq1 W _).trans (hk3.mono fun _ _ h => h.1)).trans (hq1 W3 _)
      | ret => exact hR.elim
      | exit id => exact hR.elim
      | goto t => exact hR.elim
      | panic ch => exact hR.elim
      | outgrown => exact hR.elim
    · rintro e W2 ⟨⟨v, rfl⟩, hi, hl, hk⟩
      rw [hD] at hI hend
      exact ⟨none, _, run_endLoop hl (by simp [rc]), hend _ (by simpa using (Array.getElem?_eq_some_iff.1 hl).1) (hI _ _ _ hi (Kept.putObj W2 _ _ (.inr rfl))) ((World.putObj_heap_other (by omega)).trans hk)⟩
end Go.Proofs.YtakeicaeccbbiaaDoor
