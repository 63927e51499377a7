/- The method that the law hands to All: it keeps what it has seen, and counts. A contract. -/
import Derived.Test.YtddobbgpfdoamaaOctE
import Derived.Deep.QuietTactic
import Derived.BigQuiet
namespace Go.Proofs.Ytddobbgpfdoamaa
namespace all
open Go.RowKit

def u8s (l : List UInt8) : List Value := l.map fun c => .int .u8 (c.toNat : Int)
/-- The taker at block t has seen these bytes. -/
structure Taker (t base : Nat) (most : Int) (pre : List UInt8) (w : World) : Prop where
  row : ∃ v, w.cell? ⟨t, 0, none⟩ = some v ∧ w.ownsRow base 5 1 v pre.length (u8s pre)
  most : w.cell? ⟨t, 1, none⟩ = some (.int .i64 most)
  free0 : w.frozen? ⟨t, 0, none⟩ = false
  free1 : w.frozen? ⟨t, 1, none⟩ = false
  below : t < base
  size : base ≤ w.heap.size
theorem Taker.drewN {t base : Nat} {most : Int} {pre : List UInt8} {w : World} (h : Taker t base most pre w) (n : Nat) : Taker t base most pre (w.drewN n) := ⟨h.row, h.most, h.free0, h.free1, h.below, h.size⟩
/-- Of what lies below base nothing has turned but block t. -/
def Apart (t base : Nat) (w w' : World) : Prop := w'.os = w.os ∧ w'.tape = w.tape ∧ w'.output = w.output ∧ w.heap.size ≤ w'.heap.size ∧ ∀ k, k < base → k ≠ t → w'.heap[k]? = w.heap[k]?

theorem ownBlock_ge {w : World} {base : Nat} {e : TypeId} {size : Nat} {v : Value} {n : Nat} {xs : List Value} (h : w.ownsRow base e size v n xs) : ∀ k, v.ownBlock = some k → base ≤ k := by
  intro k hk
  rcases h.2 with ⟨rfl, _⟩ | ⟨g, cap, cur, rfl, hg, _⟩
  · simp [Value.ownBlock] at hk
  · simp [Value.ownBlock] at hk; omega
/-- Behind an append to the row of a taker: what lies below base is as it was. -/
theorem kept_append {w w1 : World} {o : Obj} {base : Nat} {v : Value} (hsz : base ≤ w.heap.size) (hge : ∀ k, v.ownBlock = some k → base ≤ k) (hg : (w.alloc o).grownBy w1 v.ownBlock) : Below base w w1 :=
  ((Below.refl base w).alloc hsz o).grown hg (by have : w.heap.size ≤ (w.alloc o).heap.size := by simp
                                                 omega) hge
theorem slice_of_owns {w : World} {base : Nat} {e : TypeId} {size : Nat} {v : Value} {n : Nat} {xs : List Value} (h : w.ownsRow base e size v (n + 1) xs) : ∃ g cap, v = .slice (some ⟨g, 0, none⟩) (n + 1) cap := by
  rcases h.2 with ⟨_, h2⟩ | ⟨g, cap, cur, rfl, _⟩
  · omega
  · exact ⟨g, cap, rfl⟩

set_option maxHeartbeats 400000 in
theorem is_any (t base : Nat) (most : Int) (pre : List UInt8) (c : UInt8) (w : World) (h : Taker t base most pre w) (hl : pre.length ≤ 100000) :
    Calls Try.prog 35 #[.pointer (some ⟨t, 0, none⟩), .int .u8 (c.toNat : Int)] w fun e w' => e = .returned (.bool (decide (((pre.length + 1 : Nat) : Int) ≤ most))) ∧ Taker t base most (pre ++ [c]) w' ∧ Apart t base w w' := by
  obtain ⟨⟨v, hc0, hown⟩, hc1, hf0, hf1, hb, hsz⟩ := h
  obtain ⟨i0, hi, hz0, hz1, hz2⟩ := info_parts info_u8
  go_enter Try.func35, Try.ntmps35
  go_wp2_with (at_builtin; go_must (refine wpList_append_own _ rfl _ _ 25 rfl base 5 i0 (.int .u8 0) 1 1 Try.underlying25 hi hz0 hz1 hz2 rfl (by decide) _ _ _ rfl (hown.alloc _) ⟨w.heap.size, 0, none⟩ 1 1 [.int .u8 (c.toNat : Int)] rfl rfl ?c1 ?c2 ?c3 ?c4 ?c5 ?_))
  case c1 =>
    intro j u hj
    match j, hj with
    | 0, hj => simp at hj; subst hj; simp [Addr.add]
  case c2 => intro u hu; simp at hu; subst hu; rfl
  case c3 => unfold maxLen; omega
  case c4 => omega
  case c5 => simp; omega
  intro v' w1 hown' hgrow _
  have hk := kept_append hsz (ownBlock_ge hown) hgrow
  obtain ⟨g, cp, hv⟩ := slice_of_owns hown'
  rw [hv] at hown' ⊢
  have hd0 : w1.cell? ⟨t, 0, none⟩ = some v := (hk.cell (p := ⟨t, 0, none⟩) hb).trans hc0
  have hd1 : w1.cell? ⟨t, 1, none⟩ = some (.int .i64 most) := (hk.cell (p := ⟨t, 1, none⟩) hb).trans hc1
  have he0 : w1.frozen? ⟨t, 0, none⟩ = false := (hk.frozen (p := ⟨t, 0, none⟩) hb).trans hf0
  have he1 : w1.frozen? ⟨t, 1, none⟩ = false := (hk.frozen (p := ⟨t, 1, none⟩) hb).trans hf1
  have hx : (w1.setCell ⟨t, 0, none⟩ (.slice (some ⟨g, 0, none⟩) (pre.length + 1) cp)).cell? ⟨t, 0, none⟩ = some (.slice (some ⟨g, 0, none⟩) (pre.length + 1) cp) := World.cell?_setCell_same _ _ _ hd0
  have HX := Lib.hid hx
  clear hx
  have HT : Taker t base most (pre ++ [c]) (w1.setCell ⟨t, 0, none⟩ (.slice (some ⟨g, 0, none⟩) (pre.length + 1) cp)) := by
    have hown2 := ownsRow_setCell_below hown' (a := ⟨t, 0, none⟩) hb (.slice (some ⟨g, 0, none⟩) (pre.length + 1) cp)
    refine ⟨⟨_, World.cell?_setCell_same _ _ _ hd0, ?_⟩, ?_, ?_, ?_, hb, ?_⟩
    · have e1 : (pre ++ [c]).length = pre.length + 1 := by simp
      have e2 : u8s (pre ++ [c]) = u8s pre ++ [.int .u8 (c.toNat : Int)] := by simp [u8s]
      rw [e1, e2]; exact hown2
    · rw [World.cell?_setCell_other _ _ _ _ (by simp)]; exact hd1
    · rw [World.frozen?_setCell]; exact he0
    · rw [World.frozen?_setCell]; exact he1
    · have := hk.size
      simp only [World.setCell, Array.size_modify]
      omega
  have HP : Apart t base w (w1.setCell ⟨t, 0, none⟩ (.slice (some ⟨g, 0, none⟩) (pre.length + 1) cp)) :=
    ⟨hk.os, hk.tape, hk.output, by simp only [World.setCell, Array.size_modify]; exact hk.size, fun k h1 h2 => (Below.heap_setCell _ _ _ _ h2).trans (hk.block k h1)⟩
  clear hown hown' hgrow hc0 hc1 hf0 hf1 hi hz0 hz1 hz2 hv
  go_wp2
  clear hd0 hd1 he0 he1 hk
  have hx0 := HX.out
  have hx1 := HT.most
  generalize w1.setCell ⟨t, 0, none⟩ (.slice (some ⟨g, 0, none⟩) (pre.length + 1) cp) = w2 at *
  go_quiet (fail)
  go_wp2
  go_ret
  exact ⟨rfl, HT.drewN _, HP⟩
end all
end Go.Proofs.Ytddobbgpfdoamaa
