/- What the library's search for any of some bytes finds in whatever text, ASCII or not: its short way (a text of at most 8 bytes), over any program and any numbering. -/
import Derived.Shelf.Strings.IndexAnyAll
import Derived.Laws.Runes
import Derived.Outline
import Derived.BigGuardPart
import Derived.Shelf.RegionOpenPlain
import Derived.WalkMore
import Derived.LoopN
import Derived.Test.YtchhjmdbjndckaaDoorWorld
namespace Go.Proofs.YtchhjmdbjndckaaDoor
open Go.Shelf Go.RowKit Go.Lib
variable {P : Program} {ρ : Ren}

namespace Ix
theorem byte_ge (s : ByteArray) (k : Nat) : (s.get! k).toNat < 256 := (s.get! k).toNat_lt
theorem get_at (s : ByteArray) (k : Nat) (h : k < s.size) : s.get! k = s[k] := by
  simp [ByteArray.get!, getElem!_pos, h]
  rfl
/-- A rune that begins with a byte that is no ASCII. -/
theorem decode_high (s : ByteArray) (pos : Nat) (h : pos < s.size) (ha : ¬ (s[pos]'h).toNat < 128) :
    ∃ r n, Utf8.decode s pos = (r, n) ∧ 128 ≤ r ∧ r ≤ 1114111 ∧ 1 ≤ n ∧ pos + n ≤ s.size ∧ ∀ (j : Nat) b, pos ≤ j → j < pos + n → s.data.toList[j]? = some b → 128 ≤ b.toNat := by
  have e0 : s.get! (pos + 0) = s[pos]'h := get_at s pos h
  have one : ∀ (j : Nat) b, pos ≤ j → j < pos + 1 → s.data.toList[j]? = some b → 128 ≤ b.toNat := by
    intro j b h1 h2 hb
    obtain rfl : j = pos := by omega
    rw [Lib.data_getElem? s j h] at hb
    injection hb with hb
    subst hb; omega
  have err : ∃ r n, ((Utf8.runeError, 1) : Nat × Nat) = (r, n) ∧ 128 ≤ r ∧ r ≤ 1114111 ∧ 1 ≤ n ∧ pos + n ≤ s.size ∧ ∀ (j : Nat) b, pos ≤ j → j < pos + n → s.data.toList[j]? = some b → 128 ≤ b.toNat :=
    ⟨_, _, rfl, by decide, by decide, Nat.le_refl _, by omega, one⟩
  have more : ∀ k b, s.data.toList[pos + k]? = some b → (s.get! (pos + k)).toNat / 64 = 2 → 128 ≤ b.toNat := by
    intro k b hb hd
    have hk : pos + k < s.size := by
      have := List.getElem?_eq_some_iff.1 hb
      obtain ⟨hk, -⟩ := this
      simpa using hk
    rw [get_at s _ hk] at hd
    rw [Lib.data_getElem? s _ hk] at hb
    injection hb with hb
    subst hb; omega
  have hb0 : 128 ≤ (s.get! (pos + 0)).toNat := by rw [e0]; omega
  have l0 := byte_ge s (pos + 0)
  have l1 := byte_ge s (pos + 1)
  have l2 := byte_ge s (pos + 2)
  have l3 := byte_ge s (pos + 3)
  unfold Utf8.decode
  simp only
  rw [if_neg (by omega)]
  split
  · rename_i g
    simp only [Bool.and_eq_true, beq_iff_eq, decide_eq_true_eq] at g
    split
    · refine ⟨_, _, rfl, by omega, by omega, by omega, by omega, fun j b h1 h2 hb => ?_⟩
      by_cases hj : j = pos
      · exact one j b h1 (by omega) hb
      · obtain rfl : j = pos + 1 := by omega
        exact more 1 b hb g.2.2
    · exact err
  · split
    · rename_i g
      simp only [Bool.and_eq_true, beq_iff_eq, decide_eq_true_eq] at g
      split
      · rename_i hv
        simp only [Bool.and_eq_true, decide_eq_true_eq] at hv
        refine ⟨_, _, rfl, by omega, by omega, by omega, by omega, fun j b h1 h2 hb => ?_⟩
        by_cases hj : j = pos
        · exact one j b h1 (by omega) hb
        · by_cases hj1 : j = pos + 1
          · subst hj1; exact more 1 b hb g.1.2.2
          · obtain rfl : j = pos + 2 := by omega
            exact more 2 b hb g.2.2
      · exact err
    · split
      · rename_i g
        simp only [Bool.and_eq_true, beq_iff_eq, decide_eq_true_eq] at g
        split
        · rename_i hv
          have hv2 : (s.get! (pos + 0)).toNat % 8 * 262144 + (s.get! (pos + 1)).toNat % 64 * 4096 + (s.get! (pos + 2)).toNat % 64 * 64 + (s.get! (pos + 3)).toNat % 64 ≤ 1114111 := by
            have := hv
            unfold Utf8.valid at this
            simp only [Bool.and_eq_true, Bool.or_eq_true, decide_eq_true_eq] at this
            omega
          refine ⟨_, _, rfl, by simp only [Bool.and_eq_true, decide_eq_true_eq] at hv; omega, hv2, by omega, by omega, fun j b h1 h2 hb => ?_⟩
          by_cases hj : j = pos
          · exact one j b h1 (by omega) hb
          · by_cases hj1 : j = pos + 1
            · subst hj1; exact more 1 b hb g.1.1.2.2
            · by_cases hj2 : j = pos + 2
              · subst hj2; exact more 2 b hb g.1.2.2
              · obtain rfl : j = pos + 3 := by omega
                exact more 3 b hb g.2.2
        · exact err
      · exact err
/-- A rune's bytes, if it is no ASCII: two to four, none of which is ASCII. -/
theorem encode_form (r : Int) (h : 128 ≤ r) : ∃ l : List UInt8, Utf8.encode r = ⟨l.toArray⟩ ∧ 2 ≤ l.length ∧ l.length ≤ 4 ∧ ∀ b ∈ l, 128 ≤ b.toNat := by
  unfold Utf8.encode
  generalize hc : (if Utf8.valid r = true then r.toNat else Utf8.runeError) = c
  have h1 : 128 ≤ c ∧ c ≤ 1114111 := by
    rw [← hc]
    split
    · rename_i g
      unfold Utf8.valid at g
      simp only [Bool.and_eq_true, Bool.or_eq_true, decide_eq_true_eq] at g
      omega
    · decide
  clear hc
  have ofn : ∀ n, 128 ≤ n → n < 256 → 128 ≤ (UInt8.ofNat n).toNat := fun n h0 hn => by rw [UInt8.toNat_ofNat']; omega
  simp only
  rw [if_neg (by omega)]
  split
  · refine ⟨[UInt8.ofNat (192 + c / 64), UInt8.ofNat (128 + c % 64)], rfl, by simp, by simp, fun b hb => ?_⟩
    simp only [List.mem_cons, List.not_mem_nil, or_false] at hb
    rcases hb with rfl | rfl <;> exact ofn _ (by omega) (by omega)
  · split
    · refine ⟨[UInt8.ofNat (224 + c / 4096), UInt8.ofNat (128 + c / 64 % 64), UInt8.ofNat (128 + c % 64)], rfl, by simp, by simp, fun b hb => ?_⟩
      simp only [List.mem_cons, List.not_mem_nil, or_false] at hb
      rcases hb with rfl | rfl | rfl <;> exact ofn _ (by omega) (by omega)
    · refine ⟨[UInt8.ofNat (240 + c / 262144), UInt8.ofNat (128 + c / 4096 % 64), UInt8.ofNat (128 + c / 64 % 64), UInt8.ofNat (128 + c % 64)], rfl, by simp, by simp, fun b hb => ?_⟩
      simp only [List.mem_cons, List.not_mem_nil, or_false] at hb
      rcases hb with rfl | rfl | rfl | rfl <;> exact ofn _ (by omega) (by omega)
theorem encode_high (r : Int) (h : 128 ≤ r) : 2 ≤ (Utf8.encode r).size ∧ (Utf8.encode r).size ≤ 4 ∧ ∀ (i : Nat) (hi : i < (Utf8.encode r).size), 128 ≤ ((Utf8.encode r)[i]).toNat := by
  obtain ⟨l, e, h1, h2, h3⟩ := encode_form r h
  have hz : (Utf8.encode r).size = l.length := by rw [e]; show l.toArray.size = _; simp
  refine ⟨by omega, by omega, fun i hi => ?_⟩
  have hm : (Utf8.encode r)[i] ∈ (Utf8.encode r).data.toList := by
    have := Lib.data_getElem? (Utf8.encode r) i hi
    exact List.mem_of_getElem? this
  have hd : (Utf8.encode r).data.toList = l := by rw [e]
  rw [hd] at hm
  exact h3 _ hm
end Ix
/-- The world behind a step of a walk through a text, whose place lies in block b. -/
def nextW (W : World) (b : Nat) (s : ByteArray) (pos : Nat) : World := { W with heap := W.heap.setIfInBounds b (.stringIter s pos) }
theorem next_at (W : World) (b : Nat) (s : ByteArray) (pos : Nat) (ty : TypeId) (r n : Nat) (hb : W.heap[b]? = some (.stringIter s pos)) (h : pos < s.size) (hd : Utf8.decode s pos = (r, n)) :
    (Instr.next (.pointer (some ⟨b, 0, none⟩)) true ty).run P W = .ok (.tuple #[.bool true, .int .i64 pos, .int .i32 r]) (nextW W b s (pos + n)) := by
  simp only [Instr.next, getObj, setObj, Sem.run_bind, Sem.run, hb, Result.andThen, h, if_true, hd]
  simp [goInt, nextW]
theorem next_end (W : World) (b : Nat) (s : ByteArray) (pos : Nat) (ty : TypeId) (hb : W.heap[b]? = some (.stringIter s pos)) (h : ¬ pos < s.size) :
    (Instr.next (.pointer (some ⟨b, 0, none⟩)) true ty).run P W = .ok (.tuple #[.bool false]) W := by
  simp [Instr.next, getObj, Sem.run, hb, h]
theorem nextW_size (W : World) (b : Nat) (s : ByteArray) (pos : Nat) : (nextW W b s pos).heap.size = W.heap.size := by unfold nextW; simp
theorem nextW_at {W : World} {b : Nat} (s : ByteArray) (pos : Nat) (h : b < W.heap.size) : (nextW W b s pos).heap[b]? = some (.stringIter s pos) := by unfold nextW; simp [h]
theorem nextW_below {B b : Nat} {w W : World} (h : Below B w W) (hb : B ≤ b) (s : ByteArray) (pos : Nat) : Below B w (nextW W b s pos) :=
  ⟨h.os, h.tape, h.output, by rw [nextW_size]; exact h.size, fun k hk => by
    have : b ≠ k := by omega
    unfold nextW
    simp only [Array.getElem?_setIfInBounds]
    rw [if_neg this]
    exact h.block k hk⟩
end Go.Proofs.YtchhjmdbjndckaaDoor
