/- Contracts and lemmas that the claim rests on: BldB. -/
import Derived.Test.YtjgjdcikeagibaaGBldA
import Derived.Test.YtjgjdcikeagibaaGQuil
/- A builder of texts in a world, and its methods: contracts. -/
namespace Go.Proofs.Ytjgjdcikeagibaa
open Go.RowKit

/-- Block b is a builder that holds the bytes l. -/
def Bld (b : Nat) (l : List UInt8) (w : World) : Prop := Lib.IsBuilder 72 5 b b (Lib.byteCells l) w
theorem Bld.made (w : World) : Bld w.heap.size [] (w.alloc (.cells #[.pointer none, .slice none 0 0] 72)) := Lib.fresh_isBuilder _ _ w
theorem Bld.lt {b : Nat} {l : List UInt8} {w : World} (h : Bld b l w) : b < w.heap.size := by
  rcases h with h | h <;> exact h.lt
theorem at_kept {P : Nat → Prop} {T e : TypeId} {b : Nat} {p : Value} {l : List Value} {w w' : World} (h : Lib.BuilderAt T e b b p l w) (hk : Kept P w w') (hn : ∀ k, b ≤ k → ¬ P k) : Lib.BuilderAt T e b b p l w' := by
  have hlt := h.lt
  obtain ⟨hB, v, hb, hown, hne⟩ := h
  exact ⟨hB, v, (hk.block b hlt (hn b (Nat.le_refl _))).trans hb, own_kept hown hk (fun k h => hn k (hown.lt k h).1), hne⟩
theorem Bld.kept {P : Nat → Prop} {b : Nat} {l : List UInt8} {w w' : World} (h : Bld b l w) (hk : Kept P w w') (hn : ∀ k, b ≤ k → ¬ P k) : Bld b l w' := by
  rcases h with h | h
  · exact .inl (at_kept h hk hn)
  · exact .inr (at_kept h hk hn)
theorem Bld.below {b : Nat} {l : List UInt8} {w w' : World} (h : Bld b l w) (hk : Below w.heap.size w w') : Bld b l w' := h.kept (P := fun _ => False) (Kept.of_below hk) (fun _ _ h => h)
theorem WriteByte_any (b : Nat) (l : List UInt8) (c : UInt8) (n : Int) (hn : n = (c.toNat : Int)) (w : World) (h : Bld b l w) (hl : l.length ≤ 100000000) :
    Calls Try.prog 65 #[.pointer (some ⟨b, 0, none⟩), .int .u8 n] w fun e w' => e = .returned .nilIface ∧ Bld b (l ++ [c]) w' ∧ Below b w w' := by
  subst hn
  refine (Any.Builder_WriteByte wbyte_lays bld_extra b b (Lib.byteCells l) (c.toNat : Int) w h (by rw [Lib.byteCells_length]; omega) (Nat.le_of_lt h.lt)).mono ?_
  rintro e w' ⟨rfl, h1, h2⟩
  refine ⟨rfl, .inr ?_, h2⟩
  have e1 : Lib.byteCells (l ++ [c]) = Lib.byteCells l ++ [.int .u8 (c.toNat : Int)] := by unfold Lib.byteCells; rw [List.map_append]; rfl
  rw [e1]
  exact h1
theorem WriteString_any (b : Nat) (l : List UInt8) (s : ByteArray) (w : World) (h : Bld b l w) (hl : l.length ≤ 100000000) (hs : s.size ≤ 100000000) :
    Calls Try.prog 53 #[.pointer (some ⟨b, 0, none⟩), .string s] w fun e w' => e = .returned (.tuple #[.int .i64 s.size, .nilIface]) ∧ Bld b (l ++ s.data.toList) w' ∧ Below b w w' := by
  refine (Any.Builder_WriteString wstr_lays bld_extra b b (Lib.byteCells l) s w h (by rw [Lib.byteCells_length]; omega) (Nat.le_of_lt h.lt)).mono ?_
  rintro e w' ⟨rfl, h1, h2⟩
  refine ⟨rfl, .inr ?_, h2⟩
  have e1 : Lib.byteCells (l ++ s.data.toList) = Lib.byteCells l ++ Lib.strCells s := by unfold Lib.byteCells Lib.strCells; rw [List.map_append]
  rw [e1]
  exact h1
theorem String_any (b : Nat) (l : List UInt8) (w : World) (h : Bld b l w) :
    Calls Try.prog 54 #[.pointer (some ⟨b, 0, none⟩)] w fun e w' => e = .returned (.string ⟨l.toArray⟩) ∧ Below b w w' :=
  Any.Builder_String_any bstr_lays bld_extra b b l w h (Nat.le_of_lt h.lt)
end Go.Proofs.Ytjgjdcikeagibaa
