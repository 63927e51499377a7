/- Folding of texts by the document's answer and by the program: contracts. -/
import Derived.Test.YtnpbnlphmngbdaaDoorOctA
import Derived.Deep.QuietTactic
import Derived.BigQuiet
import Derived.Deep.OwnRows
namespace Go.Proofs.YtnpbnlphmngbdaaDoor
open Go.RowKit

/-- The row of bytes that is being folded: the first k are folded, the others still nought. -/
def foldRow (s : ByteArray) (k j : Nat) : Value := .int .u8 (if j < k then B.low ((s.data.toList.getD j 0).toNat : Int) else 0)
theorem foldRow_step {w : World} {b t n : Nat} {s : ByteArray} {k : Nat} (h : w.rowIs b t n (foldRow s k)) (hk : k < s.size) :
    (w.setCell ⟨b, k, none⟩ (.int .u8 (B.low ((s[k]).toNat : Int)))).rowIs b t n (foldRow s (k + 1)) := by
  refine (h.set k _).congr fun i _ => ?_
  unfold foldRow
  by_cases e : i = k
  · subst e
    have : s.data.toList.getD i 0 = s[i] := by simp [List.getD, hk]; rfl
    rw [if_pos rfl, if_pos (by omega), this]
  · rw [if_neg e]
    by_cases g : i < k
    · rw [if_pos g, if_pos (by omega)]
    · rw [if_neg g, if_neg (by omega)]
def foldInts (s : ByteArray) : List Int := s.data.toList.map fun c => B.low (c.toNat : Int)
theorem strOf_foldInts (s : ByteArray) : strOfNums (foldInts s) = B.foldS s := by
  unfold strOfNums foldInts B.foldS B.fold
  congr 2
  rw [List.map_map]
  refine List.map_congr_left fun c _ => ?_
  show UInt8.ofNat (B.low (c.toNat : Int)).toNat = B.lowU c
  rw [← B.lowU_toNat]; simp
theorem foldInts_getD (s : ByteArray) (i : Nat) (h : i < s.size) : (foldInts s).getD i 0 = B.low ((s.data.toList.getD i 0).toNat : Int) := by
  have h' : i < s.data.size := h
  have e : s.data[i]? = some s.data[i] := Array.getElem?_eq_getElem h'
  simp [foldInts, List.getD, e]
theorem info_u8 : (Tryd.prog.info? 5).map (fun i => (i.zero, i.size, i.bytes)) = some (some (.int .u8 0), 1, 1) := by kernel_rfl

theorem fold_back {w : World} {b : Nat} {s : ByteArray} (h : w.rowIs b 5 s.size (foldRow s s.size)) :
    (convert 54 9 (.slice (some ⟨b, 0, none⟩) s.size s.size)).run Tryd.prog w = .ok (.string (B.foldS s)) w := by
  rw [← strOf_foldInts]
  refine run_convert_bytes_arg (P := Tryd.prog) w 54 5 Tryd.underlying54 Tryd.underlying5 b 0 s.size s.size (foldInts s) (by simp [foldInts]) (fun i hi => ?_) 9 Tryd.underlying9
  rw [Nat.zero_add, h.cell hi, foldInts_getD s i hi]; unfold foldRow; rw [if_pos hi]

set_option maxHeartbeats 400000 in
theorem Fold_any (s : ByteArray) (w : World) (hs : s.size ≤ 100000) :
    Calls Tryd.prog 19 #[.string s] w fun e w' => e = .returned (.string (B.foldS s)) ∧ Below w.heap.size w w' := by
  have hmk := run_make_row' (P := Tryd.prog) 54 5 (.int .u8 0) 1 Tryd.underlying54 info_u8 rfl .i64 .i64 s.size (by omega) (by omega)
  go_enter Tryd.func19, Tryd.ntmps19
  go_wp2
  go_loopw [4, 10] (fun _ i wr => ∃ k : Nat, k ≤ s.size ∧ i = .int .i64 k ∧ wr.rowIs w.heap.size 5 s.size (foldRow s k) ∧ Below w.heap.size w wr) (fun _ i _ => s.size - (intOf i).toNat)
  case atStart => exact ⟨0, Nat.zero_le _, rfl, World.rowIs_made _ _ _ _, (Below.refl _ _).alloc (Nat.le_refl _) _⟩
  case round =>
    obtain ⟨k, hk, rfl, hrow, hb⟩ := hrel
    clear hmk
    by_cases hlt : k < s.size
    · have hc := hrow.cell hlt
      have hf := hrow.frozen k
      have hby := B.toNat_le s[k]
      go_wp2_with (go_at_call 28; refine (Lower_any _ _ (by omega) (by omega)).mono ?_; rintro e w' ⟨rfl, rfl⟩)
      go_roundw
      case rel => exact ⟨k + 1, by omega, by go_num, foldRow_step hrow hlt, hb.setCell (Nat.le_refl _) _⟩
      case measure => simp [intOf]; omega
    · obtain rfl : k = s.size := by omega
      have hcv := fold_back hrow
      clear hrow
      go_wp2
      go_ret
      exact ⟨rfl, hb⟩
end Go.Proofs.YtnpbnlphmngbdaaDoor
