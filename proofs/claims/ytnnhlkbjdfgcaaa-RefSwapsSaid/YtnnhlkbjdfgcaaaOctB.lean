/- Folding of texts by the document's answer and by the program: contracts. -/
import Derived.Test.YtnnhlkbjdfgcaaaOctA
import Derived.Deep.QuietTactic
import Derived.BigQuiet
import Derived.Deep.OwnRows
namespace Go.Proofs.Ytnnhlkbjdfgcaaa
open Go.RowKit

set_option maxHeartbeats 400000 in
theorem RFold_any (s : ByteArray) (w : World) (hs : s.size ≤ 100000) :
    Calls Try.prog 12 #[.string s] w fun e w' => e = .returned (.string (B.foldS s)) ∧ ∃ n, w' = w.drewN n := by
  go_enter Try.func12, Try.ntmps12
  go_wp2
  go_loopw [3, 4, 5, 6] (fun out i _ _ wr => ∃ k : Nat, k ≤ s.size ∧ i = .int .i64 k ∧ out = .string ⟨(B.fold (s.data.toList.take k)).toArray⟩ ∧ ∃ n, wr = w.drewN n) (fun _ i _ _ _ => s.size - (intOf i).toNat)
  case atStart => exact ⟨0, Nat.zero_le _, rfl, rfl, 0, rfl⟩
  case round =>
    obtain ⟨k, hk, rfl, rfl, n, rfl⟩ := hrel
    by_cases hlt : k < s.size
    · have H0 : Hid (s.extract k (k + 1) = ⟨#[B.cU s[k] 0]⟩) := by rw [B.cU_zero]; exact B.extract_one s k hlt
      go_wp2
      go_loopw [5, 6] (fun c i wi => ∃ j : Nat, j ≤ 26 ∧ i = .int .i64 j ∧ c = .string ⟨#[B.cU s[k] j]⟩ ∧ ∃ n, wi = w.drewN n) (fun _ i _ => 26 - (intOf i).toNat)
      case atStart => exact ⟨0, Nat.zero_le _, rfl, by rw [H0.out], n, rfl⟩
      case round =>
        obtain ⟨j, hj, rfl, rfl, m, rfl⟩ := hrel
        by_cases hjt : j < 26
        · go_wp2
          go_quiet (fail)
          all_goals go_wp2
          · have h1 : s[k].toNat = 65 + j := B.great_hit (by assumption)
            go_roundw
            case rel => exact ⟨j + 1, by omega, by go_num, by rw [B.small_cut _ _ hjt h1], _, rfl⟩
            case measure => simp [intOf]; omega
          · have h1 : s[k].toNat ≠ 65 + j := B.great_miss (by assumption)
            go_roundw
            case rel => exact ⟨j + 1, by omega, by go_num, by rw [B.cU_miss _ _ h1], _, rfl⟩
            case measure => simp [intOf]; omega
        · obtain rfl : j = 26 := by omega
          have HF : Hid ((⟨(B.fold (s.data.toList.take k)).toArray⟩ : ByteArray) ++ ⟨#[B.cU s[k] 26]⟩ = ⟨(B.fold (s.data.toList.take (k + 1))).toArray⟩) := by
            rw [B.cU_end]; exact B.fold_snoc s k hlt
          have hfl : (B.fold (s.data.toList.take k)).length ≤ 100000 := by rw [B.fold_length]; simp; omega
          go_wp2
          go_roundw
          case rel => exact ⟨k + 1, by omega, by go_num, by rw [HF.out], m, rfl⟩
          case measure => simp [intOf]; omega
    · have HF : Hid (B.fold (s.data.toList.take k) = B.fold s.data.toList) := by show _ = _; rw [List.take_of_length_le (by simp; omega)]
      go_wp2
      go_ret
      exact ⟨by rw [HF.out]; rfl, n, rfl⟩

/-- The row of bytes that is being folded: the first k are folded, the others still nought. -/
def foldRow (s : ByteArray) (k j : Nat) : Value := .int .u8 (if j < k then B.low ((s.data.toList.getD j 0).toNat : Int) else 0)
theorem foldRow_step {w : World} {b t n : Nat} {s : ByteArray} {k : Nat} (h : w.rowIs b t n (foldRow s k)) (hk : k < s.size) :
    (w.setCell ⟨b, k, none⟩ (.int .u8 (B.low ((s[k]).toNat : Int)))).rowIs b t n (foldRow s (k + 1)) := by
  refine (h.set k _).congr fun i _ => ?_
  unfold foldRow
  by_cases e : i = k
  · subst e
    have : s.data.toList.getD i 0 = s[i] := by simp [List.getD, hk]; rfl
    rw [if_pos rfl, if_pos (by omega), this]
  · rw [if_neg e]
    by_cases g : i < k
    · rw [if_pos g, if_pos (by omega)]
    · rw [if_neg g, if_neg (by omega)]
def foldInts (s : ByteArray) : List Int := s.data.toList.map fun c => B.low (c.toNat : Int)
theorem strOf_foldInts (s : ByteArray) : strOfNums (foldInts s) = B.foldS s := by
  unfold strOfNums foldInts B.foldS B.fold
  congr 2
  rw [List.map_map]
  refine List.map_congr_left fun c _ => ?_
  show UInt8.ofNat (B.low (c.toNat : Int)).toNat = B.lowU c
  rw [← B.lowU_toNat]; simp
theorem foldInts_getD (s : ByteArray) (i : Nat) (h : i < s.size) : (foldInts s).getD i 0 = B.low ((s.data.toList.getD i 0).toNat : Int) := by
  have h' : i < s.data.size := h
  have e : s.data[i]? = some s.data[i] := Array.getElem?_eq_getElem h'
  simp [foldInts, List.getD, e]
theorem info_u8 : (Try.prog.info? 5).map (fun i => (i.zero, i.size, i.bytes)) = some (some (.int .u8 0), 1, 1) := by kernel_rfl

theorem fold_back {w : World} {b : Nat} {s : ByteArray} (h : w.rowIs b 5 s.size (foldRow s s.size)) :
    (convert 58 9 (.slice (some ⟨b, 0, none⟩) s.size s.size)).run Try.prog w = .ok (.string (B.foldS s)) w := by
  rw [← strOf_foldInts]
  refine run_convert_bytes_arg (P := Try.prog) w 58 5 Try.underlying58 Try.underlying5 b 0 s.size s.size (foldInts s) (by simp [foldInts]) (fun i hi => ?_) 9 Try.underlying9
  rw [Nat.zero_add, h.cell hi, foldInts_getD s i hi]; unfold foldRow; rw [if_pos hi]

set_option maxHeartbeats 400000 in
theorem Fold_any (s : ByteArray) (w : World) (hs : s.size ≤ 100000) :
    Calls Try.prog 24 #[.string s] w fun e w' => e = .returned (.string (B.foldS s)) ∧ Below w.heap.size w w' := by
  have hmk := run_make_row' (P := Try.prog) 58 5 (.int .u8 0) 1 Try.underlying58 info_u8 rfl .i64 .i64 s.size (by omega) (by omega)
  go_enter Try.func24, Try.ntmps24
  go_wp2
  go_loopw [4, 10] (fun _ i wr => ∃ k : Nat, k ≤ s.size ∧ i = .int .i64 k ∧ wr.rowIs w.heap.size 5 s.size (foldRow s k) ∧ Below w.heap.size w wr) (fun _ i _ => s.size - (intOf i).toNat)
  case atStart => exact ⟨0, Nat.zero_le _, rfl, World.rowIs_made _ _ _ _, (Below.refl _ _).alloc (Nat.le_refl _) _⟩
  case round =>
    obtain ⟨k, hk, rfl, hrow, hb⟩ := hrel
    clear hmk
    by_cases hlt : k < s.size
    · have hc := hrow.cell hlt
      have hf := hrow.frozen k
      have hby := B.toNat_le s[k]
      go_wp2_with (go_at_call 41; refine (Lower_any _ _ (by omega) (by omega)).mono ?_; rintro e w' ⟨rfl, rfl⟩)
      go_roundw
      case rel => exact ⟨k + 1, by omega, by go_num, foldRow_step hrow hlt, hb.setCell (Nat.le_refl _) _⟩
      case measure => simp [intOf]; omega
    · obtain rfl : k = s.size := by omega
      have hcv := fold_back hrow
      clear hrow
      go_wp2
      go_ret
      exact ⟨rfl, hb⟩
end Go.Proofs.Ytnnhlkbjdfgcaaa
