/- FormatInt of the library to the base of 16: contracts. -/
import Derived.Test.YtnpbnlphmngbdaaDoorNumD
import Derived.Laws.Bits64b
import Derived.Lib.ItoaMem
import Derived.Laws.IdiomStrings
namespace Go.Proofs.YtnpbnlphmngbdaaDoor
open Go.RowKit

theorem isPower_16 (w : World) : Calls Tryd.prog 93 #[.int .i64 16] w fun e w' => e = .returned (.bool true) ∧ w = w' := by
  go_enter Tryd.func93, Tryd.ntmps93
  go_wp2_with fail
  go_ret
  exact ⟨ret_bool (by decide +kernel), rfl⟩
theorem tz64_16 (w : World) (hc : w.cell? ⟨3, 15, none⟩ = some (.int .u8 4)) :
    Calls Tryd.prog 96 #[.int .u64 16] w fun e w' => e = .returned (.int .i64 4) ∧ w = w' := by
  have key : IntKind.u64.wrap (bits BinOp.and IntKind.u64 16 (IntKind.u64.wrap (-16)) * 285870213051353865) / 288230376151711744 = 15 := by decide +kernel
  go_enter Tryd.func96, Tryd.ntmps96
  go_wp2_with fail
  go_ret
  exact ⟨rfl, rfl⟩
theorem tz_16 (w : World) (hc : w.cell? ⟨3, 15, none⟩ = some (.int .u8 4)) :
    Calls Tryd.prog 94 #[.int .u64 16] w fun e w' => e = .returned (.int .i64 4) ∧ w = w' := by
  go_enter Tryd.func94, Tryd.ntmps94
  go_wp2_with fail
  refine (tz64_16 _ hc).mono ?_
  rintro e w' ⟨rfl, rfl⟩
  go_wp2_with fail
  go_ret
  exact ⟨rfl, rfl⟩

namespace Nu
theorem d36_at (k : Nat) (h : k < 16) (p : k < (⟨#[48, 49, 50, 51, 52, 53, 54, 55, 56, 57, 97, 98, 99, 100, 101, 102, 103, 104, 105, 106, 107, 108, 109, 110, 111, 112, 113, 114, 115, 116, 117, 118, 119, 120, 121, 122]⟩ : ByteArray).size) : (⟨#[48, 49, 50, 51, 52, 53, 54, 55, 56, 57, 97, 98, 99, 100, 101, 102, 103, 104, 105, 106, 107, 108, 109, 110, 111, 112, 113, 114, 115, 116, 117, 118, 119, 120, 121, 122]⟩ : ByteArray)[k]'p = dc k := by
  have g : ∀ i : Fin 16, ((⟨#[48, 49, 50, 51, 52, 53, 54, 55, 56, 57, 97, 98, 99, 100, 101, 102, 103, 104, 105, 106, 107, 108, 109, 110, 111, 112, 113, 114, 115, 116, 117, 118, 119, 120, 121, 122]⟩ : ByteArray)[i.val]'(Nat.lt_trans i.isLt (by decide))) = dc i.val := by decide +kernel
  exact g ⟨k, h⟩
/-- The array that is being filled from its end: from place p + 1 on it holds the digits l. -/
def tail (l : List UInt8) (p j : Nat) : Value := .int .u8 (if j ≤ p then 0 else ((l.getD (j - p - 1) 0).toNat : Int))
end Nu
/-- 'var a [65]byte', as the walk lays it. -/
def zeros65 : Array Value := #[.int .u8 0, .int .u8 0, .int .u8 0, .int .u8 0, .int .u8 0, .int .u8 0, .int .u8 0, .int .u8 0, .int .u8 0, .int .u8 0, .int .u8 0, .int .u8 0, .int .u8 0, .int .u8 0, .int .u8 0, .int .u8 0, .int .u8 0, .int .u8 0, .int .u8 0, .int .u8 0, .int .u8 0, .int .u8 0, .int .u8 0, .int .u8 0, .int .u8 0, .int .u8 0, .int .u8 0, .int .u8 0, .int .u8 0, .int .u8 0, .int .u8 0, .int .u8 0, .int .u8 0, .int .u8 0, .int .u8 0, .int .u8 0, .int .u8 0, .int .u8 0, .int .u8 0, .int .u8 0, .int .u8 0, .int .u8 0, .int .u8 0, .int .u8 0, .int .u8 0, .int .u8 0, .int .u8 0, .int .u8 0, .int .u8 0, .int .u8 0, .int .u8 0, .int .u8 0, .int .u8 0, .int .u8 0, .int .u8 0, .int .u8 0, .int .u8 0, .int .u8 0, .int .u8 0, .int .u8 0, .int .u8 0, .int .u8 0, .int .u8 0, .int .u8 0, .int .u8 0]
theorem zeros65_at (i : Nat) (h : i < 65) : zeros65[i]? = some (.int .u8 0) := by
  have e : zeros65 = Array.replicate 65 (.int .u8 0) := rfl
  rw [e, Array.getElem?_replicate, if_pos h]
theorem zero65 (w : World) : (zeroValue 97).run Tryd.prog w = .ok (.agg zeros65) w := by kernel_rfl
theorem tail_zero (w : World) : (w.alloc (.cells zeros65 97)).rowIs w.heap.size 97 65 (Nu.tail [] 64) :=
  World.rowIs_alloc w zeros65 _ _ fun i hi => by
    have hi' : i < 65 := hi
    rw [zeros65_at i hi']; unfold Nu.tail; rw [if_pos (by omega)]
theorem tail_step {w : World} {b t p : Nat} {l : List UInt8} {c : UInt8} (h : w.rowIs b t 65 (Nu.tail l (p + 1))) (_hp : p + 1 < 65) :
    (w.setCell ⟨b, p + 1, none⟩ (.int .u8 (c.toNat : Int))).rowIs b t 65 (Nu.tail (c :: l) p) := by
  refine (h.set (p + 1) _).congr fun i _ => ?_
  unfold Nu.tail
  by_cases e : i = p + 1
  · subst e
    rw [if_pos rfl, if_neg (by omega), show p + 1 - p - 1 = 0 by omega]; rfl
  · rw [if_neg e]
    by_cases g : i ≤ p
    · rw [if_pos (by omega), if_pos g]
    · rw [if_neg (by omega), if_neg g]
      obtain ⟨q, hq⟩ : ∃ q, i - p - 1 = q + 1 := ⟨i - p - 2, by omega⟩
      rw [hq, show i - (p + 1) - 1 = q by omega]; rfl

theorem tail_end {w : World} {b t p : Nat} {l : List UInt8} {c : UInt8} (h : w.rowIs b t 65 (Nu.tail l p)) (hp : p + 1 + l.length = 65) :
    ∀ j (hj : j < (c :: l).length), (w.setCell ⟨b, p, none⟩ (.int .u8 (c.toNat : Int))).cell? ((⟨b, p, none⟩ : Addr).add j) = some (.int .u8 ((c :: l)[j].toNat : Int)) := by
  intro j hj
  rw [List.length_cons] at hj
  have h1 := (h.set p (.int .u8 (c.toNat : Int))).cell (i := p + j) (by omega)
  rw [Lib.add_plain, h1]
  cases j with
  | zero => rw [if_pos (by omega)]; rfl
  | succ j =>
    have hj' : j < l.length := by omega
    rw [if_neg (by omega)]
    unfold Nu.tail
    rw [if_neg (by omega), show p + (j + 1) - p - 1 = j by omega]
    simp [List.getD, hj']
theorem and15 (v : Nat) (h : SmallN v) : bits BinOp.and IntKind.u64 (v : Int) 15 = ((v % 16 : Nat) : Int) := by
  unfold SmallN at h
  have := bits_and_u64_nat v 15 (by omega) (by omega)
  rw [show ((15 : Nat) : Int) = 15 from rfl] at this
  rw [this, show (15 : Nat) = 2 ^ 4 - 1 from rfl, Nat.and_two_pow_sub_one_eq_mod]
/-- How far the digits have come: those of v are still to be written, l are written. -/
def HexAt (b : Nat) (w : World) (u : Nat) (a i : Value) (wr : World) : Prop :=
  ∃ (v p : Nat) (l : List UInt8), a = .int .u64 v ∧ i = .int .i64 ((p : Int) + 1) ∧ p + 1 + l.length = 65 ∧ l.length + (Nu.textL 16 v).length ≤ 64 ∧ SmallN v ∧ Nu.textL 16 u = Nu.textL 16 v ++ l ∧ wr.rowIs b 97 65 (Nu.tail l p) ∧ Below w.heap.size w wr

theorem slice65 (b p : Nat) (hp : p < 65) : ∀ W, (Instr.sliceAt 97 (.pointer (some ⟨b, 0, none⟩)) (some (.int .i64 (p : Int))) none none).run Tryd.prog W = .ok (.slice (some ⟨b, p, none⟩) (65 - p) (65 - p)) W := fun W => by
  have hal : Tryd.prog.arrayLen 97 = 65 := by simp [Program.arrayLen, Tryd.underlying97]
  rw [run_sliceAt_array_l W 97 ⟨b, 0, none⟩ (by simp [Program.arrayLen, Program.elem, Tryd.underlying97]) .i64 (p : Int) (by omega) (by rw [hal]; omega)]
  go_simp
  omega
set_option maxRecDepth 8000 in
set_option maxHeartbeats 1600000 in
theorem formatBits_16 (u : Nat) (hu : SmallN u) (w : World) (hc : w.cell? ⟨3, 15, none⟩ = some (.int .u8 4)) :
    Calls Tryd.prog 89 #[.slice none 0 0, .int .u64 u, .int .i64 16, .bool false, .bool false] w fun e w' => e = .returned (.tuple #[.slice none 0 0, .string (Nu.text 16 u)]) ∧ Below w.heap.size w w' := by
  have h0 := Lib.hid (tail_zero w)
  have hsz := Lib.hid (Nu.textL_size 16 (by omega) u (by unfold SmallN at hu; omega))
  have hc' : (w.alloc (.cells zeros65 97)).cell? ⟨3, 15, none⟩ = some (.int .u8 4) := (World.cell?_alloc_lt _ _ _ (lt_of_cell hc)).trans hc
  have HC := Lib.hid hc'
  have hz65 := zero65
  clear hc hc'
  go_enter Tryd.func89, Tryd.ntmps89
  go_wp2_with fail
  refine (isPower_16 _).mono ?_
  rintro e w' ⟨rfl, rfl⟩
  go_wp2_with fail
  refine (tz_16 _ HC.out).mono ?_
  rintro e w' ⟨rfl, rfl⟩
  go_wp2_with fail
  go_loopw [1, 13] (fun a i wr => HexAt w.heap.size w u a i wr) (fun a _ _ => (intOf a).toNat)
  case atStart => exact ⟨u, 64, [], rfl, rfl, rfl, by simpa using hsz.out, hu, by simp, h0.out, Below.alloc (Below.refl _ _) (Nat.le_refl _) _⟩
  case round =>
    obtain ⟨v, p, l, rfl, rfl, hl, hl2, hv, ht, hrow, hb⟩ := hrel
    have HT := Lib.hid ht
    have hp : p < 65 := by omega
    clear ht h0 hsz hu
    by_cases h16 : 16 ≤ v
    · have hm : v % 16 < 16 := Nat.mod_lt _ (by omega)
      have hm36 : v % 16 < 36 := by omega
      have h15 := and15 v hv
      have hbig := Nu.textL_big (b := 16) (by omega) (by omega : ¬ v < 16)
      have hlen : (Nu.textL 16 v).length = (Nu.textL 16 (v / 16)).length + 1 := by rw [hbig]; simp
      have hpos : 1 ≤ (Nu.textL 16 (v / 16)).length := List.length_pos_iff.2 (Nu.textL_ne 16 (by omega) _)
      obtain ⟨p, rfl⟩ : ∃ q, p = q + 1 := ⟨p - 1, by omega⟩
      have hcell := hrow.cell (i := p + 1) (by omega)
      have hfr := hrow.frozen (p + 1)
      have HB := Lib.hid hbig
      have HR := Lib.hid hrow
      have hl3 : l.length + (Nu.textL 16 (v / 16)).length + 1 ≤ 64 := by omega
      have HL := Lib.hid hl
      have hv2 : SmallN (v / 16) := by unfold SmallN at *; omega
      clear hrow hbig hlen hl hl2
      go_wp2_with fail
      go_roundw
      case rel =>
        rw [Nu.d36_at (v % 16) hm]
        have hl := HL.out
        exact ⟨v / 16, p, Nu.dc (v % 16) :: l, rfl, by go_num, by simp; omega, by simp; omega, hv2, by rw [HT.out, HB.out]; simp, tail_step HR.out (by omega), hb.setCell (Nat.le_refl _) _⟩
      case measure => simp [intOf]; omega
    · have hcell := hrow.cell (i := p) (by omega)
      have hfr := hrow.frozen p
      have HR := Lib.hid hrow
      have hsl := Lib.hid (slice65 w.heap.size p (by omega))
      have hrow2 := Lib.hid (tail_end (c := Nu.dc v) hrow (by omega))
      have hcv0 : (convert 54 9 (.slice (some ⟨w.heap.size, p, none⟩) (65 - p) (65 - p))).run Tryd.prog (wr.setCell ⟨w.heap.size, p, none⟩ (.int .u8 ((Nu.dc v).toNat : Int))) = .ok (.string (Nu.text 16 u)) (wr.setCell ⟨w.heap.size, p, none⟩ (.int .u8 ((Nu.dc v).toNat : Int))) := by
        have h := run_convert_bytes_back (P := Tryd.prog) (wr.setCell ⟨w.heap.size, p, none⟩ (.int .u8 ((Nu.dc v).toNat : Int))) 54 9 5 ⟨w.heap.size, p, none⟩ (65 - p) (Nu.dc v :: l) Tryd.underlying54 Tryd.underlying5 Tryd.underlying9 (fun j hj => hrow2.out j hj)
        have e1 : (Nu.dc v :: l).length = 65 - p := by simp; omega
        have e2 : (⟨(Nu.dc v :: l).toArray⟩ : ByteArray) = Nu.text 16 u := by
          unfold Nu.text
          rw [HT.out, Nu.textL_small (by omega : v < 16)]; rfl
        rw [e1, e2] at h
        exact h
      have hcv := Lib.hid hcv0
      clear hcv0 hrow
      go_wp2_with fail
      rw [Nu.d36_at v (by omega), hsl.out]
      have hcv1 := hcv.out
      go_wp2_with fail
      go_ret2
      exact ⟨rfl, hb.setCell (Nat.le_refl _) _⟩
end Go.Proofs.YtnpbnlphmngbdaaDoor
