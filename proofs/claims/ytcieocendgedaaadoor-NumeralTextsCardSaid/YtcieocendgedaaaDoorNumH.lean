/- Sums of numbers, and the page's examples: contracts. -/
import Derived.Test.YtcieocendgedaaaDoorNumG
namespace Go.Proofs.YtcieocendgedaaaDoor
open Go.RowKit

/-- Numbers, added from the left: the sum and the error. -/
def sumS (most : Int) : Int → List Int → Int × Int
  | a, [] => (a, 0)
  | a, n :: l => if n < 0 then (0, 1) else if most - a < n then (0, 7) else sumS most (a + n) l
/-- A slice of ints in a world: its numbers. -/
def IsInts (w : World) (a : Option Addr) (len : Nat) (zs : List Int) : Prop :=
  zs.length = len ∧ (∀ i, i < len → -9223372036854775808 ≤ zs.getD i 0 ∧ zs.getD i 0 < 9223372036854775808) ∧ ((a = none ∧ len = 0) ∨ ∃ x, a = some x ∧ len ≤ 9223372036854775807 ∧ ∀ i, i < len → w.cell? (x.add i) = some (.int .i64 (zs.getD i 0)))
theorem IsInts.take {w : World} {a : Option Addr} {len : Nat} {zs : List Int} (h : IsInts w a len zs) (n : Nat) (hn : n ≤ len) : IsInts w a n (zs.take n) := by
  obtain ⟨h1, h2, h3⟩ := h
  have hg : ∀ i, i < n → (zs.take n).getD i 0 = zs.getD i 0 := fun i hi => by simp [List.getD, hi]
  refine ⟨by rw [List.length_take]; omega, fun i hi => by rw [hg i hi]; exact h2 i (by omega), ?_⟩
  rcases h3 with ⟨h, h'⟩ | ⟨x, h, h', hc⟩
  · exact .inl ⟨h, by omega⟩
  · exact .inr ⟨x, h, by omega, fun i hi => by rw [hg i hi]; exact hc i (by omega)⟩
theorem IsInts.below {w w' : World} {a : Option Addr} {len : Nat} {zs : List Int} (h : IsInts w a len zs) (hb : Below w.heap.size w w') : IsInts w' a len zs := by
  obtain ⟨h1, h2, h3⟩ := h
  refine ⟨h1, h2, ?_⟩
  rcases h3 with h | ⟨x, h, h', hc⟩
  · exact .inl h
  · exact .inr ⟨x, h, h', fun i hi => (hb.cell (lt_of_cell (hc i hi))).trans (hc i hi)⟩
theorem drop_step (zs : List Int) (k : Nat) (h : k < zs.length) : zs.drop k = zs.getD k 0 :: zs.drop (k + 1) := by
  rw [List.drop_eq_getElem_cons h]; simp [List.getD, h]
theorem sum_none (most a : Int) (zs : List Int) (k : Nat) (h : ¬ k < zs.length) : sumS most a (zs.drop k) = (a, 0) := by
  rw [List.drop_eq_nil_of_le (by omega)]; rfl
theorem sum_arg (most a : Int) (zs : List Int) (k : Nat) (h : k < zs.length) (hn : zs.getD k 0 < 0) : sumS most a (zs.drop k) = (0, 1) := by
  rw [drop_step zs k h, sumS, if_pos hn]
theorem sum_much (most a : Int) (zs : List Int) (k : Nat) (h : k < zs.length) (hn : 0 ≤ zs.getD k 0) (hm : most - a < zs.getD k 0) : sumS most a (zs.drop k) = (0, 7) := by
  rw [drop_step zs k h, sumS, if_neg (by omega), if_pos hm]
theorem sum_on (most a : Int) (zs : List Int) (k : Nat) (h : k < zs.length) (hn : 0 ≤ zs.getD k 0) (hm : zs.getD k 0 ≤ most - a) : sumS most a (zs.drop k) = sumS most (a + zs.getD k 0) (zs.drop (k + 1)) := by
  conv => lhs; rw [drop_step zs k h, sumS, if_neg (by omega), if_neg (by omega)]
/-- What stands of a sum on its way. -/
def OnWay (most a : Int) : Prop := 0 ≤ a ∧ (a ≤ most ∨ a = 0) ∧ -9223372036854775808 ≤ most ∧ most < 9223372036854775808
theorem onway_sub {most a : Int} (h : OnWay most a) : wrap64 (most - a) = most - a := by
  unfold OnWay at h; unfold wrap64; omega
theorem onway_add {most a n : Int} (h : OnWay most a) (h0 : 0 ≤ n) (hm : n ≤ most - a) : wrap64 (a + n) = a + n ∧ OnWay most (a + n) := by
  unfold OnWay at *; unfold wrap64; omega

set_option maxHeartbeats 400000 in
theorem Sum_any (most : Int) (h0 : -9223372036854775808 ≤ most) (h1 : most < 9223372036854775808) (a : Option Addr) (len cp : Nat) (zs : List Int) (w : World) (hz : IsInts w a len zs) :
    Calls Tryd.prog 13 #[.int .i64 most, .slice a len cp] w fun e w' => e = .returned (.tuple #[.int .i64 (sumS most 0 zs).1, .int .i64 (sumS most 0 zs).2]) ∧ w = w' := by
  obtain ⟨hlen, -, hz⟩ := hz
  have hO : OnWay most 0 := by unfold OnWay; omega
  clear h0 h1
  rcases hz with ⟨rfl, rfl⟩ | ⟨x, rfl, hl, hc⟩
  · obtain rfl := List.eq_nil_of_length_eq_zero hlen
    go_enter Tryd.func13, Tryd.ntmps13
    go_wp2_with fail
    refine wp_loop_rounds 1 ?_
    rw [rounds_succ]
    go_wp2_with fail
    go_ret2
    exact ⟨rfl, rfl⟩
  · have HC := Lib.hid hc
    have HL := Lib.hid hlen
    clear hc hlen
    go_enter Tryd.func13, Tryd.ntmps13
    go_wp2_with fail
    go_loop [6, 11] (fun s i => ∃ (k : Nat) (t : Int), k ≤ len ∧ i = .int .i64 k ∧ s = .int .i64 t ∧ OnWay most t ∧ sumS most 0 zs = sumS most t (zs.drop k)) (fun _ i => len - (intOf i).toNat)
    case atStart => exact ⟨0, 0, Nat.zero_le _, rfl, rfl, hO, rfl⟩
    case round =>
      obtain ⟨k, t, hk, rfl, rfl, ho, hs⟩ := hrel
      clear hO
      have HS := Lib.hid hs
      clear hs
      by_cases hlt : k < len
      · have hc := HC.out k hlt
        have hkl := Lib.hid (show k < zs.length by rw [HL.out]; exact hlt)
        have e1 := Lib.hid (onway_sub ho)
        have A1 := Lib.hid (sum_arg most t zs k hkl.out)
        have A2 := Lib.hid (sum_much most t zs k hkl.out)
        have A3 := Lib.hid (sum_on most t zs k hkl.out)
        generalize zs.getD k 0 = n at *
        go_wp2_with fail
        · rename_i hn _
          go_ret2
          rw [HS.out, A1.out hn]
          exact ⟨rfl, rfl⟩
        · rename_i hm _
          rw [e1.out] at hm
          go_ret2
          rw [HS.out, A2.out (by assumption) hm]
          exact ⟨rfl, rfl⟩
        · rename_i hn hm
          rw [e1.out] at hm
          obtain ⟨w1, w2⟩ := onway_add ho hn hm
          refine ⟨⟨k + 1, t + n, by omega, by go_num, by rw [w1], w2, by rw [HS.out, A3.out hn hm]⟩, ?_⟩
          simp [intOf]; omega
      · have hE := Lib.hid (sum_none most t zs k (by rw [HL.out]; exact hlt))
        go_wp2_with fail
        go_ret2
        rw [HS.out, hE.out]
        exact ⟨rfl, rfl⟩
end Go.Proofs.YtcieocendgedaaaDoor
