/- The walk of the law NumeralSums. -/
import Derived.Test.YtcieocendgedaaaDoorNumI
namespace Go.Proofs.YtcieocendgedaaaDoor
open Go.RowKit

set_option maxHeartbeats 800000 in
theorem sums_core (most : Int) (h0 : -9223372036854775808 ≤ most) (h1 : most < 9223372036854775808) (a : Option Addr) (len cp : Nat) (zs : List Int) (w : World) (hcp : len ≤ cp) (hcn : a = none → cp = 0) (hz : IsInts w a len zs) (ht : Tabs w) :
    Calls Tryd.prog 5 #[.int .i64 most, .slice a len cp] w fun e w' => e = .returned (.bool true) ∧ Below w.heap.size w w' := by
  have hA := Lib.hid (awake3_any w ht)
  have hO : OnWay most 0 := by unfold OnWay; omega
  have HZ := Lib.hid hz
  obtain ⟨hlen, -, hz⟩ := hz
  rcases hz with ⟨rfl, rfl⟩ | ⟨x, rfl, hl, hc⟩
  · obtain rfl := hcn rfl
    obtain rfl := List.eq_nil_of_length_eq_zero hlen
    have hS := Lib.hid (fun w' (h : Below w.heap.size w w') => Sum_any most h0 h1 none 0 0 [] w' (HZ.out.below h))
    clear h0 h1 hlen ht hO HZ hcp hcn
    go_enter Tryd.func5, Tryd.ntmps5
    go_wp2_with fail
    refine hA.out.mono ?_
    rintro e w1 ⟨rfl, hb1⟩
    go_wp2_with fail
    refine (hS.out _ hb1).mono ?_
    rintro e w2 ⟨rfl, rfl⟩
    go_wp2_with fail
    refine wp_loop_rounds 1 ?_
    rw [rounds_succ]
    go_wp2_with fail
    go_ret
    exact ⟨rfl, hb1⟩
  · clear hcn
    obtain ⟨n, hn⟩ : ∃ n, (min (len : Int) 30).toNat = n := ⟨_, rfl⟩
    have hnl : n ≤ len := by omega
    have hz2 := HZ.out.take n hnl
    have HC := Lib.hid (fun w' (h : Below w.heap.size w w') => (hz2.below h).2.2)
    have HL := Lib.hid hz2.1
    have hS := Lib.hid (fun w' (h : Below w.heap.size w w') => Sum_any most h0 h1 (some x) n cp (zs.take n) w' (hz2.below h))
    clear h0 h1 hlen ht HZ hc hz2
    generalize zs.take n = ys at *
    go_enter Tryd.func5, Tryd.ntmps5
    go_wp2_with fail
    refine hA.out.mono ?_
    rintro e w1 ⟨rfl, hb1⟩
    go_wp2_with fail
    refine (hS.out _ hb1).mono ?_
    rintro e w2 ⟨rfl, rfl⟩
    have HC2 : Hid (∀ i, i < n → w1.cell? (x.add i) = some (.int .i64 (ys.getD i 0))) := by
      rcases HC.out _ hb1 with ⟨h, _⟩ | ⟨x', h, _, hc⟩
      · cases h
      · cases h; exact hc
    clear HC hS hA
    obtain ⟨r, hr⟩ : ∃ r, sumS most 0 ys = r := ⟨_, rfl⟩
    rw [hr]
    have HR := Lib.hid hr
    clear hr
    go_wp2_with fail
    go_loop [7, 8, 9] (fun s b i => ∃ (k : Nat) (t e : Int), k ≤ n ∧ i = .int .i64 k ∧ s = .int .i64 t ∧ b = .int .i64 e ∧ ((e = 0 ∧ OnWay most t ∧ r = sumS most t (ys.drop k)) ∨ ((e = 1 ∨ e = 7) ∧ r = (0, e)))) (fun _ _ i => n - (intOf i).toNat)
    case atStart => exact ⟨0, 0, 0, Nat.zero_le _, rfl, rfl, rfl, .inl ⟨rfl, hO, HR.out.symm⟩⟩
    case round =>
      obtain ⟨k, t, e, hk, rfl, rfl, rfl, hcase⟩ := hrel
      clear hO
      rcases hcase with ⟨rfl, ho, hs⟩ | ⟨he, rfl⟩
      · have HS := Lib.hid hs
        clear hs
        by_cases hlt : k < n
        · have hc := HC2.out k hlt
          have hkl := Lib.hid (show k < ys.length by rw [HL.out]; exact hlt)
          have e1 := Lib.hid (onway_sub ho)
          have A1 := Lib.hid (sum_arg most t ys k hkl.out)
          have A2 := Lib.hid (sum_much most t ys k hkl.out)
          have A3 := Lib.hid (sum_on most t ys k hkl.out)
          generalize ys.getD k 0 = z at *
          go_wp2_with fail
          · rename_i hn0
            exact ⟨⟨k + 1, t, 1, by omega, by go_num, rfl, rfl, .inr ⟨.inl rfl, by rw [HS.out, A1.out hn0]⟩⟩, by simp [intOf]; omega⟩
          · rename_i hz0 hm0
            have hmt : most - t < z := by unfold OnWay at ho; omega
            exact ⟨⟨k + 1, t, 7, by omega, by go_num, rfl, rfl, .inr ⟨.inr rfl, by rw [HS.out, A2.out hz0 hmt]⟩⟩, by simp [intOf]; omega⟩
          · rename_i hz0 hm0 hm1
            exact absurd hm1 (by unfold OnWay at ho; omega)
          · rename_i hz0 hm0 hm1 hm2
            rw [e1.out] at hm2
            exact ⟨⟨k + 1, t, 7, by omega, by go_num, rfl, rfl, .inr ⟨.inr rfl, by rw [HS.out, A2.out hz0 hm2]⟩⟩, by simp [intOf]; omega⟩
          · rename_i hz0 hm0 hm1 hm2
            rw [e1.out] at hm2
            obtain ⟨w1', w2'⟩ := onway_add ho hz0 hm2
            exact ⟨⟨k + 1, t + z, 0, by omega, by go_num, by rw [w1'], rfl, .inl ⟨rfl, w2', by rw [HS.out, A3.out hz0 hm2]⟩⟩, by simp [intOf]; omega⟩
        · have hE := Lib.hid (sum_none most t ys k (by rw [HL.out]; exact hlt))
          have hr2 : r = (t, 0) := by rw [HS.out, hE.out]
          subst hr2
          go_wp2_with fail
          go_ret
          exact ⟨rfl, hb1⟩
      · rcases he with rfl | rfl
        all_goals
          by_cases hlt : k < n
          all_goals
            go_wp2_with fail
            go_ret
            exact ⟨rfl, hb1⟩
end Go.Proofs.YtcieocendgedaaaDoor
