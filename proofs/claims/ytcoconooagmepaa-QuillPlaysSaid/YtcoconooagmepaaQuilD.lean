/- slices.Concat of a row and one text more, and Line: contracts. -/
import Derived.Test.YtcoconooagmepaaQuilC
import Derived.Test.YtcoconooagmepaaQuilF
namespace Go.Proofs.Ytcoconooagmepaa
open Go.RowKit

theorem info_string : (Try.prog.info? 9).map (fun i => (i.zero, i.size, i.bytes)) = some (some (.string ⟨#[]⟩), 1, 16) := by kernel_rfl
/-- A row of texts that a call has made. -/
def Row_ (ss : List ByteArray) (w : World) (e : Ending) (w' : World) : Prop := ∃ a n c, e = .returned (.slice a n c) ∧ w'.ownsRow w.heap.size 9 1 (.slice a n c) n (ss.map Value.string) ∧ Below w.heap.size w w'

theorem Grow_nil (n : Nat) (h0 : 0 < n) (hn : n ≤ 1000001) (m : Int) (hm : m = n) (w : World) :
    Calls Try.prog 22 #[.slice none 0 0, .int .i64 m] w (Row_ [] w) := by
  subst hm
  obtain ⟨i0, hi, hz0, hz1, hz2⟩ := info_parts info_string
  refine (Any8.slices_Grow_grow grow_lays i0 _ hi hz0 (by omega) none 0 0 n [] w (Nat.le_refl _) (by omega) (by rw [hz2]; omega) (by omega) (by simp) (fun _ => rfl) (fun a h => by cases h)).mono ?_
  rintro e w' ⟨rfl, rfl⟩
  refine ⟨_, _, _, rfl, ?_, ?_⟩
  · refine World.ownsRow_made w.drew _ _ (Nat.le_refl _) (grownCap_le_maxLen _ _ _ _ (by unfold maxLen; omega)) ?_
    have := grownCap_ge w (0 + n) 0 (grow_ren.t 25)
    have e1 : (Value.string ⟨#[]⟩).cells.size = 1 := rfl
    simp only [Array.size_append, List.size_toArray, size_zeroCells, e1, List.length_nil]
    omega
  · exact (Below.refl _ _).drew.alloc (Nat.le_refl _) _

set_option maxHeartbeats 400000 in
theorem Concat_two (d c : Nat) (a : Option Addr) (len cp cp2 cp3 : Nat) (ss : List ByteArray) (t : ByteArray) (w : World) (hz : IsTexts w a len ss) (hcp : a = none → cp = 0) (hl : len ≤ 1000000)
    (h0 : w.cell? ⟨d, 0, none⟩ = some (.slice a len cp)) (h1 : w.cell? ⟨d, 1, none⟩ = some (.slice (some ⟨c, 0, none⟩) 1 cp2)) (hc : w.cell? ⟨c, 0, none⟩ = some (.string t)) :
    Calls Try.prog 19 #[.slice (some ⟨d, 0, none⟩) 2 cp3] w (Row_ (ss ++ [t]) w) := by
  have hd : d < w.heap.size := lt_of_cell h0
  have hcl : c < w.heap.size := lt_of_cell hc
  have HZ := Lib.hid hz
  have HC := Lib.hid hc
  clear hc
  obtain ⟨i0, hi, hz0, hz1, hz2⟩ := info_parts info_string
  go_enter Try.func19, Try.ntmps19
  go_wp2_with fail
  refine wp_loop_rounds 3 ?_
  rw [rounds_succ]
  go_wp2_with fail
  rw [rounds_succ]
  go_wp2_with fail
  rw [rounds_succ]
  go_wp2_with fail
  refine (Grow_nil (len + 1) (by omega) (by omega) _ (by omega) w).mono ?_
  rintro e w1 ⟨a1, n1, c1, rfl, ho1, hb1⟩
  obtain rfl : n1 = 0 := by simpa using ho1.1.symm
  have g0 := below_cell hb1 (b := d) (i := 0) hd h0
  have g1 := below_cell hb1 (b := d) (i := 1) hd h1
  have HB1 := Lib.hid hb1
  have hs1 := hb1.size
  clear hb1 h0 h1
  have hZ1 := HZ.out.below HB1.out
  have hc1 : w1.cell? ⟨c, 0, none⟩ = some (.string t) := below_cell HB1.out hcl HC.out
  clear hs1
  rcases hZ1.2 with ⟨rfl, rfl⟩ | ⟨x, rfl, hxl, hcells⟩
  · obtain rfl := hcp rfl
    obtain rfl := List.eq_nil_of_length_eq_zero hZ1.1
    clear hcp hZ1 HZ
    go_wp2_with fail
    refine wp_loop_rounds 3 ?_
    rw [rounds_succ]
    go_wp2_with (at_builtin; refine wpList_append_own_none rfl _ _ 26 rfl w.heap.size 9 i0 1 Try.underlying26 hi _ _ _ rfl ho1 rfl ?_)
    rw [rounds_succ]
    go_wp2_with (at_builtin; refine wpList_append_own _ rfl _ _ 26 rfl w.heap.size 9 i0 _ 1 16 Try.underlying26 hi hz0 hz1 hz2 rfl (by omega) _ _ _ rfl ho1 ⟨c, 0, none⟩ 1 cp2 [.string t] rfl rfl ?c1 ?c2 ?c3 ?c4 HB1.out.size ?_)
    case c1 => intro j u hj; rcases j with _ | j <;> simp at hj; subst hj; exact hc1
    case c2 => intro u hu; simp at hu; subst hu; rfl
    case c3 => unfold maxLen; omega
    case c4 => omega
    intro v2 w2 ho2 hg2 _
    obtain ⟨a2, c2, rfl, _⟩ := own_form ho2
    have hb2 : Below w.heap.size w w2 := HB1.out.grown hg2 HB1.out.size (fun k hk => (ho1.lt k hk).1)
    go_wp2_with fail
    rw [rounds_succ]
    go_wp2_with fail
    go_ret
    exact ⟨_, _, _, rfl, ho2, hb2⟩
  · have hsl := hZ1.1
    clear hcp hZ1 HZ
    go_wp2_with fail
    refine wp_loop_rounds 3 ?_
    rw [rounds_succ]
    go_wp2_with (at_builtin; refine wpList_append_own _ rfl _ _ 26 rfl w.heap.size 9 i0 _ 1 16 Try.underlying26 hi hz0 hz1 hz2 rfl (by omega) _ _ _ rfl ho1 x len cp (ss.map Value.string) rfl ?c1 ?c2 ?c3 ?c4 ?c5 HB1.out.size ?_)
    case c1 => simp [hsl]
    case c2 =>
      intro j u hj
      rw [List.getElem?_map] at hj
      obtain ⟨y, hy, rfl⟩ := Option.map_eq_some_iff.1 hj
      obtain ⟨hjl, hy⟩ := List.getElem?_eq_some_iff.1 hy
      rw [hcells j (by omega), getD_at ss j hjl, hy]
    case c3 =>
      intro u hu
      obtain ⟨y, _, rfl⟩ := List.mem_map.1 hu
      rfl
    case c4 => unfold maxLen; omega
    case c5 => omega
    intro v2 w2 ho2 hg2 _
    have hb2 : Below w.heap.size w w2 := HB1.out.grown hg2 HB1.out.size (fun k hk => (ho1.lt k hk).1)
    have HB2 := Lib.hid hb2
    have g1 := hg2.cell g1 (by intro e; have := (ho1.lt d e.symm).1; omega)
    have hc2 := hg2.cell hc1 (by intro e; have := (ho1.lt c e.symm).1; omega)
    obtain ⟨a2, c2, rfl, _⟩ := own_form ho2
    have ho2' := Lib.hid ho2
    clear hg2 hb2 ho1 hcells hc1 HB1 ho2 g0
    go_wp2_with fail
    rw [rounds_succ]
    go_wp2_with (at_builtin; refine wpList_append_own _ rfl _ _ 26 rfl w.heap.size 9 i0 _ 1 16 Try.underlying26 hi hz0 hz1 hz2 rfl (by omega) _ _ _ rfl ho2'.out ⟨c, 0, none⟩ 1 cp2 [.string t] rfl rfl ?d1 ?d2 ?d3 ?d4 HB2.out.size ?_)
    case d1 => intro j u hj; rcases j with _ | j <;> simp at hj; subst hj; exact hc2
    case d2 => intro u hu; simp at hu; subst hu; rfl
    case d3 => unfold maxLen; omega
    case d4 => omega
    intro v3 w3 ho3 hg3 _
    obtain ⟨a3, c3, rfl, _⟩ := own_form ho3
    have hb3 : Below w.heap.size w w3 := HB2.out.grown hg3 HB2.out.size (fun k hk => (ho2'.out.lt k hk).1)
    go_wp2_with fail
    rw [rounds_succ]
    go_wp2_with fail
    go_ret
    refine ⟨_, _, _, rfl, ?_, hb3⟩
    simpa using ho3
end Go.Proofs.Ytcoconooagmepaa
