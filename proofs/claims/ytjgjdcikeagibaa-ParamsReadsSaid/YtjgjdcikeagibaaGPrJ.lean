/- Contracts and lemmas that the claim rests on: PrJ. -/
import Derived.Test.YtjgjdcikeagibaaGPrI
import Derived.Test.YtjgjdcikeagibaaGQuil
import Derived.Deep.RegionHeldLaw
import Derived.Deep.AppendLies
/- What the laws of params call besides: few, awake: contracts. -/
namespace Go.Proofs.Ytjgjdcikeagibaa
open Go.RowKit

namespace Pm
def cut30 (s : ByteArray) : ByteArray := s.extract 0 (min (s.size : Int) 30).toNat
def cutP (p : Pair) : Pair := (cut30 p.1, cut30 p.2)
/-- Params, not more and not longer than the law looks. -/
def fewP (l : List Pair) : List Pair := (l.take 8).map cutP
theorem cut30_size (s : ByteArray) : (cut30 s).size ≤ 30 := by
  unfold cut30
  simp
  omega
theorem fewP_len (l : List Pair) : (fewP l).length ≤ 8 := by
  unfold fewP
  simp
  omega
theorem fewP_size (l : List Pair) : ∀ p ∈ fewP l, p.1.size ≤ 30 ∧ p.2.size ≤ 30 := by
  intro p hp
  obtain ⟨q, _, rfl⟩ := List.mem_map.1 hp
  exact ⟨cut30_size _, cut30_size _⟩
theorem few_next (l : List Pair) (k : Nat) (h : k < l.length) : (l.take k).map cutP ++ [cutP (at_ l k)] = (l.take (k + 1)).map cutP := by
  rw [← at_take l k h, List.map_append]; rfl
end Pm
set_option maxHeartbeats 1000000 in
theorem few7_any (a : Option Addr) (len cp : Nat) (l : List Pair) (w : World) (hz : IsParams w a len l) :
    Calls Try.prog 11 #[.slice a len cp] w (Made_ (Pm.fewP l) w) := by
  have hl := hz.small
  have HZ := Lib.hid hz
  clear hz
  obtain ⟨i0, hi, hz0, hz1, hz2⟩ := info_parts info_param
  go_enter Try.func11, Try.ntmps11
  go_wp2_with fail
  go_loopw [3, 4] (fun o i wr => ∃ (k : Nat) (a1 : Option Addr) (c1 : Nat), k ≤ len ∧ k ≤ 8 ∧ i = .int .i64 k ∧ o = .slice a1 k c1 ∧ Hid (OwnP wr w.heap.size (.slice a1 k c1) k ((l.take k).map Pm.cutP)) ∧ Hid (Below w.heap.size w wr)) (fun _ i _ => len - (intOf i).toNat)
  case atStart => exact ⟨0, none, 0, Nat.zero_le _, Nat.zero_le _, rfl, rfl, OwnP.nil _ _, Below.refl _ _⟩
  case round =>
    obtain ⟨k, a1, c1, hk, hk6, rfl, rfl, HO, HB⟩ := hrel
    by_cases hlt : k < len ∧ k < 8
    · obtain ⟨hlt, h6⟩ := hlt
      rcases (HZ.out.below HB.out).2 with ⟨rfl, rfl⟩ | ⟨x, rfl, hxl, hcells⟩
      · omega
      have hz8 := HZ.out
      obtain ⟨d0, d1⟩ := hcells k hlt
      have hsn := Pm.few_next l k (by rw [HZ.out.1]; exact hlt)
      clear hcells
      generalize at_ l k = p at *
      obtain ⟨nm, vl⟩ := p
      obtain ⟨t, ht⟩ : ∃ t, nm.extract 0 (min (nm.size : Int) 30).toNat = t := ⟨_, rfl⟩
      obtain ⟨u, hu⟩ : ∃ u, vl.extract 0 (min (vl.size : Int) 30).toNat = u := ⟨_, rfl⟩
      have hcut : Pm.cutP (nm, vl) = (t, u) := by
        show (Pm.cut30 nm, Pm.cut30 vl) = _
        unfold Pm.cut30
        rw [ht, hu]
      rw [hcut] at hsn
      have HSN := Lib.hid hsn
      clear hcut hsn
      have hbs := HB.out.size
      have hxb : (x.add (k * 2)).block < w.heap.size := by
        have := hz8.lt (by omega)
        rwa [add_block]
      have hrow : some (x.add (k * 2)).block ≠ (Value.slice a1 k c1).ownBlock := by
        intro e
        have := (World.ownsRow.lt HO.out _ e.symm).1
        omega
      have hnw := World.new_ne wr _ d0
      have hk0 : (0 : Int) ≤ (k : Int) := Int.natCast_nonneg _
      have hk1 : (k : Int) < (len : Int) := by omega
      have hm0 : (0 : Int) ≤ min (nm.size : Int) 30 := by omega
      have hm1 : min (nm.size : Int) 30 ≤ (nm.size : Int) := by omega
      have hm2 : (0 : Int) ≤ min (vl.size : Int) 30 := by omega
      have hm3 : min (vl.size : Int) 30 ≤ (vl.size : Int) := by omega
      clear hz8
      go_wp2_with fail
      go_region_held_law (fun w' => w'.cell? (x.add (k * 2)) = some (.string nm) ∧ w'.cell? ⟨(x.add (k * 2)).block, (x.add (k * 2)).off + 1, none⟩ = some (.string vl))
        (first
          | go_keep
          | (go_split_ands
             refine ⟨?_, ?_⟩
             · (rw [hg2.cell_far (x.add (k * 2)) (by simp; omega) hrow]; assumption)
             · (rw [hg2.cell_far ⟨(x.add (k * 2)).block, (x.add (k * 2)).off + 1, none⟩ (by simp; omega) hrow]; assumption)))
        ((refine step_append_own (by rfl) _ _ 23 (by rfl) w.heap.size 41 i0 _ 2 32 Try.underlying23 hi hz0 hz1 hz2 rfl (by omega) (.slice a1 k c1) k _ (by rfl) (World.ownsRow.alloc (w := wr.drew) HO.out _) ⟨wr.heap.size, 0, none⟩ 1 1 [.string t, .string u] (by rfl) (by rfl) (by intro j u hj; rcases j with _ | _ | j <;> simp at hj <;> subst hj <;> simp [go_sem]) (by intro u hu; simp at hu; rcases hu with rfl | rfl <;> rfl) (by unfold maxLen; omega) (by omega) (by simp; omega) ?_; intro v2 w2 ho2 hg2))
      all_goals
        obtain ⟨a2, c2, rfl, _⟩ := own_form ho2
        have ho3 : OwnP w2 w.heap.size (.slice a2 (k + 1) c2) (k + 1) ((l.take (k + 1)).map Pm.cutP) := by
          rw [← HSN.out]
          show w2.ownsRow _ _ _ _ _ _
          rw [cellsP_app]
          exact ho2
        have HO3 := Lib.hid ho3
        have HB3 : Hid (Below w.heap.size w w2) := (HB.out.drew.alloc (by simp; omega) _).grown hg2 (by simp; omega) (fun k hk => (World.ownsRow.lt HO.out k hk).1)
        clear hg2 HB HO ho2 ho3 d0 d1
        go_wp2
        exact ⟨⟨k + 1, a2, c2, by omega, by omega, by go_num, rfl, HO3, HB3⟩, by simp [intOf]; omega⟩
    · have hex : ¬ k < len ∨ (k < len ∧ ¬ k < 8) := by omega
      have hE : (l.take k).map Pm.cutP = Pm.fewP l := by
        have hl2 := HZ.out.1
        unfold Pm.fewP
        rcases hex with h1 | ⟨h1, h2⟩
        · rw [List.take_of_length_le (by omega), List.take_of_length_le (by omega)]
        · rw [show k = 8 from by omega]
      rw [hE] at HO
      clear hE
      rcases hex with h1 | ⟨h1, h2⟩
      all_goals
        go_wp2_with fail
        go_ret
        exact ⟨a1, k, c1, rfl, HO.out, HB.out⟩
end Go.Proofs.Ytjgjdcikeagibaa
