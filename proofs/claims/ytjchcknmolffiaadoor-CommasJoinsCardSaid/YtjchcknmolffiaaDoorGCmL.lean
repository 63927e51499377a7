/- Contracts and lemmas that the claim rests on: CmL. -/
import Derived.Test.YtjchcknmolffiaaDoorGCmK
import Derived.Deep.RegionLaw
/- What the laws of layer 6 lean on: texts, not more and not longer than they look; the page's examples: contracts. -/
namespace Go.Proofs.YtjchcknmolffiaaDoor
open Go.RowKit

/-- A text, cut. -/
def cut80 (s : ByteArray) : ByteArray := s.extract 0 (min (s.size : Int) 80).toNat
/-- Texts, not more and not longer than the law looks. -/
def fewC (ss : List ByteArray) : List ByteArray := (ss.take 6).map cut80
theorem cut80_size (s : ByteArray) : (cut80 s).size ≤ 80 := by
  unfold cut80
  simp
  omega
theorem few80_snoc (ss : List ByteArray) (k : Nat) (h : k < ss.length) : ((ss.take k).map cut80).map Value.string ++ [.string (cut80 (ss.getD k ByteArray.empty))] = ((ss.take (k + 1)).map cut80).map Value.string := by
  rw [List.take_succ_eq_append_getElem h, getD_at ss k h]
  simp only [List.map_append, List.map_cons, List.map_nil]
theorem fewC_length (ss : List ByteArray) : (fewC ss).length ≤ 6 := by
  unfold fewC
  simp
  omega
theorem fewC_size (ss : List ByteArray) : ∀ s ∈ fewC ss, s.size ≤ 80 := by
  intro s hs
  obtain ⟨x, _, rfl⟩ := List.mem_map.1 hs
  exact cut80_size x
theorem flat_bound (m : Nat) : ∀ l : List ByteArray, (∀ s ∈ l, s.size ≤ m) → (flat l).length ≤ m * l.length
  | [], _ => by simp [flat]
  | s :: l, h => by
    have h1 := flat_bound m l (fun x hx => h x (List.mem_cons_of_mem _ hx))
    have h2 := h s (List.mem_cons_self ..)
    have h3 : (flat (s :: l)).length = s.size + (flat l).length := by
      unfold flat
      rw [List.flatMap_cons, List.length_append]
      rfl
    rw [h3, List.length_cons, Nat.mul_succ]
    omega

set_option maxHeartbeats 400000 in
set_option maxRecDepth 10000 in
theorem few6_any (a : Option Addr) (len cp : Nat) (ss : List ByteArray) (w : World) (hz : IsTexts w a len ss) :
    Calls Tryd.prog 7 #[.slice a len cp] w (Row_ (fewC ss) w) := by
  have hl := hz.small
  have HZ := Lib.hid hz
  clear hz
  obtain ⟨i0, hi, hz0, hz1, hz2⟩ := info_parts info_string
  go_enter Tryd.func7, Tryd.ntmps7
  go_wp2_with fail
  go_loopw [3, 4] (fun o i wr => ∃ (k : Nat) (a1 : Option Addr) (c1 : Nat), k ≤ len ∧ k ≤ 6 ∧ i = .int .i64 k ∧ o = .slice a1 k c1 ∧ Hid (wr.ownsRow w.heap.size 9 1 (.slice a1 k c1) k (((ss.take k).map cut80).map Value.string)) ∧ Hid (Below w.heap.size w wr)) (fun _ i _ => len - (intOf i).toNat)
  case atStart => exact ⟨0, none, 0, Nat.zero_le _, Nat.zero_le _, rfl, rfl, World.ownsRow_nil _ _ _ _, Below.refl _ _⟩
  case round =>
    obtain ⟨k, a1, c1, hk, hk6, rfl, rfl, HO, HB⟩ := hrel
    by_cases hlt : k < len ∧ k < 6
    · obtain ⟨hlt, h6⟩ := hlt
      rcases (HZ.out.below HB.out).2 with ⟨rfl, rfl⟩ | ⟨x, rfl, hxl, hcells⟩
      · omega
      have hc := hcells k hlt
      have hsn := Lib.hid (few80_snoc ss k (by rw [HZ.out.1]; exact hlt))
      clear hcells
      generalize ss.getD k ByteArray.empty = y at *
      obtain ⟨t, ht⟩ : ∃ t, y.extract 0 (min (y.size : Int) 80).toNat = t := ⟨_, rfl⟩
      have hcut : cut80 y = t := ht
      rw [hcut] at hsn
      clear hcut
      have hbs := HB.out.size
      have hm0 : (0 : Int) ≤ min (y.size : Int) 80 := by omega
      have hm1 : min (y.size : Int) 80 ≤ (y.size : Int) := by omega
      go_wp2_with fail
      go_region_law (refine step_append_own rfl (.tmp 15) (.tmp 27) 22 rfl w.heap.size 9 i0 _ 1 16 Tryd.underlying22 hi hz0 hz1 hz2 rfl (by omega) _ k _ (by simp [Act.eval, Act.put]) (World.ownsRow.alloc (w := wr.drew) HO.out _) ⟨wr.heap.size, 0, none⟩ 1 1 [.string t] (by simp [Act.eval, Act.put]) rfl (by intro j u hj; rcases j with _ | j <;> simp at hj; subst hj; simp [go_sem]) (by intro u hu; simp at hu; subst hu; rfl) (by unfold maxLen; omega) (by omega) (by simp; omega) ?_; intro v2 w2 ho2 hg2; obtain ⟨a2, c2, rfl, _⟩ := own_form ho2)
      all_goals
        have hb2 : Below w.heap.size w w2 := (HB.out.drew.alloc (by simp; omega) _).grown hg2 (by simp; omega) (fun k hk => (HO.out.lt k hk).1)
        rw [hsn.out] at ho2
        clear hg2 HB HO hc
        go_wp2
        exact ⟨⟨k + 1, a2, c2, by omega, by omega, by go_num, rfl, ho2, hb2⟩, by simp [intOf]; omega⟩
    · have hex : ¬ k < len ∨ (k < len ∧ ¬ k < 6) := by omega
      have hE : Hid (((ss.take k).map cut80).map Value.string = (fewC ss).map Value.string) := by
        show _ = _
        have hl2 := HZ.out.1
        unfold fewC
        rcases hex with h1 | ⟨h1, h2⟩
        · rw [List.take_of_length_le (by omega), List.take_of_length_le (by omega)]
        · rw [show k = 6 from by omega]
      rw [hE.out] at HO
      rcases hex with h1 | ⟨h1, h2⟩
      all_goals
        go_wp2_with fail
        go_ret
        exact ⟨a1, k, c1, rfl, HO.out, HB.out⟩

def tA : ByteArray := ⟨#[97]⟩
def tQ : ByteArray := ⟨#[34, 98, 44, 99, 34]⟩
def tX : ByteArray := ⟨#[40, 120, 44, 121, 41, 32, 100]⟩
def tList : ByteArray := ⟨#[97, 44, 32, 34, 98, 44, 99, 34, 32, 44, 44, 32, 40, 120, 44, 121, 41, 32, 100]⟩
theorem three_texts (w : World) (t u v : ByteArray) (y : TypeId) : IsTexts (w.alloc (.cells #[.string t, .string u, .string v] y)) (some ⟨w.heap.size, 0, none⟩) 3 [t, u, v] :=
  ⟨rfl, .inr ⟨_, rfl, by omega, fun i hi => by rcases i with _ | _ | _ | i <;> first | omega | simp [go_sem]⟩⟩
set_option maxRecDepth 10000 in
theorem es_page : Cm.es tList 0 = some [tA, tQ, tX] := by
  have e0 := Cm.es_more tList 0 1 (by decide +kernel) (by decide)
  have e1 := Cm.es_more tList 2 7 (by decide +kernel) (by decide)
  have e2 := Cm.es_more tList 10 0 (by decide +kernel) (by decide)
  have e3 := Cm.es_last tList 11 8 (by decide +kernel) (by decide)
  have f0 : Cm.elB (tList.extract 0 (0 + 1)) = [tA] := by decide +kernel
  have f1 : Cm.elB (tList.extract 2 (2 + 7)) = [tQ] := by decide +kernel
  have f2 : Cm.elB (tList.extract 10 (10 + 0)) = [] := by decide +kernel
  have f3 : Cm.elB (tList.extract 11 (11 + 8)) = [tX] := by decide +kernel
  rw [e0, e1, e2, e3, f0, f1, f2, f3]
  rfl
def tS : ByteArray := ⟨#[97, 44, 32]⟩
def tB : ByteArray := ⟨#[98]⟩
theorem app_page : Cm.app tS [tB] = ⟨#[97, 44, 44, 32, 98]⟩ := by decide +kernel

set_option maxHeartbeats 400000 in
theorem awake6_any (w : World) : Calls Tryd.prog 6 #[] w fun e w' => e = .returned (.bool true) ∧ Below w.heap.size w w' := by
  have hsp := Lib.hid (Split_any tList w (by decide))
  rw [es_page] at hsp
  have HAP := Lib.hid app_page
  unfold tList at hsp
  go_enter Tryd.func6, Tryd.ntmps6
  go_wp2_with fail
  refine hsp.out.mono ?_
  rintro e w1 ⟨a, n, c, rfl, ho, hb⟩
  have HB := Lib.hid hb
  have HT := Lib.hid (own_strs ho (by have := own_len ho; simp at this; omega))
  clear ho hb hsp
  go_wp2_with fail
  refine (RSame_any a n c [tA, tQ, tX] (some ⟨w1.heap.size, 0, none⟩) 3 3 [tA, tQ, tX] _ (HT.out.below (by repeat (first | with_reducible exact Below.refl _ _ | with_reducible assumption | (with_reducible refine Below.setCell ?_ ?_ _; rotate_left; · (simp <;> omega)) | (with_reducible refine Below.alloc ?_ ?_ _; rotate_left; · (simp <;> omega)) | with_reducible refine Below.drew ?_))) (three_texts _ _ _ _ _)).mono ?_
  rintro e w2 ⟨rfl, q, rfl⟩
  rw [show decide (([tA, tQ, tX] : List ByteArray) = [tA, tQ, tX]) = true from decide_eq_true rfl]
  have hone : ∀ W : World, ∀ b : Nat, W.heap.size = b → IsTexts (W.alloc (.cells #[.string tB] 9)) (some ⟨b, 0, none⟩) 1 [tB] := fun W b h => by
    subst h
    exact one_text _ _ _
  have HONE := Lib.hid hone
  clear hone
  go_wp2_with fail
  refine (Append_any tS (some ⟨w1.heap.size + 1, 0, none⟩) 1 1 [tB] _ (HONE.out _ _ (by simp)) (fun x hx => by cases hx; exact ⟨rfl, by simp⟩) (by omega) (by omega) (by decide) (by decide)).mono ?_
  rintro e w3 ⟨rfl, hb3⟩
  have hb4 : Below w.heap.size w w3 := by
    refine Below.trans ?_ (hb3.mono (by have := HB.out.size; simp; omega))
    exact ((HB.out.alloc HB.out.size _).trans (below_drewN _ _ q)).alloc (by have := HB.out.size; simp; omega) _
  have HB4 := Lib.hid hb4
  clear hb3 hb4
  rw [HAP.out]
  go_wp2_with fail
  go_ret
  exact ⟨rfl, HB4.out⟩
end Go.Proofs.YtjchcknmolffiaaDoor
