/- Contracts and lemmas that the claim rests on: PrK. -/
import Derived.Test.YtjgjdcikeagibaaGPrJ
/- The page's examples of params: a contract. -/
namespace Go.Proofs.Ytjgjdcikeagibaa
open Go.RowKit

def pFor : ByteArray := ⟨#[102, 111, 114]⟩
def pA : ByteArray := ⟨#[95, 97]⟩
def pHost : ByteArray := ⟨#[104, 111, 115, 116]⟩
def pX : ByteArray := ⟨#[120, 58, 49]⟩
def pRow : ByteArray := ⟨#[102, 111, 114, 61, 95, 97, 59, 104, 111, 115, 116, 61, 34, 120, 58, 49, 34]⟩
def pBy : ByteArray := ⟨#[98, 121]⟩
def pAB : ByteArray := ⟨#[97, 32, 98]⟩
set_option maxRecDepth 10000 in
theorem ps_page : Pm.ps pRow 0 = some [(pFor, pA), (pHost, pX)] := by
  have e0 : Pm.pr pRow 0 = some ((pFor, pA), 6) := by decide +kernel
  have e1 : Pm.bt pRow 6 = some 1 := by decide +kernel
  have e2 : Pm.pr pRow 7 = some ((pHost, pX), 10) := by decide +kernel
  rw [Pm.ps_more e0 (by decide) e1, Pm.ps_last e2 (by decide)]
  rfl
set_option maxRecDepth 10000 in
theorem rT_page : Pm.rT [(pBy, pAB)] = ⟨#[98, 121, 61, 34, 97, 32, 98, 34]⟩ ∧ Pm.rE [(pBy, pAB)] = 0 := by decide +kernel
theorem one_alloc (w : World) (a b : ByteArray) (t : TypeId) : IsParams (w.alloc (.cells #[.string a, .string b] t)) (some ⟨w.heap.size, 0, none⟩) 1 [(a, b)] := by
  refine ⟨rfl, .inr ⟨_, rfl, by omega, fun i hi => ?_⟩⟩
  obtain rfl : i = 0 := by omega
  have e : (⟨w.heap.size, 0, none⟩ : Addr).add (0 * 2) = ⟨w.heap.size, 0, none⟩ := add_nil0 _
  rw [e]
  exact ⟨by simp [go_sem, at_], by simp [go_sem, at_]⟩
set_option maxRecDepth 10000 in
theorem awake7_any (w : World) : Calls Try.prog 6 #[] w fun e w' => e = .returned (.bool true) ∧ Below w.heap.size w w' := by
  have H1 := Lib.hid ps_page
  have H2 := Lib.hid rT_page
  go_enter Try.func6, Try.ntmps6
  go_wp2_with fail
  refine (Parse_any pRow _ (by decide)).mono ?_
  rintro e w1 ⟨a, n, c, rfl, ho1, hb1⟩
  rw [H1.out] at ho1 ⊢
  have ho : OwnP w1 w.heap.size (.slice a n c) n [(pFor, pA), (pHost, pX)] := ho1
  have hn := ho.len
  obtain rfl : n = 2 := hn.symm
  obtain ⟨a', c', hv, -, hx⟩ := own_form ho
  injection hv with h1 h2 h3
  subst h1 h3
  have HPAR := ho.params
  rcases HPAR.2 with ⟨_, h⟩ | ⟨x, hxx, -, hc⟩
  · cases h
  obtain ⟨d0, d1⟩ := hc 1 (by omega)
  subst hxx
  obtain ⟨-, hx2⟩ := hx x rfl
  rw [hx2, add_none] at d0 d1
  have HB1 := Lib.hid hb1
  have hlt := (OwnP.lt ho x rfl).2
  obtain ⟨g, hg⟩ : ∃ g, x.block = g := ⟨_, rfl⟩
  rw [hg] at hx2 d0 d1 hlt
  subst hx2
  clear ho1 hb1 ho hc HPAR hx hg hn
  have d0 : w1.cell? ⟨g, 2, none⟩ = some (.string pHost) := d0
  have d1 : w1.cell? ⟨g, 3, none⟩ = some (.string pX) := d1
  go_wp2_with fail
  refine (Text7_any (some ⟨w1.heap.size, 0, none⟩) 1 1 [(pBy, pAB)] _ (one_alloc w1 pBy pAB _) (by omega) (by intro p hp; rw [List.mem_singleton] at hp; subst hp; decide)).mono ?_
  rintro e w2 ⟨rfl, hb2⟩
  rw [H2.out.1, H2.out.2]
  have e0 : w2.cell? ⟨g, 2, none⟩ = some (.string pHost) := below_cell hb2 (by simp; omega) (below_cell ((Below.refl _ _).alloc (Nat.le_refl _) _) hlt d0)
  have e1 : w2.cell? ⟨g, 3, none⟩ = some (.string pX) := below_cell hb2 (by simp; omega) (below_cell ((Below.refl _ _).alloc (Nat.le_refl _) _) hlt d1)
  have HB2 : Hid (Below w.heap.size w w2) := (HB1.out.alloc HB1.out.size _).trans (hb2.mono (by have := HB1.out.size; simp; omega))
  clear hb2 d0 d1
  unfold pHost at e0
  unfold pX at e1
  go_wp2_with fail
  go_ret
  exact ⟨rfl, HB2.out⟩
end Go.Proofs.Ytjgjdcikeagibaa
