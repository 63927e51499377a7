/- The classes of a reference's parts as function values; isOf over them: contracts. -/
import Derived.Test.YtnnhlkbjdfgcaaaUrD
namespace Go.Proofs.Ytnnhlkbjdfgcaaa
open Go.RowKit
/-- A reference, as a value. -/
def rV (r : Ur.R) : Value := .agg #[.string ⟨r.sch.toArray⟩, .string ⟨r.au.toArray⟩, .string ⟨r.pa.toArray⟩, .string ⟨r.qu.toArray⟩, .string ⟨r.fr.toArray⟩, .bool r.hA, .bool r.hQ, .bool r.hF]
theorem enters_inPaths (args : Array Value) (w : World) : (callFunc 51 args).run Try.prog w = .ok (.enter 51 args) w := by
  exact enters_of Try.func51 (by kernel_rfl) rfl args w
theorem enters_inAuth (args : Array Value) (w : World) : (callFunc 33 args).run Try.prog w = .ok (.enter 33 args) w := by
  exact enters_of Try.func33 (by kernel_rfl) rfl args w
theorem inAuth_any (m : ByteArray) (c : UInt8) (b d : Nat) (w : World) (hd : w.cell? ⟨d, 0, none⟩ = some (.func (.func 51) #[] #[.pointer (some ⟨b, 0, none⟩)])) (h : w.cell? ⟨b, 0, none⟩ = some (.string m)) :
    Calls Try.prog 33 #[.int .u8 (c.toNat : Int), .pointer (some ⟨d, 0, none⟩)] w fun e w' => e = .returned (.bool (!(c == 64) && (Pq.pb c || m.data.toList.contains c))) ∧ w' = w := by
  have HI := Lib.hid (inPaths_any m c b w h)
  have HE := Lib.hid enters_inPaths
  generalize (Pq.pb c || m.data.toList.contains c) = x at *
  by_cases hc : c = 64
  · subst hc
    go_enter Try.func33, Try.ntmps33
    go_wp2_with fail
    go_ret
    exact ⟨rfl, rfl⟩
  · have hb : ¬ (c.toNat : Int) = 64 := by
      intro e
      exact hc (UInt8.toNat_inj.1 (by show c.toNat = 64; omega))
    have hc' : (c == 64) = false := by simpa using hc
    rw [hc']
    have he := enters_inPaths
    clear hc hc'
    go_enter Try.func33, Try.ntmps33
    go_wp2_with (go_at_call 51; refine HI.out.mono ?_; rintro e w1 ⟨rfl, rfl⟩)
    go_ret
    exact ⟨rfl, rfl⟩
/-- isOf over a class that pathsAnd made, and over the authority's. -/
theorem isOfP_any (m : ByteArray) (b : Nat) (s : ByteArray) (w : World) (hc : w.cell? ⟨b, 0, none⟩ = some (.string m)) (hs : s.size ≤ 1000) (hm : MaxL w) :
    Calls Try.prog 34 #[.func (.func 51) #[] #[.pointer (some ⟨b, 0, none⟩)], .string s] w fun e w' => e = .returned (.bool (Pq.pcL m.data.toList s.data.toList)) ∧ Below w.heap.size w w' := by
  have hb : b < w.heap.size := lt_of_cell hc
  rw [← Ur.okC_pcL _ _ _ (Nat.le_refl _)]
  refine isOfU_any _ _ (fun c => Pq.pb c || m.data.toList.contains c) w.heap.size s w (Nat.le_refl _) hs hm (fun c h => by rw [(Pq.byte3 c).1 h]; rfl) enters_inPaths fun c W hW => ?_
  refine (inPaths_any m c b W (below_cell hW hb hc)).mono ?_
  rintro e w' ⟨rfl, rfl⟩
  exact ⟨rfl, Below.refl _ _⟩
theorem isOfA_any (b d : Nat) (s : ByteArray) (w : World) (hd : w.cell? ⟨d, 0, none⟩ = some (.func (.func 51) #[] #[.pointer (some ⟨b, 0, none⟩)])) (hc : w.cell? ⟨b, 0, none⟩ = some (.string ⟨#[91, 93]⟩)) (hs : s.size ≤ 1000) (hm : MaxL w) :
    Calls Try.prog 34 #[.func (.func 33) #[] #[.pointer (some ⟨d, 0, none⟩)], .string s] w fun e w' => e = .returned (.bool (Pq.pcL [91, 93] s.data.toList && !s.data.toList.contains 64)) ∧ Below w.heap.size w w' := by
  have hb : b < w.heap.size := lt_of_cell hc
  have hb2 : d < w.heap.size := lt_of_cell hd
  rw [← Ur.okC_auth _ _ (Nat.le_refl _)]
  refine isOfU_any _ _ (fun c => !(c == 64) && (Pq.pb c || [91, 93].contains c)) w.heap.size s w (Nat.le_refl _) hs hm (fun c h => by
    have h64 : (c == 64) = false := by rw [beq_eq_false_iff_ne]; exact Ur.hx64 h
    rw [(Pq.byte3 c).1 h, h64]; rfl) enters_inAuth fun c W hW => ?_
  refine (inAuth_any ⟨#[91, 93]⟩ c b d W (below_cell hW hb2 hd) (below_cell hW hb hc)).mono ?_
  rintro e w' ⟨rfl, rfl⟩
  exact ⟨rfl, Below.refl _ _⟩
end Go.Proofs.Ytnnhlkbjdfgcaaa
