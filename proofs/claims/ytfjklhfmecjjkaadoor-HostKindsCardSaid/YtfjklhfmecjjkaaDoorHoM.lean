/- isNamed, write, Text: contracts. -/
import Derived.Test.YtfjklhfmecjjkaaDoorHoL
import Derived.Test.YtfjklhfmecjjkaaDoorRowA
import Derived.Test.YtfjklhfmecjjkaaDoorNumI
namespace Go.Proofs.YtfjklhfmecjjkaaDoor
open Go.RowKit

set_option maxHeartbeats 800000 in
theorem isNamed_any (s : ByteArray) (w : World) (hs : s.size ≤ 900) (ht : Tx w) :
    Calls Tryd.prog 28 #[.string s] w fun e w' => e = .returned (.bool (Hp.isN s.data.toList)) ∧ Below w.heap.size w w' := by
  have HP := Lib.hid (HParse_any s w hs ht)
  clear ht
  unfold Hp.isN
  obtain ⟨o, ho⟩ : ∃ o, Hp.prs s.data.toList = o := ⟨_, rfl⟩
  rw [ho] at HP ⊢
  cases o with
  | none =>
    unfold prsV hostV at HP
    go_enter Tryd.func28, Tryd.ntmps28
    go_wp2_with fail
    refine HP.out.mono ?_
    rintro e w1 ⟨rfl, hb1⟩
    go_wp2_with fail
    go_ret
    exact ⟨rfl, hb1.alloc hb1.size _⟩
  | some x =>
    obtain ⟨k, nm, p⟩ := x
    unfold prsV hostV at HP
    simp only at HP
    go_enter Tryd.func28, Tryd.ntmps28
    go_wp2_with fail
    refine HP.out.mono ?_
    rintro e w1 ⟨rfl, hb1⟩
    go_wp2_with fail
    all_goals
      go_ret
      refine ⟨?_, hb1.alloc hb1.size _⟩
      simp_all [ByteArray.toList_eq]
theorem joinTwo (a b : ByteArray) : joinB ⟨#[58]⟩ [a, b] = ⟨(a.data.toList ++ 58 :: b.data.toList).toArray⟩ := by
  unfold joinB
  simp [Lib.join]
end Go.Proofs.YtfjklhfmecjjkaaDoor
