/- Token by All, and the page's examples: contracts. -/
import Derived.Test.YtchhjmdbjndckaaDoorOctD
namespace Go.Proofs.YtchhjmdbjndckaaDoor
open Go.RowKit

theorem enters_IsToken (args : Array Value) (w : World) : (callFunc 43 args).run Tryd.prog w = .ok (.enter 43 args) w := by
  exact enters_of Tryd.func43 (by kernel_rfl) rfl args w
theorem tokS_all (s : ByteArray) (h : 0 < s.size) : (asks (fun _ c => B.tok (c.toNat : Int)) [] (flat [s])).1 = tokS s := by
  rw [asks_pure]; unfold tokS flat; simp [h]
set_option maxHeartbeats 400000 in
theorem Token_any (s : ByteArray) (w : World) (hs : s.size ≤ 100000) :
    Calls Tryd.prog 25 #[.string s] w fun e w' => e = .returned (.bool (tokS s)) ∧ Below w.heap.size w w' := by
  by_cases h : s.size = 0
  · obtain rfl : s = ByteArray.empty := by simpa using h
    go_enter Tryd.func25, Tryd.ntmps25
    go_wp2_with fail
    go_ret
    exact ⟨rfl, Below.refl _ _⟩
  · have hne : s.toList.isEmpty = false := by
      rw [ByteArray.toList_eq]; simp; intro h2; apply h; show s.data.size = 0; rw [h2]; rfl
    have hT := Lib.hid (tokS_all s (by omega))
    have hA := All_any 43 #[] #[] (fun _ c => B.tok (c.toNat : Int)) (fun _ W => W = (w.alloc (.cells #[.string s] 9)).alloc (.cells #[.bool false] 4)) ⟨w.heap.size, 0, none⟩ 1 1 [s] rfl (by omega) (by simpa using hs) (w.alloc (.cells #[.string s] 9)) enters_IsToken rfl
      (by
        rintro pre W rfl
        refine ⟨by simp [go_sem], by simp [go_sem], fun i hi => ?_⟩
        obtain rfl : i = 0 := by omega
        exact alloc2_cell _ _ _ _ _)
      (by
        rintro pre c r W - - rfl
        refine (IsToken_any (c.toNat : Int) _).mono ?_
        rintro e w' ⟨rfl, rfl⟩
        exact ⟨rfl, rfl⟩)
    have HA := Lib.hid hA
    clear hA h
    go_enter Tryd.func25, Tryd.ntmps25
    go_wp2_with fail
    refine HA.out.mono ?_
    rintro e w' ⟨W, rfl, rfl, rfl⟩
    rw [hT.out]
    go_wp2_with fail
    go_ret
    exact ⟨rfl, (((Below.refl w.heap.size w).alloc (Nat.le_refl _) _).alloc (by simp) _)⟩

end Go.Proofs.YtchhjmdbjndckaaDoor
