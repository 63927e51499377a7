/- Token by All, and the page's examples: contracts. -/
import Derived.Test.YtddobbgpfdoamaaOctD
namespace Go.Proofs.Ytddobbgpfdoamaa
open Go.RowKit

theorem enters_IsToken (args : Array Value) (w : World) : (callFunc 17 args).run Try.prog w = .ok (.enter 17 args) w := by
  exact enters_of Try.func17 (by kernel_rfl) rfl args w
theorem tokS_all (s : ByteArray) (h : 0 < s.size) : (asks (fun _ c => B.tok (c.toNat : Int)) [] (flat [s])).1 = tokS s := by
  rw [asks_pure]; unfold tokS flat; simp [h]
theorem alloc2_cell (w : World) (o : Value) (v : Value) (t u : TypeId) : ((w.alloc (.cells #[o] t)).alloc (.cells #[v] u)).cell? ⟨w.heap.size, 0, none⟩ = some o := by
  simp [go_sem]
set_option maxHeartbeats 400000 in
theorem Token_any (s : ByteArray) (w : World) (hs : s.size ≤ 100000) :
    Calls Try.prog 32 #[.string s] w fun e w' => e = .returned (.bool (tokS s)) ∧ Below w.heap.size w w' := by
  by_cases h : s.size = 0
  · obtain rfl : s = ByteArray.empty := by simpa using h
    go_enter Try.func32, Try.ntmps32
    go_wp2_with fail
    go_ret
    exact ⟨rfl, Below.refl _ _⟩
  · have hne : s.toList.isEmpty = false := by
      rw [ByteArray.toList_eq]; simp; intro h2; apply h; show s.data.size = 0; rw [h2]; rfl
    have hT := Lib.hid (tokS_all s (by omega))
    have hA := All_any 17 #[] #[] (fun _ c => B.tok (c.toNat : Int)) (fun _ W => W = (w.alloc (.cells #[.string s] 9)).alloc (.cells #[.bool false] 4)) ⟨w.heap.size, 0, none⟩ 1 1 [s] rfl (by omega) (by simpa using hs) (w.alloc (.cells #[.string s] 9)) enters_IsToken rfl
      (by
        rintro pre W rfl
        refine ⟨by simp [go_sem], by simp [go_sem], fun i hi => ?_⟩
        obtain rfl : i = 0 := by omega
        exact alloc2_cell _ _ _ _ _)
      (by
        rintro pre c r W - rfl
        refine (IsToken_any (c.toNat : Int) _).mono ?_
        rintro e w' ⟨rfl, rfl⟩
        exact ⟨rfl, rfl⟩)
    have HA := Lib.hid hA
    clear hA h
    go_enter Try.func32, Try.ntmps32
    go_wp2_with fail
    refine HA.out.mono ?_
    rintro e w' ⟨W, rfl, rfl, rfl⟩
    rw [hT.out]
    go_wp2_with fail
    go_ret
    exact ⟨rfl, (((Below.refl w.heap.size w).alloc (Nat.le_refl _) _).alloc (by simp) _)⟩

theorem awake_any (w : World) : Calls Try.prog 6 #[] w fun e w' => e = .returned (.bool true) ∧ Below w.heap.size w w' := by
  have e1 : sameS ⟨#[72, 111, 115, 116]⟩ ⟨#[104, 79, 83, 84]⟩ = true := by decide +kernel
  have e2 : tokS ⟨#[88, 45, 65]⟩ = true := by decide +kernel
  have e3 : tokS ⟨#[]⟩ = false := by decide +kernel
  have e4 : B.bla 9 = true := by decide +kernel
  have H1 := Lib.hid e1
  have H2 := Lib.hid e2
  have H3 := Lib.hid e3
  have H4 := Lib.hid e4
  clear e1 e2 e3 e4
  go_enter Try.func6, Try.ntmps6
  go_wp2_with fail
  refine (Same_any _ _ _ (by decide) (by decide)).mono ?_
  rintro e w1 ⟨rfl, hb1⟩
  rw [H1.out]
  go_wp2_with fail
  refine (Token_any _ _ (by decide)).mono ?_
  rintro e w2 ⟨rfl, hb2⟩
  rw [H2.out]
  go_wp2_with fail
  refine (Token_any _ _ (by decide)).mono ?_
  rintro e w3 ⟨rfl, hb3⟩
  rw [H3.out]
  go_wp2_with fail
  refine (IsBlank_any _ _).mono ?_
  rintro e w4 ⟨rfl, rfl⟩
  rw [H4.out]
  go_wp2_with fail
  go_ret
  exact ⟨rfl, (hb1.trans (hb2.mono hb1.size)).trans (hb3.mono (Nat.le_trans hb1.size hb2.size))⟩
end Go.Proofs.Ytddobbgpfdoamaa
