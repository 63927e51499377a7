/- Any deed of the law; the page's example: contracts. -/
import Derived.Test.YtahbcaafdnbcfaaScanH
import Derived.Test.YtahbcaafdnbcfaaScanI
import Derived.Test.YtahbcaafdnbcfaaScanJ
import Derived.Test.YtahbcaafdnbcfaaScanK
import Derived.Test.YtahbcaafdnbcfaaScanL
namespace Go.Proofs.Ytahbcaafdnbcfaa
open Go.RowKit

theorem do_any (v : Value) (s : ByteArray) (k : Nat) (x : ByteArray) (n kind : Int) (w : World) (h : IsScan v s k w) (hs : s.size ≤ 100000) (hx : x.size ≤ maxLen) (hn0 : 0 ≤ kind) (hn1 : kind ≤ 255) :
    Calls Try.prog 8 #[v, scanV s k, .agg #[.int .u8 kind, .string x, .int .i64 n]] w (Done v s w) := by
  have hc : kind % 8 = 0 ∨ kind % 8 = 1 ∨ kind % 8 = 2 ∨ kind % 8 = 3 ∨ kind % 8 = 4 ∨ kind % 8 = 5 ∨ kind % 8 = 6 ∨ kind % 8 = 7 := by omega
  rcases hc with hk | hk | hk | hk | hk | hk | hk | hk
  · exact do_0 v s k x n kind w h hs hx hn0 hn1 hk
  · exact do_1 v s k x n kind w h hs hx hn0 hn1 hk
  · exact do_2 v s k x n kind w h hs hx hn0 hn1 hk
  · exact do_3 v s k x n kind w h hs hx hn0 hn1 hk
  · exact do_4 v s k x n kind w h hs hx hn0 hn1 hk
  · exact do_5 v s k x n kind w h hs hx hn0 hn1 hk
  · exact do_6 v s k x n kind w h hs hx hn0 hn1 hk
  · exact do_7 v s k x n kind w h hs hx hn0 hn1 hk

def exS : ByteArray := ⟨#[97, 49, 32, 61, 98]⟩
set_option maxHeartbeats 1000000 in
theorem awake2_any (w : World) : Calls Try.prog 6 #[] w fun e w' => e = .returned (.bool true) ∧ Below w.heap.size w w' := by
  have a1 : runLen B.tok exS 0 = 2 := by decide +kernel
  have a2 : exS.extract 0 (0 + 2) = ⟨#[97, 49]⟩ := by decide +kernel
  have a3 : runLen B.bla exS 2 = 1 := by decide +kernel
  have a4 : exS.extract 2 (2 + 1) = ⟨#[32]⟩ := by decide +kernel
  have a5 : (3 < exS.size ∧ byteAt exS 3 = 61) := by decide +kernel
  have a6 : restS exS 4 = ⟨#[98]⟩ := by decide +kernel
  have hz : exS.size ≤ 100000 := by decide +kernel
  have hm : exS.size ≤ maxLen := by decide +kernel
  have H1 := Lib.hid a1
  have H2 := Lib.hid a2
  have H3 := Lib.hid a3
  have H4 := Lib.hid a4
  have H5 := Lib.hid a5
  have H6 := Lib.hid a6
  have HZ := Lib.hid hz
  have HM := Lib.hid hm
  clear a1 a2 a3 a4 a5 a6 hz hm
  go_enter Try.func6, Try.ntmps6
  go_wp2_with fail
  refine (New_any exS _).mono ?_
  rintro e w1 ⟨rfl, rfl⟩
  have hsc := Lib.hid (scn_new exS w)
  go_wp2_with fail
  refine (Token_some _ exS 0 _ hsc.out HZ.out).mono ?_
  rintro e w2 ⟨rfl, hs2, hk2⟩
  rw [H1.out, H2.out]
  rw [H1.out] at hs2
  have HS2 := Lib.hid hs2
  clear hs2
  go_wp2_with fail
  refine (Blanks_some _ exS 2 _ HS2.out HZ.out).mono ?_
  rintro e w3 ⟨rfl, hs3, hk3⟩
  rw [H3.out, H4.out]
  rw [H3.out] at hs3
  have HS3 := Lib.hid hs3
  clear hs3
  go_wp2_with fail
  refine (Byte_some _ exS 3 61 _ HS3.out HM.out).mono ?_
  rintro e w4 ⟨rfl, hs4, hk4⟩
  rw [decide_eq_true H5.out]
  rw [if_pos H5.out] at hs4
  have HS4 := Lib.hid hs4
  clear hs4
  go_wp2_with fail
  refine (Rest_some _ exS 4 _ HS4.out).mono ?_
  rintro e w5 ⟨rfl, nq, rfl⟩
  rw [H6.out]
  go_wp2_with fail
  refine (At_some _ exS 4 _ (HS4.out.drewN nq)).mono ?_
  rintro e w6 ⟨rfl, rfl⟩
  go_wp2_with fail
  go_ret
  have hK : Kept (· = w.heap.size) (w.alloc (.cells #[.string exS, .int .i64 0] 42)) (w4.drewN nq) := ((hk2.trans hk3).trans hk4).drewN nq
  exact ⟨rfl, ((Below.refl _ _).alloc (Nat.le_refl _) _).trans (((hK.mono (Q := fun j => w.heap.size ≤ j) fun j _ hj => by subst hj; exact Nat.le_refl _)).below (by simp))⟩
end Go.Proofs.Ytahbcaafdnbcfaa
