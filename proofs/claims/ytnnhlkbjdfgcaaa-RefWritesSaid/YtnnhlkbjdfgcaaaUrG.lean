/- pathStart, isScheme, colonsInPlace: contracts. -/
import Derived.Test.YtnnhlkbjdfgcaaaUrF
import Derived.Test.YtnnhlkbjdfgcaaaPqB
namespace Go.Proofs.Ytnnhlkbjdfgcaaa
open Go.RowKit

theorem below_drewT {B : Nat} {w w1 : World} (h : Below B w w1) (n : Nat) : Below B w (w1.drewN n) := h.trans (below_drewN _ _ _)
theorem below_allocT {w w1 : World} (h : Below w.heap.size w w1) (o : Obj) : Below w.heap.size w (w1.alloc o) := h.alloc h.size o
theorem pathStart_any (s : ByteArray) (w : World) :
    Calls Try.prog 31 #[.string s] w fun e w' => e = .returned (.int .i64 (Ur.fstN [47] s.data.toList : Int)) ∧ w' = w := by
  have HI := Lib.hid (Index_any s 47 w)
  rw [Ur.fst_index] at HI
  have hl : s.data.toList.length = s.size := by simp
  have hle := Ur.fst_le [47] s.data.toList
  rw [hl] at HI hle
  generalize Ur.fstN [47] s.data.toList = n at *
  by_cases h : n < s.size
  · rw [if_pos h] at HI
    clear hl hle
    go_enter Try.func31, Try.ntmps31
    go_wp2_with (go_at_call 50; refine HI.out.mono ?_; rintro e w1 ⟨rfl, rfl⟩)
    go_ret
    exact ⟨rfl, rfl⟩
  · obtain rfl : n = s.size := by omega
    rw [if_neg h] at HI
    clear hl hle h
    go_enter Try.func31, Try.ntmps31
    go_wp2_with (go_at_call 50; refine HI.out.mono ?_; rintro e w1 ⟨rfl, rfl⟩)
    go_ret
    exact ⟨rfl, rfl⟩
theorem enters_schB (args : Array Value) (w : World) : (callFunc 44 args).run Try.prog w = .ok (.enter 44 args) w := by
  exact enters_of Try.func44 (by kernel_rfl) rfl args w
theorem schB_any (c : UInt8) (w : World) :
    Calls Try.prog 44 #[.int .u8 (c.toNat : Int)] w fun e w' => e = .returned (.bool (Ur.schB c)) ∧ w' = w := by
  have HA := Lib.hid (fun w1 => IsAlpha_any (c.toNat : Int) w1)
  have HD := Lib.hid (fun w1 => IsDigit_any (c.toNat : Int) w1)
  have HI := Lib.hid (fun w1 => IndexByteU_any ⟨#[43, 45, 46]⟩ c w1)
  unfold Ur.schB
  rw [show ([43, 45, 46] : List UInt8) = (⟨#[43, 45, 46]⟩ : ByteArray).data.toList from rfl, ← Ur.ix_has]
  generalize B.alp (c.toNat : Int) = b1 at *
  generalize B.dig (c.toNat : Int) = b2 at *
  generalize Lib.indexByte (⟨#[43, 45, 46]⟩ : ByteArray).data.toList c = ix at *
  go_enter Try.func44, Try.ntmps44
  cases b1
  · cases b2
    all_goals
      go_wp2_with (first | (go_at_call 45; refine (HA.out _).mono ?_; rintro e w1 ⟨rfl, rfl⟩) | (go_at_call 46; refine (HD.out _).mono ?_; rintro e w1 ⟨rfl, rfl⟩) | (go_at_call 47; refine (HI.out _).mono ?_; rintro e w1 ⟨rfl, rfl⟩))
      go_ret
      exact ⟨rfl, rfl⟩
  · go_wp2_with (first | (go_at_call 45; refine (HA.out _).mono ?_; rintro e w1 ⟨rfl, rfl⟩))
    go_ret
    exact ⟨rfl, rfl⟩
namespace Ur
theorem sch_at {s : ByteArray} (h : 0 < s.size) : schL s.data.toList = (B.alp (s[0].toNat : Int) && s.data.toList.all schB) := by
  have e : s.data.toList = s[0] :: s.data.toList.drop 1 := by
    conv => lhs; rw [← List.drop_zero (l := s.data.toList), List.drop_eq_getElem_cons (by simp; omega)]
    rfl
  rw [e]
  generalize s.data.toList.drop 1 = r
  show (B.alp (s[0].toNat : Int) && r.all schB) = (B.alp (s[0].toNat : Int) && (schB s[0] && r.all schB))
  unfold schB
  cases B.alp (s[0].toNat : Int) <;> simp
end Ur
theorem isScheme_any (s : ByteArray) (w : World) (hs : s.size ≤ 1000) :
    Calls Try.prog 29 #[.string s] w fun e w' => e = .returned (.bool (Ur.schL s.data.toList)) ∧ Below w.heap.size w w' := by
  have hmf : ∀ (fn : Fn) (first cap : Array Value) (w : World), (Instr.makeFunc fn first cap).run Try.prog w = .ok (.func fn first cap) w := fun _ _ _ _ => rfl
  by_cases h0 : s.size = 0
  · obtain rfl : s = ByteArray.empty := by simpa using h0
    go_enter Try.func29, Try.ntmps29
    go_wp2_with fail
    go_ret
    exact ⟨rfl, Below.refl _ _⟩
  · have h0' : 0 < s.size := by omega
    have h3 : (0 : Int) < s.size := by omega
    have hne : s.toList.isEmpty = false := by
      rw [ByteArray.toList_eq]; simp; intro h2; apply h0; show s.data.size = 0; rw [h2]; rfl
    rw [Ur.sch_at h0']
    have HA := Lib.hid (fun w1 => IsAlpha_any (s[0].toNat : Int) w1)
    have HB := Lib.hid (fun w1 => All1_any 44 #[] Ur.schB w1.heap.size s w1 (Nat.le_refl _) hs enters_schB fun c W _ => (schB_any c W).mono fun e w' ⟨he, hw⟩ => ⟨he, by rw [hw]; exact Below.refl _ _⟩)
    generalize B.alp (s[0].toNat : Int) = b1 at *
    generalize s.data.toList.all Ur.schB = b2 at *
    go_enter Try.func29, Try.ntmps29
    cases b1
    · go_wp2_with (first | (go_at_call 45; refine (HA.out _).mono ?_; rintro e w1 ⟨rfl, rfl⟩))
      go_ret
      exact ⟨rfl, Below.refl _ _⟩
    · go_wp2_with (first | (go_at_call 45; refine (HA.out _).mono ?_; rintro e w1 ⟨rfl, rfl⟩) | (go_at_call 48; refine (HB.out _).mono ?_; rintro e w2 ⟨rfl, hb2⟩))
      go_ret
      exact ⟨rfl, hb2⟩
theorem colons_any (A B C D E : ByteArray) (x y z : Bool) (w : World) (h2 : C.size ≤ 1000) (hm : MaxL w) :
    Calls Try.prog 19 #[rF A B C D E x y z] w fun e w' => e = .returned (.bool (!A.data.toList.isEmpty || !(C.data.toList.take (Ur.fstN [47] C.data.toList)).contains 58)) ∧ Below w.heap.size w w' := by
  have hb0 : ∀ o, Below w.heap.size w (w.alloc o) := fun o => (Below.refl _ _).alloc (Nat.le_refl _) _
  have HC := Lib.hid (fun w1 (h : Below w.heap.size w w1) => Cut1_any C 47 w1 (by omega) (hm.stay h))
  generalize C.data.toList.take (Ur.fstN [47] C.data.toList) = P at *
  have HX := Lib.hid (fun w1 => Contains_any ⟨P.toArray⟩ 58 w1)
  rw [show (⟨P.toArray⟩ : ByteArray).data.toList = P by simp] at HX
  generalize P.contains 58 = b at *
  generalize (⟨P.toArray⟩ : ByteArray) = Q at *
  have HB0 := Lib.hid hb0
  clear hb0 hm h2
  unfold rF
  rw [← ByteArray.toList_eq]
  obtain ⟨a, ha⟩ : ∃ a, A.toList.isEmpty = a := ⟨_, rfl⟩
  rw [ha]
  go_enter Try.func19, Try.ntmps19
  cases a
  · go_wp2_with (first | (go_at_call 28; refine (HC.out _ (HB0.out _)).mono ?_; rintro e w1 ⟨rfl, n1, rfl⟩))
    go_ret
    exact ⟨rfl, (HB0.out _).trans (below_drewN _ _ _)⟩
  · go_wp2_with (first | (go_at_call 28; refine (HC.out _ (HB0.out _)).mono ?_; rintro e w1 ⟨rfl, n1, rfl⟩) | (go_at_call 35; refine (HX.out _).mono ?_; rintro e w2 ⟨rfl, rfl⟩))
    go_ret
    exact ⟨rfl, (HB0.out _).trans (below_drewN _ _ _)⟩
end Go.Proofs.Ytnnhlkbjdfgcaaa
