/- Classes of bytes as function values; All of one text; isOf: contracts. -/
import Derived.Test.YtnnhlkbjdfgcaaaUrB
import Derived.Test.YtnnhlkbjdfgcaaaOctD
import Derived.Deep.RegionHeld3
import Derived.Deep.RegionWith
namespace Go.Proofs.Ytnnhlkbjdfgcaaa
open Go.RowKit

namespace Ur
theorem ix_has (l : List UInt8) (c : UInt8) : decide (0 ≤ Lib.indexByte l c) = l.contains c := by
  rw [Lib.contains_iff_indexByte]
end Ur
theorem pathsAnd_any (m : ByteArray) (w : World) :
    Calls Try.prog 32 #[.string m] w fun e w' => e = .returned (.func (.func 51) #[] #[.pointer (some ⟨w.heap.size, 0, none⟩)]) ∧ w' = w.alloc (.cells #[.string m] 9) := by
  have hmf : ∀ (fn : Fn) (first cap : Array Value) (w : World), (Instr.makeFunc fn first cap).run Try.prog w = .ok (.func fn first cap) w := fun _ _ _ _ => rfl
  go_enter Try.func32, Try.ntmps32
  go_wp2_with fail
  go_ret
  exact ⟨rfl, rfl⟩
theorem inPaths_any (m : ByteArray) (c : UInt8) (b : Nat) (w : World) (h : w.cell? ⟨b, 0, none⟩ = some (.string m)) :
    Calls Try.prog 51 #[.int .u8 (c.toNat : Int), .pointer (some ⟨b, 0, none⟩)] w fun e w' => e = .returned (.bool (Pq.pb c || m.data.toList.contains c)) ∧ w' = w := by
  have HP := Lib.hid (fun w1 => IsPath_any (c.toNat : Int) w1)
  have HI := Lib.hid (fun w1 => IndexByteU_any m c w1)
  rw [← Ur.ix_has]
  change Calls _ _ _ _ fun e w' => e = .returned (.bool (B.pat (c.toNat : Int) || _)) ∧ _
  generalize B.pat (c.toNat : Int) = b1 at *
  generalize Lib.indexByte m.data.toList c = ix at *
  go_enter Try.func51, Try.ntmps51
  cases b1
  · go_wp2_with (first | (go_at_call 52; refine (HP.out _).mono ?_; rintro e w1 ⟨rfl, rfl⟩) | (go_at_call 47; refine (HI.out _).mono ?_; rintro e w1 ⟨rfl, rfl⟩))
    go_ret
    exact ⟨rfl, rfl⟩
  · go_wp2_with (first | (go_at_call 52; refine (HP.out _).mono ?_; rintro e w1 ⟨rfl, rfl⟩) | (go_at_call 47; refine (HI.out _).mono ?_; rintro e w1 ⟨rfl, rfl⟩))
    go_ret
    exact ⟨rfl, rfl⟩
/-- octet's All over one text, of any class that is told without turning what lies below. -/
theorem All1_any (g : Nat) (cap : Array Value) (p : UInt8 → Bool) (N : Nat) (t : ByteArray) (w : World) (hN : N ≤ w.heap.size) (hs : t.size ≤ 1000)
    (eg : ∀ args w, (callFunc g args).run Try.prog w = .ok (.enter g args) w)
    (hcall : ∀ (c : UInt8) W, Below N w W → Calls Try.prog g (#[] ++ #[.int .u8 (c.toNat : Int)] ++ cap) W fun e W' => e = .returned (.bool (p c)) ∧ Below W.heap.size W W') :
    Calls Try.prog 48 #[.func (.func g) #[] cap, .slice (some ⟨w.heap.size, 0, none⟩) 1 1] (w.alloc (.cells #[.string t] 9)) fun e w' => e = .returned (.bool (t.data.toList.all p)) ∧ Below w.heap.size w w' := by
  have hfl : (asks (fun _ c => p c) [] (flat [t])).1 = t.data.toList.all p := by rw [asks_pure]; unfold flat; simp
  have hb2 : Below w.heap.size w ((w.alloc (.cells #[.string t] 9)).alloc (.cells #[.bool false] 4)) := (by repeat (first | with_reducible exact Below.refl _ _ | with_reducible assumption | (with_reducible refine Below.setCell ?_ ?_ _; rotate_left; · (simp <;> omega)) | (with_reducible refine Below.alloc ?_ ?_ _; rotate_left; · (simp <;> omega)) | with_reducible refine Below.drew ?_))
  have hA := All_any g #[] cap (fun _ c => p c) (fun _ W => Below (w.heap.size + 2) ((w.alloc (.cells #[.string t] 9)).alloc (.cells #[.bool false] 4)) W) ⟨w.heap.size, 0, none⟩ 1 1 [t] rfl (by omega) (by simpa using (by omega : t.size ≤ 100000)) (w.alloc (.cells #[.string t] 9)) eg (Below.refl _ _)
    (by
      intro pre W hW
      refine ⟨?_, ?_, fun i hi => ?_⟩
      · rw [hW.cell (p := ⟨_, 0, none⟩) (by simp)]; simp [go_sem]
      · rw [hW.frozen (p := ⟨_, 0, none⟩) (by simp)]; simp [go_sem]
      · obtain rfl : i = 0 := by omega
        have e0 : (⟨w.heap.size, 0, none⟩ : Addr).add 0 = ⟨w.heap.size, 0, none⟩ := by simp [Addr.add]
        rw [e0, hW.cell (p := ⟨_, 0, none⟩) (by simp)]
        exact alloc2_cell _ _ _ _ _)
    (by
      intro pre c r W _ _ hW
      have h1 : Below w.heap.size w W := hb2.trans (hW.mono (by omega))
      refine (hcall c W (h1.mono hN)).mono ?_
      rintro e W' ⟨rfl, hb⟩
      refine ⟨rfl, hW.trans (hb.mono ?_)⟩
      have := hW.size
      simpa using this)
  rw [hfl] at hA
  refine hA.mono ?_
  rintro e w' ⟨W, rfl, hW, rfl⟩
  refine ⟨rfl, ?_⟩
  have h1 : Below w.heap.size w W := hb2.trans (hW.mono (by omega))
  exact h1.setCell (by simp) _
theorem enters_IsHexU (args : Array Value) (w : World) : (callFunc 66 args).run Try.prog w = .ok (.enter 66 args) w := by
  exact enters_of Try.func66 (by kernel_rfl) rfl args w
theorem AllHexU_any (t : ByteArray) (w : World) (hs : t.size ≤ 1000) :
    Calls Try.prog 48 #[.func (.func 66) #[] #[], .slice (some ⟨w.heap.size, 0, none⟩) 1 1] (w.alloc (.cells #[.string t] 9)) fun e w' => e = .returned (.bool (t.data.toList.all Hp.hx)) ∧ Below w.heap.size w w' :=
  All1_any 66 #[] Hp.hx w.heap.size t w (Nat.le_refl _) hs enters_IsHexU fun c W _ => by
    have := B.toNat_le c
    refine (IsHex_any (c.toNat : Int) W (by omega) (by omega)).mono ?_
    rintro e w' ⟨rfl, rfl⟩
    exact ⟨rfl, Below.refl _ _⟩
namespace Ur
theorem digs_yes {s : ByteArray} (h : 2 ≤ s.size) : digs s.data.toList = (s.extract 0 2).data.toList.all Hp.hx := by
  unfold digs
  rw [decide_eq_true (by rw [Array.length_toList]; exact h), Bool.true_and, Hp.ext_start]
theorem digs_no {s : ByteArray} (h : ¬ 2 ≤ s.size) : digs s.data.toList = false := by
  unfold digs
  rw [decide_eq_false (by rw [Array.length_toList]; exact h)]; rfl
end Ur
theorem digs_any (s : ByteArray) (w : World) (hs : s.size ≤ 1000) :
    Calls Try.prog 53 #[.string s] w fun e w' => e = .returned (.bool (Ur.digs s.data.toList)) ∧ Below w.heap.size w w' := by
  by_cases h : 2 ≤ s.size
  · rw [Ur.digs_yes h]
    have HA := Lib.hid (AllHexU_any (s.extract 0 2) w (by simp [ByteArray.size_extract]; omega))
    obtain ⟨t, ht⟩ : ∃ t, s.extract 0 2 = t := ⟨_, rfl⟩
    rw [ht] at HA ⊢
    generalize t.data.toList.all Hp.hx = b at *
    have h2 : (2 : Int) ≤ s.size := by omega
    go_enter Try.func53, Try.ntmps53
    go_wp2_with (go_at_call 48; refine HA.out.mono ?_; rintro e w1 ⟨rfl, hb1⟩)
    go_ret
    exact ⟨rfl, by assumption⟩
  · rw [Ur.digs_no h]
    have h2 : ¬ (2 : Int) ≤ s.size := by omega
    go_enter Try.func53, Try.ntmps53
    go_wp2_with fail
    go_ret
    exact ⟨rfl, Below.refl _ _⟩
end Go.Proofs.Ytnnhlkbjdfgcaaa
