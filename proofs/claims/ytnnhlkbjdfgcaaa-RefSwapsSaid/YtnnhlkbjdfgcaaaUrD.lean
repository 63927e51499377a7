/- isOf, over any class of bytes that holds each hexadecimal digit: its contract. -/
import Derived.Test.YtnnhlkbjdfgcaaaUrC
namespace Go.Proofs.Ytnnhlkbjdfgcaaa
open Go.RowKit
namespace Ur
def lenV : Value → Nat
  | .string s => s.size
  | _ => 0
def flagV : Value → Nat
  | .bool true => 1
  | _ => 0
/-- Where isOf stands. -/
structure OnC (p : UInt8 → Bool) (Z : Bool) (P Q : ByteArray) (es : Bool) : Prop where
  free : (37 : UInt8) ∉ P.data.toList
  val : okC p (curL P.data.toList Q.data.toList es) = Z
  sp : P.size ≤ 1000
  sq : Q.size ≤ 1000
theorem onC_cut (p : UInt8 → Bool) (Z : Bool) (s : ByteArray) (hs : s.size ≤ 1000) (h : okC p s.data.toList = Z) : OnC p Z ⟨(s.data.toList.take (fstN [37] s.data.toList)).toArray⟩ ⟨(s.data.toList.drop (fstN [37] s.data.toList + 1)).toArray⟩ (decide (fstN [37] s.data.toList < s.size)) := by
  have hl : s.data.toList.length = s.size := by simp
  refine ⟨?_, ?_, ?_, ?_⟩
  · show 37 ∉ (s.data.toList.take _).toArray.toList
    rw [List.toList_toArray]; exact cut_free _ _
  · show okC p (curL (s.data.toList.take _).toArray.toList (s.data.toList.drop _).toArray.toList _) = Z
    rw [List.toList_toArray, List.toList_toArray, ← hl, cur_cut, h]
  · show (s.data.toList.take _).toArray.size ≤ 1000
    rw [List.size_toArray, List.length_take]; omega
  · show (s.data.toList.drop _).toArray.size ≤ 1000
    rw [List.size_toArray, List.length_drop]; omega
theorem cut_less (s : ByteArray) : (⟨(s.data.toList.drop (fstN [37] s.data.toList + 1)).toArray⟩ : ByteArray).size + flagV (.bool (decide (fstN [37] s.data.toList < s.size))) < s.size + 1 := by
  have hl : s.data.toList.length = s.size := by simp
  have e : (⟨(s.data.toList.drop (fstN [37] s.data.toList + 1)).toArray⟩ : ByteArray).size = s.size - (fstN [37] s.data.toList + 1) := by
    show (s.data.toList.drop _).toArray.size = _
    rw [List.size_toArray, List.length_drop, hl]
  rw [e]
  by_cases h : fstN [37] s.data.toList < s.size
  · rw [decide_eq_true h]; show _ + 1 < _; omega
  · rw [decide_eq_false h]; show _ + 0 < _; omega
end Ur
set_option maxHeartbeats 1600000 in
theorem isOfU_any (g : Nat) (cap : Array Value) (p : UInt8 → Bool) (N : Nat) (s : ByteArray) (w : World) (hN : N ≤ w.heap.size) (hs : s.size ≤ 1000) (hm : MaxL w) (hp : ∀ c, Hp.hx c = true → p c = true)
    (eg : ∀ args w, (callFunc g args).run Try.prog w = .ok (.enter g args) w)
    (hcall : ∀ (c : UInt8) W, Below N w W → Calls Try.prog g (#[] ++ #[.int .u8 (c.toNat : Int)] ++ cap) W fun e W' => e = .returned (.bool (p c)) ∧ Below W.heap.size W W') :
    Calls Try.prog 34 #[.func (.func g) #[] cap, .string s] w fun e w' => e = .returned (.bool (Ur.okC p s.data.toList)) ∧ Below w.heap.size w w' := by
  have HC := Lib.hid (fun (t : ByteArray) (ht : t.size ≤ 1000) w1 (h : Below w.heap.size w w1) => Cut1_any t 37 w1 (by omega) (hm.stay h))
  have HA := Lib.hid (fun (t : ByteArray) (ht : t.size ≤ 1000) w1 (h : Below w.heap.size w w1) => All1_any g cap p N t w1 (Nat.le_trans hN h.size) ht eg fun c W hW => hcall c W ((h.mono hN).trans hW))
  obtain ⟨Z, hZ⟩ : ∃ Z, Ur.okC p s.data.toList = Z := ⟨_, rfl⟩
  rw [hZ]
  clear hm hcall hN
  go_enter Try.func34, Try.ntmps34
  go_wp2_with (go_at_call 28; refine (HC.out s hs _ (Below.refl _ _)).mono ?_; rintro e w1 ⟨rfl, n1, rfl⟩)
  go_loopw [5, 6, 7] (fun a b c wr => ∃ (P Q : ByteArray) (es : Bool), a = .string P ∧ b = .string Q ∧ c = .bool es ∧ Ur.OnC p Z P Q es ∧ Below w.heap.size w wr) (fun _ b c _ => Ur.lenV b + Ur.flagV c)
  case atStart => exact ⟨_, _, _, rfl, rfl, rfl, Ur.onC_cut p Z s hs hZ, below_drewN _ _ _⟩
  case round =>
    clear hZ
    obtain ⟨P, Q, es, rfl, rfl, rfl, ho, hb⟩ := hrel
    have HB := Lib.hid hb
    have HO := Lib.hid ho
    clear hb ho
    cases es
    · have hz := HO.out.val
      rw [Ur.cur_stop HO.out.free] at hz
      have HA1 := Lib.hid (HA.out P HO.out.sp _ HB.out)
      generalize P.data.toList.all p = b1 at *
      have HZ := Lib.hid hz
      clear hz
      go_wp2_with (go_at_call 48; refine HA1.out.mono ?_; rintro e w2 ⟨rfl, hb2⟩)
      go_ret
      exact ⟨ret_bool HZ.out, HB.out.trans (hb2.mono HB.out.size)⟩
    · have hz := HO.out.val
      rw [Ur.cur_go hp HO.out.free] at hz
      have HA1 := Lib.hid (HA.out P HO.out.sp _ HB.out)
      have HD := Lib.hid (fun w1 => digs_any Q w1 HO.out.sq)
      generalize P.data.toList.all p = b1 at *
      cases b1
      · have HZ := Lib.hid (show Z = false by simpa using hz.symm)
        clear hz
        go_wp2_with (go_at_call 48; refine HA1.out.mono ?_; rintro e w2 ⟨rfl, hb2⟩)
        go_ret
        exact ⟨ret_bool HZ.out.symm, HB.out.trans (hb2.mono HB.out.size)⟩
      · obtain ⟨b2, hb2⟩ : ∃ b2, Ur.digs Q.data.toList = b2 := ⟨_, rfl⟩
        rw [hb2] at HD hz
        clear hb2
        cases b2
        · have HZ := Lib.hid (show Z = false by simpa using hz.symm)
          clear hz
          go_wp2_with (first | (go_at_call 48; refine HA1.out.mono ?_; rintro e w2 ⟨rfl, hb2⟩) | (go_at_call 53; refine (HD.out _).mono ?_; rintro e w3 ⟨rfl, hb3⟩))
          go_ret
          exact ⟨ret_bool HZ.out.symm, HB.out.trans ((hb2.trans (hb3.mono hb2.size)).mono HB.out.size)⟩
        · have HZ := Lib.hid (show Ur.okC p Q.data.toList = Z by simpa using hz)
          clear hz
          go_wp2_with (first | (go_at_call 48; refine HA1.out.mono ?_; rintro e w2 ⟨rfl, hb2⟩) | (go_at_call 53; refine (HD.out _).mono ?_; rintro e w3 ⟨rfl, hb3⟩; have HB3 := Lib.hid (HB.out.trans ((hb2.trans (hb3.mono hb2.size)).mono HB.out.size)); clear hb2 hb3) | (go_at_call 28; refine (HC.out Q HO.out.sq _ HB3.out).mono ?_; rintro e w4 ⟨rfl, n4, rfl⟩))
          go_roundw
          case rel => exact ⟨_, _, _, rfl, rfl, rfl, Ur.onC_cut p Z Q HO.out.sq HZ.out, HB3.out.trans (below_drewN _ _ _)⟩
          case measure => exact Ur.cut_less Q
end Go.Proofs.Ytnnhlkbjdfgcaaa
