/- Swap: contract. -/
import Derived.Test.YtnnhlkbjdfgcaaaUrL
import Derived.Test.YtnnhlkbjdfgcaaaPairA
namespace Go.Proofs.Ytnnhlkbjdfgcaaa
open Go.RowKit
namespace Ur
def pl (p : Pair) : List UInt8 × List UInt8 := (p.1.data.toList, p.2.data.toList)
theorem swap_yes {s : List UInt8} {p : List UInt8 × List UInt8} {r : List (List UInt8 × List UInt8)} (h : (behL p.1 s).2 = true) : swapL s (p :: r) = some (p.2 ++ (behL p.1 s).1) := by rw [swapL, if_pos h]
theorem swap_no {s : List UInt8} {p : List UInt8 × List UInt8} {r : List (List UInt8 × List UInt8)} (h : (behL p.1 s).2 = false) : swapL s (p :: r) = swapL s r := by rw [swapL, if_neg (by rw [h]; decide)]
theorem beh_le (f s : List UInt8) : (behL f s).1.length ≤ s.length := by
  unfold behL
  split
  · exact Nat.zero_le _
  · rw [List.length_drop]; omega
end Ur
/-- What Swap answers. -/
def swV (s : ByteArray) (o : Option (List UInt8)) : Value := match o with
  | some l => .tuple #[.string ⟨l.toArray⟩, .bool true]
  | none => .tuple #[.string s, .bool false]
theorem bhV_of {f s : List UInt8} {T : ByteArray} {b : Bool} (h : (Ur.behL f s).1 = T.data.toList) (h2 : (Ur.behL f s).2 = b) : bhV (Ur.behL f s) = .tuple #[.string T, .bool b] := by
  unfold bhV
  rw [h, h2, mkB rfl]
set_option maxHeartbeats 800000 in
theorem USwap_any (s : ByteArray) (a : Option Addr) (len cp : Nat) (l : List Pair) (w : World) (hz : IsParams w a len l) (hs : s.size ≤ 1000) (hl : ∀ p ∈ l, p.1.size ≤ 1000 ∧ p.2.size ≤ 1000) :
    Calls Try.prog 15 #[.string s, .slice a len cp] w fun e w' => e = .returned (swV s (Ur.swapL s.data.toList (l.map Ur.pl))) ∧ Below w.heap.size w w' := by
  have hsm := hz.small
  have HZ := Lib.hid hz
  have HL := Lib.hid hl
  obtain ⟨Z, hZ⟩ : ∃ Z, Ur.swapL s.data.toList (l.map Ur.pl) = Z := ⟨_, rfl⟩
  rw [hZ]
  clear hz hl
  go_enter Try.func15, Try.ntmps15
  go_wp2_with fail
  go_loopw [12] (fun i wr => ∃ k : Nat, k ≤ len ∧ i = .int .i64 k ∧ Ur.swapL s.data.toList ((l.drop k).map Ur.pl) = Z ∧ Hid (Below w.heap.size w wr)) (fun i _ => len - (intOf i).toNat)
  case atStart => exact ⟨0, Nat.zero_le _, rfl, hZ, Below.refl _ _⟩
  case round =>
    clear hZ
    obtain ⟨k, hk, rfl, hv, HB⟩ := hrel
    by_cases hlt : k < len
    · rcases (HZ.out.below HB.out).2 with ⟨rfl, rfl⟩ | ⟨x, rfl, hxl, hcells⟩
      · omega
      obtain ⟨d0, d1⟩ := hcells k hlt
      have hkl : k < l.length := by rw [HZ.out.1]; exact hlt
      obtain ⟨z0, z1⟩ := HL.out _ (at_mem l k hkl)
      rw [at_drop l k hkl, List.map_cons] at hv
      clear hcells
      generalize at_ l k = p at *
      obtain ⟨F, T⟩ := p
      have HX := Lib.hid (fun w1 => behind_any F s w1 z0 hs)
      have hbl := Ur.beh_le F.data.toList s.data.toList
      obtain ⟨R, hR, zR⟩ := cutB (Ur.behL F.data.toList s.data.toList).1 (by rw [Array.length_toList] at hbl; exact Nat.le_trans hbl hs)
      obtain ⟨b, hb⟩ : ∃ b, (Ur.behL F.data.toList s.data.toList).2 = b := ⟨_, rfl⟩
      rw [bhV_of hR.symm hb] at HX
      change Ur.swapL s.data.toList ((F.data.toList, T.data.toList) :: _) = Z at hv
      cases b
      · rw [Ur.swap_no hb] at hv
        have HV := Lib.hid hv
        clear hb hR hbl hv
        go_wp2_with (go_at_call 26; refine (HX.out _).mono ?_; rintro e w1 ⟨rfl, rfl⟩)
        exact ⟨⟨k + 1, by omega, by go_num, HV.out, below_allocT HB.out _⟩, by simp [intOf]; omega⟩
      · rw [Ur.swap_yes hb, ← hR] at hv
        have HV := Lib.hid hv
        clear hb hR hbl hv
        go_wp2_with (go_at_call 26; refine (HX.out _).mono ?_; rintro e w1 ⟨rfl, rfl⟩)
        go_ret2
        refine ⟨?_, below_allocT HB.out _⟩
        rw [← HV.out]
        show _ = Ending.returned (.tuple #[.string ⟨(T.data.toList ++ R.data.toList).toArray⟩, .bool true])
        rw [mkB (list_append T R)]
        rfl
    · obtain rfl : k = len := by omega
      rw [List.drop_of_length_le (by rw [HZ.out.1]; exact Nat.le_refl _)] at hv
      have HV := Lib.hid hv
      clear hv
      go_wp2_with fail
      go_ret2
      refine ⟨?_, HB.out⟩
      rw [← HV.out]
      rfl
end Go.Proofs.Ytnnhlkbjdfgcaaa
