/- Contracts and lemmas that the claim rests on: HoR. -/
import Derived.Test.YtnpbnlphmngbdaaGreatDoorGHoQ
/- The document's Six: its contract. -/
namespace Go.Proofs.YtnpbnlphmngbdaaGreatDoor
open Go.RowKit

namespace Hp
theorem dc_hit {s : ByteArray} {k : Nat} (h : k + 1 < s.size) (h1 : s[k] = 58) (h2 : s[k + 1] = 58) : dc2 (s.data.toList.drop k) = some ([], s.data.toList.drop (k + 2)) := by
  rw [drop_at s k (by omega), drop_at s (k + 1) h, dc2_cons, if_pos ⟨h1, by rw [List.head?_cons, h2]⟩]; rfl
theorem dc_miss {s : ByteArray} {k : Nat} (h : k + 1 < s.size) (h1 : ¬ (s[k] = 58 ∧ s[k + 1] = 58)) (f : Option (List UInt8 × List UInt8))
    (hf : f = (dc2 (s.data.toList.drop k)).map fun p => (s.data.toList.take k ++ p.1, p.2)) : f = (dc2 (s.data.toList.drop (k + 1))).map fun p => (s.data.toList.take (k + 1) ++ p.1, p.2) := by
  rw [hf, drop_at s k (by omega), dc2_cons, if_neg (by rw [drop_at s (k + 1) h, List.head?_cons]; simpa using h1), Option.map_map]
  congr 1
  funext p
  simp only [Function.comp, Prod.mk.injEq, and_true]
  rw [B.take_snocB s k (by omega)]
  simp
theorem dc_end {s : ByteArray} {k : Nat} (h : s.size ≤ k + 1) : dc2 (s.data.toList.drop k) = none := by
  have hl : (s.data.toList.drop k).length ≤ 1 := by simp; omega
  match hd : s.data.toList.drop k, hl with
  | [], _ => rw [dc2]
  | [c], _ => rw [dc2_cons, if_neg (by simp), dc2]; rfl
theorem zeros_len (a : List UInt8) : ∀ n, (zeros a n).length ≤ a.length + 2 * n
  | 0 => by unfold zeros; omega
  | n + 1 => by
    have ih := zeros_len a n
    unfold zeros
    split <;> simp only [List.length_append, List.length_cons, List.length_nil] <;> omega
theorem sixR_some {l a b : List UInt8} (h : dc2 l = some (a, b)) : sixR l = (List.range 8).any fun j => wholeP (parts 58 (fill a b (j + 1))) := by unfold sixR; rw [h]
theorem sixR_none {l : List UInt8} (h : dc2 l = none) : sixR l = wholeP (parts 58 l) := by unfold sixR; rw [h]
theorem list_zero (t : ByteArray) (a : List UInt8) (k : Nat) (h : t.data.toList = zeros a k) (hz : t.toList.isEmpty = true) : (t ++ (⟨#[48]⟩ : ByteArray)).data.toList = zeros a (k + 1) := by
  rw [ByteArray.toList_eq, h] at hz
  rw [list_append, h, zeros, if_pos (by simpa using hz)]
  rw [show zeros a k = [] from by simpa using hz]
theorem list_more (t : ByteArray) (a : List UInt8) (k : Nat) (h : t.data.toList = zeros a k) (hz : t.toList.isEmpty = false) : (t ++ (⟨#[58]⟩ : ByteArray) ++ (⟨#[48]⟩ : ByteArray)).data.toList = zeros a (k + 1) := by
  rw [ByteArray.toList_eq, h] at hz
  rw [list_append, list_append, h, zeros, if_neg (by simpa using hz)]
theorem list_fill (T b : ByteArray) (a : List UInt8) (n : Nat) (h : T.data.toList = zeros a n) (hb : b.toList.isEmpty = false) : (T ++ (⟨#[58]⟩ : ByteArray) ++ b).data.toList = fill a b.data.toList n := by
  rw [ByteArray.toList_eq] at hb
  rw [list_append, list_append, h]
  unfold fill
  rw [if_neg (by simpa using hb)]
  simp
theorem list_bare (T b : ByteArray) (a : List UInt8) (n : Nat) (h : T.data.toList = zeros a n) (hb : b.toList.isEmpty = true) : T.data.toList = fill a b.data.toList n := by
  rw [ByteArray.toList_eq] at hb
  rw [h]
  unfold fill
  rw [if_pos (by simpa using hb), List.append_nil]
theorem any_yes {f : Nat → Bool} {m : Nat} (h : m < 8) (hf : f m = true) : (List.range 8).any f = true := List.any_eq_true.2 ⟨m, List.mem_range.2 h, hf⟩
theorem any_no {f : Nat → Bool} (h : ∀ j, j < 8 → f j = false) : (List.range 8).any f = false := by
  rw [List.any_eq_false]
  intro j hj
  rw [h j (List.mem_range.1 hj)]; simp
theorem size_list (t : ByteArray) : t.size = t.data.toList.length := by simp
end Hp
set_option maxHeartbeats 4000000 in
theorem RSix_any (s : ByteArray) (w : World) (hs : s.size ≤ 900) :
    Calls Tryz.prog 42 #[.string s] w fun e w' => e = .returned (.bool (Hp.sixR s.data.toList)) ∧ Below w.heap.size w w' := by
  go_enter Tryz.func42, Tryz.ntmps42
  go_wp2_with fail
  go_loopw [3] (fun i wr => ∃ k : Nat, k ≤ s.size ∧ i = .int .i64 k ∧ Hp.dc2 s.data.toList = ((Hp.dc2 (s.data.toList.drop k)).map fun p => (s.data.toList.take k ++ p.1, p.2)) ∧ wr = w) (fun i _ => s.size - (intOf i).toNat)
  case atStart => exact ⟨0, Nat.zero_le _, rfl, by rw [List.drop_zero, List.take_zero]; cases Hp.dc2 s.data.toList <;> rfl, rfl⟩
  case round =>
    obtain ⟨k, hk, rfl, hdc, hw⟩ := hrel
    obtain rfl : w = wr := hw.symm
    by_cases hlt : k + 1 < s.size
    · have hlt' : (k : Int) + 1 < (s.size : Int) := by omega
      by_cases h1 : s[k] = 58
      · have h1' : (s[k].toNat : Int) = 58 := by rw [h1]; rfl
        by_cases h2 : s[k + 1] = 58
        · have h2' : (s[k + 1].toNat : Int) = 58 := by rw [h2]; rfl
          rw [Hp.dc_hit hlt h1 h2] at hdc
          simp only [Option.map_some, List.append_nil] at hdc
          have HR := Lib.hid (Hp.sixR_some hdc)
          obtain ⟨a, ha⟩ : ∃ a, s.data.toList.take k = a := ⟨_, rfl⟩
          obtain ⟨A, hA⟩ : ∃ A, s.extract 0 k = A := ⟨_, rfl⟩
          obtain ⟨b, hb⟩ : ∃ b, s.extract (k + 2) s.size = b := ⟨_, rfl⟩
          have hAl : A.data.toList = a := by rw [← hA, Hp.ext_start, ha]
          have hbl : b.data.toList = s.data.toList.drop (k + 2) := by rw [← hb, Hp.ext_end]
          have hal : a.length = k := by rw [← ha, List.length_take]; simp; omega
          have hbz : b.size = s.size - (k + 2) := by rw [← hb]; simp [ByteArray.size_extract]
          rw [ha, ← hbl] at HR
          have HAL := Lib.hid hAl
          clear hdc h1 h2 hAl hbl ha
          go_wp2_with fail
          go_loopw [4] (fun i wi => ∃ m : Nat, m ≤ 8 ∧ i = .int .i64 ((m : Int) + 1) ∧ (∀ j, j < m → Hp.wholeP (Hp.parts 58 (Hp.fill a b.data.toList (j + 1))) = false) ∧ Below w.heap.size w wi) (fun i _ => 9 - (intOf i).toNat)
          case atStart => exact ⟨0, by omega, rfl, fun j hj => absurd hj (by omega), Below.refl _ _⟩
          case round =>
            obtain ⟨m, hm, rfl, hno, hbw⟩ := hrel
            obtain ⟨W1, rfl⟩ : ∃ W1, W1 = wr := ⟨_, rfl⟩
            have HBW := Lib.hid hbw
            have HNO := Lib.hid hno
            clear hbw hno
            by_cases hm8 : m < 8
            · go_wp2_with fail
              go_loopw [5, 6] (fun t i wk => ∃ (q : Nat) (T : ByteArray), q ≤ m + 1 ∧ t = .string T ∧ i = .int .i64 q ∧ T.data.toList = Hp.zeros a q ∧ wk = W1) (fun _ i _ => m + 1 - (intOf i).toNat)
              case atStart => exact ⟨0, A, by omega, rfl, rfl, HAL.out, rfl⟩
              case round =>
                obtain ⟨q, T, hq, rfl, rfl, hT, hw2⟩ := hrel
                obtain rfl : W1 = wr := hw2.symm
                have hTz : T.size ≤ 900 + 16 := by
                  have h3 := Hp.zeros_len a q
                  rw [Hp.size_list, hT]
                  omega
                by_cases hql : q < m + 1
                · cases hTe : T.toList.isEmpty
                  · have HL := Lib.hid (Hp.list_more T a q hT hTe)
                    clear hT
                    go_wp2_with fail
                    go_roundw
                    case rel => exact ⟨q + 1, _, by omega, rfl, by go_num, HL.out, trivial⟩
                    case measure => simp [intOf]; omega
                  · have HL := Lib.hid (Hp.list_zero T a q hT hTe)
                    clear hT
                    go_wp2_with fail
                    go_roundw
                    case rel => exact ⟨q + 1, _, by omega, rfl, by go_num, HL.out, trivial⟩
                    case measure => simp [intOf]; omega
                · obtain rfl : q = m + 1 := by omega
                  cases hbe : b.toList.isEmpty
                  · have hU := Hp.list_fill T b a (m + 1) hT hbe
                    obtain ⟨U, hUe⟩ : ∃ U, T ++ (⟨#[58]⟩ : ByteArray) ++ b = U := ⟨_, rfl⟩
                    have hUz : U.size ≤ 1000 := by
                      rw [← hUe]
                      simp only [ByteArray.size_append, show (⟨#[58]⟩ : ByteArray).size = 1 from rfl]
                      have h3 := Hp.zeros_len a (m + 1)
                      have h4 := Hp.size_list T
                      rw [hT] at h4
                      omega
                    rw [hUe] at hU
                    have HW := Lib.hid (Whole_any U W1 hUz)
                    rw [hU] at HW
                    clear hT hU
                    cases hwh : Hp.wholeP (Hp.parts 58 (Hp.fill a b.data.toList (m + 1)))
                    · skip
                      rw [hwh] at HW
                      have HNW : Hid (∀ j, j < m + 1 → Hp.wholeP (Hp.parts 58 (Hp.fill a b.data.toList (j + 1))) = false) := fun j hj => by
                        rcases Nat.lt_or_ge j m with h | h
                        · exact HNO.out j h
                        · obtain rfl : j = m := by omega
                          exact hwh
                      clear hwh
                      go_wp2_with fail
                      refine HW.out.mono ?_
                      rintro e w3 ⟨rfl, hb3⟩
                      have HB3 := Lib.hid (HBW.out.trans (hb3.mono HBW.out.size))
                      clear hb3
                      go_wp2_with fail
                      exact ⟨⟨m + 1, by omega, by go_num, HNW.out, HB3.out⟩, by simp [intOf]; omega⟩
                    · skip
                      rw [hwh] at HW
                      have HYES := Lib.hid (Hp.any_yes (f := fun j => Hp.wholeP (Hp.parts 58 (Hp.fill a b.data.toList (j + 1)))) hm8 hwh)
                      clear hwh
                      go_wp2_with fail
                      refine HW.out.mono ?_
                      rintro e w3 ⟨rfl, hb3⟩
                      have HB3 := Lib.hid (HBW.out.trans (hb3.mono HBW.out.size))
                      clear hb3
                      go_wp2_with fail
                      go_ret
                      exact ⟨ret_bool (by rw [HR.out, HYES.out]), HB3.out⟩
                  · have hU := Hp.list_bare T b a (m + 1) hT hbe
                    have hUz : T.size ≤ 1000 := by omega
                    have HW := Lib.hid (Whole_any T W1 hUz)
                    rw [hU] at HW
                    clear hT hU
                    cases hwh : Hp.wholeP (Hp.parts 58 (Hp.fill a b.data.toList (m + 1)))
                    · skip
                      rw [hwh] at HW
                      have HNW : Hid (∀ j, j < m + 1 → Hp.wholeP (Hp.parts 58 (Hp.fill a b.data.toList (j + 1))) = false) := fun j hj => by
                        rcases Nat.lt_or_ge j m with h | h
                        · exact HNO.out j h
                        · obtain rfl : j = m := by omega
                          exact hwh
                      clear hwh
                      go_wp2_with fail
                      refine HW.out.mono ?_
                      rintro e w3 ⟨rfl, hb3⟩
                      have HB3 := Lib.hid (HBW.out.trans (hb3.mono HBW.out.size))
                      clear hb3
                      go_wp2_with fail
                      exact ⟨⟨m + 1, by omega, by go_num, HNW.out, HB3.out⟩, by simp [intOf]; omega⟩
                    · skip
                      rw [hwh] at HW
                      have HYES := Lib.hid (Hp.any_yes (f := fun j => Hp.wholeP (Hp.parts 58 (Hp.fill a b.data.toList (j + 1)))) hm8 hwh)
                      clear hwh
                      go_wp2_with fail
                      refine HW.out.mono ?_
                      rintro e w3 ⟨rfl, hb3⟩
                      have HB3 := Lib.hid (HBW.out.trans (hb3.mono HBW.out.size))
                      clear hb3
                      go_wp2_with fail
                      go_ret
                      exact ⟨ret_bool (by rw [HR.out, HYES.out]), HB3.out⟩
            · obtain rfl : m = 8 := by omega
              have HNONE := Lib.hid (Hp.any_no HNO.out)
              go_wp2_with fail
              go_ret
              exact ⟨ret_bool (by rw [HR.out, HNONE.out]), HBW.out⟩
        · have h2' : ¬ (s[k + 1].toNat : Int) = 58 := by intro e; exact h2 (UInt8.toNat_inj.1 (by show s[k + 1].toNat = 58; omega))
          have HN := Lib.hid (Hp.dc_miss hlt (fun h => h2 h.2) _ hdc)
          clear hdc h2 h1
          go_wp2_with fail
          go_roundw
          case rel => exact ⟨k + 1, by omega, by go_num, HN.out, trivial⟩
          case measure => simp [intOf]; omega
      · have h1' : ¬ (s[k].toNat : Int) = 58 := by intro e; exact h1 (UInt8.toNat_inj.1 (by show s[k].toNat = 58; omega))
        have HN := Lib.hid (Hp.dc_miss hlt (fun h => h1 h.1) _ hdc)
        clear hdc h1
        go_wp2_with fail
        go_roundw
        case rel => exact ⟨k + 1, by omega, by go_num, HN.out, trivial⟩
        case measure => simp [intOf]; omega
    · have hlt' : (s.size : Int) ≤ (k : Int) + 1 := by omega
      rw [Hp.dc_end (by omega)] at hdc
      have HR := Lib.hid (Hp.sixR_none hdc)
      have HW := Lib.hid (fun w => Whole_any s w (by omega))
      clear hdc
      go_wp2_with fail
      refine (HW.out _).mono ?_
      rintro e w1 ⟨rfl, hb1⟩
      go_wp2_with fail
      go_ret
      exact ⟨ret_bool HR.out.symm, hb1⟩
end Go.Proofs.YtnpbnlphmngbdaaGreatDoor
