/- Another beginning: on lists of bytes; behind: contract. -/
import Derived.Test.YtnnhlkbjdfgcaaaUrK
namespace Go.Proofs.Ytnnhlkbjdfgcaaa
open Go.RowKit
namespace Ur
/-- Does a text end here, or go on with another part? -/
def endB : List UInt8 → Bool
  | [] => true
  | c :: _ => [47, 63, 35].contains c
def behL (f s : List UInt8) : List UInt8 × Bool := if f.isEmpty || !Lib.hasPrefix s f then ([], false) else (s.drop f.length, Lib.hasSuffix f [47] || endB (s.drop f.length))
/-- The first beginning's swap. -/
def swapL (s : List UInt8) : List (List UInt8 × List UInt8) → Option (List UInt8)
  | [] => none
  | p :: r => if (behL p.1 s).2 then some (p.2 ++ (behL p.1 s).1) else swapL s r
theorem trim_yes {s f : List UInt8} (h : Lib.hasPrefix s f = true) : Lib.trimPrefix s f = s.drop f.length := by
  unfold Lib.trimPrefix
  rw [if_pos h]
end Ur
/-- What behind answers. -/
def bhV (o : List UInt8 × Bool) : Value := .tuple #[.string ⟨o.1.toArray⟩, .bool o.2]
theorem behind_any (f s : ByteArray) (w : World) (hf : f.size ≤ 1000) (hs : s.size ≤ 1000) :
    Calls Try.prog 26 #[.string f, .string s] w fun e w' => e = .returned (bhV (Ur.behL f.data.toList s.data.toList)) ∧ w' = w := by
  have HC := Lib.hid (fun w1 => CutPrefix_any s f w1)
  have HS := Lib.hid (fun w1 => HasSuffix_any f ⟨#[47]⟩ w1 (by omega))
  rw [show (⟨#[47]⟩ : ByteArray).data.toList = [47] from rfl] at HS
  unfold Ur.behL
  rw [← ByteArray.toList_eq f] at *
  obtain ⟨em, hem⟩ : ∃ b, f.toList.isEmpty = b := ⟨_, rfl⟩
  obtain ⟨pr, hpr⟩ : ∃ b, Lib.hasPrefix s.data.toList f.toList = b := ⟨_, rfl⟩
  rw [hem, hpr]
  rw [hpr] at HC
  cases em
  · cases pr
    · generalize (⟨(Lib.trimPrefix s.data.toList f.toList).toArray⟩ : ByteArray) = T at *
      clear hpr
      go_enter Try.func26, Try.ntmps26
      go_wp2_with (go_at_call 30; refine (HC.out _).mono ?_; rintro e w1 ⟨rfl, rfl⟩)
      go_ret2
      exact ⟨rfl, rfl⟩
    · rw [Ur.trim_yes hpr] at HC
      obtain ⟨T, hT, zT⟩ := cutB (s.data.toList.drop f.toList.length) (by rw [List.length_drop, Array.length_toList]; exact Nat.le_trans (Nat.sub_le _ _) hs)
      rw [mkB hT] at HC
      rw [← hT]
      have hV : bhV (if (false || !true) = true then ([], false) else (T.data.toList, Lib.hasSuffix f.toList [47] || Ur.endB T.data.toList)) = .tuple #[.string T, .bool (Lib.hasSuffix f.toList [47] || Ur.endB T.data.toList)] := by
        rw [if_neg (by decide)]
        show Value.tuple #[.string ⟨T.data.toList.toArray⟩, _] = _
        rw [mkB rfl]
      rw [hV]
      generalize Lib.hasSuffix f.toList [47] = sl at *
      clear hV hT hpr
      cases sl
      · by_cases h0 : T.size = 0
        · obtain rfl : T = ByteArray.empty := by simpa using h0
          go_enter Try.func26, Try.ntmps26
          go_wp2_with (first | (go_at_call 30; refine (HC.out _).mono ?_; rintro e w1 ⟨rfl, rfl⟩) | (go_at_call 42; refine (HS.out _).mono ?_; rintro e w1 ⟨rfl, rfl⟩))
          go_ret2
          exact ⟨rfl, rfl⟩
        · have h0' : 0 < T.size := by omega
          have h1 : (1 : Int) ≤ T.size := by omega
          have hne : T.toList.isEmpty = false := by
            rw [ByteArray.toList_eq]; simp; intro h2; apply h0; show T.data.size = 0; rw [h2]; rfl
          have e1 : T.extract 0 (0 + 1) = ⟨#[T[0]]⟩ := B.extract_one T 0 h0'
          have e2 : Ur.endB T.data.toList = ([47, 63, 35] : List UInt8).contains T[0] := by
            have e : T.data.toList = T[0] :: T.data.toList.drop 1 := by
              conv => lhs; rw [← List.drop_zero (l := T.data.toList), List.drop_eq_getElem_cons (by simp; omega)]
              rfl
            rw [e]; rfl
          rw [e2]
          have HX := Lib.hid (fun w1 => Contains_any ⟨#[47, 63, 35]⟩ T[0] w1)
          rw [show (⟨#[47, 63, 35]⟩ : ByteArray).data.toList = [47, 63, 35] from rfl] at HX
          generalize ([47, 63, 35] : List UInt8).contains T[0] = b at *
          go_enter Try.func26, Try.ntmps26
          go_wp2_with (first | (go_at_call 30; refine (HC.out _).mono ?_; rintro e w1 ⟨rfl, rfl⟩) | (go_at_call 42; refine (HS.out _).mono ?_; rintro e w1 ⟨rfl, rfl⟩) | (go_at_call 35; refine (HX.out _).mono ?_; rintro e w1 ⟨rfl, rfl⟩))
          go_ret2
          exact ⟨rfl, rfl⟩
      · go_enter Try.func26, Try.ntmps26
        go_wp2_with (first | (go_at_call 30; refine (HC.out _).mono ?_; rintro e w1 ⟨rfl, rfl⟩) | (go_at_call 42; refine (HS.out _).mono ?_; rintro e w1 ⟨rfl, rfl⟩))
        go_ret2
        exact ⟨rfl, rfl⟩
  · generalize (⟨(Lib.trimPrefix s.data.toList f.toList).toArray⟩ : ByteArray) = T at *
    clear hpr
    go_enter Try.func26, Try.ntmps26
    cases pr
    all_goals
      go_wp2_with (go_at_call 30; refine (HC.out _).mono ?_; rintro e w1 ⟨rfl, rfl⟩)
      go_ret2
      exact ⟨rfl, rfl⟩
end Go.Proofs.Ytnnhlkbjdfgcaaa
