/- Same, few, the document's Token, and All over any function value: contracts. -/
import Derived.Test.YtchhjmdbjndckaaDoorOctB
namespace Go.Proofs.YtchhjmdbjndckaaDoor
open Go.RowKit

def sameS (a b : ByteArray) : Bool := decide (B.fold a.data.toList = B.fold b.data.toList)
theorem sameS_eq (a b : ByteArray) : ((B.foldS a).toList == (B.foldS b).toList) = sameS a b := by
  unfold sameS
  rw [ByteArray.toList_eq, ByteArray.toList_eq]
  show (B.fold a.data.toList == B.fold b.data.toList) = _
  rw [Bool.eq_iff_iff]; simp
theorem ret_str {a b : ByteArray} (h : a = b) : Ending.returned (.string a) = .returned (.string b) := by rw [h]
def fewS (s : ByteArray) : ByteArray := s.extract 0 (min s.size 300)
theorem fewS_size (s : ByteArray) : (fewS s).size ≤ 300 := by unfold fewS; simp [ByteArray.size_extract]; omega

def tokS (s : ByteArray) : Bool := decide (0 < s.size) && s.data.toList.all fun c => B.tok (c.toNat : Int)
set_option maxHeartbeats 400000 in
theorem RToken_any (s : ByteArray) (w : World) (hs : s.size ≤ maxLen) :
    Calls Tryd.prog 23 #[.string s] w fun e w' => e = .returned (.bool (tokS s)) ∧ w = w' := by
  unfold maxLen at hs
  go_enter Tryd.func23, Tryd.ntmps23
  go_wp2
  go_loop [3] (fun i => ∃ k : Nat, k ≤ s.size ∧ i = .int .i64 k ∧ ((s.data.toList.take k).all fun c => B.tok (c.toNat : Int)) = true) (fun i => s.size - (intOf i).toNat)
  case atStart => exact ⟨0, Nat.zero_le _, rfl, rfl⟩
  case round =>
    obtain ⟨k, hk, rfl, hall⟩ := hrel
    by_cases hlt : k < s.size
    · have HS := Lib.hid hall
      clear hall
      have hby := B.toNat_le s[k]
      by_cases ht : B.tok (s[k].toNat : Int) = true
      · go_wp2_with (go_at_call 41; refine (RTok_any _ _ (by omega) (by omega)).mono ?_; rintro e w' ⟨rfl, rfl⟩)
        go_round
        case rel => exact ⟨k + 1, by omega, by go_num, B.all_snoc (fun c => B.tok (c.toNat : Int)) s k hlt HS.out ht⟩
        case measure => simp [intOf]; omega
      · have ht' : B.tok (s[k].toNat : Int) = false := by simpa using ht
        have hno : Hid (tokS s = false) := by
          show _ = _
          unfold tokS
          rw [B.all_no (fun c => B.tok (c.toNat : Int)) s k hlt ht']; simp
        go_wp2_with (go_at_call 41; refine (RTok_any _ _ (by omega) (by omega)).mono ?_; rintro e w' ⟨rfl, rfl⟩)
        go_ret
        exact ⟨ret_bool hno.out.symm, rfl⟩
    · have hyes : Hid (tokS s = decide (0 < s.size)) := by
        show _ = _
        unfold tokS; rw [B.all_yes _ s k hlt hall]; simp
      clear hall
      go_wp2
      go_ret
      exact ⟨ret_bool hyes.out.symm, rfl⟩
end Go.Proofs.YtchhjmdbjndckaaDoor
