/- The library's IndexByte, and Cut at one byte, by the shelf's contracts, laid at this program's numbers. -/
import Derived.Test.YtnnhlkbjdfgcaaaHoF
import Derived.Test.YtnnhlkbjdfgcaaaUrA
import Derived.Shelf.Small.Strs
namespace Go.Proofs.Ytnnhlkbjdfgcaaa
open Go.RowKit

set_option maxRecDepth 100000
def lib_indexByte_ren : Go.Shelf.Ren := ⟨fun | 137 => 47 | 217 => 60 | 266 => 75 | n => n, fun | 3 => 3 | 5 => 5 | 9 => 9 | n => n, fun  | n => n⟩
theorem lib_indexByte_lays : Lays.n137 Try.prog lib_indexByte_ren := {
  mixed := by kernel_rfl,
  f137 := Try.func47.trans (congrArg some (by kernel_rfl)),
  f217 := Try.func60.trans (congrArg some (by kernel_rfl)),
  f266 := Try.func75.trans (congrArg some (by kernel_rfl)),
  t3 := Try.underlying3,
  a3 := Try.isAgg3,
  z3 := Try.sizeOf3,
  v3 := Try.zeroValue3,
  t5 := Try.underlying5,
  a5 := Try.isAgg5,
  z5 := Try.sizeOf5,
  v5 := Try.zeroValue5,
  t9 := Try.underlying9,
  a9 := Try.isAgg9,
  z9 := Try.sizeOf9,
  v9 := Try.zeroValue9 }
theorem IndexByteU_any (s : ByteArray) (c : UInt8) (w : World) :
    Calls Try.prog 47 #[.string s, .int .u8 (c.toNat : Int)] w fun e w' => e = .returned (.int .i64 (Lib.indexByte s.data.toList c)) ∧ w' = w := by
  have h := Any.strings_IndexByte lib_indexByte_lays s (c.toNat : Int) w
  rw [show ((c.toNat : Int)).toNat.toUInt8 = c by simp] at h
  exact h
theorem Cut1_any (s : ByteArray) (c : UInt8) (w : World) (hs : s.size ≤ 100000) (hm : MaxL w) :
    Calls Try.prog 28 #[.string s, .string ⟨#[c]⟩] w fun e w' => e = .returned (.tuple #[.string ⟨(s.data.toList.take (Ur.fstN [c] s.data.toList)).toArray⟩, .string ⟨(s.data.toList.drop (Ur.fstN [c] s.data.toList + 1)).toArray⟩, .bool (decide (Ur.fstN [c] s.data.toList < s.data.toList.length))]) ∧ ∃ n, w' = w.drewN n := by
  obtain ⟨m, hm⟩ := hm
  have h := Any.strings_Cut lib_cut_lays s ⟨#[c]⟩ m w (by omega) hm
  rw [show (⟨#[c]⟩ : ByteArray).data.toList = [c] from rfl, Ur.cut_one] at h
  exact h
end Go.Proofs.Ytnnhlkbjdfgcaaa
