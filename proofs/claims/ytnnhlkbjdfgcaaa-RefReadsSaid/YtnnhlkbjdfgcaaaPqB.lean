/- The library's HasPrefix, Contains, Cut by the shelf's contracts, laid at this program's numbers. -/
import Derived.Test.YtnnhlkbjdfgcaaaHoF
import Derived.Test.YtnnhlkbjdfgcaaaPqA
namespace Go.Proofs.Ytnnhlkbjdfgcaaa
open Go.RowKit

set_option maxRecDepth 100000
def lib_contains_ren : Go.Shelf.Ren := ⟨fun | 143 => 50 | 144 => 35 | 217 => 60 | 219 => 59 | 224 => 73 | 225 => 72 | 266 => 75 | 267 => 74 | 314 => 79 | n => n, fun | 3 => 3 | 4 => 4 | 5 => 5 | 9 => 9 | 46 => 75 | 51 => 77 | 146 => 78 | n => n, fun | 1 => 0 | n => n⟩
theorem lib_contains_lays : Lays.n144 Try.prog lib_contains_ren := {
  mixed := by kernel_rfl,
  f143 := Try.func50.trans (congrArg some (by kernel_rfl)),
  f144 := Try.func35.trans (congrArg some (by kernel_rfl)),
  f217 := Try.func60.trans (congrArg some (by kernel_rfl)),
  f219 := Try.func59.trans (congrArg some (by kernel_rfl)),
  f224 := Try.func73.trans (congrArg some (by kernel_rfl)),
  f225 := Try.func72.trans (congrArg some (by kernel_rfl)),
  f266 := Try.func75.trans (congrArg some (by kernel_rfl)),
  f267 := Try.func74.trans (congrArg some (by kernel_rfl)),
  f314 := Try.func79.trans (congrArg some (by kernel_rfl)),
  t3 := Try.underlying3,
  a3 := Try.isAgg3,
  z3 := Try.sizeOf3,
  v3 := Try.zeroValue3,
  t4 := Try.underlying4,
  a4 := Try.isAgg4,
  z4 := Try.sizeOf4,
  v4 := Try.zeroValue4,
  t5 := Try.underlying5,
  a5 := Try.isAgg5,
  z5 := Try.sizeOf5,
  v5 := Try.zeroValue5,
  t9 := Try.underlying9,
  a9 := Try.isAgg9,
  z9 := Try.sizeOf9,
  v9 := Try.zeroValue9,
  t46 := Try.underlying75,
  a46 := Try.isAgg75,
  z46 := Try.sizeOf75,
  v46 := Try.zeroValue75,
  t51 := Try.underlying77,
  a51 := Try.isAgg77,
  z51 := Try.sizeOf77,
  v51 := Try.zeroValue77,
  t146 := Try.underlying78,
  a146 := Try.isAgg78,
  z146 := Try.sizeOf78,
  v146 := Try.zeroValue78,
  g1 := by kernel_rfl }
theorem Contains_any (s : ByteArray) (c : UInt8) (w : World) :
    Calls Try.prog 35 #[.string s, .string ⟨#[c]⟩] w fun e w' => e = .returned (.bool (s.data.toList.contains c)) ∧ w' = w := by
  rw [Lib.contains_iff_indexByte]
  exact Any.strings_Contains_one lib_contains_lays s c w
theorem Cut63_any (s : ByteArray) (w : World) (hs : s.size ≤ 100000) (hm : MaxL w) :
    Calls Try.prog 28 #[.string s, .string ⟨#[63]⟩] w fun e w' => e = .returned (.tuple #[.string ⟨(s.data.toList.take (Pq.markN s.data.toList)).toArray⟩, .string ⟨(s.data.toList.drop (Pq.markN s.data.toList + 1)).toArray⟩, .bool (decide (Pq.markN s.data.toList < s.data.toList.length))]) ∧ ∃ n, w' = w.drewN n := by
  obtain ⟨m, hm⟩ := hm
  have h := Any.strings_Cut lib_cut_lays s ⟨#[63]⟩ m w (by omega) hm
  rw [show (⟨#[63]⟩ : ByteArray).data.toList = [63] from rfl, Pq.cut_mark] at h
  exact h
end Go.Proofs.Ytnnhlkbjdfgcaaa
