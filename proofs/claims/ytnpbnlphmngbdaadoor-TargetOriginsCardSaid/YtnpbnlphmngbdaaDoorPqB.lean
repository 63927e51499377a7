/- The library's HasPrefix, Contains, Cut by the shelf's contracts, laid at this program's numbers. -/
import Derived.Test.YtnpbnlphmngbdaaDoorHoF
import Derived.Test.YtnpbnlphmngbdaaDoorPqA
namespace Go.Proofs.YtnpbnlphmngbdaaDoor
open Go.RowKit

set_option maxRecDepth 100000
def lib_hasPrefix_ren : Go.Shelf.Ren := ⟨fun | 99 => 12 | 206 => 16 | n => n, fun | 3 => 3 | 4 => 4 | 9 => 9 | n => n, fun  | n => n⟩
theorem lib_hasPrefix_lays : Lays.n99 Tryd.prog lib_hasPrefix_ren := {
  mixed := by kernel_rfl,
  f99 := Tryd.func12.trans (congrArg some (by kernel_rfl)),
  f206 := Tryd.func16.trans (congrArg some (by kernel_rfl)),
  t3 := Tryd.underlying3,
  a3 := Tryd.isAgg3,
  z3 := Tryd.sizeOf3,
  v3 := Tryd.zeroValue3,
  t4 := Tryd.underlying4,
  a4 := Tryd.isAgg4,
  z4 := Tryd.sizeOf4,
  v4 := Tryd.zeroValue4,
  t9 := Tryd.underlying9,
  a9 := Tryd.isAgg9,
  z9 := Tryd.sizeOf9,
  v9 := Tryd.zeroValue9 }
def lib_contains_ren : Go.Shelf.Ren := ⟨fun | 143 => 30 | 144 => 54 | 217 => 56 | 219 => 38 | 224 => 58 | 225 => 57 | 266 => 76 | 267 => 59 | 314 => 77 | n => n, fun | 3 => 3 | 4 => 4 | 5 => 5 | 9 => 9 | 46 => 77 | 51 => 84 | 146 => 85 | n => n, fun | 1 => 0 | n => n⟩
theorem lib_contains_lays : Lays.n144 Tryd.prog lib_contains_ren := {
  mixed := by kernel_rfl,
  f143 := Tryd.func30.trans (congrArg some (by kernel_rfl)),
  f144 := Tryd.func54.trans (congrArg some (by kernel_rfl)),
  f217 := Tryd.func56.trans (congrArg some (by kernel_rfl)),
  f219 := Tryd.func38.trans (congrArg some (by kernel_rfl)),
  f224 := Tryd.func58.trans (congrArg some (by kernel_rfl)),
  f225 := Tryd.func57.trans (congrArg some (by kernel_rfl)),
  f266 := Tryd.func76.trans (congrArg some (by kernel_rfl)),
  f267 := Tryd.func59.trans (congrArg some (by kernel_rfl)),
  f314 := Tryd.func77.trans (congrArg some (by kernel_rfl)),
  t3 := Tryd.underlying3,
  a3 := Tryd.isAgg3,
  z3 := Tryd.sizeOf3,
  v3 := Tryd.zeroValue3,
  t4 := Tryd.underlying4,
  a4 := Tryd.isAgg4,
  z4 := Tryd.sizeOf4,
  v4 := Tryd.zeroValue4,
  t5 := Tryd.underlying5,
  a5 := Tryd.isAgg5,
  z5 := Tryd.sizeOf5,
  v5 := Tryd.zeroValue5,
  t9 := Tryd.underlying9,
  a9 := Tryd.isAgg9,
  z9 := Tryd.sizeOf9,
  v9 := Tryd.zeroValue9,
  t46 := Tryd.underlying77,
  a46 := Tryd.isAgg77,
  z46 := Tryd.sizeOf77,
  v46 := Tryd.zeroValue77,
  t51 := Tryd.underlying84,
  a51 := Tryd.isAgg84,
  z51 := Tryd.sizeOf84,
  v51 := Tryd.zeroValue84,
  t146 := Tryd.underlying85,
  a146 := Tryd.isAgg85,
  z146 := Tryd.sizeOf85,
  v146 := Tryd.zeroValue85,
  g1 := by kernel_rfl }
theorem HasPrefix_any (s p : ByteArray) (w : World) :
    Calls Tryd.prog 12 #[.string s, .string p] w fun e w' => e = .returned (.bool (Lib.hasPrefix s.data.toList p.data.toList)) ∧ w' = w := by
  exact Any.strings_HasPrefix lib_hasPrefix_lays s p w
theorem Contains_any (s : ByteArray) (c : UInt8) (w : World) :
    Calls Tryd.prog 54 #[.string s, .string ⟨#[c]⟩] w fun e w' => e = .returned (.bool (s.data.toList.contains c)) ∧ w' = w := by
  rw [Lib.contains_iff_indexByte]
  exact Any.strings_Contains_one lib_contains_lays s c w
theorem Cut63_any (s : ByteArray) (w : World) (hs : s.size ≤ 100000) (hm : MaxL w) :
    Calls Tryd.prog 18 #[.string s, .string ⟨#[63]⟩] w fun e w' => e = .returned (.tuple #[.string ⟨(s.data.toList.take (Pq.markN s.data.toList)).toArray⟩, .string ⟨(s.data.toList.drop (Pq.markN s.data.toList + 1)).toArray⟩, .bool (decide (Pq.markN s.data.toList < s.data.toList.length))]) ∧ ∃ n, w' = w.drewN n := by
  obtain ⟨m, hm⟩ := hm
  have h := Any.strings_Cut lib_cut_lays s ⟨#[63]⟩ m w (by omega) hm
  rw [show (⟨#[63]⟩ : ByteArray).data.toList = [63] from rfl, Pq.cut_mark] at h
  exact h
end Go.Proofs.YtnpbnlphmngbdaaDoor
