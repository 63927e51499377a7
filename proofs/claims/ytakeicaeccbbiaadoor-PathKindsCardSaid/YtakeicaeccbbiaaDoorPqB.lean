/- The library's HasPrefix, Contains, Cut by the shelf's contracts, laid at this program's numbers. -/
import Derived.Test.YtakeicaeccbbiaaDoorHoF
import Derived.Test.YtakeicaeccbbiaaDoorPqA
namespace Go.Proofs.YtakeicaeccbbiaaDoor
open Go.RowKit

set_option maxRecDepth 100000
def lib_hasPrefix_ren : Go.Shelf.Ren := ⟨fun | 99 => 18 | 206 => 24 | n => n, fun | 3 => 3 | 4 => 4 | 9 => 9 | n => n, fun  | n => n⟩
theorem lib_hasPrefix_lays : Lays.n99 Tryd.prog lib_hasPrefix_ren := {
  mixed := by kernel_rfl,
  f99 := Tryd.func18.trans (congrArg some (by kernel_rfl)),
  f206 := Tryd.func24.trans (congrArg some (by kernel_rfl)),
  t3 := Tryd.underlying3,
  a3 := Tryd.isAgg3,
  z3 := Tryd.sizeOf3,
  v3 := Tryd.zeroValue3,
  t4 := Tryd.underlying4,
  a4 := Tryd.isAgg4,
  z4 := Tryd.sizeOf4,
  v4 := Tryd.zeroValue4,
  t9 := Tryd.underlying9,
  a9 := Tryd.isAgg9,
  z9 := Tryd.sizeOf9,
  v9 := Tryd.zeroValue9 }
def lib_contains_ren : Go.Shelf.Ren := ⟨fun | 143 => 37 | 144 => 26 | 217 => 51 | 219 => 42 | 224 => 53 | 225 => 52 | 266 => 58 | 267 => 54 | 314 => 59 | n => n, fun | 3 => 3 | 4 => 4 | 5 => 5 | 9 => 9 | 46 => 56 | 51 => 57 | 146 => 58 | n => n, fun | 1 => 0 | n => n⟩
theorem lib_contains_lays : Lays.n144 Tryd.prog lib_contains_ren := {
  mixed := by kernel_rfl,
  f143 := Tryd.func37.trans (congrArg some (by kernel_rfl)),
  f144 := Tryd.func26.trans (congrArg some (by kernel_rfl)),
  f217 := Tryd.func51.trans (congrArg some (by kernel_rfl)),
  f219 := Tryd.func42.trans (congrArg some (by kernel_rfl)),
  f224 := Tryd.func53.trans (congrArg some (by kernel_rfl)),
  f225 := Tryd.func52.trans (congrArg some (by kernel_rfl)),
  f266 := Tryd.func58.trans (congrArg some (by kernel_rfl)),
  f267 := Tryd.func54.trans (congrArg some (by kernel_rfl)),
  f314 := Tryd.func59.trans (congrArg some (by kernel_rfl)),
  t3 := Tryd.underlying3,
  a3 := Tryd.isAgg3,
  z3 := Tryd.sizeOf3,
  v3 := Tryd.zeroValue3,
  t4 := Tryd.underlying4,
  a4 := Tryd.isAgg4,
  z4 := Tryd.sizeOf4,
  v4 := Tryd.zeroValue4,
  t5 := Tryd.underlying5,
  a5 := Tryd.isAgg5,
  z5 := Tryd.sizeOf5,
  v5 := Tryd.zeroValue5,
  t9 := Tryd.underlying9,
  a9 := Tryd.isAgg9,
  z9 := Tryd.sizeOf9,
  v9 := Tryd.zeroValue9,
  t46 := Tryd.underlying56,
  a46 := Tryd.isAgg56,
  z46 := Tryd.sizeOf56,
  v46 := Tryd.zeroValue56,
  t51 := Tryd.underlying57,
  a51 := Tryd.isAgg57,
  z51 := Tryd.sizeOf57,
  v51 := Tryd.zeroValue57,
  t146 := Tryd.underlying58,
  a146 := Tryd.isAgg58,
  z146 := Tryd.sizeOf58,
  v146 := Tryd.zeroValue58,
  g1 := by kernel_rfl }
theorem HasPrefix_any (s p : ByteArray) (w : World) :
    Calls Tryd.prog 18 #[.string s, .string p] w fun e w' => e = .returned (.bool (Lib.hasPrefix s.data.toList p.data.toList)) ∧ w' = w := by
  exact Any.strings_HasPrefix lib_hasPrefix_lays s p w
theorem Contains_any (s : ByteArray) (c : UInt8) (w : World) :
    Calls Tryd.prog 26 #[.string s, .string ⟨#[c]⟩] w fun e w' => e = .returned (.bool (s.data.toList.contains c)) ∧ w' = w := by
  rw [Lib.contains_iff_indexByte]
  exact Any.strings_Contains_one lib_contains_lays s c w
theorem Cut63_any (s : ByteArray) (w : World) (hs : s.size ≤ 100000) (hm : MaxL w) :
    Calls Tryd.prog 21 #[.string s, .string ⟨#[63]⟩] w fun e w' => e = .returned (.tuple #[.string ⟨(s.data.toList.take (Pq.markN s.data.toList)).toArray⟩, .string ⟨(s.data.toList.drop (Pq.markN s.data.toList + 1)).toArray⟩, .bool (decide (Pq.markN s.data.toList < s.data.toList.length))]) ∧ ∃ n, w' = w.drewN n := by
  obtain ⟨m, hm⟩ := hm
  have h := Any.strings_Cut lib_cut_lays s ⟨#[63]⟩ m w (by omega) hm
  rw [show (⟨#[63]⟩ : ByteArray).data.toList = [63] from rfl, Pq.cut_mark] at h
  exact h
end Go.Proofs.YtakeicaeccbbiaaDoor
