/- Contracts and lemmas that the claim rests on: PqB. -/
import Derived.Test.YtnpbnlphmngbdaaGreatDoorGHoF
import Derived.Test.YtnpbnlphmngbdaaGreatDoorGPqA
/- The library's HasPrefix, Contains, Cut by the shelf's contracts, laid at this program's numbers. -/
namespace Go.Proofs.YtnpbnlphmngbdaaGreatDoor
open Go.RowKit

set_option maxRecDepth 100000
def lib_hasPrefix_ren : Go.Shelf.Ren := ⟨fun | 99 => 24 | 206 => 36 | n => n, fun | 3 => 3 | 4 => 4 | 9 => 9 | n => n, fun  | n => n⟩
theorem lib_hasPrefix_lays : Lays.n99 Tryz.prog lib_hasPrefix_ren := {
  mixed := by kernel_rfl,
  f99 := Tryz.func24.trans (congrArg some (by kernel_rfl)),
  f206 := Tryz.func36.trans (congrArg some (by kernel_rfl)),
  t3 := Tryz.underlying3,
  a3 := Tryz.isAgg3,
  z3 := Tryz.sizeOf3,
  v3 := Tryz.zeroValue3,
  t4 := Tryz.underlying4,
  a4 := Tryz.isAgg4,
  z4 := Tryz.sizeOf4,
  v4 := Tryz.zeroValue4,
  t9 := Tryz.underlying9,
  a9 := Tryz.isAgg9,
  z9 := Tryz.sizeOf9,
  v9 := Tryz.zeroValue9 }
def lib_contains_ren : Go.Shelf.Ren := ⟨fun | 143 => 71 | 144 => 97 | 217 => 99 | 219 => 79 | 224 => 101 | 225 => 100 | 266 => 121 | 267 => 102 | 314 => 122 | n => n, fun | 3 => 3 | 4 => 4 | 5 => 5 | 9 => 9 | 46 => 111 | 51 => 121 | 146 => 122 | n => n, fun | 1 => 0 | n => n⟩
theorem lib_contains_lays : Lays.n144 Tryz.prog lib_contains_ren := {
  mixed := by kernel_rfl,
  f143 := Tryz.func71.trans (congrArg some (by kernel_rfl)),
  f144 := Tryz.func97.trans (congrArg some (by kernel_rfl)),
  f217 := Tryz.func99.trans (congrArg some (by kernel_rfl)),
  f219 := Tryz.func79.trans (congrArg some (by kernel_rfl)),
  f224 := Tryz.func101.trans (congrArg some (by kernel_rfl)),
  f225 := Tryz.func100.trans (congrArg some (by kernel_rfl)),
  f266 := Tryz.func121.trans (congrArg some (by kernel_rfl)),
  f267 := Tryz.func102.trans (congrArg some (by kernel_rfl)),
  f314 := Tryz.func122.trans (congrArg some (by kernel_rfl)),
  t3 := Tryz.underlying3,
  a3 := Tryz.isAgg3,
  z3 := Tryz.sizeOf3,
  v3 := Tryz.zeroValue3,
  t4 := Tryz.underlying4,
  a4 := Tryz.isAgg4,
  z4 := Tryz.sizeOf4,
  v4 := Tryz.zeroValue4,
  t5 := Tryz.underlying5,
  a5 := Tryz.isAgg5,
  z5 := Tryz.sizeOf5,
  v5 := Tryz.zeroValue5,
  t9 := Tryz.underlying9,
  a9 := Tryz.isAgg9,
  z9 := Tryz.sizeOf9,
  v9 := Tryz.zeroValue9,
  t46 := Tryz.underlying111,
  a46 := Tryz.isAgg111,
  z46 := Tryz.sizeOf111,
  v46 := Tryz.zeroValue111,
  t51 := Tryz.underlying121,
  a51 := Tryz.isAgg121,
  z51 := Tryz.sizeOf121,
  v51 := Tryz.zeroValue121,
  t146 := Tryz.underlying122,
  a146 := Tryz.isAgg122,
  z146 := Tryz.sizeOf122,
  v146 := Tryz.zeroValue122,
  g1 := by kernel_rfl }
theorem HasPrefix_any (s p : ByteArray) (w : World) :
    Calls Tryz.prog 24 #[.string s, .string p] w fun e w' => e = .returned (.bool (Lib.hasPrefix s.data.toList p.data.toList)) ∧ w' = w := by
  exact Any.strings_HasPrefix lib_hasPrefix_lays s p w
theorem Contains_any (s : ByteArray) (c : UInt8) (w : World) :
    Calls Tryz.prog 97 #[.string s, .string ⟨#[c]⟩] w fun e w' => e = .returned (.bool (s.data.toList.contains c)) ∧ w' = w := by
  rw [Lib.contains_iff_indexByte]
  exact Any.strings_Contains_one lib_contains_lays s c w
theorem Cut63_any (s : ByteArray) (w : World) (hs : s.size ≤ 100000) (hm : MaxL w) :
    Calls Tryz.prog 38 #[.string s, .string ⟨#[63]⟩] w fun e w' => e = .returned (.tuple #[.string ⟨(s.data.toList.take (Pq.markN s.data.toList)).toArray⟩, .string ⟨(s.data.toList.drop (Pq.markN s.data.toList + 1)).toArray⟩, .bool (decide (Pq.markN s.data.toList < s.data.toList.length))]) ∧ ∃ n, w' = w.drewN n := by
  obtain ⟨m, hm⟩ := hm
  have h := Any.strings_Cut lib_cut_lays s ⟨#[63]⟩ m w (by omega) hm
  rw [show (⟨#[63]⟩ : ByteArray).data.toList = [63] from rfl, Pq.cut_mark] at h
  exact h
end Go.Proofs.YtnpbnlphmngbdaaGreatDoor
