/- Contracts and lemmas that the claim rests on: HoF. -/
import Derived.Test.YtnpbnlphmngbdaaGreatDoorGHoMath
import Derived.Test.YtnpbnlphmngbdaaGreatDoorGScan
import Derived.Shelf.Strings.Search3
import Derived.Shelf.Strings.Cut
import Derived.Shelf.Strings.LastIndex
import Derived.Shelf.Strings.Prefix
import Derived.Shelf.Small.Wraps
/- The library's searches and cuts by the shelf's contracts, laid at this program's numbers. -/
namespace Go.Proofs.YtnpbnlphmngbdaaGreatDoor
open Go.RowKit

set_option maxRecDepth 100000
def lib_index_ren : Go.Shelf.Ren := ⟨fun | 143 => 71 | 217 => 99 | 219 => 79 | 224 => 101 | 225 => 100 | 266 => 121 | 267 => 102 | 314 => 122 | n => n, fun | 3 => 3 | 4 => 4 | 5 => 5 | 9 => 9 | 46 => 111 | 51 => 121 | 146 => 122 | n => n, fun | 1 => 0 | n => n⟩
theorem lib_index_lays : Lays.n143 Tryz.prog lib_index_ren := {
  mixed := by kernel_rfl,
  f143 := Tryz.func71.trans (congrArg some (by kernel_rfl)),
  f217 := Tryz.func99.trans (congrArg some (by kernel_rfl)),
  f219 := Tryz.func79.trans (congrArg some (by kernel_rfl)),
  f224 := Tryz.func101.trans (congrArg some (by kernel_rfl)),
  f225 := Tryz.func100.trans (congrArg some (by kernel_rfl)),
  f266 := Tryz.func121.trans (congrArg some (by kernel_rfl)),
  f267 := Tryz.func102.trans (congrArg some (by kernel_rfl)),
  f314 := Tryz.func122.trans (congrArg some (by kernel_rfl)),
  t3 := Tryz.underlying3,
  a3 := Tryz.isAgg3,
  z3 := Tryz.sizeOf3,
  v3 := Tryz.zeroValue3,
  t4 := Tryz.underlying4,
  a4 := Tryz.isAgg4,
  z4 := Tryz.sizeOf4,
  v4 := Tryz.zeroValue4,
  t5 := Tryz.underlying5,
  a5 := Tryz.isAgg5,
  z5 := Tryz.sizeOf5,
  v5 := Tryz.zeroValue5,
  t9 := Tryz.underlying9,
  a9 := Tryz.isAgg9,
  z9 := Tryz.sizeOf9,
  v9 := Tryz.zeroValue9,
  t46 := Tryz.underlying111,
  a46 := Tryz.isAgg111,
  z46 := Tryz.sizeOf111,
  v46 := Tryz.zeroValue111,
  t51 := Tryz.underlying121,
  a51 := Tryz.isAgg121,
  z51 := Tryz.sizeOf121,
  v51 := Tryz.zeroValue121,
  t146 := Tryz.underlying122,
  a146 := Tryz.isAgg122,
  z146 := Tryz.sizeOf122,
  v146 := Tryz.zeroValue122,
  g1 := by kernel_rfl }
def lib_cut_ren : Go.Shelf.Ren := ⟨fun | 145 => 38 | 217 => 99 | 219 => 79 | 220 => 57 | 224 => 101 | 225 => 100 | 266 => 121 | 267 => 102 | 314 => 122 | n => n, fun | 3 => 3 | 4 => 4 | 5 => 5 | 9 => 9 | 46 => 111 | 51 => 121 | 59 => 64 | 146 => 122 | n => n, fun | 1 => 0 | n => n⟩
theorem lib_cut_lays : Lays.n145 Tryz.prog lib_cut_ren := {
  mixed := by kernel_rfl,
  f145 := Tryz.func38.trans (congrArg some (by kernel_rfl)),
  f217 := Tryz.func99.trans (congrArg some (by kernel_rfl)),
  f219 := Tryz.func79.trans (congrArg some (by kernel_rfl)),
  f220 := Tryz.func57.trans (congrArg some (by kernel_rfl)),
  f224 := Tryz.func101.trans (congrArg some (by kernel_rfl)),
  f225 := Tryz.func100.trans (congrArg some (by kernel_rfl)),
  f266 := Tryz.func121.trans (congrArg some (by kernel_rfl)),
  f267 := Tryz.func102.trans (congrArg some (by kernel_rfl)),
  f314 := Tryz.func122.trans (congrArg some (by kernel_rfl)),
  t3 := Tryz.underlying3,
  a3 := Tryz.isAgg3,
  z3 := Tryz.sizeOf3,
  v3 := Tryz.zeroValue3,
  t4 := Tryz.underlying4,
  a4 := Tryz.isAgg4,
  z4 := Tryz.sizeOf4,
  v4 := Tryz.zeroValue4,
  t5 := Tryz.underlying5,
  a5 := Tryz.isAgg5,
  z5 := Tryz.sizeOf5,
  v5 := Tryz.zeroValue5,
  t9 := Tryz.underlying9,
  a9 := Tryz.isAgg9,
  z9 := Tryz.sizeOf9,
  v9 := Tryz.zeroValue9,
  t46 := Tryz.underlying111,
  a46 := Tryz.isAgg111,
  z46 := Tryz.sizeOf111,
  v46 := Tryz.zeroValue111,
  t51 := Tryz.underlying121,
  a51 := Tryz.isAgg121,
  z51 := Tryz.sizeOf121,
  v51 := Tryz.zeroValue121,
  t59 := Tryz.underlying64,
  a59 := Tryz.isAgg64,
  z59 := Tryz.sizeOf64,
  v59 := Tryz.zeroValue64,
  t146 := Tryz.underlying122,
  a146 := Tryz.isAgg122,
  z146 := Tryz.sizeOf122,
  v146 := Tryz.zeroValue122,
  g1 := by kernel_rfl }
def lib_last_ren : Go.Shelf.Ren := ⟨fun | 148 => 90 | 222 => 110 | 223 => 111 | 269 => 125 | n => n, fun | 3 => 3 | 4 => 4 | 5 => 5 | 9 => 9 | 46 => 111 | 51 => 121 | 146 => 122 | n => n, fun  | n => n⟩
theorem lib_last_lays : Lays.n148 Tryz.prog lib_last_ren := {
  mixed := by kernel_rfl,
  f148 := Tryz.func90.trans (congrArg some (by kernel_rfl)),
  f222 := Tryz.func110.trans (congrArg some (by kernel_rfl)),
  f223 := Tryz.func111.trans (congrArg some (by kernel_rfl)),
  f269 := Tryz.func125.trans (congrArg some (by kernel_rfl)),
  t3 := Tryz.underlying3,
  a3 := Tryz.isAgg3,
  z3 := Tryz.sizeOf3,
  v3 := Tryz.zeroValue3,
  t4 := Tryz.underlying4,
  a4 := Tryz.isAgg4,
  z4 := Tryz.sizeOf4,
  v4 := Tryz.zeroValue4,
  t5 := Tryz.underlying5,
  a5 := Tryz.isAgg5,
  z5 := Tryz.sizeOf5,
  v5 := Tryz.zeroValue5,
  t9 := Tryz.underlying9,
  a9 := Tryz.isAgg9,
  z9 := Tryz.sizeOf9,
  v9 := Tryz.zeroValue9,
  t46 := Tryz.underlying111,
  a46 := Tryz.isAgg111,
  z46 := Tryz.sizeOf111,
  v46 := Tryz.zeroValue111,
  t51 := Tryz.underlying121,
  a51 := Tryz.isAgg121,
  z51 := Tryz.sizeOf121,
  v51 := Tryz.zeroValue121,
  t146 := Tryz.underlying122,
  a146 := Tryz.isAgg122,
  z146 := Tryz.sizeOf122,
  v146 := Tryz.zeroValue122 }
def lib_trimPrefix_ren : Go.Shelf.Ren := ⟨fun | 101 => 77 | 206 => 36 | 208 => 95 | n => n, fun | 3 => 3 | 4 => 4 | 9 => 9 | n => n, fun  | n => n⟩
theorem lib_trimPrefix_lays : Lays.n101 Tryz.prog lib_trimPrefix_ren := {
  mixed := by kernel_rfl,
  f101 := Tryz.func77.trans (congrArg some (by kernel_rfl)),
  f206 := Tryz.func36.trans (congrArg some (by kernel_rfl)),
  f208 := Tryz.func95.trans (congrArg some (by kernel_rfl)),
  t3 := Tryz.underlying3,
  a3 := Tryz.isAgg3,
  z3 := Tryz.sizeOf3,
  v3 := Tryz.zeroValue3,
  t4 := Tryz.underlying4,
  a4 := Tryz.isAgg4,
  z4 := Tryz.sizeOf4,
  v4 := Tryz.zeroValue4,
  t9 := Tryz.underlying9,
  a9 := Tryz.isAgg9,
  z9 := Tryz.sizeOf9,
  v9 := Tryz.zeroValue9 }
def lib_cutPrefix_ren : Go.Shelf.Ren := ⟨fun | 103 => 88 | 206 => 36 | 210 => 108 | n => n, fun | 3 => 3 | 4 => 4 | 9 => 9 | 24 => 80 | n => n, fun  | n => n⟩
theorem lib_cutPrefix_lays : Lays.n103 Tryz.prog lib_cutPrefix_ren := {
  mixed := by kernel_rfl,
  f103 := Tryz.func88.trans (congrArg some (by kernel_rfl)),
  f206 := Tryz.func36.trans (congrArg some (by kernel_rfl)),
  f210 := Tryz.func108.trans (congrArg some (by kernel_rfl)),
  t3 := Tryz.underlying3,
  a3 := Tryz.isAgg3,
  z3 := Tryz.sizeOf3,
  v3 := Tryz.zeroValue3,
  t4 := Tryz.underlying4,
  a4 := Tryz.isAgg4,
  z4 := Tryz.sizeOf4,
  v4 := Tryz.zeroValue4,
  t9 := Tryz.underlying9,
  a9 := Tryz.isAgg9,
  z9 := Tryz.sizeOf9,
  v9 := Tryz.zeroValue9,
  t24 := Tryz.underlying80,
  a24 := Tryz.isAgg80,
  z24 := Tryz.sizeOf80,
  v24 := Tryz.zeroValue80 }
def lib_cutSuffix_ren : Go.Shelf.Ren := ⟨fun | 104 => 89 | 207 => 124 | 211 => 109 | n => n, fun | 3 => 3 | 4 => 4 | 9 => 9 | 24 => 80 | n => n, fun  | n => n⟩
theorem lib_cutSuffix_lays : Lays.n104 Tryz.prog lib_cutSuffix_ren := {
  mixed := by kernel_rfl,
  f104 := Tryz.func89.trans (congrArg some (by kernel_rfl)),
  f207 := Tryz.func124.trans (congrArg some (by kernel_rfl)),
  f211 := Tryz.func109.trans (congrArg some (by kernel_rfl)),
  t3 := Tryz.underlying3,
  a3 := Tryz.isAgg3,
  z3 := Tryz.sizeOf3,
  v3 := Tryz.zeroValue3,
  t4 := Tryz.underlying4,
  a4 := Tryz.isAgg4,
  z4 := Tryz.sizeOf4,
  v4 := Tryz.zeroValue4,
  t9 := Tryz.underlying9,
  a9 := Tryz.isAgg9,
  z9 := Tryz.sizeOf9,
  v9 := Tryz.zeroValue9,
  t24 := Tryz.underlying80,
  a24 := Tryz.isAgg80,
  z24 := Tryz.sizeOf80,
  v24 := Tryz.zeroValue80 }
/-- internal/bytealg.MaxLen holds some number. -/
def MaxL (w : World) : Prop := ∃ m, w.cell? ⟨0, 0, none⟩ = some (.int .i64 m)
theorem MaxL.stay {w w' : World} (h : MaxL w) (hb : Below w.heap.size w w') : MaxL w' := by
  obtain ⟨m, hm⟩ := h
  exact ⟨m, below_cell hb (lt_of_cell hm) hm⟩
theorem Index_any (s : ByteArray) (c : UInt8) (w : World) :
    Calls Tryz.prog 71 #[.string s, .string ⟨#[c]⟩] w fun e w' => e = .returned (.int .i64 (Lib.indexByte s.data.toList c)) ∧ w' = w := by
  exact Any.strings_Index_one lib_index_lays s c w
theorem Cut_any (s : ByteArray) (w : World) (hs : s.size ≤ 100000) (hm : MaxL w) :
    Calls Tryz.prog 38 #[.string s, .string ⟨#[58, 58]⟩] w fun e w' => e = .returned (.tuple #[.string ⟨(Lib.cut s.data.toList [58, 58]).1.toArray⟩, .string ⟨(Lib.cut s.data.toList [58, 58]).2.1.toArray⟩, .bool (Lib.cut s.data.toList [58, 58]).2.2]) ∧ ∃ n, w' = w.drewN n := by
  obtain ⟨m, hm⟩ := hm
  exact Any.strings_Cut lib_cut_lays s ⟨#[58, 58]⟩ m w (by omega) hm
theorem LastIndex_any (s : ByteArray) (w : World) (hs : s.size ≤ 100000) :
    Calls Tryz.prog 90 #[.string s, .string ⟨#[58]⟩] w fun e w' => e = .returned (.int .i64 (Lib.lastIndexByte s 58)) ∧ w' = w := by
  exact Any.strings_LastIndex_one lib_last_lays s ⟨#[58]⟩ rfl (by omega) w
theorem TrimPrefix_any (s p : ByteArray) (w : World) :
    Calls Tryz.prog 77 #[.string s, .string p] w fun e w' => e = .returned (.string ⟨(Lib.trimPrefix s.data.toList p.data.toList).toArray⟩) ∧ w' = w := by
  exact Any.strings_TrimPrefix lib_trimPrefix_lays s p w
theorem CutPrefix_any (s p : ByteArray) (w : World) :
    Calls Tryz.prog 88 #[.string s, .string p] w fun e w' => e = .returned (.tuple #[.string ⟨(Lib.trimPrefix s.data.toList p.data.toList).toArray⟩, .bool (Lib.hasPrefix s.data.toList p.data.toList)]) ∧ w' = w := by
  exact Any.strings_CutPrefix lib_cutPrefix_lays s p w
theorem CutSuffix_any (s p : ByteArray) (w : World) (hs : s.size ≤ 100000) :
    Calls Tryz.prog 89 #[.string s, .string p] w fun e w' => e = .returned (.tuple #[.string ⟨(Lib.trimSuffix s.data.toList p.data.toList).toArray⟩, .bool (Lib.hasSuffix s.data.toList p.data.toList)]) ∧ w' = w := by
  exact Any.strings_CutSuffix lib_cutSuffix_lays s p w (by omega)
end Go.Proofs.YtnpbnlphmngbdaaGreatDoor
