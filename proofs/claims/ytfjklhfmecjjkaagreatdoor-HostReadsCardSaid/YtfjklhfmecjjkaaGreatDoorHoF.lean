/- The library's searches and cuts by the shelf's contracts, laid at this program's numbers. -/
import Derived.Test.YtfjklhfmecjjkaaGreatDoorHoD
import Derived.Test.YtfjklhfmecjjkaaGreatDoorWorld
import Derived.Shelf.Strings.Search3
import Derived.Shelf.Strings.Cut
import Derived.Shelf.Strings.LastIndex
import Derived.Shelf.Strings.Prefix
import Derived.Shelf.Small.Wraps
namespace Go.Proofs.YtfjklhfmecjjkaaGreatDoor
open Go.RowKit

set_option maxRecDepth 100000
def lib_index_ren : Go.Shelf.Ren := ⟨fun | 143 => 22 | 217 => 59 | 219 => 38 | 224 => 61 | 225 => 60 | 266 => 82 | 267 => 62 | 314 => 83 | n => n, fun | 3 => 3 | 4 => 4 | 5 => 5 | 9 => 9 | 46 => 75 | 51 => 89 | 146 => 90 | n => n, fun | 1 => 0 | n => n⟩
theorem lib_index_lays : Lays.n143 Tryz.prog lib_index_ren := {
  mixed := by kernel_rfl,
  f143 := Tryz.func22.trans (congrArg some (by kernel_rfl)),
  f217 := Tryz.func59.trans (congrArg some (by kernel_rfl)),
  f219 := Tryz.func38.trans (congrArg some (by kernel_rfl)),
  f224 := Tryz.func61.trans (congrArg some (by kernel_rfl)),
  f225 := Tryz.func60.trans (congrArg some (by kernel_rfl)),
  f266 := Tryz.func82.trans (congrArg some (by kernel_rfl)),
  f267 := Tryz.func62.trans (congrArg some (by kernel_rfl)),
  f314 := Tryz.func83.trans (congrArg some (by kernel_rfl)),
  t3 := Tryz.underlying3,
  a3 := Tryz.isAgg3,
  z3 := Tryz.sizeOf3,
  v3 := Tryz.zeroValue3,
  t4 := Tryz.underlying4,
  a4 := Tryz.isAgg4,
  z4 := Tryz.sizeOf4,
  v4 := Tryz.zeroValue4,
  t5 := Tryz.underlying5,
  a5 := Tryz.isAgg5,
  z5 := Tryz.sizeOf5,
  v5 := Tryz.zeroValue5,
  t9 := Tryz.underlying9,
  a9 := Tryz.isAgg9,
  z9 := Tryz.sizeOf9,
  v9 := Tryz.zeroValue9,
  t46 := Tryz.underlying75,
  a46 := Tryz.isAgg75,
  z46 := Tryz.sizeOf75,
  v46 := Tryz.zeroValue75,
  t51 := Tryz.underlying89,
  a51 := Tryz.isAgg89,
  z51 := Tryz.sizeOf89,
  v51 := Tryz.zeroValue89,
  t146 := Tryz.underlying90,
  a146 := Tryz.isAgg90,
  z146 := Tryz.sizeOf90,
  v146 := Tryz.zeroValue90,
  g1 := by kernel_rfl }
def lib_cut_ren : Go.Shelf.Ren := ⟨fun | 145 => 42 | 217 => 59 | 219 => 38 | 220 => 67 | 224 => 61 | 225 => 60 | 266 => 82 | 267 => 62 | 314 => 83 | n => n, fun | 3 => 3 | 4 => 4 | 5 => 5 | 9 => 9 | 46 => 75 | 51 => 89 | 59 => 60 | 146 => 90 | n => n, fun | 1 => 0 | n => n⟩
theorem lib_cut_lays : Lays.n145 Tryz.prog lib_cut_ren := {
  mixed := by kernel_rfl,
  f145 := Tryz.func42.trans (congrArg some (by kernel_rfl)),
  f217 := Tryz.func59.trans (congrArg some (by kernel_rfl)),
  f219 := Tryz.func38.trans (congrArg some (by kernel_rfl)),
  f220 := Tryz.func67.trans (congrArg some (by kernel_rfl)),
  f224 := Tryz.func61.trans (congrArg some (by kernel_rfl)),
  f225 := Tryz.func60.trans (congrArg some (by kernel_rfl)),
  f266 := Tryz.func82.trans (congrArg some (by kernel_rfl)),
  f267 := Tryz.func62.trans (congrArg some (by kernel_rfl)),
  f314 := Tryz.func83.trans (congrArg some (by kernel_rfl)),
  t3 := Tryz.underlying3,
  a3 := Tryz.isAgg3,
  z3 := Tryz.sizeOf3,
  v3 := Tryz.zeroValue3,
  t4 := Tryz.underlying4,
  a4 := Tryz.isAgg4,
  z4 := Tryz.sizeOf4,
  v4 := Tryz.zeroValue4,
  t5 := Tryz.underlying5,
  a5 := Tryz.isAgg5,
  z5 := Tryz.sizeOf5,
  v5 := Tryz.zeroValue5,
  t9 := Tryz.underlying9,
  a9 := Tryz.isAgg9,
  z9 := Tryz.sizeOf9,
  v9 := Tryz.zeroValue9,
  t46 := Tryz.underlying75,
  a46 := Tryz.isAgg75,
  z46 := Tryz.sizeOf75,
  v46 := Tryz.zeroValue75,
  t51 := Tryz.underlying89,
  a51 := Tryz.isAgg89,
  z51 := Tryz.sizeOf89,
  v51 := Tryz.zeroValue89,
  t59 := Tryz.underlying60,
  a59 := Tryz.isAgg60,
  z59 := Tryz.sizeOf60,
  v59 := Tryz.zeroValue60,
  t146 := Tryz.underlying90,
  a146 := Tryz.isAgg90,
  z146 := Tryz.sizeOf90,
  v146 := Tryz.zeroValue90,
  g1 := by kernel_rfl }
def lib_last_ren : Go.Shelf.Ren := ⟨fun | 148 => 41 | 222 => 65 | 223 => 66 | 269 => 84 | n => n, fun | 3 => 3 | 4 => 4 | 5 => 5 | 9 => 9 | 46 => 75 | 51 => 89 | 146 => 90 | n => n, fun  | n => n⟩
theorem lib_last_lays : Lays.n148 Tryz.prog lib_last_ren := {
  mixed := by kernel_rfl,
  f148 := Tryz.func41.trans (congrArg some (by kernel_rfl)),
  f222 := Tryz.func65.trans (congrArg some (by kernel_rfl)),
  f223 := Tryz.func66.trans (congrArg some (by kernel_rfl)),
  f269 := Tryz.func84.trans (congrArg some (by kernel_rfl)),
  t3 := Tryz.underlying3,
  a3 := Tryz.isAgg3,
  z3 := Tryz.sizeOf3,
  v3 := Tryz.zeroValue3,
  t4 := Tryz.underlying4,
  a4 := Tryz.isAgg4,
  z4 := Tryz.sizeOf4,
  v4 := Tryz.zeroValue4,
  t5 := Tryz.underlying5,
  a5 := Tryz.isAgg5,
  z5 := Tryz.sizeOf5,
  v5 := Tryz.zeroValue5,
  t9 := Tryz.underlying9,
  a9 := Tryz.isAgg9,
  z9 := Tryz.sizeOf9,
  v9 := Tryz.zeroValue9,
  t46 := Tryz.underlying75,
  a46 := Tryz.isAgg75,
  z46 := Tryz.sizeOf75,
  v46 := Tryz.zeroValue75,
  t51 := Tryz.underlying89,
  a51 := Tryz.isAgg89,
  z51 := Tryz.sizeOf89,
  v51 := Tryz.zeroValue89,
  t146 := Tryz.underlying90,
  a146 := Tryz.isAgg90,
  z146 := Tryz.sizeOf90,
  v146 := Tryz.zeroValue90 }
def lib_hasSuffix_ren : Go.Shelf.Ren := ⟨fun | 100 => 21 | 207 => 37 | n => n, fun | 3 => 3 | 4 => 4 | 9 => 9 | n => n, fun  | n => n⟩
theorem lib_hasSuffix_lays : Lays.n100 Tryz.prog lib_hasSuffix_ren := {
  mixed := by kernel_rfl,
  f100 := Tryz.func21.trans (congrArg some (by kernel_rfl)),
  f207 := Tryz.func37.trans (congrArg some (by kernel_rfl)),
  t3 := Tryz.underlying3,
  a3 := Tryz.isAgg3,
  z3 := Tryz.sizeOf3,
  v3 := Tryz.zeroValue3,
  t4 := Tryz.underlying4,
  a4 := Tryz.isAgg4,
  z4 := Tryz.sizeOf4,
  v4 := Tryz.zeroValue4,
  t9 := Tryz.underlying9,
  a9 := Tryz.isAgg9,
  z9 := Tryz.sizeOf9,
  v9 := Tryz.zeroValue9 }
def lib_trimPrefix_ren : Go.Shelf.Ren := ⟨fun | 101 => 28 | 206 => 76 | 208 => 47 | n => n, fun | 3 => 3 | 4 => 4 | 9 => 9 | n => n, fun  | n => n⟩
theorem lib_trimPrefix_lays : Lays.n101 Tryz.prog lib_trimPrefix_ren := {
  mixed := by kernel_rfl,
  f101 := Tryz.func28.trans (congrArg some (by kernel_rfl)),
  f206 := Tryz.func76.trans (congrArg some (by kernel_rfl)),
  f208 := Tryz.func47.trans (congrArg some (by kernel_rfl)),
  t3 := Tryz.underlying3,
  a3 := Tryz.isAgg3,
  z3 := Tryz.sizeOf3,
  v3 := Tryz.zeroValue3,
  t4 := Tryz.underlying4,
  a4 := Tryz.isAgg4,
  z4 := Tryz.sizeOf4,
  v4 := Tryz.zeroValue4,
  t9 := Tryz.underlying9,
  a9 := Tryz.isAgg9,
  z9 := Tryz.sizeOf9,
  v9 := Tryz.zeroValue9 }
def lib_cutPrefix_ren : Go.Shelf.Ren := ⟨fun | 103 => 39 | 206 => 76 | 210 => 63 | n => n, fun | 3 => 3 | 4 => 4 | 9 => 9 | 24 => 49 | n => n, fun  | n => n⟩
theorem lib_cutPrefix_lays : Lays.n103 Tryz.prog lib_cutPrefix_ren := {
  mixed := by kernel_rfl,
  f103 := Tryz.func39.trans (congrArg some (by kernel_rfl)),
  f206 := Tryz.func76.trans (congrArg some (by kernel_rfl)),
  f210 := Tryz.func63.trans (congrArg some (by kernel_rfl)),
  t3 := Tryz.underlying3,
  a3 := Tryz.isAgg3,
  z3 := Tryz.sizeOf3,
  v3 := Tryz.zeroValue3,
  t4 := Tryz.underlying4,
  a4 := Tryz.isAgg4,
  z4 := Tryz.sizeOf4,
  v4 := Tryz.zeroValue4,
  t9 := Tryz.underlying9,
  a9 := Tryz.isAgg9,
  z9 := Tryz.sizeOf9,
  v9 := Tryz.zeroValue9,
  t24 := Tryz.underlying49,
  a24 := Tryz.isAgg49,
  z24 := Tryz.sizeOf49,
  v24 := Tryz.zeroValue49 }
def lib_cutSuffix_ren : Go.Shelf.Ren := ⟨fun | 104 => 40 | 207 => 37 | 211 => 64 | n => n, fun | 3 => 3 | 4 => 4 | 9 => 9 | 24 => 49 | n => n, fun  | n => n⟩
theorem lib_cutSuffix_lays : Lays.n104 Tryz.prog lib_cutSuffix_ren := {
  mixed := by kernel_rfl,
  f104 := Tryz.func40.trans (congrArg some (by kernel_rfl)),
  f207 := Tryz.func37.trans (congrArg some (by kernel_rfl)),
  f211 := Tryz.func64.trans (congrArg some (by kernel_rfl)),
  t3 := Tryz.underlying3,
  a3 := Tryz.isAgg3,
  z3 := Tryz.sizeOf3,
  v3 := Tryz.zeroValue3,
  t4 := Tryz.underlying4,
  a4 := Tryz.isAgg4,
  z4 := Tryz.sizeOf4,
  v4 := Tryz.zeroValue4,
  t9 := Tryz.underlying9,
  a9 := Tryz.isAgg9,
  z9 := Tryz.sizeOf9,
  v9 := Tryz.zeroValue9,
  t24 := Tryz.underlying49,
  a24 := Tryz.isAgg49,
  z24 := Tryz.sizeOf49,
  v24 := Tryz.zeroValue49 }
/-- internal/bytealg.MaxLen holds some number. -/
def MaxL (w : World) : Prop := ∃ m, w.cell? ⟨0, 0, none⟩ = some (.int .i64 m)
theorem MaxL.stay {w w' : World} (h : MaxL w) (hb : Below w.heap.size w w') : MaxL w' := by
  obtain ⟨m, hm⟩ := h
  exact ⟨m, below_cell hb (lt_of_cell hm) hm⟩
theorem Index_any (s : ByteArray) (c : UInt8) (w : World) :
    Calls Tryz.prog 22 #[.string s, .string ⟨#[c]⟩] w fun e w' => e = .returned (.int .i64 (Lib.indexByte s.data.toList c)) ∧ w' = w := by
  exact Any.strings_Index_one lib_index_lays s c w
theorem Cut_any (s : ByteArray) (w : World) (hs : s.size ≤ 100000) (hm : MaxL w) :
    Calls Tryz.prog 42 #[.string s, .string ⟨#[58, 58]⟩] w fun e w' => e = .returned (.tuple #[.string ⟨(Lib.cut s.data.toList [58, 58]).1.toArray⟩, .string ⟨(Lib.cut s.data.toList [58, 58]).2.1.toArray⟩, .bool (Lib.cut s.data.toList [58, 58]).2.2]) ∧ ∃ n, w' = w.drewN n := by
  obtain ⟨m, hm⟩ := hm
  exact Any.strings_Cut lib_cut_lays s ⟨#[58, 58]⟩ m w (by omega) hm
theorem LastIndex_any (s : ByteArray) (w : World) (hs : s.size ≤ 100000) :
    Calls Tryz.prog 41 #[.string s, .string ⟨#[58]⟩] w fun e w' => e = .returned (.int .i64 (Lib.lastIndexByte s 58)) ∧ w' = w := by
  exact Any.strings_LastIndex_one lib_last_lays s ⟨#[58]⟩ rfl (by omega) w
theorem HasSuffix_any (s p : ByteArray) (w : World) (hs : s.size ≤ 100000) :
    Calls Tryz.prog 21 #[.string s, .string p] w fun e w' => e = .returned (.bool (Lib.hasSuffix s.data.toList p.data.toList)) ∧ w' = w := by
  exact Any.strings_HasSuffix lib_hasSuffix_lays s p w (by omega)
theorem TrimPrefix_any (s p : ByteArray) (w : World) :
    Calls Tryz.prog 28 #[.string s, .string p] w fun e w' => e = .returned (.string ⟨(Lib.trimPrefix s.data.toList p.data.toList).toArray⟩) ∧ w' = w := by
  exact Any.strings_TrimPrefix lib_trimPrefix_lays s p w
theorem CutPrefix_any (s p : ByteArray) (w : World) :
    Calls Tryz.prog 39 #[.string s, .string p] w fun e w' => e = .returned (.tuple #[.string ⟨(Lib.trimPrefix s.data.toList p.data.toList).toArray⟩, .bool (Lib.hasPrefix s.data.toList p.data.toList)]) ∧ w' = w := by
  exact Any.strings_CutPrefix lib_cutPrefix_lays s p w
theorem CutSuffix_any (s p : ByteArray) (w : World) (hs : s.size ≤ 100000) :
    Calls Tryz.prog 40 #[.string s, .string p] w fun e w' => e = .returned (.tuple #[.string ⟨(Lib.trimSuffix s.data.toList p.data.toList).toArray⟩, .bool (Lib.hasSuffix s.data.toList p.data.toList)]) ∧ w' = w := by
  exact Any.strings_CutSuffix lib_cutSuffix_lays s p w (by omega)
end Go.Proofs.YtfjklhfmecjjkaaGreatDoor
