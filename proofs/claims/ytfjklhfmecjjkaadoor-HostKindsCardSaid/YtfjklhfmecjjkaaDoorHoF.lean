/- The library's searches and cuts by the shelf's contracts, laid at this program's numbers. -/
import Derived.Test.YtfjklhfmecjjkaaDoorHoD
import Derived.Test.YtfjklhfmecjjkaaDoorWorld
import Derived.Shelf.Strings.Search3
import Derived.Shelf.Strings.Cut
import Derived.Shelf.Strings.LastIndex
import Derived.Shelf.Strings.Prefix
import Derived.Shelf.Small.Wraps
namespace Go.Proofs.YtfjklhfmecjjkaaDoor
open Go.RowKit

set_option maxRecDepth 100000
def lib_index_ren : Go.Shelf.Ren := ⟨fun | 143 => 51 | 217 => 73 | 219 => 65 | 224 => 75 | 225 => 74 | 266 => 81 | 267 => 76 | 314 => 82 | n => n, fun | 3 => 3 | 4 => 4 | 5 => 5 | 9 => 9 | 46 => 73 | 51 => 67 | 146 => 68 | n => n, fun | 1 => 0 | n => n⟩
theorem lib_index_lays : Lays.n143 Tryd.prog lib_index_ren := {
  mixed := by kernel_rfl,
  f143 := Tryd.func51.trans (congrArg some (by kernel_rfl)),
  f217 := Tryd.func73.trans (congrArg some (by kernel_rfl)),
  f219 := Tryd.func65.trans (congrArg some (by kernel_rfl)),
  f224 := Tryd.func75.trans (congrArg some (by kernel_rfl)),
  f225 := Tryd.func74.trans (congrArg some (by kernel_rfl)),
  f266 := Tryd.func81.trans (congrArg some (by kernel_rfl)),
  f267 := Tryd.func76.trans (congrArg some (by kernel_rfl)),
  f314 := Tryd.func82.trans (congrArg some (by kernel_rfl)),
  t3 := Tryd.underlying3,
  a3 := Tryd.isAgg3,
  z3 := Tryd.sizeOf3,
  v3 := Tryd.zeroValue3,
  t4 := Tryd.underlying4,
  a4 := Tryd.isAgg4,
  z4 := Tryd.sizeOf4,
  v4 := Tryd.zeroValue4,
  t5 := Tryd.underlying5,
  a5 := Tryd.isAgg5,
  z5 := Tryd.sizeOf5,
  v5 := Tryd.zeroValue5,
  t9 := Tryd.underlying9,
  a9 := Tryd.isAgg9,
  z9 := Tryd.sizeOf9,
  v9 := Tryd.zeroValue9,
  t46 := Tryd.underlying73,
  a46 := Tryd.isAgg73,
  z46 := Tryd.sizeOf73,
  v46 := Tryd.zeroValue73,
  t51 := Tryd.underlying67,
  a51 := Tryd.isAgg67,
  z51 := Tryd.sizeOf67,
  v51 := Tryd.zeroValue67,
  t146 := Tryd.underlying68,
  a146 := Tryd.isAgg68,
  z146 := Tryd.sizeOf68,
  v146 := Tryd.zeroValue68,
  g1 := by kernel_rfl }
def lib_cut_ren : Go.Shelf.Ren := ⟨fun | 145 => 25 | 217 => 73 | 219 => 65 | 220 => 47 | 224 => 75 | 225 => 74 | 266 => 81 | 267 => 76 | 314 => 82 | n => n, fun | 3 => 3 | 4 => 4 | 5 => 5 | 9 => 9 | 46 => 73 | 51 => 67 | 59 => 44 | 146 => 68 | n => n, fun | 1 => 0 | n => n⟩
theorem lib_cut_lays : Lays.n145 Tryd.prog lib_cut_ren := {
  mixed := by kernel_rfl,
  f145 := Tryd.func25.trans (congrArg some (by kernel_rfl)),
  f217 := Tryd.func73.trans (congrArg some (by kernel_rfl)),
  f219 := Tryd.func65.trans (congrArg some (by kernel_rfl)),
  f220 := Tryd.func47.trans (congrArg some (by kernel_rfl)),
  f224 := Tryd.func75.trans (congrArg some (by kernel_rfl)),
  f225 := Tryd.func74.trans (congrArg some (by kernel_rfl)),
  f266 := Tryd.func81.trans (congrArg some (by kernel_rfl)),
  f267 := Tryd.func76.trans (congrArg some (by kernel_rfl)),
  f314 := Tryd.func82.trans (congrArg some (by kernel_rfl)),
  t3 := Tryd.underlying3,
  a3 := Tryd.isAgg3,
  z3 := Tryd.sizeOf3,
  v3 := Tryd.zeroValue3,
  t4 := Tryd.underlying4,
  a4 := Tryd.isAgg4,
  z4 := Tryd.sizeOf4,
  v4 := Tryd.zeroValue4,
  t5 := Tryd.underlying5,
  a5 := Tryd.isAgg5,
  z5 := Tryd.sizeOf5,
  v5 := Tryd.zeroValue5,
  t9 := Tryd.underlying9,
  a9 := Tryd.isAgg9,
  z9 := Tryd.sizeOf9,
  v9 := Tryd.zeroValue9,
  t46 := Tryd.underlying73,
  a46 := Tryd.isAgg73,
  z46 := Tryd.sizeOf73,
  v46 := Tryd.zeroValue73,
  t51 := Tryd.underlying67,
  a51 := Tryd.isAgg67,
  z51 := Tryd.sizeOf67,
  v51 := Tryd.zeroValue67,
  t59 := Tryd.underlying44,
  a59 := Tryd.isAgg44,
  z59 := Tryd.sizeOf44,
  v59 := Tryd.zeroValue44,
  t146 := Tryd.underlying68,
  a146 := Tryd.isAgg68,
  z146 := Tryd.sizeOf68,
  v146 := Tryd.zeroValue68,
  g1 := by kernel_rfl }
def lib_last_ren : Go.Shelf.Ren := ⟨fun | 148 => 24 | 222 => 45 | 223 => 46 | 269 => 64 | n => n, fun | 3 => 3 | 4 => 4 | 5 => 5 | 9 => 9 | 46 => 73 | 51 => 67 | 146 => 68 | n => n, fun  | n => n⟩
theorem lib_last_lays : Lays.n148 Tryd.prog lib_last_ren := {
  mixed := by kernel_rfl,
  f148 := Tryd.func24.trans (congrArg some (by kernel_rfl)),
  f222 := Tryd.func45.trans (congrArg some (by kernel_rfl)),
  f223 := Tryd.func46.trans (congrArg some (by kernel_rfl)),
  f269 := Tryd.func64.trans (congrArg some (by kernel_rfl)),
  t3 := Tryd.underlying3,
  a3 := Tryd.isAgg3,
  z3 := Tryd.sizeOf3,
  v3 := Tryd.zeroValue3,
  t4 := Tryd.underlying4,
  a4 := Tryd.isAgg4,
  z4 := Tryd.sizeOf4,
  v4 := Tryd.zeroValue4,
  t5 := Tryd.underlying5,
  a5 := Tryd.isAgg5,
  z5 := Tryd.sizeOf5,
  v5 := Tryd.zeroValue5,
  t9 := Tryd.underlying9,
  a9 := Tryd.isAgg9,
  z9 := Tryd.sizeOf9,
  v9 := Tryd.zeroValue9,
  t46 := Tryd.underlying73,
  a46 := Tryd.isAgg73,
  z46 := Tryd.sizeOf73,
  v46 := Tryd.zeroValue73,
  t51 := Tryd.underlying67,
  a51 := Tryd.isAgg67,
  z51 := Tryd.sizeOf67,
  v51 := Tryd.zeroValue67,
  t146 := Tryd.underlying68,
  a146 := Tryd.isAgg68,
  z146 := Tryd.sizeOf68,
  v146 := Tryd.zeroValue68 }
def lib_hasSuffix_ren : Go.Shelf.Ren := ⟨fun | 100 => 30 | 207 => 50 | n => n, fun | 3 => 3 | 4 => 4 | 9 => 9 | n => n, fun  | n => n⟩
theorem lib_hasSuffix_lays : Lays.n100 Tryd.prog lib_hasSuffix_ren := {
  mixed := by kernel_rfl,
  f100 := Tryd.func30.trans (congrArg some (by kernel_rfl)),
  f207 := Tryd.func50.trans (congrArg some (by kernel_rfl)),
  t3 := Tryd.underlying3,
  a3 := Tryd.isAgg3,
  z3 := Tryd.sizeOf3,
  v3 := Tryd.zeroValue3,
  t4 := Tryd.underlying4,
  a4 := Tryd.isAgg4,
  z4 := Tryd.sizeOf4,
  v4 := Tryd.zeroValue4,
  t9 := Tryd.underlying9,
  a9 := Tryd.isAgg9,
  z9 := Tryd.sizeOf9,
  v9 := Tryd.zeroValue9 }
def lib_trimPrefix_ren : Go.Shelf.Ren := ⟨fun | 101 => 53 | 206 => 79 | 208 => 69 | n => n, fun | 3 => 3 | 4 => 4 | 9 => 9 | n => n, fun  | n => n⟩
theorem lib_trimPrefix_lays : Lays.n101 Tryd.prog lib_trimPrefix_ren := {
  mixed := by kernel_rfl,
  f101 := Tryd.func53.trans (congrArg some (by kernel_rfl)),
  f206 := Tryd.func79.trans (congrArg some (by kernel_rfl)),
  f208 := Tryd.func69.trans (congrArg some (by kernel_rfl)),
  t3 := Tryd.underlying3,
  a3 := Tryd.isAgg3,
  z3 := Tryd.sizeOf3,
  v3 := Tryd.zeroValue3,
  t4 := Tryd.underlying4,
  a4 := Tryd.isAgg4,
  z4 := Tryd.sizeOf4,
  v4 := Tryd.zeroValue4,
  t9 := Tryd.underlying9,
  a9 := Tryd.isAgg9,
  z9 := Tryd.sizeOf9,
  v9 := Tryd.zeroValue9 }
def lib_cutPrefix_ren : Go.Shelf.Ren := ⟨fun | 103 => 67 | 206 => 79 | 210 => 77 | n => n, fun | 3 => 3 | 4 => 4 | 9 => 9 | 24 => 60 | n => n, fun  | n => n⟩
theorem lib_cutPrefix_lays : Lays.n103 Tryd.prog lib_cutPrefix_ren := {
  mixed := by kernel_rfl,
  f103 := Tryd.func67.trans (congrArg some (by kernel_rfl)),
  f206 := Tryd.func79.trans (congrArg some (by kernel_rfl)),
  f210 := Tryd.func77.trans (congrArg some (by kernel_rfl)),
  t3 := Tryd.underlying3,
  a3 := Tryd.isAgg3,
  z3 := Tryd.sizeOf3,
  v3 := Tryd.zeroValue3,
  t4 := Tryd.underlying4,
  a4 := Tryd.isAgg4,
  z4 := Tryd.sizeOf4,
  v4 := Tryd.zeroValue4,
  t9 := Tryd.underlying9,
  a9 := Tryd.isAgg9,
  z9 := Tryd.sizeOf9,
  v9 := Tryd.zeroValue9,
  t24 := Tryd.underlying60,
  a24 := Tryd.isAgg60,
  z24 := Tryd.sizeOf60,
  v24 := Tryd.zeroValue60 }
def lib_cutSuffix_ren : Go.Shelf.Ren := ⟨fun | 104 => 68 | 207 => 50 | 211 => 78 | n => n, fun | 3 => 3 | 4 => 4 | 9 => 9 | 24 => 60 | n => n, fun  | n => n⟩
theorem lib_cutSuffix_lays : Lays.n104 Tryd.prog lib_cutSuffix_ren := {
  mixed := by kernel_rfl,
  f104 := Tryd.func68.trans (congrArg some (by kernel_rfl)),
  f207 := Tryd.func50.trans (congrArg some (by kernel_rfl)),
  f211 := Tryd.func78.trans (congrArg some (by kernel_rfl)),
  t3 := Tryd.underlying3,
  a3 := Tryd.isAgg3,
  z3 := Tryd.sizeOf3,
  v3 := Tryd.zeroValue3,
  t4 := Tryd.underlying4,
  a4 := Tryd.isAgg4,
  z4 := Tryd.sizeOf4,
  v4 := Tryd.zeroValue4,
  t9 := Tryd.underlying9,
  a9 := Tryd.isAgg9,
  z9 := Tryd.sizeOf9,
  v9 := Tryd.zeroValue9,
  t24 := Tryd.underlying60,
  a24 := Tryd.isAgg60,
  z24 := Tryd.sizeOf60,
  v24 := Tryd.zeroValue60 }
/-- internal/bytealg.MaxLen holds some number. -/
def MaxL (w : World) : Prop := ∃ m, w.cell? ⟨0, 0, none⟩ = some (.int .i64 m)
theorem MaxL.stay {w w' : World} (h : MaxL w) (hb : Below w.heap.size w w') : MaxL w' := by
  obtain ⟨m, hm⟩ := h
  exact ⟨m, below_cell hb (lt_of_cell hm) hm⟩
theorem Index_any (s : ByteArray) (c : UInt8) (w : World) :
    Calls Tryd.prog 51 #[.string s, .string ⟨#[c]⟩] w fun e w' => e = .returned (.int .i64 (Lib.indexByte s.data.toList c)) ∧ w' = w := by
  exact Any.strings_Index_one lib_index_lays s c w
theorem Cut_any (s : ByteArray) (w : World) (hs : s.size ≤ 100000) (hm : MaxL w) :
    Calls Tryd.prog 25 #[.string s, .string ⟨#[58, 58]⟩] w fun e w' => e = .returned (.tuple #[.string ⟨(Lib.cut s.data.toList [58, 58]).1.toArray⟩, .string ⟨(Lib.cut s.data.toList [58, 58]).2.1.toArray⟩, .bool (Lib.cut s.data.toList [58, 58]).2.2]) ∧ ∃ n, w' = w.drewN n := by
  obtain ⟨m, hm⟩ := hm
  exact Any.strings_Cut lib_cut_lays s ⟨#[58, 58]⟩ m w (by omega) hm
theorem LastIndex_any (s : ByteArray) (w : World) (hs : s.size ≤ 100000) :
    Calls Tryd.prog 24 #[.string s, .string ⟨#[58]⟩] w fun e w' => e = .returned (.int .i64 (Lib.lastIndexByte s 58)) ∧ w' = w := by
  exact Any.strings_LastIndex_one lib_last_lays s ⟨#[58]⟩ rfl (by omega) w
theorem HasSuffix_any (s p : ByteArray) (w : World) (hs : s.size ≤ 100000) :
    Calls Tryd.prog 30 #[.string s, .string p] w fun e w' => e = .returned (.bool (Lib.hasSuffix s.data.toList p.data.toList)) ∧ w' = w := by
  exact Any.strings_HasSuffix lib_hasSuffix_lays s p w (by omega)
theorem TrimPrefix_any (s p : ByteArray) (w : World) :
    Calls Tryd.prog 53 #[.string s, .string p] w fun e w' => e = .returned (.string ⟨(Lib.trimPrefix s.data.toList p.data.toList).toArray⟩) ∧ w' = w := by
  exact Any.strings_TrimPrefix lib_trimPrefix_lays s p w
theorem CutPrefix_any (s p : ByteArray) (w : World) :
    Calls Tryd.prog 67 #[.string s, .string p] w fun e w' => e = .returned (.tuple #[.string ⟨(Lib.trimPrefix s.data.toList p.data.toList).toArray⟩, .bool (Lib.hasPrefix s.data.toList p.data.toList)]) ∧ w' = w := by
  exact Any.strings_CutPrefix lib_cutPrefix_lays s p w
theorem CutSuffix_any (s p : ByteArray) (w : World) (hs : s.size ≤ 100000) :
    Calls Tryd.prog 68 #[.string s, .string p] w fun e w' => e = .returned (.tuple #[.string ⟨(Lib.trimSuffix s.data.toList p.data.toList).toArray⟩, .bool (Lib.hasSuffix s.data.toList p.data.toList)]) ∧ w' = w := by
  exact Any.strings_CutSuffix lib_cutSuffix_lays s p w (by omega)
end Go.Proofs.YtfjklhfmecjjkaaDoor
