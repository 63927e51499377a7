/- The library's searches and cuts by the shelf's contracts, laid at this program's numbers. -/
import Derived.Test.YtnpbnlphmngbdaaDoorHoD
import Derived.Test.YtnpbnlphmngbdaaDoorWorld
import Derived.Shelf.Strings.Search3
import Derived.Shelf.Strings.Cut
import Derived.Shelf.Strings.LastIndex
import Derived.Shelf.Strings.Prefix
import Derived.Shelf.Small.Wraps
namespace Go.Proofs.YtnpbnlphmngbdaaDoor
open Go.RowKit

set_option maxRecDepth 100000
def lib_index_ren : Go.Shelf.Ren := ⟨fun | 143 => 30 | 217 => 56 | 219 => 38 | 224 => 58 | 225 => 57 | 266 => 76 | 267 => 59 | 314 => 77 | n => n, fun | 3 => 3 | 4 => 4 | 5 => 5 | 9 => 9 | 46 => 77 | 51 => 84 | 146 => 85 | n => n, fun | 1 => 0 | n => n⟩
theorem lib_index_lays : Lays.n143 Tryd.prog lib_index_ren := {
  mixed := by kernel_rfl,
  f143 := Tryd.func30.trans (congrArg some (by kernel_rfl)),
  f217 := Tryd.func56.trans (congrArg some (by kernel_rfl)),
  f219 := Tryd.func38.trans (congrArg some (by kernel_rfl)),
  f224 := Tryd.func58.trans (congrArg some (by kernel_rfl)),
  f225 := Tryd.func57.trans (congrArg some (by kernel_rfl)),
  f266 := Tryd.func76.trans (congrArg some (by kernel_rfl)),
  f267 := Tryd.func59.trans (congrArg some (by kernel_rfl)),
  f314 := Tryd.func77.trans (congrArg some (by kernel_rfl)),
  t3 := Tryd.underlying3,
  a3 := Tryd.isAgg3,
  z3 := Tryd.sizeOf3,
  v3 := Tryd.zeroValue3,
  t4 := Tryd.underlying4,
  a4 := Tryd.isAgg4,
  z4 := Tryd.sizeOf4,
  v4 := Tryd.zeroValue4,
  t5 := Tryd.underlying5,
  a5 := Tryd.isAgg5,
  z5 := Tryd.sizeOf5,
  v5 := Tryd.zeroValue5,
  t9 := Tryd.underlying9,
  a9 := Tryd.isAgg9,
  z9 := Tryd.sizeOf9,
  v9 := Tryd.zeroValue9,
  t46 := Tryd.underlying77,
  a46 := Tryd.isAgg77,
  z46 := Tryd.sizeOf77,
  v46 := Tryd.zeroValue77,
  t51 := Tryd.underlying84,
  a51 := Tryd.isAgg84,
  z51 := Tryd.sizeOf84,
  v51 := Tryd.zeroValue84,
  t146 := Tryd.underlying85,
  a146 := Tryd.isAgg85,
  z146 := Tryd.sizeOf85,
  v146 := Tryd.zeroValue85,
  g1 := by kernel_rfl }
def lib_cut_ren : Go.Shelf.Ren := ⟨fun | 145 => 18 | 217 => 56 | 219 => 38 | 220 => 27 | 224 => 58 | 225 => 57 | 266 => 76 | 267 => 59 | 314 => 77 | n => n, fun | 3 => 3 | 4 => 4 | 5 => 5 | 9 => 9 | 46 => 77 | 51 => 84 | 59 => 46 | 146 => 85 | n => n, fun | 1 => 0 | n => n⟩
theorem lib_cut_lays : Lays.n145 Tryd.prog lib_cut_ren := {
  mixed := by kernel_rfl,
  f145 := Tryd.func18.trans (congrArg some (by kernel_rfl)),
  f217 := Tryd.func56.trans (congrArg some (by kernel_rfl)),
  f219 := Tryd.func38.trans (congrArg some (by kernel_rfl)),
  f220 := Tryd.func27.trans (congrArg some (by kernel_rfl)),
  f224 := Tryd.func58.trans (congrArg some (by kernel_rfl)),
  f225 := Tryd.func57.trans (congrArg some (by kernel_rfl)),
  f266 := Tryd.func76.trans (congrArg some (by kernel_rfl)),
  f267 := Tryd.func59.trans (congrArg some (by kernel_rfl)),
  f314 := Tryd.func77.trans (congrArg some (by kernel_rfl)),
  t3 := Tryd.underlying3,
  a3 := Tryd.isAgg3,
  z3 := Tryd.sizeOf3,
  v3 := Tryd.zeroValue3,
  t4 := Tryd.underlying4,
  a4 := Tryd.isAgg4,
  z4 := Tryd.sizeOf4,
  v4 := Tryd.zeroValue4,
  t5 := Tryd.underlying5,
  a5 := Tryd.isAgg5,
  z5 := Tryd.sizeOf5,
  v5 := Tryd.zeroValue5,
  t9 := Tryd.underlying9,
  a9 := Tryd.isAgg9,
  z9 := Tryd.sizeOf9,
  v9 := Tryd.zeroValue9,
  t46 := Tryd.underlying77,
  a46 := Tryd.isAgg77,
  z46 := Tryd.sizeOf77,
  v46 := Tryd.zeroValue77,
  t51 := Tryd.underlying84,
  a51 := Tryd.isAgg84,
  z51 := Tryd.sizeOf84,
  v51 := Tryd.zeroValue84,
  t59 := Tryd.underlying46,
  a59 := Tryd.isAgg46,
  z59 := Tryd.sizeOf46,
  v59 := Tryd.zeroValue46,
  t146 := Tryd.underlying85,
  a146 := Tryd.isAgg85,
  z146 := Tryd.sizeOf85,
  v146 := Tryd.zeroValue85,
  g1 := by kernel_rfl }
def lib_last_ren : Go.Shelf.Ren := ⟨fun | 148 => 46 | 222 => 64 | 223 => 65 | 269 => 79 | n => n, fun | 3 => 3 | 4 => 4 | 5 => 5 | 9 => 9 | 46 => 77 | 51 => 84 | 146 => 85 | n => n, fun  | n => n⟩
theorem lib_last_lays : Lays.n148 Tryd.prog lib_last_ren := {
  mixed := by kernel_rfl,
  f148 := Tryd.func46.trans (congrArg some (by kernel_rfl)),
  f222 := Tryd.func64.trans (congrArg some (by kernel_rfl)),
  f223 := Tryd.func65.trans (congrArg some (by kernel_rfl)),
  f269 := Tryd.func79.trans (congrArg some (by kernel_rfl)),
  t3 := Tryd.underlying3,
  a3 := Tryd.isAgg3,
  z3 := Tryd.sizeOf3,
  v3 := Tryd.zeroValue3,
  t4 := Tryd.underlying4,
  a4 := Tryd.isAgg4,
  z4 := Tryd.sizeOf4,
  v4 := Tryd.zeroValue4,
  t5 := Tryd.underlying5,
  a5 := Tryd.isAgg5,
  z5 := Tryd.sizeOf5,
  v5 := Tryd.zeroValue5,
  t9 := Tryd.underlying9,
  a9 := Tryd.isAgg9,
  z9 := Tryd.sizeOf9,
  v9 := Tryd.zeroValue9,
  t46 := Tryd.underlying77,
  a46 := Tryd.isAgg77,
  z46 := Tryd.sizeOf77,
  v46 := Tryd.zeroValue77,
  t51 := Tryd.underlying84,
  a51 := Tryd.isAgg84,
  z51 := Tryd.sizeOf84,
  v51 := Tryd.zeroValue84,
  t146 := Tryd.underlying85,
  a146 := Tryd.isAgg85,
  z146 := Tryd.sizeOf85,
  v146 := Tryd.zeroValue85 }
def lib_trimPrefix_ren : Go.Shelf.Ren := ⟨fun | 101 => 36 | 206 => 16 | 208 => 52 | n => n, fun | 3 => 3 | 4 => 4 | 9 => 9 | n => n, fun  | n => n⟩
theorem lib_trimPrefix_lays : Lays.n101 Tryd.prog lib_trimPrefix_ren := {
  mixed := by kernel_rfl,
  f101 := Tryd.func36.trans (congrArg some (by kernel_rfl)),
  f206 := Tryd.func16.trans (congrArg some (by kernel_rfl)),
  f208 := Tryd.func52.trans (congrArg some (by kernel_rfl)),
  t3 := Tryd.underlying3,
  a3 := Tryd.isAgg3,
  z3 := Tryd.sizeOf3,
  v3 := Tryd.zeroValue3,
  t4 := Tryd.underlying4,
  a4 := Tryd.isAgg4,
  z4 := Tryd.sizeOf4,
  v4 := Tryd.zeroValue4,
  t9 := Tryd.underlying9,
  a9 := Tryd.isAgg9,
  z9 := Tryd.sizeOf9,
  v9 := Tryd.zeroValue9 }
def lib_cutPrefix_ren : Go.Shelf.Ren := ⟨fun | 103 => 44 | 206 => 16 | 210 => 62 | n => n, fun | 3 => 3 | 4 => 4 | 9 => 9 | 24 => 57 | n => n, fun  | n => n⟩
theorem lib_cutPrefix_lays : Lays.n103 Tryd.prog lib_cutPrefix_ren := {
  mixed := by kernel_rfl,
  f103 := Tryd.func44.trans (congrArg some (by kernel_rfl)),
  f206 := Tryd.func16.trans (congrArg some (by kernel_rfl)),
  f210 := Tryd.func62.trans (congrArg some (by kernel_rfl)),
  t3 := Tryd.underlying3,
  a3 := Tryd.isAgg3,
  z3 := Tryd.sizeOf3,
  v3 := Tryd.zeroValue3,
  t4 := Tryd.underlying4,
  a4 := Tryd.isAgg4,
  z4 := Tryd.sizeOf4,
  v4 := Tryd.zeroValue4,
  t9 := Tryd.underlying9,
  a9 := Tryd.isAgg9,
  z9 := Tryd.sizeOf9,
  v9 := Tryd.zeroValue9,
  t24 := Tryd.underlying57,
  a24 := Tryd.isAgg57,
  z24 := Tryd.sizeOf57,
  v24 := Tryd.zeroValue57 }
def lib_cutSuffix_ren : Go.Shelf.Ren := ⟨fun | 104 => 45 | 207 => 78 | 211 => 63 | n => n, fun | 3 => 3 | 4 => 4 | 9 => 9 | 24 => 57 | n => n, fun  | n => n⟩
theorem lib_cutSuffix_lays : Lays.n104 Tryd.prog lib_cutSuffix_ren := {
  mixed := by kernel_rfl,
  f104 := Tryd.func45.trans (congrArg some (by kernel_rfl)),
  f207 := Tryd.func78.trans (congrArg some (by kernel_rfl)),
  f211 := Tryd.func63.trans (congrArg some (by kernel_rfl)),
  t3 := Tryd.underlying3,
  a3 := Tryd.isAgg3,
  z3 := Tryd.sizeOf3,
  v3 := Tryd.zeroValue3,
  t4 := Tryd.underlying4,
  a4 := Tryd.isAgg4,
  z4 := Tryd.sizeOf4,
  v4 := Tryd.zeroValue4,
  t9 := Tryd.underlying9,
  a9 := Tryd.isAgg9,
  z9 := Tryd.sizeOf9,
  v9 := Tryd.zeroValue9,
  t24 := Tryd.underlying57,
  a24 := Tryd.isAgg57,
  z24 := Tryd.sizeOf57,
  v24 := Tryd.zeroValue57 }
/-- internal/bytealg.MaxLen holds some number. -/
def MaxL (w : World) : Prop := ∃ m, w.cell? ⟨0, 0, none⟩ = some (.int .i64 m)
theorem MaxL.stay {w w' : World} (h : MaxL w) (hb : Below w.heap.size w w') : MaxL w' := by
  obtain ⟨m, hm⟩ := h
  exact ⟨m, below_cell hb (lt_of_cell hm) hm⟩
theorem Index_any (s : ByteArray) (c : UInt8) (w : World) :
    Calls Tryd.prog 30 #[.string s, .string ⟨#[c]⟩] w fun e w' => e = .returned (.int .i64 (Lib.indexByte s.data.toList c)) ∧ w' = w := by
  exact Any.strings_Index_one lib_index_lays s c w
theorem Cut_any (s : ByteArray) (w : World) (hs : s.size ≤ 100000) (hm : MaxL w) :
    Calls Tryd.prog 18 #[.string s, .string ⟨#[58, 58]⟩] w fun e w' => e = .returned (.tuple #[.string ⟨(Lib.cut s.data.toList [58, 58]).1.toArray⟩, .string ⟨(Lib.cut s.data.toList [58, 58]).2.1.toArray⟩, .bool (Lib.cut s.data.toList [58, 58]).2.2]) ∧ ∃ n, w' = w.drewN n := by
  obtain ⟨m, hm⟩ := hm
  exact Any.strings_Cut lib_cut_lays s ⟨#[58, 58]⟩ m w (by omega) hm
theorem LastIndex_any (s : ByteArray) (w : World) (hs : s.size ≤ 100000) :
    Calls Tryd.prog 46 #[.string s, .string ⟨#[58]⟩] w fun e w' => e = .returned (.int .i64 (Lib.lastIndexByte s 58)) ∧ w' = w := by
  exact Any.strings_LastIndex_one lib_last_lays s ⟨#[58]⟩ rfl (by omega) w
theorem TrimPrefix_any (s p : ByteArray) (w : World) :
    Calls Tryd.prog 36 #[.string s, .string p] w fun e w' => e = .returned (.string ⟨(Lib.trimPrefix s.data.toList p.data.toList).toArray⟩) ∧ w' = w := by
  exact Any.strings_TrimPrefix lib_trimPrefix_lays s p w
theorem CutPrefix_any (s p : ByteArray) (w : World) :
    Calls Tryd.prog 44 #[.string s, .string p] w fun e w' => e = .returned (.tuple #[.string ⟨(Lib.trimPrefix s.data.toList p.data.toList).toArray⟩, .bool (Lib.hasPrefix s.data.toList p.data.toList)]) ∧ w' = w := by
  exact Any.strings_CutPrefix lib_cutPrefix_lays s p w
theorem CutSuffix_any (s p : ByteArray) (w : World) (hs : s.size ≤ 100000) :
    Calls Tryd.prog 45 #[.string s, .string p] w fun e w' => e = .returned (.tuple #[.string ⟨(Lib.trimSuffix s.data.toList p.data.toList).toArray⟩, .bool (Lib.hasSuffix s.data.toList p.data.toList)]) ∧ w' = w := by
  exact Any.strings_CutSuffix lib_cutSuffix_lays s p w (by omega)
end Go.Proofs.YtnpbnlphmngbdaaDoor
