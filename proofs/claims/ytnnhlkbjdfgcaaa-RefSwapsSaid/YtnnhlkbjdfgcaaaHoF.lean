/- The library's searches and cuts by the shelf's contracts, laid at this program's numbers. -/
import Derived.Test.YtnnhlkbjdfgcaaaHoD
import Derived.Test.YtnnhlkbjdfgcaaaWorld
import Derived.Shelf.Strings.Search3
import Derived.Shelf.Strings.Cut
import Derived.Shelf.Strings.LastIndex
import Derived.Shelf.Strings.Prefix
import Derived.Shelf.Small.Wraps
namespace Go.Proofs.Ytnnhlkbjdfgcaaa
open Go.RowKit

set_option maxRecDepth 100000
def lib_index_ren : Go.Shelf.Ren := ⟨fun | 143 => 50 | 217 => 60 | 219 => 59 | 224 => 73 | 225 => 72 | 266 => 75 | 267 => 74 | 314 => 79 | n => n, fun | 3 => 3 | 4 => 4 | 5 => 5 | 9 => 9 | 46 => 75 | 51 => 77 | 146 => 78 | n => n, fun | 1 => 0 | n => n⟩
theorem lib_index_lays : Lays.n143 Try.prog lib_index_ren := {
  mixed := by kernel_rfl,
  f143 := Try.func50.trans (congrArg some (by kernel_rfl)),
  f217 := Try.func60.trans (congrArg some (by kernel_rfl)),
  f219 := Try.func59.trans (congrArg some (by kernel_rfl)),
  f224 := Try.func73.trans (congrArg some (by kernel_rfl)),
  f225 := Try.func72.trans (congrArg some (by kernel_rfl)),
  f266 := Try.func75.trans (congrArg some (by kernel_rfl)),
  f267 := Try.func74.trans (congrArg some (by kernel_rfl)),
  f314 := Try.func79.trans (congrArg some (by kernel_rfl)),
  t3 := Try.underlying3,
  a3 := Try.isAgg3,
  z3 := Try.sizeOf3,
  v3 := Try.zeroValue3,
  t4 := Try.underlying4,
  a4 := Try.isAgg4,
  z4 := Try.sizeOf4,
  v4 := Try.zeroValue4,
  t5 := Try.underlying5,
  a5 := Try.isAgg5,
  z5 := Try.sizeOf5,
  v5 := Try.zeroValue5,
  t9 := Try.underlying9,
  a9 := Try.isAgg9,
  z9 := Try.sizeOf9,
  v9 := Try.zeroValue9,
  t46 := Try.underlying75,
  a46 := Try.isAgg75,
  z46 := Try.sizeOf75,
  v46 := Try.zeroValue75,
  t51 := Try.underlying77,
  a51 := Try.isAgg77,
  z51 := Try.sizeOf77,
  v51 := Try.zeroValue77,
  t146 := Try.underlying78,
  a146 := Try.isAgg78,
  z146 := Try.sizeOf78,
  v146 := Try.zeroValue78,
  g1 := by kernel_rfl }
def lib_cut_ren : Go.Shelf.Ren := ⟨fun | 145 => 28 | 217 => 60 | 219 => 59 | 220 => 43 | 224 => 73 | 225 => 72 | 266 => 75 | 267 => 74 | 314 => 79 | n => n, fun | 3 => 3 | 4 => 4 | 5 => 5 | 9 => 9 | 46 => 75 | 51 => 77 | 59 => 49 | 146 => 78 | n => n, fun | 1 => 0 | n => n⟩
theorem lib_cut_lays : Lays.n145 Try.prog lib_cut_ren := {
  mixed := by kernel_rfl,
  f145 := Try.func28.trans (congrArg some (by kernel_rfl)),
  f217 := Try.func60.trans (congrArg some (by kernel_rfl)),
  f219 := Try.func59.trans (congrArg some (by kernel_rfl)),
  f220 := Try.func43.trans (congrArg some (by kernel_rfl)),
  f224 := Try.func73.trans (congrArg some (by kernel_rfl)),
  f225 := Try.func72.trans (congrArg some (by kernel_rfl)),
  f266 := Try.func75.trans (congrArg some (by kernel_rfl)),
  f267 := Try.func74.trans (congrArg some (by kernel_rfl)),
  f314 := Try.func79.trans (congrArg some (by kernel_rfl)),
  t3 := Try.underlying3,
  a3 := Try.isAgg3,
  z3 := Try.sizeOf3,
  v3 := Try.zeroValue3,
  t4 := Try.underlying4,
  a4 := Try.isAgg4,
  z4 := Try.sizeOf4,
  v4 := Try.zeroValue4,
  t5 := Try.underlying5,
  a5 := Try.isAgg5,
  z5 := Try.sizeOf5,
  v5 := Try.zeroValue5,
  t9 := Try.underlying9,
  a9 := Try.isAgg9,
  z9 := Try.sizeOf9,
  v9 := Try.zeroValue9,
  t46 := Try.underlying75,
  a46 := Try.isAgg75,
  z46 := Try.sizeOf75,
  v46 := Try.zeroValue75,
  t51 := Try.underlying77,
  a51 := Try.isAgg77,
  z51 := Try.sizeOf77,
  v51 := Try.zeroValue77,
  t59 := Try.underlying49,
  a59 := Try.isAgg49,
  z59 := Try.sizeOf49,
  v59 := Try.zeroValue49,
  t146 := Try.underlying78,
  a146 := Try.isAgg78,
  z146 := Try.sizeOf78,
  v146 := Try.zeroValue78,
  g1 := by kernel_rfl }
def lib_hasSuffix_ren : Go.Shelf.Ren := ⟨fun | 100 => 42 | 207 => 58 | n => n, fun | 3 => 3 | 4 => 4 | 9 => 9 | n => n, fun  | n => n⟩
theorem lib_hasSuffix_lays : Lays.n100 Try.prog lib_hasSuffix_ren := {
  mixed := by kernel_rfl,
  f100 := Try.func42.trans (congrArg some (by kernel_rfl)),
  f207 := Try.func58.trans (congrArg some (by kernel_rfl)),
  t3 := Try.underlying3,
  a3 := Try.isAgg3,
  z3 := Try.sizeOf3,
  v3 := Try.zeroValue3,
  t4 := Try.underlying4,
  a4 := Try.isAgg4,
  z4 := Try.sizeOf4,
  v4 := Try.zeroValue4,
  t9 := Try.underlying9,
  a9 := Try.isAgg9,
  z9 := Try.sizeOf9,
  v9 := Try.zeroValue9 }
def lib_cutPrefix_ren : Go.Shelf.Ren := ⟨fun | 103 => 30 | 206 => 62 | 210 => 49 | n => n, fun | 3 => 3 | 4 => 4 | 9 => 9 | 24 => 41 | n => n, fun  | n => n⟩
theorem lib_cutPrefix_lays : Lays.n103 Try.prog lib_cutPrefix_ren := {
  mixed := by kernel_rfl,
  f103 := Try.func30.trans (congrArg some (by kernel_rfl)),
  f206 := Try.func62.trans (congrArg some (by kernel_rfl)),
  f210 := Try.func49.trans (congrArg some (by kernel_rfl)),
  t3 := Try.underlying3,
  a3 := Try.isAgg3,
  z3 := Try.sizeOf3,
  v3 := Try.zeroValue3,
  t4 := Try.underlying4,
  a4 := Try.isAgg4,
  z4 := Try.sizeOf4,
  v4 := Try.zeroValue4,
  t9 := Try.underlying9,
  a9 := Try.isAgg9,
  z9 := Try.sizeOf9,
  v9 := Try.zeroValue9,
  t24 := Try.underlying41,
  a24 := Try.isAgg41,
  z24 := Try.sizeOf41,
  v24 := Try.zeroValue41 }
/-- internal/bytealg.MaxLen holds some number. -/
def MaxL (w : World) : Prop := ∃ m, w.cell? ⟨0, 0, none⟩ = some (.int .i64 m)
theorem MaxL.stay {w w' : World} (h : MaxL w) (hb : Below w.heap.size w w') : MaxL w' := by
  obtain ⟨m, hm⟩ := h
  exact ⟨m, below_cell hb (lt_of_cell hm) hm⟩
theorem Index_any (s : ByteArray) (c : UInt8) (w : World) :
    Calls Try.prog 50 #[.string s, .string ⟨#[c]⟩] w fun e w' => e = .returned (.int .i64 (Lib.indexByte s.data.toList c)) ∧ w' = w := by
  exact Any.strings_Index_one lib_index_lays s c w
theorem Cut_any (s : ByteArray) (w : World) (hs : s.size ≤ 100000) (hm : MaxL w) :
    Calls Try.prog 28 #[.string s, .string ⟨#[58, 58]⟩] w fun e w' => e = .returned (.tuple #[.string ⟨(Lib.cut s.data.toList [58, 58]).1.toArray⟩, .string ⟨(Lib.cut s.data.toList [58, 58]).2.1.toArray⟩, .bool (Lib.cut s.data.toList [58, 58]).2.2]) ∧ ∃ n, w' = w.drewN n := by
  obtain ⟨m, hm⟩ := hm
  exact Any.strings_Cut lib_cut_lays s ⟨#[58, 58]⟩ m w (by omega) hm
theorem HasSuffix_any (s p : ByteArray) (w : World) (hs : s.size ≤ 100000) :
    Calls Try.prog 42 #[.string s, .string p] w fun e w' => e = .returned (.bool (Lib.hasSuffix s.data.toList p.data.toList)) ∧ w' = w := by
  exact Any.strings_HasSuffix lib_hasSuffix_lays s p w (by omega)
theorem CutPrefix_any (s p : ByteArray) (w : World) :
    Calls Try.prog 30 #[.string s, .string p] w fun e w' => e = .returned (.tuple #[.string ⟨(Lib.trimPrefix s.data.toList p.data.toList).toArray⟩, .bool (Lib.hasPrefix s.data.toList p.data.toList)]) ∧ w' = w := by
  exact Any.strings_CutPrefix lib_cutPrefix_lays s p w
end Go.Proofs.Ytnnhlkbjdfgcaaa
