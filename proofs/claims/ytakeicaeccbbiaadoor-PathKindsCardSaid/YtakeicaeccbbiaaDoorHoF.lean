/- The library's searches and cuts by the shelf's contracts, laid at this program's numbers. -/
import Derived.Test.YtakeicaeccbbiaaDoorHoD
import Derived.Test.YtakeicaeccbbiaaDoorWorld
import Derived.Shelf.Strings.Search3
import Derived.Shelf.Strings.Cut
import Derived.Shelf.Strings.LastIndex
import Derived.Shelf.Strings.Prefix
import Derived.Shelf.Small.Wraps
namespace Go.Proofs.YtakeicaeccbbiaaDoor
open Go.RowKit

set_option maxRecDepth 100000
def lib_index_ren : Go.Shelf.Ren := ⟨fun | 143 => 37 | 217 => 51 | 219 => 42 | 224 => 53 | 225 => 52 | 266 => 58 | 267 => 54 | 314 => 59 | n => n, fun | 3 => 3 | 4 => 4 | 5 => 5 | 9 => 9 | 46 => 56 | 51 => 57 | 146 => 58 | n => n, fun | 1 => 0 | n => n⟩
theorem lib_index_lays : Lays.n143 Tryd.prog lib_index_ren := {
  mixed := by kernel_rfl,
  f143 := Tryd.func37.trans (congrArg some (by kernel_rfl)),
  f217 := Tryd.func51.trans (congrArg some (by kernel_rfl)),
  f219 := Tryd.func42.trans (congrArg some (by kernel_rfl)),
  f224 := Tryd.func53.trans (congrArg some (by kernel_rfl)),
  f225 := Tryd.func52.trans (congrArg some (by kernel_rfl)),
  f266 := Tryd.func58.trans (congrArg some (by kernel_rfl)),
  f267 := Tryd.func54.trans (congrArg some (by kernel_rfl)),
  f314 := Tryd.func59.trans (congrArg some (by kernel_rfl)),
  t3 := Tryd.underlying3,
  a3 := Tryd.isAgg3,
  z3 := Tryd.sizeOf3,
  v3 := Tryd.zeroValue3,
  t4 := Tryd.underlying4,
  a4 := Tryd.isAgg4,
  z4 := Tryd.sizeOf4,
  v4 := Tryd.zeroValue4,
  t5 := Tryd.underlying5,
  a5 := Tryd.isAgg5,
  z5 := Tryd.sizeOf5,
  v5 := Tryd.zeroValue5,
  t9 := Tryd.underlying9,
  a9 := Tryd.isAgg9,
  z9 := Tryd.sizeOf9,
  v9 := Tryd.zeroValue9,
  t46 := Tryd.underlying56,
  a46 := Tryd.isAgg56,
  z46 := Tryd.sizeOf56,
  v46 := Tryd.zeroValue56,
  t51 := Tryd.underlying57,
  a51 := Tryd.isAgg57,
  z51 := Tryd.sizeOf57,
  v51 := Tryd.zeroValue57,
  t146 := Tryd.underlying58,
  a146 := Tryd.isAgg58,
  z146 := Tryd.sizeOf58,
  v146 := Tryd.zeroValue58,
  g1 := by kernel_rfl }
def lib_cut_ren : Go.Shelf.Ren := ⟨fun | 145 => 21 | 217 => 51 | 219 => 42 | 220 => 31 | 224 => 53 | 225 => 52 | 266 => 58 | 267 => 54 | 314 => 59 | n => n, fun | 3 => 3 | 4 => 4 | 5 => 5 | 9 => 9 | 46 => 56 | 51 => 57 | 59 => 35 | 146 => 58 | n => n, fun | 1 => 0 | n => n⟩
theorem lib_cut_lays : Lays.n145 Tryd.prog lib_cut_ren := {
  mixed := by kernel_rfl,
  f145 := Tryd.func21.trans (congrArg some (by kernel_rfl)),
  f217 := Tryd.func51.trans (congrArg some (by kernel_rfl)),
  f219 := Tryd.func42.trans (congrArg some (by kernel_rfl)),
  f220 := Tryd.func31.trans (congrArg some (by kernel_rfl)),
  f224 := Tryd.func53.trans (congrArg some (by kernel_rfl)),
  f225 := Tryd.func52.trans (congrArg some (by kernel_rfl)),
  f266 := Tryd.func58.trans (congrArg some (by kernel_rfl)),
  f267 := Tryd.func54.trans (congrArg some (by kernel_rfl)),
  f314 := Tryd.func59.trans (congrArg some (by kernel_rfl)),
  t3 := Tryd.underlying3,
  a3 := Tryd.isAgg3,
  z3 := Tryd.sizeOf3,
  v3 := Tryd.zeroValue3,
  t4 := Tryd.underlying4,
  a4 := Tryd.isAgg4,
  z4 := Tryd.sizeOf4,
  v4 := Tryd.zeroValue4,
  t5 := Tryd.underlying5,
  a5 := Tryd.isAgg5,
  z5 := Tryd.sizeOf5,
  v5 := Tryd.zeroValue5,
  t9 := Tryd.underlying9,
  a9 := Tryd.isAgg9,
  z9 := Tryd.sizeOf9,
  v9 := Tryd.zeroValue9,
  t46 := Tryd.underlying56,
  a46 := Tryd.isAgg56,
  z46 := Tryd.sizeOf56,
  v46 := Tryd.zeroValue56,
  t51 := Tryd.underlying57,
  a51 := Tryd.isAgg57,
  z51 := Tryd.sizeOf57,
  v51 := Tryd.zeroValue57,
  t59 := Tryd.underlying35,
  a59 := Tryd.isAgg35,
  z59 := Tryd.sizeOf35,
  v59 := Tryd.zeroValue35,
  t146 := Tryd.underlying58,
  a146 := Tryd.isAgg58,
  z146 := Tryd.sizeOf58,
  v146 := Tryd.zeroValue58,
  g1 := by kernel_rfl }
/-- internal/bytealg.MaxLen holds some number. -/
def MaxL (w : World) : Prop := ∃ m, w.cell? ⟨0, 0, none⟩ = some (.int .i64 m)
theorem MaxL.stay {w w' : World} (h : MaxL w) (hb : Below w.heap.size w w') : MaxL w' := by
  obtain ⟨m, hm⟩ := h
  exact ⟨m, below_cell hb (lt_of_cell hm) hm⟩
theorem Index_any (s : ByteArray) (c : UInt8) (w : World) :
    Calls Tryd.prog 37 #[.string s, .string ⟨#[c]⟩] w fun e w' => e = .returned (.int .i64 (Lib.indexByte s.data.toList c)) ∧ w' = w := by
  exact Any.strings_Index_one lib_index_lays s c w
theorem Cut_any (s : ByteArray) (w : World) (hs : s.size ≤ 100000) (hm : MaxL w) :
    Calls Tryd.prog 21 #[.string s, .string ⟨#[58, 58]⟩] w fun e w' => e = .returned (.tuple #[.string ⟨(Lib.cut s.data.toList [58, 58]).1.toArray⟩, .string ⟨(Lib.cut s.data.toList [58, 58]).2.1.toArray⟩, .bool (Lib.cut s.data.toList [58, 58]).2.2]) ∧ ∃ n, w' = w.drewN n := by
  obtain ⟨m, hm⟩ := hm
  exact Any.strings_Cut lib_cut_lays s ⟨#[58, 58]⟩ m w (by omega) hm
end Go.Proofs.YtakeicaeccbbiaaDoor
