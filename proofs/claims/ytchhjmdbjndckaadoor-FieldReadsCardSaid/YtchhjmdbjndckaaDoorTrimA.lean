/- strings.Trim and strings.TrimRight by the shelf's contracts, laid at this program's numbers. -/
import Derived.Test.YtchhjmdbjndckaaDoorScanA
import Derived.Shelf.Strings.SlTrimAscii
namespace Go.Proofs.YtchhjmdbjndckaaDoor
open Go.RowKit

set_option maxRecDepth 100000
def trim_ren : Go.Shelf.Ren := ⟨fun | 119 => 56 | 120 => 61 | 137 => 55 | 151 => 50 | 152 => 44 | 160 => 20 | 197 => 49 | 217 => 64 | 224 => 57 | 225 => 58 | 227 => 36 | 228 => 46 | 231 => 34 | 232 => 35 | 233 => 37 | 234 => 38 | 235 => 39 | 236 => 40 | 260 => 60 | 266 => 66 | 271 => 51 | n => n, fun | 0 => 0 | 3 => 3 | 4 => 4 | 5 => 5 | 9 => 9 | 21 => 21 | 46 => 73 | 105 => 65 | 116 => 55 | 117 => 56 | 119 => 74 | 124 => 59 | 138 => 76 | 139 => 77 | n => n, fun | 3 => 1 | 4 => 2 | n => n⟩
theorem trim_lays : Lays.n160 Tryd.prog trim_ren := {
  mixed := by kernel_rfl,
  f119 := Tryd.func56.trans (congrArg some (by kernel_rfl)),
  f120 := Tryd.func61.trans (congrArg some (by kernel_rfl)),
  f137 := Tryd.func55.trans (congrArg some (by kernel_rfl)),
  f151 := Tryd.func50.trans (congrArg some (by kernel_rfl)),
  f152 := Tryd.func44.trans (congrArg some (by kernel_rfl)),
  f160 := Tryd.func20.trans (congrArg some (by kernel_rfl)),
  f197 := Tryd.func49.trans (congrArg some (by kernel_rfl)),
  f217 := Tryd.func64.trans (congrArg some (by kernel_rfl)),
  f224 := Tryd.func57.trans (congrArg some (by kernel_rfl)),
  f225 := Tryd.func58.trans (congrArg some (by kernel_rfl)),
  f227 := Tryd.func36.trans (congrArg some (by kernel_rfl)),
  f228 := Tryd.func46.trans (congrArg some (by kernel_rfl)),
  f231 := Tryd.func34.trans (congrArg some (by kernel_rfl)),
  f232 := Tryd.func35.trans (congrArg some (by kernel_rfl)),
  f233 := Tryd.func37.trans (congrArg some (by kernel_rfl)),
  f234 := Tryd.func38.trans (congrArg some (by kernel_rfl)),
  f235 := Tryd.func39.trans (congrArg some (by kernel_rfl)),
  f236 := Tryd.func40.trans (congrArg some (by kernel_rfl)),
  f260 := Tryd.func60.trans (congrArg some (by kernel_rfl)),
  f266 := Tryd.func66.trans (congrArg some (by kernel_rfl)),
  f271 := Tryd.func51.trans (congrArg some (by kernel_rfl)),
  t0 := Tryd.underlying0,
  a0 := Tryd.isAgg0,
  z0 := Tryd.sizeOf0,
  v0 := Tryd.zeroValue0,
  t3 := Tryd.underlying3,
  a3 := Tryd.isAgg3,
  z3 := Tryd.sizeOf3,
  v3 := Tryd.zeroValue3,
  t4 := Tryd.underlying4,
  a4 := Tryd.isAgg4,
  z4 := Tryd.sizeOf4,
  v4 := Tryd.zeroValue4,
  t5 := Tryd.underlying5,
  a5 := Tryd.isAgg5,
  z5 := Tryd.sizeOf5,
  v5 := Tryd.zeroValue5,
  t9 := Tryd.underlying9,
  a9 := Tryd.isAgg9,
  z9 := Tryd.sizeOf9,
  v9 := Tryd.zeroValue9,
  t21 := Tryd.underlying21,
  a21 := Tryd.isAgg21,
  z21 := Tryd.sizeOf21,
  v21 := Tryd.zeroValue21,
  t46 := Tryd.underlying73,
  a46 := Tryd.isAgg73,
  z46 := Tryd.sizeOf73,
  v46 := Tryd.zeroValue73,
  t105 := Tryd.underlying65,
  a105 := Tryd.isAgg65,
  z105 := Tryd.sizeOf65,
  v105 := Tryd.zeroValue65,
  t116 := Tryd.underlying55,
  a116 := Tryd.isAgg55,
  z116 := Tryd.sizeOf55,
  t117 := Tryd.underlying56,
  a117 := Tryd.isAgg56,
  z117 := Tryd.sizeOf56,
  v117 := fun _ => by kernel_rfl,
  t119 := Tryd.underlying74,
  a119 := Tryd.isAgg74,
  z119 := Tryd.sizeOf74,
  t124 := Tryd.underlying59,
  a124 := Tryd.isAgg59,
  z124 := Tryd.sizeOf59,
  v124 := Tryd.zeroValue59,
  t138 := Tryd.underlying76,
  a138 := Tryd.isAgg76,
  z138 := Tryd.sizeOf76,
  v138 := Tryd.zeroValue76,
  t139 := Tryd.underlying77,
  a139 := Tryd.isAgg77,
  z139 := Tryd.sizeOf77,
  v139 := Tryd.zeroValue77,
  g3 := by kernel_rfl,
  g4 := by kernel_rfl }
theorem trim_set : (Tryd.prog.info? 55).map (fun i => (i.zero, i.size)) = some (some (.agg (Array.replicate 256 (.bool false))), 256) := by kernel_rfl
/-- Bytes cut off at both ends, at the right end. -/
def trimB (cs : List UInt8) (s : ByteArray) : ByteArray := ⟨(Lib.trimS s.data.toList cs).toArray⟩
def trimRB (cs : List UInt8) (s : ByteArray) : ByteArray := ⟨(Lib.trimRightS s.data.toList cs).toArray⟩
theorem Trim_any (cut s : ByteArray) (cs : List UInt8) (hc : cut.data.toList = cs) (hl : cut.size ≤ 100) (ha : cs.all (fun b => decide (b.toNat < 128)) = true) (w : World) (hs : s.size ≤ 100000) :
    Calls Tryd.prog 20 #[.string s, .string cut] w fun e w' => e = .returned (.string (trimB cs s)) ∧ Below w.heap.size w w' := by
  subst hc
  exact Any.strings_Trim_laid trim_lays trim_set s cut w (by omega) (by omega) (ascii_of_all ha)
end Go.Proofs.YtchhjmdbjndckaaDoor
