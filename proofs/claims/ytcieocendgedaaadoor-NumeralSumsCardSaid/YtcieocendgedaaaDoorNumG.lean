/- FormatInt of the library to the base of 10, by the shelf's contract laid at this program's numbers; and to the base of 16: contracts. -/
import Derived.Test.YtcieocendgedaaaDoorNumF
import Derived.Shelf.Strconv.Itoa4
import Derived.Lib.LaidTab
import Derived.Lib.AppendIntMem
namespace Go.Proofs.YtcieocendgedaaaDoor
open Go.RowKit

set_option maxRecDepth 100000
def format_ren : Go.Shelf.Ren := ⟨fun | 129 => 34 | 173 => 24 | 246 => 27 | 283 => 29 | 284 => 30 | 285 => 31 | 286 => 32 | 317 => 33 | 318 => 35 | 319 => 36 | 320 => 37 | 337 => 38 | 338 => 39 | n => n, fun | 0 => 0 | 2 => 2 | 3 => 3 | 4 => 4 | 5 => 5 | 9 => 9 | 20 => 20 | 37 => 50 | 46 => 59 | 51 => 56 | 53 => 47 | 171 => 46 | 173 => 51 | 212 => 55 | 213 => 57 | 232 => 62 | 233 => 63 | n => n, fun | 17 => 0 | 18 => 1 | 19 => 2 | n => n⟩
theorem format_lays : LaysM.n173 Tryd.prog format_ren := {
  mixed := by kernel_rfl,
  f129 := Tryd.func34.trans (congrArg some (by kernel_rfl)),
  f173 := Tryd.func24.trans (congrArg some (by kernel_rfl)),
  f246 := Tryd.func27.trans (congrArg some (by kernel_rfl)),
  f283 := Tryd.func29.trans (congrArg some (by kernel_rfl)),
  f284 := Tryd.func30.trans (congrArg some (by kernel_rfl)),
  f285 := Tryd.func31.trans (congrArg some (by kernel_rfl)),
  f286 := Tryd.func32.trans (congrArg some (by kernel_rfl)),
  f317 := Tryd.func33.trans (congrArg some (by kernel_rfl)),
  f318 := Tryd.func35.trans (congrArg some (by kernel_rfl)),
  f319 := Tryd.func36.trans (congrArg some (by kernel_rfl)),
  f320 := Tryd.func37.trans (congrArg some (by kernel_rfl)),
  f337 := Tryd.func38.trans (congrArg some (by kernel_rfl)),
  f338 := Tryd.func39.trans (congrArg some (by kernel_rfl)),
  t0 := Tryd.underlying0,
  a0 := Tryd.isAgg0,
  z0 := Tryd.sizeOf0,
  v0 := Tryd.zeroValue0,
  t2 := Tryd.underlying2,
  a2 := Tryd.isAgg2,
  z2 := Tryd.sizeOf2,
  v2 := Tryd.zeroValue2,
  t3 := Tryd.underlying3,
  a3 := Tryd.isAgg3,
  z3 := Tryd.sizeOf3,
  v3 := Tryd.zeroValue3,
  t4 := Tryd.underlying4,
  a4 := Tryd.isAgg4,
  z4 := Tryd.sizeOf4,
  v4 := Tryd.zeroValue4,
  t5 := Tryd.underlying5,
  a5 := Tryd.isAgg5,
  z5 := Tryd.sizeOf5,
  v5 := Tryd.zeroValue5,
  t9 := Tryd.underlying9,
  a9 := Tryd.isAgg9,
  z9 := Tryd.sizeOf9,
  v9 := Tryd.zeroValue9,
  t20 := Tryd.underlying20,
  a20 := Tryd.isAgg20,
  z20 := Tryd.sizeOf20,
  v20 := Tryd.zeroValue20,
  t37 := Tryd.underlying50,
  a37 := Tryd.isAgg50,
  z37 := Tryd.sizeOf50,
  v37 := Tryd.zeroValue50,
  t46 := Tryd.underlying59,
  a46 := Tryd.isAgg59,
  z46 := Tryd.sizeOf59,
  v46 := Tryd.zeroValue59,
  t51 := Tryd.underlying56,
  a51 := Tryd.isAgg56,
  z51 := Tryd.sizeOf56,
  v51 := Tryd.zeroValue56,
  t53 := Tryd.underlying47,
  a53 := Tryd.isAgg47,
  z53 := Tryd.sizeOf47,
  v53 := Tryd.zeroValue47,
  t171 := Tryd.underlying46,
  a171 := Tryd.isAgg46,
  z171 := Tryd.sizeOf46,
  v171 := Tryd.zeroValue46,
  t173 := Tryd.underlying51,
  a173 := Tryd.isAgg51,
  z173 := Tryd.sizeOf51,
  v173 := Tryd.zeroValue51,
  t212 := Tryd.underlying55,
  a212 := Tryd.isAgg55,
  z212 := Tryd.sizeOf55,
  v212 := Tryd.zeroValue55,
  t213 := Tryd.underlying57,
  a213 := Tryd.isAgg57,
  z213 := Tryd.sizeOf57,
  t232 := Tryd.underlying62,
  a232 := Tryd.isAgg62,
  z232 := Tryd.sizeOf62,
  v232 := Tryd.zeroValue62,
  t233 := Tryd.underlying63,
  a233 := Tryd.isAgg63,
  z233 := Tryd.sizeOf63,
  v233 := Tryd.zeroValue63,
  g17 := by kernel_rfl,
  g18 := by kernel_rfl,
  g19 := by kernel_rfl,
  i0 := by kernel_rfl,
  i2 := by kernel_rfl,
  i3 := by kernel_rfl,
  i4 := by kernel_rfl,
  i5 := by kernel_rfl,
  i9 := by kernel_rfl,
  i20 := by kernel_rfl,
  i37 := by kernel_rfl,
  i46 := by kernel_rfl,
  i51 := by kernel_rfl,
  i53 := by kernel_rfl,
  i171 := by kernel_rfl,
  i173 := by kernel_rfl,
  i212 := by kernel_rfl,
  i232 := by kernel_rfl,
  i233 := by kernel_rfl,
  m17 := by kernel_rfl,
  m18 := by kernel_rfl,
  m19 := by kernel_rfl }

/-- The library's tables in a world: the powers of 10, and the one place of deBruijn64tab that the base of 16 asks for. -/
structure Tabs (w : World) : Prop where
  pow : Lib.TabIs Tryd.prog w "internal/strconv.uint64pow10" .u64 Lib.pow10Tab
  tz : w.cell? ⟨2, 15, none⟩ = some (.int .u8 4)
theorem Format_10 (n : Nat) (hn : SmallN n) (w : World) (ht : Tabs w) :
    Calls Tryd.prog 24 #[.int .i64 n, .int .i64 10] w fun e w' => e = .returned (.string (Nu.text 10 n)) ∧ Below w.heap.size w w' := by
  unfold SmallN at hn
  have h := Any.strconv_FormatInt_10 format_lays (n : Int) (by omega) (by omega) w ht.pow
  refine Calls.mono h ?_
  rintro e w' ⟨rfl, k, os, rfl⟩
  refine ⟨?_, ?_⟩
  · rw [Lib.itoa_nonneg, Nu.decDigits_text]; rfl
  · exact Lib.below_grow _ _ (Nat.le_refl _) _ _
theorem Tabs.stay {w w' : World} (h : Tabs w) (hb : Below w.heap.size w w') : Tabs w' :=
  ⟨Lib.tabBelow_of_tabIs h.pow w' hb, below_cell hb (lt_of_cell h.tz) h.tz⟩
theorem u64_wrap (n : Nat) (hn : SmallN n) : IntKind.u64.wrap (n : Int) = (n : Int) := by
  unfold SmallN at hn
  rw [IntKind.wrap_u64]; omega
theorem iFormat_16 (n : Nat) (hn : SmallN n) (w : World) (ht : Tabs w) :
    Calls Tryd.prog 27 #[.int .i64 n, .int .i64 16] w fun e w' => e = .returned (.string (Nu.text 16 n)) ∧ Below w.heap.size w w' := by
  have hw := u64_wrap n hn
  go_enter Tryd.func27, Tryd.ntmps27
  go_wp2_with fail
  refine (formatBits_16 n hn _ ht.tz).mono ?_
  rintro e w' ⟨rfl, hb⟩
  go_wp2_with fail
  go_ret
  exact ⟨rfl, hb⟩
theorem Format_16 (n : Nat) (hn : SmallN n) (w : World) (ht : Tabs w) :
    Calls Tryd.prog 24 #[.int .i64 n, .int .i64 16] w fun e w' => e = .returned (.string (Nu.text 16 n)) ∧ Below w.heap.size w w' := by
  go_enter Tryd.func24, Tryd.ntmps24
  go_wp2_with fail
  refine (iFormat_16 n hn _ ht).mono ?_
  rintro e w' ⟨rfl, hb⟩
  go_wp2_with fail
  go_ret
  exact ⟨rfl, hb⟩

theorem write_10 (n : Int) (hn : n < 9223372036854775808) (w : World) (ht : Tabs w) :
    Calls Tryd.prog 21 #[.int .i64 n, .int .i64 10] w fun e w' => e = .returned (.string (Nu.tx 10 n)) ∧ Below w.heap.size w w' := by
  by_cases h : n < 0
  · have hx := Lib.hid (show Nu.tx 10 n = ⟨#[]⟩ by unfold Nu.tx; rw [if_pos h])
    clear hn
    go_enter Tryd.func21, Tryd.ntmps21
    go_wp2_with fail
    go_ret
    exact ⟨ret_str hx.out.symm, Below.refl _ _⟩
  · have hx := Lib.hid (show Nu.tx 10 n = Nu.text 10 n.toNat by unfold Nu.tx; rw [if_neg h])
    obtain ⟨k, rfl⟩ := Int.eq_ofNat_of_zero_le (by omega : 0 ≤ n)
    have hk : SmallN k := by unfold SmallN; omega
    clear hn
    go_enter Tryd.func21, Tryd.ntmps21
    go_wp2_with fail
    refine (Format_10 k hk _ ht).mono ?_
    rintro e w' ⟨rfl, hb⟩
    go_wp2_with fail
    go_ret
    exact ⟨ret_str hx.out.symm, hb⟩
theorem Text_any (n : Int) (hn : n < 9223372036854775808) (w : World) (ht : Tabs w) :
    Calls Tryd.prog 10 #[.int .i64 n] w fun e w' => e = .returned (.string (Nu.tx 10 n)) ∧ Below w.heap.size w w' := by
  have H := Lib.hid (write_10 n hn w ht)
  clear hn
  go_enter Tryd.func10, Tryd.ntmps10
  go_wp2_with fail
  refine H.out.mono ?_
  rintro e w' ⟨rfl, hb⟩
  go_wp2_with fail
  go_ret
  exact ⟨rfl, hb⟩

theorem write_16 (n : Int) (hn : n < 9223372036854775808) (w : World) (ht : Tabs w) :
    Calls Tryd.prog 21 #[.int .i64 n, .int .i64 16] w fun e w' => e = .returned (.string (Nu.tx 16 n)) ∧ Below w.heap.size w w' := by
  by_cases h : n < 0
  · have hx := Lib.hid (show Nu.tx 16 n = ⟨#[]⟩ by unfold Nu.tx; rw [if_pos h])
    clear hn
    go_enter Tryd.func21, Tryd.ntmps21
    go_wp2_with fail
    go_ret
    exact ⟨ret_str hx.out.symm, Below.refl _ _⟩
  · have hx := Lib.hid (show Nu.tx 16 n = Nu.text 16 n.toNat by unfold Nu.tx; rw [if_neg h])
    obtain ⟨k, rfl⟩ := Int.eq_ofNat_of_zero_le (by omega : 0 ≤ n)
    have hk : SmallN k := by unfold SmallN; omega
    clear hn
    go_enter Tryd.func21, Tryd.ntmps21
    go_wp2_with fail
    refine (Format_16 k hk _ ht).mono ?_
    rintro e w' ⟨rfl, hb⟩
    go_wp2_with fail
    go_ret
    exact ⟨ret_str hx.out.symm, hb⟩
theorem HexText_any (n : Int) (hn : n < 9223372036854775808) (w : World) (ht : Tabs w) :
    Calls Tryd.prog 11 #[.int .i64 n] w fun e w' => e = .returned (.string (Nu.tx 16 n)) ∧ Below w.heap.size w w' := by
  have H := Lib.hid (write_16 n hn w ht)
  clear hn
  go_enter Tryd.func11, Tryd.ntmps11
  go_wp2_with fail
  refine H.out.mono ?_
  rintro e w' ⟨rfl, hb⟩
  go_wp2_with fail
  go_ret
  exact ⟨rfl, hb⟩
end Go.Proofs.YtcieocendgedaaaDoor
