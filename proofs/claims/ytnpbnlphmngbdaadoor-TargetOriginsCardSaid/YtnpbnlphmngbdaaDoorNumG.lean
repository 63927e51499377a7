/- FormatInt of the library to the base of 10, by the shelf's contract laid at this program's numbers; and to the base of 16: contracts. -/
import Derived.Test.YtnpbnlphmngbdaaDoorNumF
import Derived.Shelf.Strconv.Itoa4
import Derived.Lib.LaidTab
import Derived.Lib.AppendIntMem
namespace Go.Proofs.YtnpbnlphmngbdaaDoor
open Go.RowKit

set_option maxRecDepth 100000
def format_ren : Go.Shelf.Ren := ⟨fun | 129 => 91 | 173 => 83 | 246 => 85 | 283 => 86 | 284 => 87 | 285 => 88 | 286 => 89 | 317 => 90 | 318 => 92 | 319 => 93 | 320 => 94 | 337 => 95 | 338 => 96 | n => n, fun | 0 => 0 | 2 => 2 | 3 => 3 | 4 => 4 | 5 => 5 | 9 => 9 | 20 => 20 | 37 => 54 | 46 => 77 | 51 => 84 | 53 => 90 | 171 => 89 | 173 => 93 | 212 => 96 | 213 => 97 | 232 => 100 | 233 => 101 | n => n, fun | 17 => 1 | 18 => 2 | 19 => 3 | n => n⟩
theorem format_lays : LaysM.n173 Tryd.prog format_ren := {
  mixed := by kernel_rfl,
  f129 := Tryd.func91.trans (congrArg some (by kernel_rfl)),
  f173 := Tryd.func83.trans (congrArg some (by kernel_rfl)),
  f246 := Tryd.func85.trans (congrArg some (by kernel_rfl)),
  f283 := Tryd.func86.trans (congrArg some (by kernel_rfl)),
  f284 := Tryd.func87.trans (congrArg some (by kernel_rfl)),
  f285 := Tryd.func88.trans (congrArg some (by kernel_rfl)),
  f286 := Tryd.func89.trans (congrArg some (by kernel_rfl)),
  f317 := Tryd.func90.trans (congrArg some (by kernel_rfl)),
  f318 := Tryd.func92.trans (congrArg some (by kernel_rfl)),
  f319 := Tryd.func93.trans (congrArg some (by kernel_rfl)),
  f320 := Tryd.func94.trans (congrArg some (by kernel_rfl)),
  f337 := Tryd.func95.trans (congrArg some (by kernel_rfl)),
  f338 := Tryd.func96.trans (congrArg some (by kernel_rfl)),
  t0 := Tryd.underlying0,
  a0 := Tryd.isAgg0,
  z0 := Tryd.sizeOf0,
  v0 := Tryd.zeroValue0,
  t2 := Tryd.underlying2,
  a2 := Tryd.isAgg2,
  z2 := Tryd.sizeOf2,
  v2 := Tryd.zeroValue2,
  t3 := Tryd.underlying3,
  a3 := Tryd.isAgg3,
  z3 := Tryd.sizeOf3,
  v3 := Tryd.zeroValue3,
  t4 := Tryd.underlying4,
  a4 := Tryd.isAgg4,
  z4 := Tryd.sizeOf4,
  v4 := Tryd.zeroValue4,
  t5 := Tryd.underlying5,
  a5 := Tryd.isAgg5,
  z5 := Tryd.sizeOf5,
  v5 := Tryd.zeroValue5,
  t9 := Tryd.underlying9,
  a9 := Tryd.isAgg9,
  z9 := Tryd.sizeOf9,
  v9 := Tryd.zeroValue9,
  t20 := Tryd.underlying20,
  a20 := Tryd.isAgg20,
  z20 := Tryd.sizeOf20,
  v20 := Tryd.zeroValue20,
  t37 := Tryd.underlying54,
  a37 := Tryd.isAgg54,
  z37 := Tryd.sizeOf54,
  v37 := Tryd.zeroValue54,
  t46 := Tryd.underlying77,
  a46 := Tryd.isAgg77,
  z46 := Tryd.sizeOf77,
  v46 := Tryd.zeroValue77,
  t51 := Tryd.underlying84,
  a51 := Tryd.isAgg84,
  z51 := Tryd.sizeOf84,
  v51 := Tryd.zeroValue84,
  t53 := Tryd.underlying90,
  a53 := Tryd.isAgg90,
  z53 := Tryd.sizeOf90,
  v53 := Tryd.zeroValue90,
  t171 := Tryd.underlying89,
  a171 := Tryd.isAgg89,
  z171 := Tryd.sizeOf89,
  v171 := Tryd.zeroValue89,
  t173 := Tryd.underlying93,
  a173 := Tryd.isAgg93,
  z173 := Tryd.sizeOf93,
  v173 := Tryd.zeroValue93,
  t212 := Tryd.underlying96,
  a212 := Tryd.isAgg96,
  z212 := Tryd.sizeOf96,
  v212 := Tryd.zeroValue96,
  t213 := Tryd.underlying97,
  a213 := Tryd.isAgg97,
  z213 := Tryd.sizeOf97,
  t232 := Tryd.underlying100,
  a232 := Tryd.isAgg100,
  z232 := Tryd.sizeOf100,
  v232 := Tryd.zeroValue100,
  t233 := Tryd.underlying101,
  a233 := Tryd.isAgg101,
  z233 := Tryd.sizeOf101,
  v233 := Tryd.zeroValue101,
  g17 := by kernel_rfl,
  g18 := by kernel_rfl,
  g19 := by kernel_rfl,
  i0 := by kernel_rfl,
  i2 := by kernel_rfl,
  i3 := by kernel_rfl,
  i4 := by kernel_rfl,
  i5 := by kernel_rfl,
  i9 := by kernel_rfl,
  i20 := by kernel_rfl,
  i37 := by kernel_rfl,
  i46 := by kernel_rfl,
  i51 := by kernel_rfl,
  i53 := by kernel_rfl,
  i171 := by kernel_rfl,
  i173 := by kernel_rfl,
  i212 := by kernel_rfl,
  i232 := by kernel_rfl,
  i233 := by kernel_rfl,
  m17 := by kernel_rfl,
  m18 := by kernel_rfl,
  m19 := by kernel_rfl }

/-- The library's tables in a world: the powers of 10, and the one place of deBruijn64tab that the base of 16 asks for. -/
structure Tabs (w : World) : Prop where
  pow : Lib.TabIs Tryd.prog w "internal/strconv.uint64pow10" .u64 Lib.pow10Tab
  tz : w.cell? ⟨3, 15, none⟩ = some (.int .u8 4)
theorem Format_10 (n : Nat) (hn : SmallN n) (w : World) (ht : Tabs w) :
    Calls Tryd.prog 83 #[.int .i64 n, .int .i64 10] w fun e w' => e = .returned (.string (Nu.text 10 n)) ∧ Below w.heap.size w w' := by
  unfold SmallN at hn
  have h := Any.strconv_FormatInt_10 format_lays (n : Int) (by omega) (by omega) w ht.pow
  refine Calls.mono h ?_
  rintro e w' ⟨rfl, k, os, rfl⟩
  refine ⟨?_, ?_⟩
  · rw [Lib.itoa_nonneg, Nu.decDigits_text]; rfl
  · exact Lib.below_grow _ _ (Nat.le_refl _) _ _
theorem Tabs.stay {w w' : World} (h : Tabs w) (hb : Below w.heap.size w w') : Tabs w' :=
  ⟨Lib.tabBelow_of_tabIs h.pow w' hb, below_cell hb (lt_of_cell h.tz) h.tz⟩
theorem u64_wrap (n : Nat) (hn : SmallN n) : IntKind.u64.wrap (n : Int) = (n : Int) := by
  unfold SmallN at hn
  rw [IntKind.wrap_u64]; omega
theorem iFormat_16 (n : Nat) (hn : SmallN n) (w : World) (ht : Tabs w) :
    Calls Tryd.prog 85 #[.int .i64 n, .int .i64 16] w fun e w' => e = .returned (.string (Nu.text 16 n)) ∧ Below w.heap.size w w' := by
  have hw := u64_wrap n hn
  go_enter Tryd.func85, Tryd.ntmps85
  go_wp2_with fail
  refine (formatBits_16 n hn _ ht.tz).mono ?_
  rintro e w' ⟨rfl, hb⟩
  go_wp2_with fail
  go_ret
  exact ⟨rfl, hb⟩
theorem Format_16 (n : Nat) (hn : SmallN n) (w : World) (ht : Tabs w) :
    Calls Tryd.prog 83 #[.int .i64 n, .int .i64 16] w fun e w' => e = .returned (.string (Nu.text 16 n)) ∧ Below w.heap.size w w' := by
  go_enter Tryd.func83, Tryd.ntmps83
  go_wp2_with fail
  refine (iFormat_16 n hn _ ht).mono ?_
  rintro e w' ⟨rfl, hb⟩
  go_wp2_with fail
  go_ret
  exact ⟨rfl, hb⟩

theorem write_10 (n : Int) (hn : n < 9223372036854775808) (w : World) (ht : Tabs w) :
    Calls Tryd.prog 74 #[.int .i64 n, .int .i64 10] w fun e w' => e = .returned (.string (Nu.tx 10 n)) ∧ Below w.heap.size w w' := by
  by_cases h : n < 0
  · have hx := Lib.hid (show Nu.tx 10 n = ⟨#[]⟩ by unfold Nu.tx; rw [if_pos h])
    clear hn
    go_enter Tryd.func74, Tryd.ntmps74
    go_wp2_with fail
    go_ret
    exact ⟨ret_str hx.out.symm, Below.refl _ _⟩
  · have hx := Lib.hid (show Nu.tx 10 n = Nu.text 10 n.toNat by unfold Nu.tx; rw [if_neg h])
    obtain ⟨k, rfl⟩ := Int.eq_ofNat_of_zero_le (by omega : 0 ≤ n)
    have hk : SmallN k := by unfold SmallN; omega
    clear hn
    go_enter Tryd.func74, Tryd.ntmps74
    go_wp2_with fail
    refine (Format_10 k hk _ ht).mono ?_
    rintro e w' ⟨rfl, hb⟩
    go_wp2_with fail
    go_ret
    exact ⟨ret_str hx.out.symm, hb⟩
theorem Text_any (n : Int) (hn : n < 9223372036854775808) (w : World) (ht : Tabs w) :
    Calls Tryd.prog 51 #[.int .i64 n] w fun e w' => e = .returned (.string (Nu.tx 10 n)) ∧ Below w.heap.size w w' := by
  have H := Lib.hid (write_10 n hn w ht)
  clear hn
  go_enter Tryd.func51, Tryd.ntmps51
  go_wp2_with fail
  refine H.out.mono ?_
  rintro e w' ⟨rfl, hb⟩
  go_wp2_with fail
  go_ret
  exact ⟨rfl, hb⟩

theorem write_16 (n : Int) (hn : n < 9223372036854775808) (w : World) (ht : Tabs w) :
    Calls Tryd.prog 74 #[.int .i64 n, .int .i64 16] w fun e w' => e = .returned (.string (Nu.tx 16 n)) ∧ Below w.heap.size w w' := by
  by_cases h : n < 0
  · have hx := Lib.hid (show Nu.tx 16 n = ⟨#[]⟩ by unfold Nu.tx; rw [if_pos h])
    clear hn
    go_enter Tryd.func74, Tryd.ntmps74
    go_wp2_with fail
    go_ret
    exact ⟨ret_str hx.out.symm, Below.refl _ _⟩
  · have hx := Lib.hid (show Nu.tx 16 n = Nu.text 16 n.toNat by unfold Nu.tx; rw [if_neg h])
    obtain ⟨k, rfl⟩ := Int.eq_ofNat_of_zero_le (by omega : 0 ≤ n)
    have hk : SmallN k := by unfold SmallN; omega
    clear hn
    go_enter Tryd.func74, Tryd.ntmps74
    go_wp2_with fail
    refine (Format_16 k hk _ ht).mono ?_
    rintro e w' ⟨rfl, hb⟩
    go_wp2_with fail
    go_ret
    exact ⟨ret_str hx.out.symm, hb⟩
end Go.Proofs.YtnpbnlphmngbdaaDoor
