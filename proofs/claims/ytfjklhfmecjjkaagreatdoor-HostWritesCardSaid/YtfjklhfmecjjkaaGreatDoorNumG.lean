/- FormatInt of the library to the base of 10, by the shelf's contract laid at this program's numbers; and to the base of 16: contracts. -/
import Derived.Test.YtfjklhfmecjjkaaGreatDoorNumF
import Derived.Shelf.Strconv.Itoa4
import Derived.Lib.LaidTab
import Derived.Lib.AppendIntMem
namespace Go.Proofs.YtfjklhfmecjjkaaGreatDoor
open Go.RowKit

set_option maxRecDepth 100000
def format_ren : Go.Shelf.Ren := ⟨fun | 129 => 100 | 173 => 81 | 246 => 91 | 283 => 95 | 284 => 96 | 285 => 97 | 286 => 98 | 317 => 99 | 318 => 101 | 319 => 102 | 320 => 103 | 337 => 104 | 338 => 105 | n => n, fun | 0 => 0 | 2 => 2 | 3 => 3 | 4 => 4 | 5 => 5 | 9 => 9 | 20 => 20 | 37 => 57 | 46 => 75 | 51 => 89 | 53 => 99 | 171 => 98 | 173 => 102 | 212 => 105 | 213 => 106 | 232 => 110 | 233 => 111 | n => n, fun | 17 => 1 | 18 => 2 | 19 => 3 | n => n⟩
theorem format_lays : LaysM.n173 Tryz.prog format_ren := {
  mixed := by kernel_rfl,
  f129 := Tryz.func100.trans (congrArg some (by kernel_rfl)),
  f173 := Tryz.func81.trans (congrArg some (by kernel_rfl)),
  f246 := Tryz.func91.trans (congrArg some (by kernel_rfl)),
  f283 := Tryz.func95.trans (congrArg some (by kernel_rfl)),
  f284 := Tryz.func96.trans (congrArg some (by kernel_rfl)),
  f285 := Tryz.func97.trans (congrArg some (by kernel_rfl)),
  f286 := Tryz.func98.trans (congrArg some (by kernel_rfl)),
  f317 := Tryz.func99.trans (congrArg some (by kernel_rfl)),
  f318 := Tryz.func101.trans (congrArg some (by kernel_rfl)),
  f319 := Tryz.func102.trans (congrArg some (by kernel_rfl)),
  f320 := Tryz.func103.trans (congrArg some (by kernel_rfl)),
  f337 := Tryz.func104.trans (congrArg some (by kernel_rfl)),
  f338 := Tryz.func105.trans (congrArg some (by kernel_rfl)),
  t0 := Tryz.underlying0,
  a0 := Tryz.isAgg0,
  z0 := Tryz.sizeOf0,
  v0 := Tryz.zeroValue0,
  t2 := Tryz.underlying2,
  a2 := Tryz.isAgg2,
  z2 := Tryz.sizeOf2,
  v2 := Tryz.zeroValue2,
  t3 := Tryz.underlying3,
  a3 := Tryz.isAgg3,
  z3 := Tryz.sizeOf3,
  v3 := Tryz.zeroValue3,
  t4 := Tryz.underlying4,
  a4 := Tryz.isAgg4,
  z4 := Tryz.sizeOf4,
  v4 := Tryz.zeroValue4,
  t5 := Tryz.underlying5,
  a5 := Tryz.isAgg5,
  z5 := Tryz.sizeOf5,
  v5 := Tryz.zeroValue5,
  t9 := Tryz.underlying9,
  a9 := Tryz.isAgg9,
  z9 := Tryz.sizeOf9,
  v9 := Tryz.zeroValue9,
  t20 := Tryz.underlying20,
  a20 := Tryz.isAgg20,
  z20 := Tryz.sizeOf20,
  v20 := Tryz.zeroValue20,
  t37 := Tryz.underlying57,
  a37 := Tryz.isAgg57,
  z37 := Tryz.sizeOf57,
  v37 := Tryz.zeroValue57,
  t46 := Tryz.underlying75,
  a46 := Tryz.isAgg75,
  z46 := Tryz.sizeOf75,
  v46 := Tryz.zeroValue75,
  t51 := Tryz.underlying89,
  a51 := Tryz.isAgg89,
  z51 := Tryz.sizeOf89,
  v51 := Tryz.zeroValue89,
  t53 := Tryz.underlying99,
  a53 := Tryz.isAgg99,
  z53 := Tryz.sizeOf99,
  v53 := Tryz.zeroValue99,
  t171 := Tryz.underlying98,
  a171 := Tryz.isAgg98,
  z171 := Tryz.sizeOf98,
  v171 := Tryz.zeroValue98,
  t173 := Tryz.underlying102,
  a173 := Tryz.isAgg102,
  z173 := Tryz.sizeOf102,
  v173 := Tryz.zeroValue102,
  t212 := Tryz.underlying105,
  a212 := Tryz.isAgg105,
  z212 := Tryz.sizeOf105,
  v212 := Tryz.zeroValue105,
  t213 := Tryz.underlying106,
  a213 := Tryz.isAgg106,
  z213 := Tryz.sizeOf106,
  t232 := Tryz.underlying110,
  a232 := Tryz.isAgg110,
  z232 := Tryz.sizeOf110,
  v232 := Tryz.zeroValue110,
  t233 := Tryz.underlying111,
  a233 := Tryz.isAgg111,
  z233 := Tryz.sizeOf111,
  v233 := Tryz.zeroValue111,
  g17 := by kernel_rfl,
  g18 := by kernel_rfl,
  g19 := by kernel_rfl,
  i0 := by kernel_rfl,
  i2 := by kernel_rfl,
  i3 := by kernel_rfl,
  i4 := by kernel_rfl,
  i5 := by kernel_rfl,
  i9 := by kernel_rfl,
  i20 := by kernel_rfl,
  i37 := by kernel_rfl,
  i46 := by kernel_rfl,
  i51 := by kernel_rfl,
  i53 := by kernel_rfl,
  i171 := by kernel_rfl,
  i173 := by kernel_rfl,
  i212 := by kernel_rfl,
  i232 := by kernel_rfl,
  i233 := by kernel_rfl,
  m17 := by kernel_rfl,
  m18 := by kernel_rfl,
  m19 := by kernel_rfl }

/-- The library's tables in a world: the powers of 10, and the one place of deBruijn64tab that the base of 16 asks for. -/
structure Tabs (w : World) : Prop where
  pow : Lib.TabIs Tryz.prog w "internal/strconv.uint64pow10" .u64 Lib.pow10Tab
  tz : w.cell? ⟨3, 15, none⟩ = some (.int .u8 4)
theorem Format_10 (n : Nat) (hn : SmallN n) (w : World) (ht : Tabs w) :
    Calls Tryz.prog 81 #[.int .i64 n, .int .i64 10] w fun e w' => e = .returned (.string (Nu.text 10 n)) ∧ Below w.heap.size w w' := by
  unfold SmallN at hn
  have h := Any.strconv_FormatInt_10 format_lays (n : Int) (by omega) (by omega) w ht.pow
  refine Calls.mono h ?_
  rintro e w' ⟨rfl, k, os, rfl⟩
  refine ⟨?_, ?_⟩
  · rw [Lib.itoa_nonneg, Nu.decDigits_text]; rfl
  · exact Lib.below_grow _ _ (Nat.le_refl _) _ _
theorem Tabs.stay {w w' : World} (h : Tabs w) (hb : Below w.heap.size w w') : Tabs w' :=
  ⟨Lib.tabBelow_of_tabIs h.pow w' hb, below_cell hb (lt_of_cell h.tz) h.tz⟩
theorem u64_wrap (n : Nat) (hn : SmallN n) : IntKind.u64.wrap (n : Int) = (n : Int) := by
  unfold SmallN at hn
  rw [IntKind.wrap_u64]; omega
theorem iFormat_16 (n : Nat) (hn : SmallN n) (w : World) (ht : Tabs w) :
    Calls Tryz.prog 91 #[.int .i64 n, .int .i64 16] w fun e w' => e = .returned (.string (Nu.text 16 n)) ∧ Below w.heap.size w w' := by
  have hw := u64_wrap n hn
  go_enter Tryz.func91, Tryz.ntmps91
  go_wp2_with fail
  refine (formatBits_16 n hn _ ht.tz).mono ?_
  rintro e w' ⟨rfl, hb⟩
  go_wp2_with fail
  go_ret
  exact ⟨rfl, hb⟩
theorem Format_16 (n : Nat) (hn : SmallN n) (w : World) (ht : Tabs w) :
    Calls Tryz.prog 81 #[.int .i64 n, .int .i64 16] w fun e w' => e = .returned (.string (Nu.text 16 n)) ∧ Below w.heap.size w w' := by
  go_enter Tryz.func81, Tryz.ntmps81
  go_wp2_with fail
  refine (iFormat_16 n hn _ ht).mono ?_
  rintro e w' ⟨rfl, hb⟩
  go_wp2_with fail
  go_ret
  exact ⟨rfl, hb⟩

theorem write_10 (n : Int) (hn : n < 9223372036854775808) (w : World) (ht : Tabs w) :
    Calls Tryz.prog 57 #[.int .i64 n, .int .i64 10] w fun e w' => e = .returned (.string (Nu.tx 10 n)) ∧ Below w.heap.size w w' := by
  by_cases h : n < 0
  · have hx := Lib.hid (show Nu.tx 10 n = ⟨#[]⟩ by unfold Nu.tx; rw [if_pos h])
    clear hn
    go_enter Tryz.func57, Tryz.ntmps57
    go_wp2_with fail
    go_ret
    exact ⟨ret_str hx.out.symm, Below.refl _ _⟩
  · have hx := Lib.hid (show Nu.tx 10 n = Nu.text 10 n.toNat by unfold Nu.tx; rw [if_neg h])
    obtain ⟨k, rfl⟩ := Int.eq_ofNat_of_zero_le (by omega : 0 ≤ n)
    have hk : SmallN k := by unfold SmallN; omega
    clear hn
    go_enter Tryz.func57, Tryz.ntmps57
    go_wp2_with fail
    refine (Format_10 k hk _ ht).mono ?_
    rintro e w' ⟨rfl, hb⟩
    go_wp2_with fail
    go_ret
    exact ⟨ret_str hx.out.symm, hb⟩
theorem Text_any (n : Int) (hn : n < 9223372036854775808) (w : World) (ht : Tabs w) :
    Calls Tryz.prog 34 #[.int .i64 n] w fun e w' => e = .returned (.string (Nu.tx 10 n)) ∧ Below w.heap.size w w' := by
  have H := Lib.hid (write_10 n hn w ht)
  clear hn
  go_enter Tryz.func34, Tryz.ntmps34
  go_wp2_with fail
  refine H.out.mono ?_
  rintro e w' ⟨rfl, hb⟩
  go_wp2_with fail
  go_ret
  exact ⟨rfl, hb⟩

theorem write_16 (n : Int) (hn : n < 9223372036854775808) (w : World) (ht : Tabs w) :
    Calls Tryz.prog 57 #[.int .i64 n, .int .i64 16] w fun e w' => e = .returned (.string (Nu.tx 16 n)) ∧ Below w.heap.size w w' := by
  by_cases h : n < 0
  · have hx := Lib.hid (show Nu.tx 16 n = ⟨#[]⟩ by unfold Nu.tx; rw [if_pos h])
    clear hn
    go_enter Tryz.func57, Tryz.ntmps57
    go_wp2_with fail
    go_ret
    exact ⟨ret_str hx.out.symm, Below.refl _ _⟩
  · have hx := Lib.hid (show Nu.tx 16 n = Nu.text 16 n.toNat by unfold Nu.tx; rw [if_neg h])
    obtain ⟨k, rfl⟩ := Int.eq_ofNat_of_zero_le (by omega : 0 ≤ n)
    have hk : SmallN k := by unfold SmallN; omega
    clear hn
    go_enter Tryz.func57, Tryz.ntmps57
    go_wp2_with fail
    refine (Format_16 k hk _ ht).mono ?_
    rintro e w' ⟨rfl, hb⟩
    go_wp2_with fail
    go_ret
    exact ⟨ret_str hx.out.symm, hb⟩
end Go.Proofs.YtfjklhfmecjjkaaGreatDoor
