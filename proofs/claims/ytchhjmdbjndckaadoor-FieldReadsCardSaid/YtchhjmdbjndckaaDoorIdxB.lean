/- The library's search for any of two ASCII bytes, in whatever text: laid at this program's numbers, its short way walked. -/
import Derived.Test.YtchhjmdbjndckaaDoorIdxA
import Derived.Test.YtchhjmdbjndckaaDoorScanA
import Derived.WalkMore
import Derived.LoopN
import Derived.BigGuardPart
import Derived.Deep.LoopGhost
import Derived.Deep.RegionWith
namespace Go.Proofs.YtchhjmdbjndckaaDoor
open Go.RowKit Go.Lib

set_option maxRecDepth 100000
def lib_indexAny_ren : Go.Shelf.Ren := ⟨fun | 119 => 56 | 137 => 55 | 152 => 44 | 153 => 27 | 217 => 64 | 224 => 57 | 225 => 58 | 226 => 45 | 227 => 36 | 228 => 46 | 266 => 66 | n => n, fun | 0 => 0 | 3 => 3 | 4 => 4 | 5 => 5 | 9 => 9 | 21 => 21 | 46 => 73 | 116 => 55 | 117 => 56 | 124 => 59 | n => n, fun  | n => n⟩
theorem lib_indexAny_lays : Lays.n153 Tryd.prog lib_indexAny_ren := {
  mixed := by kernel_rfl,
  f119 := Tryd.func56.trans (congrArg some (by kernel_rfl)),
  f137 := Tryd.func55.trans (congrArg some (by kernel_rfl)),
  f152 := Tryd.func44.trans (congrArg some (by kernel_rfl)),
  f153 := Tryd.func27.trans (congrArg some (by kernel_rfl)),
  f217 := Tryd.func64.trans (congrArg some (by kernel_rfl)),
  f224 := Tryd.func57.trans (congrArg some (by kernel_rfl)),
  f225 := Tryd.func58.trans (congrArg some (by kernel_rfl)),
  f226 := Tryd.func45.trans (congrArg some (by kernel_rfl)),
  f227 := Tryd.func36.trans (congrArg some (by kernel_rfl)),
  f228 := Tryd.func46.trans (congrArg some (by kernel_rfl)),
  f266 := Tryd.func66.trans (congrArg some (by kernel_rfl)),
  t0 := Tryd.underlying0,
  a0 := Tryd.isAgg0,
  z0 := Tryd.sizeOf0,
  v0 := Tryd.zeroValue0,
  t3 := Tryd.underlying3,
  a3 := Tryd.isAgg3,
  z3 := Tryd.sizeOf3,
  v3 := Tryd.zeroValue3,
  t4 := Tryd.underlying4,
  a4 := Tryd.isAgg4,
  z4 := Tryd.sizeOf4,
  v4 := Tryd.zeroValue4,
  t5 := Tryd.underlying5,
  a5 := Tryd.isAgg5,
  z5 := Tryd.sizeOf5,
  v5 := Tryd.zeroValue5,
  t9 := Tryd.underlying9,
  a9 := Tryd.isAgg9,
  z9 := Tryd.sizeOf9,
  v9 := Tryd.zeroValue9,
  t21 := Tryd.underlying21,
  a21 := Tryd.isAgg21,
  z21 := Tryd.sizeOf21,
  v21 := Tryd.zeroValue21,
  t46 := Tryd.underlying73,
  a46 := Tryd.isAgg73,
  z46 := Tryd.sizeOf73,
  v46 := Tryd.zeroValue73,
  t116 := Tryd.underlying55,
  a116 := Tryd.isAgg55,
  z116 := Tryd.sizeOf55,
  t117 := Tryd.underlying56,
  a117 := Tryd.isAgg56,
  z117 := Tryd.sizeOf56,
  v117 := Tryd.zeroValue56,
  t124 := Tryd.underlying59,
  a124 := Tryd.isAgg59,
  z124 := Tryd.sizeOf59,
  v124 := Tryd.zeroValue59 }
/-- It answers one of the two. -/
def SomeBool (e : Ending) : Prop := ∃ b, e = .returned (.bool b)
theorem ValidRune_some (r : Int) (w : World) (h0 : 128 ≤ r) (h1 : r ≤ 1114111) :
    Calls Tryd.prog 56 #[.int .i32 r] w fun e w' => SomeBool e ∧ w' = w := by
  go_enter Tryd.func56, Tryd.ntmps56
  go_wp2_with fail
  all_goals
    go_ret
    exact ⟨⟨_, rfl⟩, rfl⟩
theorem IndexByte_none (c : Int) (w : World) :
    Calls Tryd.prog 55 #[.string ByteArray.empty, .int .u8 c] w fun e w' => e = .returned (.int .i64 (-1)) ∧ w' = w := by
  exact Any.strings_IndexByte { lib_indexAny_lays with } ByteArray.empty c w
set_option maxHeartbeats 4000000 in
theorem IndexRune_other (chars : ByteArray) (r : Int) (w : World) (h0 : 128 ≤ r) (h1 : r ≤ 1114111) (hne : r ≠ 65533) (h2 : chars.size = 2) (hascii : ∀ (j : Nat) b, chars.data.toList[j]? = some b → b.toNat < 128) :
    Calls Tryd.prog 44 #[.string chars, .int .i32 r] w fun e w' => e = .returned (.int .i64 (-1)) ∧ Below w.heap.size w w' := by
  have HV := Lib.hid (ValidRune_some r w h0 h1)
  have HE := Ix.encode_high r h0
  have hn : (r == 65533) = false := by rw [beq_eq_false_iff_ne]; exact hne
  have hr0 : (0 : Int) ≤ r := by omega
  have hr1 : ¬ r < 128 := by omega
  have hcv := fun w => run_convert_int_string (P := Tryd.prog) w 21 9 .i32 r rfl Tryd.underlying9
  obtain ⟨E, hE⟩ : ∃ E, Utf8.encode r = E := ⟨_, rfl⟩
  rw [hE] at HE hcv
  have hE2 := Lib.hid hE
  clear hE
  obtain ⟨HE1, HE2, HE3⟩ := HE
  have HIx := Lib.hid (fun c w => IndexByte_none c w)
  have hz2 : (chars.size : Int) = 2 := by omega
  have hwr : IntKind.i64.wrap 2 = 2 := by decide
  by_cases hs : E.size = 2
  · have hz3 : (E.size : Int) = 2 := by omega
    have hb : ¬ ((chars[1].toNat : Int) = (E[1].toNat : Int)) := by
      have h3 := HE3 1 (by omega)
      have h4 := hascii 1 _ (Lib.data_getElem? chars 1 (by omega))
      omega
    clear HE3 hascii
    go_enter Tryd.func44, Tryd.ntmps44
    go_wp2_with (go_at_call 56; refine HV.out.mono ?_; rintro e w1 ⟨⟨b, rfl⟩, rfl⟩; cases b)
    · go_ret
      exact ⟨rfl, Below.refl _ _⟩
    · go_step3
      go_wp2_with fail
      refine wp_loop_rounds 1 ?_
      rw [rounds_succ]
      go_wp2_with fail
      go_step3
      go_wp2_with fail
      go_region
      go_wp2_with fail
      go_region_with (go_at_call 55; refine (HIx.out _ _).mono ?_; rintro e w2 ⟨rfl, hw2⟩; subst hw2)
      go_wp2_with fail
      simp only [Exit.noGoto_ret, Exit.then, Exit.inBlock]
      go_ret
      exact ⟨rfl, ((Below.refl _ _).drew).drew⟩
  · have hz3 : (2 : Int) ≤ (E.size : Int) - 1 := by omega
    clear HE3 hascii
    go_enter Tryd.func44, Tryd.ntmps44
    go_wp2_with (go_at_call 56; refine HV.out.mono ?_; rintro e w1 ⟨⟨b, rfl⟩, rfl⟩; cases b)
    · go_ret
      exact ⟨rfl, Below.refl _ _⟩
    · go_step3
      go_wp2_with fail
      refine wp_loop_rounds 1 ?_
      rw [rounds_succ]
      go_wp2_with fail
      simp only [Exit.noGoto_ret, Exit.inBlock]
      go_ret
      exact ⟨rfl, Below.refl _ _⟩
set_option maxHeartbeats 4000000 in
theorem IndexRune_error (chars : ByteArray) (w : World) (h2 : chars.size = 2) (hascii : ∀ (j : Nat) b, chars.data.toList[j]? = some b → b.toNat < 128) :
    Calls Tryd.prog 44 #[.string chars, .int .i32 65533] w fun e w' => e = .returned (.int .i64 (-1)) ∧ Below w.heap.size w w' := by
  have a0 := hascii 0 _ (Lib.data_getElem? chars 0 (by omega))
  have a1 := hascii 1 _ (Lib.data_getElem? chars 1 (by omega))
  have n0 := fun ty => run_next_ascii (P := Tryd.prog) w chars 0 ty (by omega) a0
  have n1 := fun ty => run_next_ascii (P := Tryd.prog) w chars 1 ty (by omega) a1
  have n2 := fun ty => run_next_end (P := Tryd.prog) w chars 2 ty (by omega)
  have b0 : (((chars[0].toNat : Nat) : Int) == 65533) = false := by rw [beq_eq_false_iff_ne]; omega
  have b1 : (((chars[1].toNat : Nat) : Int) == 65533) = false := by rw [beq_eq_false_iff_ne]; omega
  clear hascii
  go_enter Tryd.func44, Tryd.ntmps44
  go_wp2_with fail
  refine wp_loop_rounds 3 ?_
  rw [rounds_succ]
  go_wp2_with fail
  rw [rounds_succ]
  go_wp2_with fail
  rw [rounds_succ]
  go_wp2_with fail
  go_ret
  exact ⟨rfl, (Below.refl _ _).alloc (Nat.le_refl _) _⟩
/-- At a rune of whatever kind that is no ASCII: there is none. -/
theorem IndexRune_none (chars : ByteArray) (r : Int) (w : World) (h0 : 128 ≤ r) (h1 : r ≤ 1114111) (h2 : chars.size = 2) (hascii : ∀ (j : Nat) b, chars.data.toList[j]? = some b → b.toNat < 128) :
    Calls Tryd.prog 44 #[.string chars, .int .i32 r] w fun e w' => e = .returned (.int .i64 (-1)) ∧ Below w.heap.size w w' := by
  by_cases h : r = 65533
  · subst h; exact IndexRune_error chars w h2 hascii
  · exact IndexRune_other chars r w h0 h1 h h2 hascii
theorem IndexRune_yes (chars : ByteArray) (x : UInt8) (w : World) (hx : x.toNat < 128) :
    Calls Tryd.prog 44 #[.string chars, .int .i32 (x.toNat : Int)] w fun e w' => e = .returned (.int .i64 (Lib.indexByte chars.data.toList x)) ∧ w' = w := by
  have h := Any.strings_IndexRune_ascii (P := Tryd.prog) { lib_indexAny_lays with } chars (x.toNat : Int) w (by omega) (by omega)
  rw [show ((x.toNat : Int)).toNat.toUInt8 = x by simp] at h
  exact h
theorem useSet_any (n : Int) (w : World) : Calls Tryd.prog 45 #[.int .i64 n] w fun e w' => e = .returned (.bool (decide (8 < n))) ∧ w' = w := by
  exact Any.strings_shouldUseASCIISet (P := Tryd.prog) { lib_indexAny_lays with } n w
theorem lt_of_heap {W : World} {b : Nat} {o : Obj} (h : W.heap[b]? = some o) : b < W.heap.size := by
  obtain ⟨hb, -⟩ := Array.getElem?_eq_some_iff.1 h
  exact hb
/-- What a walk through a text has seen: at place i of it, none of the bytes. -/
def SeenTo (w : World) (s chars : ByteArray) (g : Nat) (W : World) : Prop := ∃ i : Nat, i + g = s.size ∧ W.heap[w.heap.size]? = some (.stringIter s i) ∧ Below w.heap.size w W ∧ NoAny s.data.toList chars.data.toList i
theorem no_any_more {s chars : List UInt8} {i n : Nat} (h : NoAny s chars i) (hc : ∀ (j : Nat) b, chars[j]? = some b → b.toNat < 128) (hs : ∀ (j : Nat) b, i ≤ j → j < i + n → s[j]? = some b → 128 ≤ b.toNat) : NoAny s chars (i + n) := by
  intro j b hj hb
  by_cases hi : j < i
  · exact h j b hi hb
  · have h1 := hs j b (by omega) hj hb
    rw [Bool.eq_false_iff]
    intro hm
    have hm2 : b ∈ chars := by simpa using hm
    obtain ⟨k, hk, e⟩ := List.getElem_of_mem hm2
    have := hc k b (by rw [List.getElem?_eq_getElem hk, e])
    omega
set_option maxHeartbeats 8000000 in
theorem IndexAny_short (s chars : ByteArray) (w : World) (h2 : chars.size = 2) (h8 : s.size ≤ 8) (hascii : ∀ (j : Nat) b, chars.data.toList[j]? = some b → b.toNat < 128) :
    Calls Tryd.prog 27 #[.string s, .string chars] w fun e w' => e = .returned (.int .i64 (Lib.indexAny s.data.toList chars.data.toList)) ∧ Below w.heap.size w w' := by
  have HA := Lib.hid hascii
  clear hascii
  have hemp : chars.toList.isEmpty = false := by
    rw [Lib.toList_data]
    cases h : chars.data.toList with
    | nil => have := Lib.size_eq chars; rw [h, List.length_nil] at this; omega
    | cons _ _ => rfl
  have hn1 : ((chars.size : Int) == 1) = false := beq_eq_false_iff_ne.2 (by omega)
  have HU := Lib.hid (fun w => useSet_any (s.size : Int) w)
  have h8z : decide ((8 : Int) < (s.size : Int)) = false := decide_eq_false (by omega)
  rw [h8z] at HU
  clear h8z
  go_enter Tryd.func27, Tryd.ntmps27
  go_wp2_with (go_at_call 45; refine (HU.out _).mono ?_; rintro e wz ⟨rfl, hw⟩; subst hw)
  go_loopg [9, 10] s.size (fun g _ _ wx => SeenTo wz s chars g wx)
  case atStart => exact ⟨0, by omega, World.iter_heap _ _ _, (Below.refl _ _).alloc (Nat.le_refl _) _, NoAny.zero _ _⟩
  case round =>
    obtain ⟨i, hig, hbk, hbel, hno⟩ := hrel
    have HN := Lib.hid hno
    have HB := Lib.hid hbel
    clear hno hbel
    by_cases hi : i < s.size
    · by_cases hx : (s[i]'hi).toNat < 128
      · have hnx := fun ty => next_at (P := Tryd.prog) _ _ s i ty _ _ hbk hi (decode_ascii s i hi hx)
        have hlt := lt_of_heap hbk
        have HNX := Lib.hid (nextW_at s (i + 1) hlt)
        have HBX := Lib.hid (nextW_below HB.out (Nat.le_refl _) s (i + 1))
        have HK := Lib.hid hbk
        clear hbk
        obtain ⟨x, hxx⟩ : ∃ x : UInt8, s[i]'hi = x := ⟨_, rfl⟩
        have Hx := Lib.hid (show s.data.toList[i]? = some x by rw [← hxx]; exact Lib.data_getElem? s i hi)
        rw [hxx] at hnx hx
        clear hxx
        have HR := Lib.hid (fun w => IndexRune_yes chars x w hx)
        have hcon := Lib.contains_iff_indexByte chars.data.toList x
        cases hin : chars.data.toList.contains x
        · rw [hin] at hcon
          have hl0 : ¬ ((0 : Int) ≤ Lib.indexByte chars.data.toList x) := of_decide_eq_false hcon.symm
          have Hin := Lib.hid hin
          clear hcon hin
          go_wp2_with (go_at_call 44; refine (HR.out _).mono ?_; rintro e w2 ⟨rfl, hw2⟩; subst hw2)
          go_roundg (gk - 1)
          case measure => omega
          case rel => exact ⟨i + 1, by omega, HNX.out, HBX.out, HN.out.succ Hx.out Hin.out⟩
        · rw [hin] at hcon
          have hl0 : (0 : Int) ≤ Lib.indexByte chars.data.toList x := of_decide_eq_true hcon.symm
          have Hin := Lib.hid hin
          clear hcon hin
          go_wp2_with (go_at_call 44; refine (HR.out _).mono ?_; rintro e w2 ⟨rfl, hw2⟩; subst hw2)
          go_ret
          exact ⟨by rw [Lib.indexAny_hit HN.out Hx.out Hin.out]; rfl, HBX.out⟩
      · obtain ⟨r, n, hd, h128, htop, hn, hle, hall⟩ := Ix.decode_high s i hi hx
        have hnx := fun ty => next_at (P := Tryd.prog) _ _ s i ty _ _ hbk hi hd
        have hlt := lt_of_heap hbk
        have HNX := Lib.hid (nextW_at s (i + n) hlt)
        have HBX := Lib.hid (nextW_below HB.out (Nat.le_refl _) s (i + n))
        have hlt2 : wz.heap.size < (nextW wr wz.heap.size s (i + n)).heap.size := by rw [nextW_size]; exact hlt
        have HK := Lib.hid hbk
        have HNN := Lib.hid (no_any_more HN.out HA.out hall)
        have HR := Lib.hid (fun w => IndexRune_none chars (r : Int) w (by omega) (by omega) h2 HA.out)
        clear hbk hall hd
        go_wp2_with (go_at_call 44; refine (HR.out _).mono ?_; rintro e w2 ⟨rfl, hb2⟩; have HX2 := Lib.hid ((hb2.block _ hlt2).trans HNX.out); have HB2 := Lib.hid (HBX.out.trans (hb2.mono HBX.out.size)); clear hb2)
        go_roundg (gk - n)
        case measure => omega
        case rel => exact ⟨i + n, by omega, HX2.out, HB2.out, HNN.out⟩
    · obtain rfl : i = s.size := by omega
      have hnx := fun ty => next_end (P := Tryd.prog) _ _ s s.size ty hbk (Nat.lt_irrefl _)
      have HK := Lib.hid hbk
      clear hbk
      go_wp2_with fail
      go_ret
      exact ⟨by rw [Lib.indexAny_none (by rw [← Lib.size_eq]; exact HN.out)]; rfl, HB.out⟩
/-- The library's search for any of two ASCII bytes, in whatever text. -/
theorem IndexAny_any (s chars : ByteArray) (w : World) (hs : s.size ≤ 100000) (h2 : chars.size = 2) (hascii : ∀ (j : Nat) b, chars.data.toList[j]? = some b → b.toNat < 128) :
    Calls Tryd.prog 27 #[.string s, .string chars] w fun e w' => e = .returned (.int .i64 (Lib.indexAny s.data.toList chars.data.toList)) ∧ Below w.heap.size w w' := by
  by_cases h8 : s.size ≤ 8
  · exact IndexAny_short s chars w h2 h8 hascii
  · have h116 : (Tryd.prog.info? 55).map (fun i => (i.zero, i.size)) = some (some (.agg (Array.replicate 256 (.bool false))), 256) := by kernel_rfl
    refine (Any.strings_IndexAny_long lib_indexAny_lays (zero_of_info h116).1 (zero_of_info h116).2 s chars w (by omega) (by omega) (by omega) (by omega) hascii).mono fun e w' ⟨h1, h3⟩ => ⟨h1, ?_⟩
    rw [h3]
    exact ((Below.refl _ _).alloc (Nat.le_refl _) _).alloc (by simp) _
end Go.Proofs.YtchhjmdbjndckaaDoor
