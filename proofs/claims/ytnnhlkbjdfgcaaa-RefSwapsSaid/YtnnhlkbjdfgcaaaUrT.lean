/- The document's Swap: contract. -/
import Derived.Test.YtnnhlkbjdfgcaaaUrM
import Derived.Test.YtnnhlkbjdfgcaaaUrN
import Derived.Test.YtnnhlkbjdfgcaaaUrP
import Derived.Test.YtnnhlkbjdfgcaaaRegion
namespace Go.Proofs.Ytnnhlkbjdfgcaaa
open Go.RowKit
namespace Ur
theorem suffix_last {f : ByteArray} (h : 0 < f.size) : Lib.hasSuffix f.data.toList [47] = decide (f[f.size - 1] = 47) := by
  have hl : f.data.toList.length = f.size := by simp
  rw [← Lib.hasSuffix_of_drop, decide_eq_true (by rw [hl]; exact h), Bool.true_and, hl]
  have e : f.data.toList.drop (f.size - ([47] : List UInt8).length) = [f[f.size - 1]] := by
    show f.data.toList.drop (f.size - 1) = _
    rw [List.drop_eq_getElem_cons (by simp; omega), List.drop_of_length_le (by simp; omega)]
    rfl
  rw [e, Bool.eq_iff_iff]
  simp
/-- What a beginning is, as a walk finds it. -/
theorem beh_walk (f s : ByteArray) :
    (f.size = 0 ∧ (behL f.data.toList s.data.toList).2 = false) ∨
    (0 < f.size ∧ s.size < f.size ∧ (behL f.data.toList s.data.toList).2 = false) ∨
    (0 < f.size ∧ f.size ≤ s.size ∧ ((s.extract 0 f.size).toList == f.toList) = false ∧ (behL f.data.toList s.data.toList).2 = false) ∨
    (0 < f.size ∧ f.size = s.size ∧ ((s.extract 0 f.size).toList == f.toList) = true ∧ (behL f.data.toList s.data.toList).2 = true ∧ (behL f.data.toList s.data.toList).1 = (s.extract f.size s.size).data.toList) ∨
    (0 < f.size ∧ ((s.extract 0 f.size).toList == f.toList) = true ∧ (behL f.data.toList s.data.toList).1 = (s.extract f.size s.size).data.toList ∧ ∃ h : f.size < s.size, ∃ h2 : f.size - 1 < s.size, (behL f.data.toList s.data.toList).2 = (decide (s[f.size - 1] = 47) || [47, 63, 35].contains s[f.size])) := by
  have hf : f.data.toList.length = f.size := by simp
  by_cases h0 : f.size = 0
  · obtain rfl : f = ByteArray.empty := by simpa using h0
    exact .inl ⟨rfl, rfl⟩
  · have h0' : 0 < f.size := by omega
    have hne : f.data.toList.isEmpty = false := by
      rw [List.isEmpty_eq_false_iff]
      intro e
      rw [e] at hf
      simp at hf
      omega
    have hraw := Lib.hasPrefix_raw s f
    by_cases h1 : f.size ≤ s.size
    · rw [decide_eq_true h1, Bool.true_and] at hraw
      cases hk : ((s.extract 0 f.size).toList == f.toList)
      · rw [hk] at hraw
        refine .inr (.inr (.inl ⟨h0', h1, rfl, ?_⟩))
        unfold behL
        rw [hne, ← hraw, if_pos (by rfl)]
      · rw [hk] at hraw
        have hb : behL f.data.toList s.data.toList = (s.data.toList.drop f.size, Lib.hasSuffix f.data.toList [47] || endB (s.data.toList.drop f.size)) := by
          unfold behL
          rw [hne, ← hraw, if_neg (by decide), hf]
        have hr : s.data.toList.drop f.size = (s.extract f.size s.size).data.toList := (Hp.ext_end _ _).symm
        by_cases h2 : f.size = s.size
        · refine .inr (.inr (.inr (.inl ⟨h0', h2, rfl, ?_, by rw [hb]; exact hr⟩)))
          rw [hb]
          show (_ || endB (s.data.toList.drop f.size)) = true
          rw [List.drop_of_length_le (by simp; omega)]
          exact Bool.or_true _
        · have h3 : f.size < s.size := by omega
          refine .inr (.inr (.inr (.inr ⟨h0', rfl, by rw [hb]; exact hr, h3, by omega, ?_⟩)))
          rw [hb]
          have e1 : s.data.toList.drop f.size = s[f.size] :: s.data.toList.drop (f.size + 1) := by
            rw [List.drop_eq_getElem_cons (by simpa using h3)]; rfl
          have e2 : f[f.size - 1] = s[f.size - 1] := by
            have e3 : s.extract 0 f.size = f := by
              refine bytes_eq ?_
              have := eq_of_beq hk
              rw [ByteArray.toList_eq, ByteArray.toList_eq] at this
              exact this
            have e4 : f.data.toList[f.size - 1]? = s.data.toList[f.size - 1]? := by
              conv => lhs; rw [← e3, Hp.ext_start]
              rw [List.getElem?_take, e3, if_pos (by omega)]
            rw [get_at f _ (by omega), get_at s _ (by omega)] at e4
            exact Option.some.inj e4
          show (Lib.hasSuffix f.data.toList [47] || endB (s.data.toList.drop f.size)) = _
          rw [suffix_last h0', e2, e1]
          rfl
    · refine .inr (.inl ⟨h0', by omega, ?_⟩)
      rw [decide_eq_false h1, Bool.false_and] at hraw
      unfold behL
      rw [hne, ← hraw, if_pos (by rfl)]
end Ur
set_option maxRecDepth 10000 in
set_option maxHeartbeats 1600000 in
theorem RSwap_any (s : ByteArray) (a : Option Addr) (len cp : Nat) (l : List Pair) (w : World) (hz : IsParams w a len l) (hs : s.size ≤ 1000) (hl : ∀ p ∈ l, p.1.size ≤ 1000 ∧ p.2.size ≤ 1000) :
    Calls Try.prog 16 #[.string s, .slice a len cp] w fun e w' => e = .returned (swV s (Ur.swapL s.data.toList (l.map Ur.pl))) ∧ Below w.heap.size w w' := by
  have hsm := hz.small
  have HZ := Lib.hid hz
  have HL := Lib.hid hl
  obtain ⟨Z, hZ⟩ : ∃ Z, Ur.swapL s.data.toList (l.map Ur.pl) = Z := ⟨_, rfl⟩
  rw [hZ]
  clear hz hl
  go_enter Try.func16, Try.ntmps16
  go_wp2_with fail
  go_loopw [6] (fun i wr => ∃ k : Nat, k ≤ len ∧ i = .int .i64 k ∧ Ur.swapL s.data.toList ((l.drop k).map Ur.pl) = Z ∧ Hid (Below w.heap.size w wr)) (fun i _ => len - (intOf i).toNat)
  case atStart => exact ⟨0, Nat.zero_le _, rfl, hZ, Below.refl _ _⟩
  case round =>
    clear hZ
    obtain ⟨k, hk, rfl, hv, HB⟩ := hrel
    by_cases hlt : k < len
    · rcases (HZ.out.below HB.out).2 with ⟨rfl, rfl⟩ | ⟨x, rfl, hxl, hcells⟩
      · omega
      obtain ⟨d0, d1⟩ := hcells k hlt
      have hkl : k < l.length := by rw [HZ.out.1]; exact hlt
      obtain ⟨z0, z1⟩ := HL.out _ (at_mem l k hkl)
      rw [at_drop l k hkl, List.map_cons] at hv
      clear hcells
      generalize at_ l k = p at *
      obtain ⟨F, T⟩ := p
      change Ur.swapL s.data.toList ((F.data.toList, T.data.toList) :: _) = Z at hv
      have hk0 : (0 : Int) ≤ (k : Int) := Int.natCast_nonneg _
      have hk1 : (k : Int) < (len : Int) := by omega
      have key := Ur.beh_walk F s
      by_cases h1 : F.size = 0
      · obtain rfl : F = ByteArray.empty := by simpa using h1
        have h2 : (Ur.behL ByteArray.empty.data.toList s.data.toList).2 = false := rfl
        rw [Ur.swap_no h2] at hv
        have HV := Lib.hid hv
        clear hv h2 h1 key
        go_wp2_with fail
        first
          | go_region
          | fail
        go_wp2_with fail
        exact ⟨⟨k + 1, by omega, by go_num, HV.out, HB.out.drew⟩, by simp [intOf]; omega⟩
      by_cases h9 : s.size < F.size
      · have h3 : (Ur.behL F.data.toList s.data.toList).2 = false := by
          rcases key with ⟨a, b⟩ | ⟨a, b, c⟩ | ⟨a, b, c, d⟩ | ⟨a, b, c, d, e⟩ | ⟨a, b, c, d, e⟩ <;> first | assumption | omega
        rw [Ur.swap_no h3] at hv
        have HV := Lib.hid hv
        have g1 : ((F.size : Int) == 0) = false := by rw [beq_eq_false_iff_ne]; omega
        have g2 : (s.size : Int) < F.size := by omega
        clear hv h3 key
        go_wp2_with fail
        first
          | go_region
          | fail
        go_wp2_with fail
        exact ⟨⟨k + 1, by omega, by go_num, HV.out, HB.out.drew⟩, by simp [intOf]; omega⟩
      · have g1 : ((F.size : Int) == 0) = false := by rw [beq_eq_false_iff_ne]; omega
        have g2 : ¬ (s.size : Int) < F.size := by omega
        have g3 : (F.size : Int) ≤ s.size := by omega
        obtain ⟨X, hX⟩ : ∃ X, s.extract 0 F.size = X := ⟨_, rfl⟩
        rw [hX] at key
        obtain ⟨yy, hyy⟩ : ∃ b, (X.toList == F.toList) = b := ⟨_, rfl⟩
        rw [hyy] at key
        have KEY := Lib.hid key
        have HVV := Lib.hid hv
        clear key hv
        go_wp2_with fail
        refine wp_region_specs (by kernel_rfl) [.is (.int .i64 (F.size : Int)), .is (.bool false), .is (.bool false), .is (.int .i64 (F.size : Int)), .is (.string s), .is (.int .i64 (s.size : Int)), .is (.bool false), .is (.bool false), .is (.bool false), .is (.string s), .is (.int .i64 (F.size : Int)), .is (.string X), .is (.slice (some x) len cp), .is (.int .i64 (k : Int)), .is (.pointer (some (x.add (k * 2)))), .is (.pointer (some (x.add (k * 2)))), .is (.string F), .is (.bool (!yy)), .is (.bool (!yy))] (by kernel_rfl) ?_ ?_
        · refine ⟨?_, ?_, ?_, ?_, ?_, ?_, ?_, ?_, ?_, ?_, ?_, ?_, ?_, ?_, ?_, ?_, ?_, ?_, ?_, trivial⟩
          · intro a wq hs hb hold hdep K hK
            have f7 : a.tmps.getD 7 undef = Value.int IntKind.i64 ↑F.size := hold 7 (by kernel_rfl)
            refine Or.inl ⟨rfl, ?_⟩
            clear hold hdep hs
            go_simp
            exact hK _ _ rfl (Below.refl _ _)
          · intro a wq hs hb hold hdep K hK
            have f20 : a.tmps.getD 20 undef = .int .i64 (F.size : Int) := hdep 0 20 (by kernel_rfl) (by kernel_rfl)
            refine Or.inl ⟨rfl, ?_⟩
            clear hold hdep hs
            go_simp
            exact hK _ _ rfl (Below.refl _ _)
          · intro a wq hs hb hold hdep K hK
            have f21 : a.tmps.getD 21 undef = .bool false := hdep 1 21 (by kernel_rfl) (by kernel_rfl)
            refine Or.inl ⟨rfl, ?_⟩
            clear hold hdep hs
            go_simp
            exact hK _ _ rfl (Below.refl _ _)
          · intro a wq hs hb hold hdep K hK
            have f7 : a.tmps.getD 7 undef = Value.int IntKind.i64 ↑F.size := hold 7 (by kernel_rfl)
            refine Or.inl ⟨want_of (d := 22) rfl (by kernel_rfl) (hdep 2 22 (by kernel_rfl) (by kernel_rfl)), ?_⟩
            clear hold hdep hs
            go_simp
            exact hK _ _ rfl (Below.refl _ _)
          · intro a wq hs hb hold hdep K hK
            have f0 : a.tmps.getD 0 undef = Value.string s := hold 0 (by kernel_rfl)
            refine Or.inl ⟨want_of (d := 22) rfl (by kernel_rfl) (hdep 2 22 (by kernel_rfl) (by kernel_rfl)), ?_⟩
            clear hold hdep hs
            go_simp
            exact hK _ _ rfl (Below.refl _ _)
          · intro a wq hs hb hold hdep K hK
            have f24 : a.tmps.getD 24 undef = .string s := hdep 4 24 (by kernel_rfl) (by kernel_rfl)
            refine Or.inl ⟨want_of (d := 22) rfl (by kernel_rfl) (hdep 2 22 (by kernel_rfl) (by kernel_rfl)), ?_⟩
            clear hold hdep hs
            go_simp
            exact hK _ _ rfl (Below.refl _ _)
          · intro a wq hs hb hold hdep K hK
            have f23 : a.tmps.getD 23 undef = .int .i64 (F.size : Int) := hdep 3 23 (by kernel_rfl) (by kernel_rfl)
            have f25 : a.tmps.getD 25 undef = .int .i64 (s.size : Int) := hdep 5 25 (by kernel_rfl) (by kernel_rfl)
            refine Or.inl ⟨want_of (d := 22) rfl (by kernel_rfl) (hdep 2 22 (by kernel_rfl) (by kernel_rfl)), ?_⟩
            clear hold hdep hs
            go_simp
            exact hK _ _ rfl (Below.refl _ _)
          · intro a wq hs hb hold hdep K hK
            have f22 : a.tmps.getD 22 undef = .bool false := hdep 2 22 (by kernel_rfl) (by kernel_rfl)
            have f26 : a.tmps.getD 26 undef = .bool false := hdep 6 26 (by kernel_rfl) (by kernel_rfl)
            refine Or.inl ⟨rfl, ?_⟩
            clear hold hdep hs
            go_simp
            exact hK _ _ rfl (Below.refl _ _)
          · intro a wq hs hb hold hdep K hK
            have f27 : a.tmps.getD 27 undef = .bool false := hdep 7 27 (by kernel_rfl) (by kernel_rfl)
            refine Or.inl ⟨rfl, ?_⟩
            clear hold hdep hs
            go_simp
            exact hK _ _ rfl (Below.refl _ _)
          · intro a wq hs hb hold hdep K hK
            have f0 : a.tmps.getD 0 undef = Value.string s := hold 0 (by kernel_rfl)
            refine Or.inl ⟨want_of (d := 28) rfl (by kernel_rfl) (hdep 8 28 (by kernel_rfl) (by kernel_rfl)), ?_⟩
            clear hold hdep hs
            go_simp
            exact hK _ _ rfl (Below.refl _ _)
          · intro a wq hs hb hold hdep K hK
            have f7 : a.tmps.getD 7 undef = Value.int IntKind.i64 ↑F.size := hold 7 (by kernel_rfl)
            refine Or.inl ⟨want_of (d := 28) rfl (by kernel_rfl) (hdep 8 28 (by kernel_rfl) (by kernel_rfl)), ?_⟩
            clear hold hdep hs
            go_simp
            exact hK _ _ rfl (Below.refl _ _)
          · intro a wq hs hb hold hdep K hK
            have f29 : a.tmps.getD 29 undef = .string s := hdep 9 29 (by kernel_rfl) (by kernel_rfl)
            have f30 : a.tmps.getD 30 undef = .int .i64 (F.size : Int) := hdep 10 30 (by kernel_rfl) (by kernel_rfl)
            refine Or.inl ⟨want_of (d := 28) rfl (by kernel_rfl) (hdep 8 28 (by kernel_rfl) (by kernel_rfl)), ?_⟩
            clear hold hdep hs
            go_simp
            exact hK _ _ rfl (Below.refl _ _)
          · intro a wq hs hb hold hdep K hK
            have f1 : a.tmps.getD 1 undef = Value.slice (some x) len cp := hold 1 (by kernel_rfl)
            refine Or.inl ⟨want_of (d := 28) rfl (by kernel_rfl) (hdep 8 28 (by kernel_rfl) (by kernel_rfl)), ?_⟩
            clear hold hdep hs
            go_simp
            exact hK _ _ rfl (Below.refl _ _)
          · intro a wq hs hb hold hdep K hK
            have f6 : a.tmps.getD 6 undef = Value.int IntKind.i64 ↑k := hold 6 (by kernel_rfl)
            refine Or.inl ⟨want_of (d := 28) rfl (by kernel_rfl) (hdep 8 28 (by kernel_rfl) (by kernel_rfl)), ?_⟩
            clear hold hdep hs
            go_simp
            exact hK _ _ rfl (Below.refl _ _)
          · intro a wq hs hb hold hdep K hK
            have f32 : a.tmps.getD 32 undef = .slice (some x) len cp := hdep 12 32 (by kernel_rfl) (by kernel_rfl)
            have f33 : a.tmps.getD 33 undef = .int .i64 (k : Int) := hdep 13 33 (by kernel_rfl) (by kernel_rfl)
            refine Or.inl ⟨want_of (d := 28) rfl (by kernel_rfl) (hdep 8 28 (by kernel_rfl) (by kernel_rfl)), ?_⟩
            clear hold hdep hs
            go_simp
            exact hK _ _ rfl (Below.refl _ _)
          · intro a wq hs hb hold hdep K hK
            have f34 : a.tmps.getD 34 undef = .pointer (some (x.add (k * 2))) := hdep 14 34 (by kernel_rfl) (by kernel_rfl)
            refine Or.inl ⟨want_of (d := 28) rfl (by kernel_rfl) (hdep 8 28 (by kernel_rfl) (by kernel_rfl)), ?_⟩
            clear hold hdep hs
            go_simp
            exact hK _ _ rfl (Below.refl _ _)
          · intro a wq hs hb hold hdep K hK
            have f35 : a.tmps.getD 35 undef = .pointer (some (x.add (k * 2))) := hdep 15 35 (by kernel_rfl) (by kernel_rfl)
            refine Or.inl ⟨want_of (d := 28) rfl (by kernel_rfl) (hdep 8 28 (by kernel_rfl) (by kernel_rfl)), ?_⟩
            clear hold hdep hs
            have e9 := (hb.cell (p := x.add (k * 2)) (lt_of_cell d0)).trans d0
            go_simp
            exact hK _ _ rfl (Below.refl _ _)
          · intro a wq hs hb hold hdep K hK
            have f31 : a.tmps.getD 31 undef = .string X := hdep 11 31 (by kernel_rfl) (by kernel_rfl)
            have f36 : a.tmps.getD 36 undef = .string F := hdep 16 36 (by kernel_rfl) (by kernel_rfl)
            refine Or.inl ⟨want_of (d := 28) rfl (by kernel_rfl) (hdep 8 28 (by kernel_rfl) (by kernel_rfl)), ?_⟩
            clear hold hdep hs
            go_simp
            exact hK _ _ rfl (Below.refl _ _)
          · intro a wq hs hb hold hdep K hK
            have f28 : a.tmps.getD 28 undef = .bool false := hdep 8 28 (by kernel_rfl) (by kernel_rfl)
            have f37 : a.tmps.getD 37 undef = .bool (!yy) := hdep 17 37 (by kernel_rfl) (by kernel_rfl)
            refine Or.inl ⟨rfl, ?_⟩
            clear hold hdep hs
            go_simp
            exact hK _ _ rfl (Below.refl _ _)
        · intro a wq hs hd hb hold hall
          have hc0 := (hb.cell (p := x.add (k * 2)) (lt_of_cell d0)).trans d0
          have hc1 := below_cell hb (lt_of_cell d1) d1
          have HBQ := Lib.hid (HB.out.trans (hb.mono HB.out.size))
          clear d0 d1 hb
          have f0 : a.tmps.getD 0 undef = Value.string s := hold 0 (by kernel_rfl)
          have f1 : a.tmps.getD 1 undef = Value.slice (some x) len cp := hold 1 (by kernel_rfl)
          have f2 : a.tmps.getD 2 undef = undef := hold 2 (by kernel_rfl)
          have f3 : a.tmps.getD 3 undef = undef := hold 3 (by kernel_rfl)
          have f4 : a.tmps.getD 4 undef = u4 := hold 4 (by kernel_rfl)
          have f5 : a.tmps.getD 5 undef = u5 := hold 5 (by kernel_rfl)
          have f6 : a.tmps.getD 6 undef = Value.int IntKind.i64 ↑k := hold 6 (by kernel_rfl)
          have f7 : a.tmps.getD 7 undef = Value.int IntKind.i64 ↑F.size := hold 7 (by kernel_rfl)
          have f8 : a.tmps.getD 8 undef = Value.int IntKind.i64 ↑k := hold 8 (by kernel_rfl)
          have f9 : a.tmps.getD 9 undef = Value.slice (some x) len cp := hold 9 (by kernel_rfl)
          have f10 : a.tmps.getD 10 undef = Value.int IntKind.i64 ↑len := hold 10 (by kernel_rfl)
          have f11 : a.tmps.getD 11 undef = Value.bool true := hold 11 (by kernel_rfl)
          have f12 : a.tmps.getD 12 undef = u12 := hold 12 (by kernel_rfl)
          have f13 : a.tmps.getD 13 undef = u13 := hold 13 (by kernel_rfl)
          have f14 : a.tmps.getD 14 undef = Value.slice (some x) len cp := hold 14 (by kernel_rfl)
          have f15 : a.tmps.getD 15 undef = Value.int IntKind.i64 ↑k := hold 15 (by kernel_rfl)
          have f16 : a.tmps.getD 16 undef = Value.pointer (some (x.add (k * 2))) := hold 16 (by kernel_rfl)
          have f17 : a.tmps.getD 17 undef = Value.pointer (some (x.add (k * 2))) := hold 17 (by kernel_rfl)
          have f18 : a.tmps.getD 18 undef = Value.string F := hold 18 (by kernel_rfl)
          have f19 : a.tmps.getD 19 undef = Value.int IntKind.i64 ↑F.size := hold 19 (by kernel_rfl)
          have f38 : a.tmps.getD 38 undef = .bool (!yy) := hall 18 38 (by kernel_rfl)
          have f39 : a.tmps.getD 39 undef = u39 := hold 39 (by kernel_rfl)
          have f40 : a.tmps.getD 40 undef = u40 := hold 40 (by kernel_rfl)
          have f41 : a.tmps.getD 41 undef = u41 := hold 41 (by kernel_rfl)
          have f42 : a.tmps.getD 42 undef = u42 := hold 42 (by kernel_rfl)
          have f43 : a.tmps.getD 43 undef = u43 := hold 43 (by kernel_rfl)
          have f44 : a.tmps.getD 44 undef = u44 := hold 44 (by kernel_rfl)
          have f45 : a.tmps.getD 45 undef = u45 := hold 45 (by kernel_rfl)
          have f46 : a.tmps.getD 46 undef = u46 := hold 46 (by kernel_rfl)
          have f47 : a.tmps.getD 47 undef = u47 := hold 47 (by kernel_rfl)
          have f48 : a.tmps.getD 48 undef = u48 := hold 48 (by kernel_rfl)
          have f49 : a.tmps.getD 49 undef = u49 := hold 49 (by kernel_rfl)
          have f50 : a.tmps.getD 50 undef = u50 := hold 50 (by kernel_rfl)
          have f51 : a.tmps.getD 51 undef = u51 := hold 51 (by kernel_rfl)
          have f52 : a.tmps.getD 52 undef = u52 := hold 52 (by kernel_rfl)
          have f53 : a.tmps.getD 53 undef = u53 := hold 53 (by kernel_rfl)
          have f54 : a.tmps.getD 54 undef = u54 := hold 54 (by kernel_rfl)
          have f55 : a.tmps.getD 55 undef = u55 := hold 55 (by kernel_rfl)
          have f56 : a.tmps.getD 56 undef = u56 := hold 56 (by kernel_rfl)
          have f57 : a.tmps.getD 57 undef = u57 := hold 57 (by kernel_rfl)
          have f58 : a.tmps.getD 58 undef = u58 := hold 58 (by kernel_rfl)
          have f59 : a.tmps.getD 59 undef = u59 := hold 59 (by kernel_rfl)
          have f60 : a.tmps.getD 60 undef = u60 := hold 60 (by kernel_rfl)
          have f61 : a.tmps.getD 61 undef = u61 := hold 61 (by kernel_rfl)
          have f62 : a.tmps.getD 62 undef = u62 := hold 62 (by kernel_rfl)
          have f63 : a.tmps.getD 63 undef = u63 := hold 63 (by kernel_rfl)
          have f64 : a.tmps.getD 64 undef = u64 := hold 64 (by kernel_rfl)
          have f65 : a.tmps.getD 65 undef = undef := hold 65 (by kernel_rfl)
          have eA := act_eq a 66 hs hd
          simp only [List.range, List.range.loop, List.map] at eA
          rw [f0, f1, f2, f3, f4, f5, f6, f7, f8, f9, f10, f11, f12, f13, f14, f15, f16, f17, f18, f19, f38, f39, f40, f41, f42, f43, f44, f45, f46, f47, f48, f49, f50, f51, f52, f53, f54, f55, f56, f57, f58, f59, f60, f61, f62, f63, f64, f65] at eA
          clear hs hd hold hall f0 f1 f2 f3 f4 f5 f6 f7 f8 f9 f10 f11 f12 f13 f14 f15 f16 f17 f18 f19 f38 f39 f40 f41 f42 f43 f44 f45 f46 f47 f48 f49 f50 f51 f52 f53 f54 f55 f56 f57 f58 f59 f60 f61 f62 f63 f64 f65
          generalize a.tmps.getD 20 undef = v20 at eA
          generalize a.tmps.getD 21 undef = v21 at eA
          generalize a.tmps.getD 22 undef = v22 at eA
          generalize a.tmps.getD 23 undef = v23 at eA
          generalize a.tmps.getD 24 undef = v24 at eA
          generalize a.tmps.getD 25 undef = v25 at eA
          generalize a.tmps.getD 26 undef = v26 at eA
          generalize a.tmps.getD 27 undef = v27 at eA
          generalize a.tmps.getD 28 undef = v28 at eA
          generalize a.tmps.getD 29 undef = v29 at eA
          generalize a.tmps.getD 30 undef = v30 at eA
          generalize a.tmps.getD 31 undef = v31 at eA
          generalize a.tmps.getD 32 undef = v32 at eA
          generalize a.tmps.getD 33 undef = v33 at eA
          generalize a.tmps.getD 34 undef = v34 at eA
          generalize a.tmps.getD 35 undef = v35 at eA
          generalize a.tmps.getD 36 undef = v36 at eA
          generalize a.tmps.getD 37 undef = v37 at eA
          subst eA
          have key := KEY.out
          have hv := HVV.out
          clear KEY HVV hyy hX
          cases yy
          · have h3 : (Ur.behL F.data.toList s.data.toList).2 = false := by
              rcases key with ⟨a, b⟩ | ⟨a, b, c⟩ | ⟨a, b, c, d⟩ | ⟨a, b, c, d, e⟩ | ⟨a, c, d, e, f⟩ <;> first | assumption | omega | (cases c)
            rw [Ur.swap_no h3] at hv
            have HV := Lib.hid hv
            clear hv h3 key
            go_wp2_with fail
            exact ⟨⟨k + 1, by omega, by go_num, HV.out, HBQ.out⟩, by simp [intOf]; omega⟩
          · have key2 : (F.size = s.size ∧ (Ur.behL F.data.toList s.data.toList).2 = true ∧ (Ur.behL F.data.toList s.data.toList).1 = (s.extract F.size s.size).data.toList) ∨ ((Ur.behL F.data.toList s.data.toList).1 = (s.extract F.size s.size).data.toList ∧ ∃ h : F.size < s.size, ∃ h2 : F.size - 1 < s.size, (Ur.behL F.data.toList s.data.toList).2 = (decide (s[F.size - 1] = 47) || [47, 63, 35].contains s[F.size])) := by
              rcases key with ⟨a, b⟩ | ⟨a, b, c⟩ | ⟨a, b, c, d⟩ | ⟨a, b, c, d, e⟩ | ⟨a, c, d, e, f, g⟩
              · omega
              · omega
              · cases c
              · exact .inl ⟨b, d, e⟩
              · exact .inr ⟨d, e, f, g⟩
            clear key
            have g6 : (1 : Int) ≤ F.size := by omega
            have g7 : (0 : Int) ≤ (F.size : Int) - 1 := by omega
            have g8 : (F.size : Int) - 1 < s.size := by omega
            obtain ⟨R, hR⟩ : ∃ R, s.extract F.size s.size = R := ⟨_, rfl⟩
            rw [hR] at key2
            have zR : R.size ≤ 1000 := by rw [← hR]; simp [ByteArray.size_extract]; omega
            rcases key2 with ⟨k1, k2, k3⟩ | ⟨k3, k1, k4, k2⟩
            · rw [Ur.swap_yes k2, k3] at hv
              have HV := Lib.hid hv
              have g4 : ((F.size : Int) == (s.size : Int)) = true := by rw [beq_iff_eq]; omega
              clear hv k2 k3 k1
              go_wp2_with fail
              first
                | go_region
                | fail
              all_goals
                go_wp2_with fail
                go_ret2
                refine ⟨?_, ?_⟩
                · rw [← HV.out]
                  show _ = Ending.returned (.tuple #[.string ⟨(T.data.toList ++ R.data.toList).toArray⟩, .bool true])
                  rw [mkB (list_append T R)]
                  rfl
                · have h := HBQ.out
                  exact (by repeat (first | with_reducible exact Below.refl _ _ | with_reducible assumption | with_reducible refine below_allocT ?_ _ | with_reducible refine Below.drew ?_ | with_reducible refine below_drewT ?_ _ | (with_reducible refine Below.setCell ?_ ?_ _; rotate_left; · first | exact Nat.le_refl _ | omega | (simp <;> omega)) | (with_reducible refine Below.alloc ?_ ?_ _; rotate_left; · first | omega | (simp <;> omega))))
            · have g4 : ((F.size : Int) == (s.size : Int)) = false := by rw [beq_eq_false_iff_ne]; omega
              have g5 : (F.size : Int) < s.size := by omega
              have HI := Lib.hid (fun w1 => In_any ⟨#[47, 63, 35]⟩ (s[F.size].toNat : Int) w1 (by decide))
              rw [Pq.inS_has, show (⟨#[47, 63, 35]⟩ : ByteArray).data.toList = [47, 63, 35] from rfl] at HI
              generalize ([47, 63, 35] : List UInt8).contains s[F.size] = cc at *
              by_cases k5 : s[F.size - 1] = 47
              · have e1 : (s[F.size - 1].toNat : Int) = 47 := by rw [k5]; rfl
                rw [decide_eq_true k5, Bool.true_or] at k2
                rw [Ur.swap_yes k2, k3] at hv
                have HV := Lib.hid hv
                clear hv k2 k3 k5
                go_wp2_with fail
                first
                  | go_region
                  | fail
                all_goals
                  go_wp2_with fail
                  go_ret2
                  refine ⟨?_, ?_⟩
                  · rw [← HV.out]
                    show _ = Ending.returned (.tuple #[.string ⟨(T.data.toList ++ R.data.toList).toArray⟩, .bool true])
                    rw [mkB (list_append T R)]
                    rfl
                  · have h := HBQ.out
                    exact (by repeat (first | with_reducible exact Below.refl _ _ | with_reducible assumption | with_reducible refine below_allocT ?_ _ | with_reducible refine Below.drew ?_ | with_reducible refine below_drewT ?_ _ | (with_reducible refine Below.setCell ?_ ?_ _; rotate_left; · first | exact Nat.le_refl _ | omega | (simp <;> omega)) | (with_reducible refine Below.alloc ?_ ?_ _; rotate_left; · first | omega | (simp <;> omega))))
              · have e1 : ¬ (s[F.size - 1].toNat : Int) = 47 := by
                  intro k6
                  exact k5 (UInt8.toNat_inj.1 (by show s[F.size - 1].toNat = 47; omega))
                rw [decide_eq_false k5, Bool.false_or] at k2
                cases cc
                · rw [Ur.swap_no k2] at hv
                  have HV := Lib.hid hv
                  clear hv k2 k3 k5
                  go_wp2_with (go_at_call 27; refine (HI.out _).mono ?_; rintro e w1 ⟨rfl, hw1⟩; rw [← hw1]; clear hw1)
                  exact ⟨⟨k + 1, by omega, by go_num, HV.out, HBQ.out⟩, by simp [intOf]; omega⟩
                · rw [Ur.swap_yes k2, k3] at hv
                  have HV := Lib.hid hv
                  clear hv k2 k3 k5
                  go_wp2_with (go_at_call 27; refine (HI.out _).mono ?_; rintro e w1 ⟨rfl, hw1⟩; rw [← hw1]; clear hw1)
                  first
                    | go_region
                    | fail
                  all_goals
                    go_wp2_with fail
                    go_ret2
                    refine ⟨?_, ?_⟩
                    · rw [← HV.out]
                      show _ = Ending.returned (.tuple #[.string ⟨(T.data.toList ++ R.data.toList).toArray⟩, .bool true])
                      rw [mkB (list_append T R)]
                      rfl
                    · have h := HBQ.out
                      exact (by repeat (first | with_reducible exact Below.refl _ _ | with_reducible assumption | with_reducible refine below_allocT ?_ _ | with_reducible refine Below.drew ?_ | with_reducible refine below_drewT ?_ _ | (with_reducible refine Below.setCell ?_ ?_ _; rotate_left; · first | exact Nat.le_refl _ | omega | (simp <;> omega)) | (with_reducible refine Below.alloc ?_ ?_ _; rotate_left; · first | omega | (simp <;> omega))))
    · obtain rfl : k = len := by omega
      rw [List.drop_of_length_le (by rw [HZ.out.1]; exact Nat.le_refl _)] at hv
      have HV := Lib.hid hv
      clear hv
      go_wp2_with fail
      go_ret2
      refine ⟨?_, HB.out⟩
      rw [← HV.out]
      rfl
end Go.Proofs.Ytnnhlkbjdfgcaaa
