/- For every byte the law OctetClasses returns true and leaves its argument as it was. No condition. -/
import Derived.Test.YtddobbgpfdoamaaOctE
import Derived.ProofKit
import Derived.OpenShut
import Derived.ShutString
import Derived.Test.YtddobbgpfdoamaaRegion
namespace Go.Proofs.Ytddobbgpfdoamaa
namespace classes
open Go.ChangeShapes Go.WideShapes Go.ChangeAt Go.RowKit

theorem own : ownKnob Try.prog.godebug = none := by kernel_rfl
theorem below_then {w a b : World} (h : Below w.heap.size w a) (k : Below a.heap.size a b) : Below w.heap.size w b := h.trans (k.mono h.size)
theorem below_drewN (B : Nat) (w : World) (n : Nat) : Below B w (w.drewN n) := ⟨rfl, rfl, rfl, Nat.le_refl _, fun _ _ => rfl⟩
/-- One byte as a text. -/
theorem one_text (b v : Nat) (n : Int) (W : World) (hc : W.cell? ⟨b, v, none⟩ = some (.int .u8 n)) :
    (convert 25 9 (.slice (some ⟨b, v, none⟩) 1 1)).run Try.prog W = .ok (.string ⟨#[UInt8.ofNat n.toNat]⟩) W := by
  have h := run_convert_bytes_arg (P := Try.prog) W 25 5 Try.underlying25 Try.underlying5 b v 1 1 [n] rfl (fun i hi => by
    obtain rfl : i = 0 := by omega
    simpa using hc) 9 Try.underlying9
  simpa [strOfNums] using h
theorem fold_one (n : Int) (h0 : 0 ≤ n) (h1 : n ≤ 255) : B.foldS ⟨#[UInt8.ofNat n.toNat]⟩ = ⟨#[UInt8.ofNat (B.low n).toNat]⟩ := by
  obtain ⟨k, rfl⟩ := Int.eq_ofNat_of_zero_le h0
  have h : ∀ i : Fin 256, B.fold [UInt8.ofNat i.val] = [UInt8.ofNat (B.low (i.val : Int)).toNat] := by decide +kernel
  unfold B.foldS
  rw [show B.fold (⟨#[UInt8.ofNat ((k : Int)).toNat]⟩ : ByteArray).data.toList = B.fold [UInt8.ofNat k] from rfl, h ⟨k, by omega⟩]

set_option maxRecDepth 100000 in
set_option maxHeartbeats 2000000 in
theorem classes_core (n : Int) (h0 : 0 ≤ n) (h1 : n ≤ 255) (w : World) :
    Calls Try.prog 3 #[.int .u8 n] w fun e w' => e = .returned (.bool true) ∧ Below w.heap.size w w' := by
  have HF := Lib.hid (fold_one n h0 h1)
  go_enter Try.func3, Try.ntmps3
  go_wp2_with fail
  refine (awake_any _).mono ?_
  rintro e w1 ⟨rfl, hb1⟩
  go_wp2_with (first
    | (go_at_call 7; refine (IsDigit_any _ _).mono ?_; rintro e w' ⟨rfl, rfl⟩)
    | (go_at_call 8; refine (RDigit_any _ _ h0 h1).mono ?_; rintro e w' ⟨rfl, rfl⟩)
    | (go_at_call 9; refine (IsHex_any _ _ h0 h1).mono ?_; rintro e w' ⟨rfl, rfl⟩)
    | (go_at_call 10; refine (RHex_any _ _ h0 h1).mono ?_; rintro e w' ⟨rfl, rfl⟩)
    | (go_at_call 11; refine (IsAlpha_any _ _).mono ?_; rintro e w' ⟨rfl, rfl⟩)
    | (go_at_call 12; refine (RAlpha_any _ _ h0 h1).mono ?_; rintro e w' ⟨rfl, rfl⟩)
    | (go_at_call 13; refine (IsBlank_any _ _).mono ?_; rintro e w' ⟨rfl, rfl⟩)
    | (go_at_call 14; refine (RBlank_any _ _).mono ?_; rintro e w' ⟨rfl, rfl⟩)
    | (go_at_call 15; refine (IsVisible_any _ _).mono ?_; rintro e w' ⟨rfl, rfl⟩)
    | (go_at_call 16; refine (RVisible_any _ _).mono ?_; rintro e w' ⟨rfl, rfl⟩)
    | (go_at_call 17; refine (IsToken_any _ _).mono ?_; rintro e w' ⟨rfl, rfl⟩)
    | (go_at_call 18; refine (RTok_any _ _ h0 h1).mono ?_; rintro e w' ⟨rfl, rfl⟩)
    | (go_at_call 19; refine (IsValue_any _ _).mono ?_; rintro e w' ⟨rfl, rfl⟩)
    | (go_at_call 20; refine (RValue_any _ _ h0 h1).mono ?_; rintro e w' ⟨rfl, rfl⟩)
    | (go_at_call 21; refine (IsUnreserved_any _ _).mono ?_; rintro e w' ⟨rfl, rfl⟩)
    | (go_at_call 22; refine (RUnreserved_any _ _ h0 h1).mono ?_; rintro e w' ⟨rfl, rfl⟩)
    | (go_at_call 23; refine (IsSub_any _ _).mono ?_; rintro e w' ⟨rfl, rfl⟩)
    | (go_at_call 24; refine (RSub_any _ _ h0 h1).mono ?_; rintro e w' ⟨rfl, rfl⟩))
  refine wp_region_specs (by kernel_rfl) [.is (.bool true), .is (.bool true), .is (.bool true), .is (.bool true), .is (.bool true), .is (.bool true), .is (.bool true), .is (.bool true), .is (.int .u8 n), .is (.bool (B.pat n)), .is (.int .u8 n), .is (.bool (B.pat n)), .is (.bool true), .is (.bool true), .is (.bool true), .is (.int .u8 n), .is (.int .u8 (B.low n)), .one w1.heap.size (.int .u8 (B.low n)), .is (.string ⟨#[UInt8.ofNat (B.low n).toNat]⟩), .is (.int .u8 n), .one w1.heap.size (.int .u8 n), .is (.string ⟨#[UInt8.ofNat n.toNat]⟩), .is (.string ⟨#[UInt8.ofNat (B.low n).toNat]⟩), .is (.bool true), .is (.bool true), .is (.bool true)] (by kernel_rfl) ?_ ?_
  · refine ⟨?_, ?_, ?_, ?_, ?_, ?_, ?_, ?_, ?_, ?_, ?_, ?_, ?_, ?_, ?_, ?_, ?_, ?_, ?_, ?_, ?_, ?_, ?_, ?_, ?_, ?_, trivial⟩
    · intro a w hs hb hold hdep K hK
      have f3 : a.tmps.getD 3 undef = .bool true := hold 3 (by kernel_rfl)
      refine Or.inl ⟨rfl, ?_⟩
      clear hold hdep hs
      go_simp
      exact hK _ _ rfl (Below.refl _ _)
    · intro a w hs hb hold hdep K hK
      have f65 : a.tmps.getD 65 undef = .bool true := hdep 0 65 (by kernel_rfl) (by kernel_rfl)
      refine Or.inl ⟨rfl, ?_⟩
      clear hold hdep hs
      go_simp
      exact hK _ _ rfl (Below.refl _ _)
    · intro a w hs hb hold hdep K hK
      have f4 : a.tmps.getD 4 undef = .bool true := hold 4 (by kernel_rfl)
      refine Or.inl ⟨want_of (d := 66) rfl (by kernel_rfl) (hdep 1 66 (by kernel_rfl) (by kernel_rfl)), ?_⟩
      clear hold hdep hs
      go_simp
      exact hK _ _ rfl (Below.refl _ _)
    · intro a w hs hb hold hdep K hK
      have f66 : a.tmps.getD 66 undef = .bool true := hdep 1 66 (by kernel_rfl) (by kernel_rfl)
      have f67 : a.tmps.getD 67 undef = .bool true := hdep 2 67 (by kernel_rfl) (by kernel_rfl)
      refine Or.inl ⟨rfl, ?_⟩
      clear hold hdep hs
      go_simp
      exact hK _ _ rfl (Below.refl _ _)
    · intro a w hs hb hold hdep K hK
      have f68 : a.tmps.getD 68 undef = .bool true := hdep 3 68 (by kernel_rfl) (by kernel_rfl)
      refine Or.inl ⟨rfl, ?_⟩
      clear hold hdep hs
      go_simp
      exact hK _ _ rfl (Below.refl _ _)
    · intro a w hs hb hold hdep K hK
      have f5 : a.tmps.getD 5 undef = .bool true := hold 5 (by kernel_rfl)
      refine Or.inl ⟨want_of (d := 69) rfl (by kernel_rfl) (hdep 4 69 (by kernel_rfl) (by kernel_rfl)), ?_⟩
      clear hold hdep hs
      go_simp
      exact hK _ _ rfl (Below.refl _ _)
    · intro a w hs hb hold hdep K hK
      have f69 : a.tmps.getD 69 undef = .bool true := hdep 4 69 (by kernel_rfl) (by kernel_rfl)
      have f70 : a.tmps.getD 70 undef = .bool true := hdep 5 70 (by kernel_rfl) (by kernel_rfl)
      refine Or.inl ⟨rfl, ?_⟩
      clear hold hdep hs
      go_simp
      exact hK _ _ rfl (Below.refl _ _)
    · intro a w hs hb hold hdep K hK
      have f71 : a.tmps.getD 71 undef = .bool true := hdep 6 71 (by kernel_rfl) (by kernel_rfl)
      refine Or.inl ⟨rfl, ?_⟩
      clear hold hdep hs
      go_simp
      exact hK _ _ rfl (Below.refl _ _)
    · intro a w hs hb hold hdep K hK
      have f0 : a.tmps.getD 0 undef = .int .u8 n := hold 0 (by kernel_rfl)
      refine Or.inl ⟨want_of (d := 72) rfl (by kernel_rfl) (hdep 7 72 (by kernel_rfl) (by kernel_rfl)), ?_⟩
      clear hold hdep hs
      go_simp
      exact hK _ _ rfl (Below.refl _ _)
    · intro a w hs hb hold hdep K hK
      have f73 : a.tmps.getD 73 undef = .int .u8 n := hdep 8 73 (by kernel_rfl) (by kernel_rfl)
      refine Or.inl ⟨want_of (d := 72) rfl (by kernel_rfl) (hdep 7 72 (by kernel_rfl) (by kernel_rfl)), ?_⟩
      clear hold hdep hs
      go_simp
      refine (IsPath_any _ _).mono ?_
      rintro e w2 ⟨rfl, rfl⟩
      exact hK _ _ rfl (Below.refl _ _)
    · intro a w hs hb hold hdep K hK
      have f0 : a.tmps.getD 0 undef = .int .u8 n := hold 0 (by kernel_rfl)
      refine Or.inl ⟨want_of (d := 72) rfl (by kernel_rfl) (hdep 7 72 (by kernel_rfl) (by kernel_rfl)), ?_⟩
      clear hold hdep hs
      go_simp
      exact hK _ _ rfl (Below.refl _ _)
    · intro a w hs hb hold hdep K hK
      have f75 : a.tmps.getD 75 undef = .int .u8 n := hdep 10 75 (by kernel_rfl) (by kernel_rfl)
      refine Or.inl ⟨want_of (d := 72) rfl (by kernel_rfl) (hdep 7 72 (by kernel_rfl) (by kernel_rfl)), ?_⟩
      clear hold hdep hs
      go_simp
      refine (RPath_any _ _ h0 h1).mono ?_
      rintro e w2 ⟨rfl, rfl⟩
      exact hK _ _ rfl (Below.refl _ _)
    · intro a w hs hb hold hdep K hK
      have f74 : a.tmps.getD 74 undef = .bool (B.pat n) := hdep 9 74 (by kernel_rfl) (by kernel_rfl)
      have f76 : a.tmps.getD 76 undef = .bool (B.pat n) := hdep 11 76 (by kernel_rfl) (by kernel_rfl)
      refine Or.inl ⟨want_of (d := 72) rfl (by kernel_rfl) (hdep 7 72 (by kernel_rfl) (by kernel_rfl)), ?_⟩
      clear hold hdep hs
      go_simp
      exact hK _ _ rfl (Below.refl _ _)
    · intro a w hs hb hold hdep K hK
      have f72 : a.tmps.getD 72 undef = .bool true := hdep 7 72 (by kernel_rfl) (by kernel_rfl)
      have f77 : a.tmps.getD 77 undef = .bool true := hdep 12 77 (by kernel_rfl) (by kernel_rfl)
      refine Or.inl ⟨rfl, ?_⟩
      clear hold hdep hs
      go_simp
      exact hK _ _ rfl (Below.refl _ _)
    · intro a w hs hb hold hdep K hK
      have f78 : a.tmps.getD 78 undef = .bool true := hdep 13 78 (by kernel_rfl) (by kernel_rfl)
      refine Or.inl ⟨rfl, ?_⟩
      clear hold hdep hs
      go_simp
      exact hK _ _ rfl (Below.refl _ _)
    · intro a w hs hb hold hdep K hK
      have f0 : a.tmps.getD 0 undef = .int .u8 n := hold 0 (by kernel_rfl)
      refine Or.inl ⟨want_of (d := 79) rfl (by kernel_rfl) (hdep 14 79 (by kernel_rfl) (by kernel_rfl)), ?_⟩
      clear hold hdep hs
      go_simp
      exact hK _ _ rfl (Below.refl _ _)
    · intro a w hs hb hold hdep K hK
      have f80 : a.tmps.getD 80 undef = .int .u8 n := hdep 15 80 (by kernel_rfl) (by kernel_rfl)
      refine Or.inl ⟨want_of (d := 79) rfl (by kernel_rfl) (hdep 14 79 (by kernel_rfl) (by kernel_rfl)), ?_⟩
      clear hold hdep hs
      go_simp
      refine (Lower_any _ _ h0 h1).mono ?_
      rintro e w2 ⟨rfl, rfl⟩
      exact hK _ _ rfl (Below.refl _ _)
    · intro a w hs hb hold hdep K hK
      have f81 : a.tmps.getD 81 undef = .int .u8 (B.low n) := hdep 16 81 (by kernel_rfl) (by kernel_rfl)
      refine Or.inl ⟨want_of (d := 79) rfl (by kernel_rfl) (hdep 14 79 (by kernel_rfl) (by kernel_rfl)), ?_⟩
      clear hold hdep hs
      have hlt : w.heap.size < (w.alloc (.cells #[.int .u8 (B.low n)] 5)).heap.size := by simp
      have hc : (w.alloc (.cells #[.int .u8 (B.low n)] 5)).cell? ⟨w.heap.size, 0, none⟩ = some (.int .u8 (B.low n)) := by simp [go_sem]
      have HL := Lib.hid hlt
      have HC := Lib.hid hc
      clear hlt hc
      simp only [Array.getD_eq_getD_getElem?] at f81
      go_simp
      exact hK _ _ ⟨w.heap.size, rfl, hb.size, HL.out, HC.out⟩ ((Below.refl _ _).alloc (Nat.le_refl _) _)
    · intro a w hs hb hold hdep K hK
      have f82 := hdep 17 82 (by kernel_rfl) (by kernel_rfl)
      refine Or.inl ⟨want_of (d := 79) rfl (by kernel_rfl) (hdep 14 79 (by kernel_rfl) (by kernel_rfl)), ?_⟩
      clear hold hdep hs
      obtain ⟨b, e1, -, -, hc⟩ := f82
      have hcv := one_text b 0 _ w hc
      clear hc
      go_simp
      exact hK _ _ rfl (Below.refl _ _)
    · intro a w hs hb hold hdep K hK
      have f0 : a.tmps.getD 0 undef = .int .u8 n := hold 0 (by kernel_rfl)
      refine Or.inl ⟨want_of (d := 79) rfl (by kernel_rfl) (hdep 14 79 (by kernel_rfl) (by kernel_rfl)), ?_⟩
      clear hold hdep hs
      go_simp
      exact hK _ _ rfl (Below.refl _ _)
    · intro a w hs hb hold hdep K hK
      have f84 : a.tmps.getD 84 undef = .int .u8 n := hdep 19 84 (by kernel_rfl) (by kernel_rfl)
      refine Or.inl ⟨want_of (d := 79) rfl (by kernel_rfl) (hdep 14 79 (by kernel_rfl) (by kernel_rfl)), ?_⟩
      clear hold hdep hs
      have hlt : w.heap.size < (w.alloc (.cells #[.int .u8 n] 5)).heap.size := by simp
      have hc : (w.alloc (.cells #[.int .u8 n] 5)).cell? ⟨w.heap.size, 0, none⟩ = some (.int .u8 n) := by simp [go_sem]
      have HL := Lib.hid hlt
      have HC := Lib.hid hc
      clear hlt hc
      simp only [Array.getD_eq_getD_getElem?] at f84
      go_simp
      exact hK _ _ ⟨w.heap.size, rfl, hb.size, HL.out, HC.out⟩ ((Below.refl _ _).alloc (Nat.le_refl _) _)
    · intro a w hs hb hold hdep K hK
      have f85 := hdep 20 85 (by kernel_rfl) (by kernel_rfl)
      refine Or.inl ⟨want_of (d := 79) rfl (by kernel_rfl) (hdep 14 79 (by kernel_rfl) (by kernel_rfl)), ?_⟩
      clear hold hdep hs
      obtain ⟨b, e1, -, -, hc⟩ := f85
      have hcv := one_text b 0 _ w hc
      clear hc
      go_simp
      exact hK _ _ rfl (Below.refl _ _)
    · intro a w hs hb hold hdep K hK
      have f86 : a.tmps.getD 86 undef = .string ⟨#[UInt8.ofNat n.toNat]⟩ := hdep 21 86 (by kernel_rfl) (by kernel_rfl)
      refine Or.inl ⟨want_of (d := 79) rfl (by kernel_rfl) (hdep 14 79 (by kernel_rfl) (by kernel_rfl)), ?_⟩
      clear hold hdep hs
      go_simp
      refine (RFold_any _ _ (by show 1 ≤ 100000; omega)).mono ?_
      rintro e w2 ⟨rfl, m, rfl⟩
      rw [HF.out]
      exact hK _ _ rfl (below_drewN _ _ _)
    · intro a w hs hb hold hdep K hK
      have f83 : a.tmps.getD 83 undef = .string ⟨#[UInt8.ofNat (B.low n).toNat]⟩ := hdep 18 83 (by kernel_rfl) (by kernel_rfl)
      have f87 : a.tmps.getD 87 undef = .string ⟨#[UInt8.ofNat (B.low n).toNat]⟩ := hdep 22 87 (by kernel_rfl) (by kernel_rfl)
      refine Or.inl ⟨want_of (d := 79) rfl (by kernel_rfl) (hdep 14 79 (by kernel_rfl) (by kernel_rfl)), ?_⟩
      clear hold hdep hs
      go_simp
      exact hK _ _ rfl (Below.refl _ _)
    · intro a w hs hb hold hdep K hK
      have f79 : a.tmps.getD 79 undef = .bool true := hdep 14 79 (by kernel_rfl) (by kernel_rfl)
      have f88 : a.tmps.getD 88 undef = .bool true := hdep 23 88 (by kernel_rfl) (by kernel_rfl)
      refine Or.inl ⟨rfl, ?_⟩
      clear hold hdep hs
      go_simp
      exact hK _ _ rfl (Below.refl _ _)
    · intro a w hs hb hold hdep K hK
      have f89 : a.tmps.getD 89 undef = .bool true := hdep 24 89 (by kernel_rfl) (by kernel_rfl)
      refine Or.inl ⟨rfl, ?_⟩
      clear hold hdep hs
      go_simp
      exact hK _ _ rfl (Below.refl _ _)
  · intro a w hs hd hb hold hall
    have f2 : a.tmps.getD 2 undef = .bool true := hall 25 2 (by kernel_rfl)
    clear hold hall
    go_wp2
    refine bodyPost_ret (v := .bool true) ?_ ?_ ?_
    · rw [← f2]; exact results_tmp rfl _ _ _
    · exact hd
    · exact ⟨rfl, below_then hb1 hb⟩

set_option maxRecDepth 100000 in
theorem lifted (os : Os) (started : os.Started) (H : Type) (enc : TypeId × Value → H) :
    ReturnsInHanded {} Try.checked os 3 .any (Rows.octetClassesSpec.pre6 enc Try.prog Try.f3 Rows.octetClassesRow.domain false) (Rows.octetClassesSpec.post enc Try.prog Try.f3 false true false false) := by
  refine returnsInHanded_of_change (C := Try.checked) own started (by kernel_rfl) Try.func3
    (ChangeSpec.witness6 (enc := enc) (C := Try.checked) false ⟨#[], #[.int .u8 0], []⟩ 8 (by kernel_rfl) (by kernel_rfl) (by kernel_rfl) (by kernel_rfl)) ?_
  intro W base args ds gs before hval0 hW hcnd _
  have hval : ∀ (j : Nat) t v, Try.f3.params[j]? = some t → args[j]? = some v → Value.okWide Try.prog W .any base t v := hval0
  have hW' := hW
  obtain ⟨p, q, hA0, hV, rfl, hfz, hnd⟩ := hW
  have hA : DataW.TrodAll enc Try.prog W 0 (fun _ => true) true Try.f3.params.toList args.toList ds p := hA0
  rw [Try.params3] at hA hval
  obtain ⟨v0, vs0, d0, ds0, p0, q0, hargs, rfl, rfl, g0, r0⟩ := trodAll_cons hA
  obtain ⟨rfl, rfl, rfl⟩ := trodAll_nil r0
  obtain rfl : args = #[v0] := by cases args; simp_all
  obtain ⟨rfl, rfl⟩ := trodVars_none hV
  obtain ⟨n, rfl, rfl, rfl, w0⟩ := open_int Try.underlying5 (hval 0 5 v0 rfl rfl) g0
  clear hA0 hval0
  have hn := bounds_u8 w0
  refine (classes_core n hn.1 hn.2 W).mono fun e W' ⟨he, bel⟩ => ?_
  subst he
  exact ⟨_, rfl, _, _, _, [], _, [], hW', trodAll_mk1 (shut_bool Try.underlying4 _), (trodAll_cons_mk (shut_int Try.underlying5 w0) trodAll_mk0), rfl, bel.frame _, fun h => by cases h⟩
end classes

/-- The statement: OctetClasses returns true at every byte. -/
theorem classes_proved : Rows.OctetClassesSaid :=
  OpenClaim.holds_of_wide 3 Try.f3 rfl rfl rfl rfl rfl rfl rfl ⟨rfl, rfl, rfl, rfl, rfl⟩ rfl rfl rfl rfl rfl (by kernel_rfl) Try.func3 (by kernel_rfl)
    (of_decide_eq_true (by kernel_rfl)) (by unfold Func.isWrapper; first | (rw [if_pos (by decide +kernel)]; kernel_rfl) | (rw [if_neg (by decide +kernel)]; exact ⟨rfl, rfl⟩))
    (fun os started H enc _ => classes.lifted os started H enc)
#print axioms classes_proved
end Go.Proofs.Ytddobbgpfdoamaa
