/- For every three texts the law OctetFolds returns true and leaves its arguments as they were. No condition. -/
import Derived.Test.YtddobbgpfdoamaaOctE
import Derived.ProofKit
import Derived.OpenShut
import Derived.ShutString
namespace Go.Proofs.Ytddobbgpfdoamaa
open Go.ChangeShapes Go.WideShapes Go.ChangeAt Go.RowKit
open Go.ChangeMaps (open_string shut_string)

theorem own : ownKnob Try.prog.godebug = none := by kernel_rfl
theorem below_then {w a b : World} (h : Below w.heap.size w a) (k : Below a.heap.size a b) : Below w.heap.size w b := h.trans (k.mono h.size)
theorem below_drewN (B : Nat) (w : World) (n : Nat) : Below B w (w.drewN n) := ⟨rfl, rfl, rfl, Nat.le_refl _, fun _ _ => rfl⟩
theorem RFold_below (s : ByteArray) (w : World) (hs : s.size ≤ 100000) :
    Calls Try.prog 28 #[.string s] w fun e w' => e = .returned (.string (B.foldS s)) ∧ Below w.heap.size w w' :=
  (RFold_any s w hs).mono fun _ _ ⟨he, n, hw⟩ => ⟨he, by rw [hw]; exact below_drewN _ _ _⟩
theorem foldS_foldS (s : ByteArray) : B.foldS (B.foldS s) = B.foldS s := by
  unfold B.foldS; simp [B.fold_fold]
theorem foldS_size (s : ByteArray) : (B.foldS s).size = s.size := by
  show (B.foldS s).data.size = s.data.size
  simp [B.foldS, B.fold]
theorem same_iff (a b : ByteArray) : sameS a b = true ↔ B.fold a.data.toList = B.fold b.data.toList := by unfold sameS; simp
theorem same_comm (a b : ByteArray) : sameS b a = sameS a b := by
  rw [Bool.eq_iff_iff, same_iff, same_iff]; exact eq_comm
theorem same_fold (a : ByteArray) : sameS a (B.foldS a) = true := by
  rw [same_iff]; simp [B.foldS, B.fold_fold]
theorem same_trans (a b c : ByteArray) (h1 : sameS a b = true) (h2 : sameS b c = true) : sameS a c = true := by
  rw [same_iff] at *; exact h1.trans h2

set_option maxHeartbeats 1000000 in
theorem folds_core (a b c : ByteArray) (x y z : Bool) (ha : a.size ≤ 300) (hb : b.size ≤ 300) (hc : c.size ≤ 300) (hx : sameS a b = x) (hy : sameS b c = y) (hz : sameS a c = z) (ht : x = true → y = true → z = true)
    (a0 b0 c0 : ByteArray) (wa : a0.size ≤ maxLen) (wb : b0.size ≤ maxLen) (wc : c0.size ≤ maxLen) (ea : fewS a0 = a) (eb : fewS b0 = b) (ec : fewS c0 = c) (w : World) :
    Calls Try.prog 4 #[.string a0, .string b0, .string c0] w fun e w' => e = .returned (.bool true) ∧ Below w.heap.size w w' := by
  have EA := Lib.hid ea
  have EB := Lib.hid eb
  have EC := Lib.hid ec
  have HX := Lib.hid hx
  have HY := Lib.hid hy
  have HZ := Lib.hid hz
  have HF := Lib.hid (foldS_size a)
  have HFF := Lib.hid (foldS_foldS a)
  have HE := Lib.hid ((sameS_eq a b).trans hx)
  have HSF := Lib.hid (same_fold a)
  have HC := Lib.hid ((same_comm a b).trans hx)
  have WA := Lib.hid wa
  have WB := Lib.hid wb
  have WC := Lib.hid wc
  clear ea eb ec hx hy hz wa wb wc
  have hfa : (B.foldS a).size ≤ 300 := by rw [HF.out]; exact ha
  have hsz : (((B.foldS a).size : Int) == (a.size : Int)) = true := by rw [HF.out]; simp
  cases x <;> cases y <;> cases z <;> first | (exfalso; simp at ht; done) | skip
  all_goals clear ht
  all_goals
    go_enter Try.func4, Try.ntmps4
    go_wp2_with fail
    refine (awake_any _).mono ?_
    rintro e w1 ⟨rfl, hb1⟩
    go_wp2_with fail
    refine (few_any _ _ WA.out).mono ?_
    rintro e w' ⟨rfl, rfl⟩
    rw [EA.out]
    go_wp2_with fail
    refine (few_any _ _ WB.out).mono ?_
    rintro e w' ⟨rfl, rfl⟩
    rw [EB.out]
    go_wp2_with fail
    refine (few_any _ _ WC.out).mono ?_
    rintro e w' ⟨rfl, rfl⟩
    rw [EC.out]
    go_wp2_with fail
    refine (Same_any _ _ _ (by omega) (by omega)).mono ?_
    rintro e w2 ⟨rfl, hb2⟩
    rw [HX.out]
    go_wp2_with fail
    refine (Same_any _ _ _ (by omega) (by omega)).mono ?_
    rintro e w3 ⟨rfl, hb3⟩
    rw [HY.out]
    go_wp2_with fail
    refine (Same_any _ _ _ (by omega) (by omega)).mono ?_
    rintro e w4 ⟨rfl, hb4⟩
    rw [HZ.out]
    go_wp2_with fail
    refine (Fold_any _ _ (by omega)).mono ?_
    rintro e w5 ⟨rfl, hb5⟩
    go_wp2_with fail
    refine (RFold_below _ _ (by omega)).mono ?_
    rintro e w6 ⟨rfl, hb6⟩
    go_wp2_with fail
    refine (Fold_any _ _ (by omega)).mono ?_
    rintro e w7 ⟨rfl, hb7⟩
    rw [HFF.out]
    go_wp2_with fail
    refine (RFold_below _ _ (by omega)).mono ?_
    rintro e w8 ⟨rfl, hb8⟩
    have HEo := HE.out
    go_wp2_with fail
    refine (Same_any _ _ _ (by omega) (by omega)).mono ?_
    rintro e w9 ⟨rfl, hb9⟩
    rw [HSF.out]
    go_wp2_with fail
    refine (Same_any _ _ _ (by omega) (by omega)).mono ?_
    rintro e w10 ⟨rfl, hb10⟩
    rw [HC.out]
    go_wp2_with fail
    go_ret
    exact ⟨rfl, below_then (below_then (below_then (below_then (below_then (below_then (below_then (below_then (below_then hb1 hb2) hb3) hb4) hb5) hb6) hb7) hb8) hb9) hb10⟩

theorem folds_walk (a b c : ByteArray) (wa : a.size ≤ maxLen) (wb : b.size ≤ maxLen) (wc : c.size ≤ maxLen) (w : World) :
    Calls Try.prog 4 #[.string a, .string b, .string c] w fun e w' => e = .returned (.bool true) ∧ Below w.heap.size w w' :=
  folds_core (fewS a) (fewS b) (fewS c) _ _ _ (fewS_size a) (fewS_size b) (fewS_size c) rfl rfl rfl (fun h1 h2 => same_trans _ _ _ h1 h2) a b c wa wb wc rfl rfl rfl w

set_option maxRecDepth 100000 in
theorem folds_lifted (os : Os) (started : os.Started) (H : Type) (enc : TypeId × Value → H) :
    ReturnsInHanded {} Try.checked os 4 .any (Rows.octetFoldsSpec.pre6 enc Try.prog Try.f4 Rows.octetFoldsRow.domain false) (Rows.octetFoldsSpec.post enc Try.prog Try.f4 false true false false) := by
  refine returnsInHanded_of_change (C := Try.checked) own started (by kernel_rfl) Try.func4
    (ChangeSpec.witness6 (enc := enc) (C := Try.checked) false ⟨#[], #[.string ByteArray.empty, .string ByteArray.empty, .string ByteArray.empty], []⟩ 8 (by kernel_rfl) (by kernel_rfl) (by kernel_rfl) (by kernel_rfl)) ?_
  intro W base args ds gs before hval0 hW hcnd _
  have hval : ∀ (j : Nat) t v, Try.f4.params[j]? = some t → args[j]? = some v → Value.okWide Try.prog W .any base t v := hval0
  have hW' := hW
  obtain ⟨p, q, hA0, hV, rfl, hfz, hnd⟩ := hW
  have hA : DataW.TrodAll enc Try.prog W 0 (fun _ => true) true Try.f4.params.toList args.toList ds p := hA0
  rw [Try.params4] at hA hval
  obtain ⟨v0, vs0, d0, ds0, p0, q0, hargs, rfl, rfl, h0, r0⟩ := trodAll_cons hA
  obtain ⟨v1, vs1, d1, ds1, p1, q1, rfl, rfl, rfl, h1, r1⟩ := trodAll_cons r0
  obtain ⟨v2, vs2, d2, ds2, p2, q2, rfl, rfl, rfl, h2, r2⟩ := trodAll_cons r1
  obtain ⟨rfl, rfl, rfl⟩ := trodAll_nil r2
  obtain rfl : args = #[v0, v1, v2] := by cases args; simp_all
  obtain ⟨rfl, rfl⟩ := trodVars_none hV
  obtain ⟨a0, rfl, rfl, rfl, w0⟩ := open_string Try.underlying9 (hval 0 9 v0 rfl rfl) h0
  obtain ⟨a1, rfl, rfl, rfl, w1⟩ := open_string Try.underlying9 (hval 1 9 v1 rfl rfl) h1
  obtain ⟨a2, rfl, rfl, rfl, w2⟩ := open_string Try.underlying9 (hval 2 9 v2 rfl rfl) h2
  clear hA0 hval0
  refine (folds_walk a0 a1 a2 w0 w1 w2 W).mono fun e W' ⟨he, bel⟩ => ?_
  subst he
  exact ⟨_, rfl, _, _, _, [], _, [], hW', trodAll_mk1 (shut_bool Try.underlying4 _), (trodAll_cons_mk (shut_string Try.underlying9 w0) (trodAll_cons_mk (shut_string Try.underlying9 w1) (trodAll_cons_mk (shut_string Try.underlying9 w2) trodAll_mk0))), rfl, bel.frame _, fun h => by cases h⟩

/-- The statement: OctetFolds returns true at every input. -/
theorem folds_proved : Rows.OctetFoldsSaid :=
  OpenClaim.holds_of_wide 4 Try.f4 rfl rfl rfl rfl rfl rfl rfl ⟨rfl, rfl, rfl, rfl, rfl⟩ rfl rfl rfl rfl rfl (by kernel_rfl) Try.func4 (by kernel_rfl)
    (of_decide_eq_true (by kernel_rfl)) (by unfold Func.isWrapper; first | (rw [if_pos (by decide +kernel)]; kernel_rfl) | (rw [if_neg (by decide +kernel)]; exact ⟨rfl, rfl⟩))
    (fun os started H enc _ => folds_lifted os started H enc)
#print axioms folds_proved
end Go.Proofs.Ytddobbgpfdoamaa
