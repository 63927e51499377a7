/- For every list of texts and every byte the law OctetAll returns true and leaves its arguments as they were. No condition. -/
import Derived.Test.YtddobbgpfdoamaaAllB
import Derived.ProofKit
import Derived.OpenShut
import Derived.ShutString
namespace Go.Proofs.Ytddobbgpfdoamaa
namespace all
open Go.ChangeShapes Go.WideShapes Go.ChangeAt Go.RowKit

theorem all_same (F : List UInt8) : (F == ((⟨F.toArray⟩ : ByteArray).extract 0 F.length).toList) = true := by
  have e : (⟨F.toArray⟩ : ByteArray).extract 0 F.length = ⟨F.toArray⟩ := B.extract_all ⟨F.toArray⟩
  rw [e, ByteArray.toList_mk]; simp

theorem all_cut (F : List UInt8) (m : Int) (h0 : 0 ≤ m) : (F.take (m.toNat + 1) == ((⟨F.toArray⟩ : ByteArray).extract 0 (m + 1).toNat).toList) = true := by
  have e : (m + 1).toNat = m.toNat + 1 := by omega
  rw [e, ByteArray.toList_eq, ByteArray.data_extract, Array.toList_extract, List.extract_eq_take_drop]
  simp
theorem all_cut2 (F : List UInt8) (m : Int) (h0 : 0 ≤ m) (h : (F.length : Int) = m + 1) : (F.take (m.toNat + 1) == ((⟨F.toArray⟩ : ByteArray).extract 0 F.length).toList) = true := by
  have e := all_cut F m h0
  rw [show (m + 1).toNat = F.length by omega] at e
  exact e
theorem below_drewN (B : Nat) (w : World) (n : Nat) : Below B w (w.drewN n) := ⟨rfl, rfl, rfl, Nat.le_refl _, fun _ _ => rfl⟩

set_option maxHeartbeats 1000000 in
theorem loop_any (a : Option Addr) (len cap : Nat) (ss : List ByteArray) (m : Int) (w : World) (h : IsStrs w a len cap ss) (h0 : 0 ≤ m) (h1 : m ≤ 255) :
    Calls Try.prog 5 #[.slice a len cap, .int .u8 m] w fun e w' => e = .returned (.bool true) ∧ Below w.heap.size w w' := by
  obtain ⟨i0, hi, hz0, hz1, hz2⟩ := info_parts info_str
  have HA := Lib.hid h
  have hls : len ≤ ss.length := by
    rcases h with ⟨rfl, rfl, rfl, rfl⟩ | ⟨x, rfl, hlc, hcm, hsl, _⟩
    · exact Nat.zero_le _
    · omega
  have hlen : len ≤ 9223372036854775807 := by
    rcases h with ⟨rfl, rfl, rfl, rfl⟩ | ⟨x, rfl, hlc, hcm, hsl, _⟩
    · omega
    · unfold maxLen at hcm; omega
  clear h
  go_enter Try.func5, Try.ntmps5
  go_wp2_with fail
  refine (awake_any _).mono ?_
  rintro e w1 ⟨rfl, hb1⟩
  go_wp2_with fail
  go_loopw [5, 6, 7, 8] (fun al mv i _ wr => ∃ k : Nat, k ≤ len ∧ k ≤ 10 ∧ i = .int .i64 k ∧ al = .string ⟨(flat (gath ss k)).toArray⟩ ∧ wr.ownsRow w.heap.size 9 1 mv k (strs (gath ss k)) ∧ Below w.heap.size w wr ∧ (k = 0 → mv = .slice none 0 0)) (fun _ _ i _ _ => len - (intOf i).toNat)
  case atStart => exact ⟨0, Nat.zero_le _, Nat.zero_le _, rfl, rfl, World.ownsRow_nil _ _ _ _, hb1, fun _ => rfl⟩
  case round =>
    obtain ⟨k, hk, hk10, rfl, rfl, hown, hb, hnil⟩ := hrel
    have HNIL := Lib.hid hnil
    clear hnil
    have hfl : (flat (gath ss k)).length ≤ 3000 := by
      have := flat_length (gath ss k) (gath_size ss k)
      rw [gath_length ss k (by omega)] at this
      omega
    by_cases hlt : k < len ∧ k < 10
    · obtain ⟨hl1, hl2⟩ := hlt
      obtain ⟨s, hs⟩ : ∃ s, s = ss.getD k ByteArray.empty := ⟨_, rfl⟩
      have HG : Hid (gath ss (k + 1) = gath ss k ++ [fewS s]) := by rw [hs]; exact gath_snoc ss k (by omega)
      have hfs := fewS_size s
      rcases HA.out with ⟨rfl, rfl, rfl, rfl⟩ | ⟨x, rfl, hlc, hcm, hsl, hcell, hsm⟩
      · exfalso; omega
      have hc : wr.cell? (x.add k) = some (.string s) := by
        have h2 := hcell k (by omega)
        rw [← hs] at h2
        exact (hb.cell (p := x.add k) (lt_of_cell h2)).trans h2
      have HM : Hid (s.size ≤ maxLen) := by rw [hs]; exact hsm _ (by simp [List.getD, show k < ss.length by omega])
      clear hcell hsm hs hsl hcm
      go_wp2_with (first | (go_at_call 29; refine (few_any _ _ HM.out).mono ?_; rintro e w' ⟨rfl, rfl⟩) | (at_builtin; go_must (refine wpList_append_own _ rfl _ _ 29 rfl w.heap.size 9 i0 (.string ByteArray.empty) 1 16 Try.underlying29 hi hz0 hz1 hz2 rfl (by decide) _ _ _ rfl (hown.alloc _) ⟨wr.heap.size, 0, none⟩ 1 1 [.string (fewS s)] rfl rfl ?c1 ?c2 ?c3 ?c4 ?c5 ?_)))
      case c1 =>
        intro j u hj
        match j, hj with
        | 0, hj => simp at hj; subst hj; simp [Addr.add]
      case c2 => intro u hu; simp at hu; subst hu; rfl
      case c3 => unfold maxLen; omega
      case c4 => omega
      case c5 => have := hb.size; simp; omega
      intro v' w2 hown' hgrow hvn
      have hkb : Below w.heap.size wr w2 := kept_append hb.size (ownBlock_ge hown) hgrow
      have HO : Hid (w2.ownsRow w.heap.size 9 1 v' (k + 1) (strs (gath ss (k + 1)))) := by
        show World.ownsRow _ _ _ _ _ _ _
        rw [HG.out]; simpa [strs] using hown'
      have hb2 : Below w.heap.size w w2 := hb.trans hkb
      have HCC := Lib.hid (concat_flat (gath ss k) (fewS s))
      clear hown hown' hgrow hvn hkb hc hb
      go_wp2_with fail
      refine (Token_any _ _ (by omega)).mono ?_
      rintro e w3 ⟨rfl, hb3⟩
      go_wp2_with fail
      refine (RToken_any _ _ (by unfold maxLen; omega)).mono ?_
      rintro e w' ⟨rfl, rfl⟩
      go_wp2
      go_roundw
      case rel => exact ⟨k + 1, by omega, by omega, by go_num, by rw [HG.out, ← HCC.out], owns_below HO.out hb3, hb2.trans (hb3.mono hb2.size), fun h => absurd h (by omega)⟩
      case measure => simp [intOf]; omega
    · have hex : (¬ k < len) ∨ (k < len ∧ ¬ k < 10) := by omega
      have HS := Lib.hid (seen_any wr u6 k w.heap.size (gath ss k) m h0 hown HNIL.out hk10 (gath_length ss k (by omega)) (gath_size ss k))
      generalize flat (gath ss k) = F at *
      clear hown HNIL hi hz0 hz1 hz2 HA
      have hmin : ((F.length : Int) ≤ m) ∨ (m < (F.length : Int)) := by omega
      rcases hmin with hmin | hmin
      · have hd : Hid (decide ((F.length : Int) ≤ m) = true) := by show _ = _; simpa using hmin
        have hcmp : Hid (F.take (m.toNat + 1) = F) := List.take_of_length_le (by omega)
        rcases hex with hex | ⟨hex, hex2⟩
        all_goals
          go_wp2_with fail
          refine HS.out.mono ?_
          rintro e w2 ⟨rfl, hbs, u, hu, hcv⟩
          rw [hd.out]
          rw [hcmp.out] at hcv
          go_wp2
          go_quiet (fail)
          go_wp2
          go_ret
          exact ⟨ret_bool (all_same F), (hb.trans (hbs.mono hb.size)).trans (below_drewN _ _ _)⟩
      · have hd : Hid (decide ((F.length : Int) ≤ m) = false) := by show _ = _; simpa using hmin
        have hmn : m.toNat + 1 ≤ F.length := by omega
        rcases hex with hex | ⟨hex, hex2⟩
        all_goals
          go_wp2_with fail
          refine HS.out.mono ?_
          rintro e w2 ⟨rfl, hbs, u, hu, hcv⟩
          rw [hd.out]
          have hmt : m + 1 ≤ (F.length : Int) := by omega
          go_wp2
          all_goals have hdo := hd.out
          all_goals go_quiet (fail)
          all_goals go_wp2
          all_goals go_ret
          all_goals
            exact ⟨ret_bool (by first | exact all_cut F m h0 | (exact all_cut2 F m h0 (by omega))), (hb.trans (hbs.mono hb.size)).trans (below_drewN _ _ _)⟩

theorem own : ownKnob Try.prog.godebug = none := by kernel_rfl
theorem laidOut : laidOutB Try.prog = true := by kernel_rfl

set_option maxRecDepth 100000 in
theorem lifted (os : Os) (started : os.Started) (H : Type) (enc : TypeId × Value → H) :
    ReturnsInHanded {} Try.checked os 5 .any (Rows.octetAllSpec.pre6 enc Try.prog Try.f5 Rows.octetAllRow.domain false) (Rows.octetAllSpec.post enc Try.prog Try.f5 false true false false) := by
  refine returnsInHanded_of_change (C := Try.checked) own started (by kernel_rfl) Try.func5
    (ChangeSpec.witness6 (enc := enc) (C := Try.checked) false ⟨#[], #[.slice none 0 0, .int .u8 0], []⟩ 8 (by kernel_rfl) (by kernel_rfl) (by kernel_rfl) (by kernel_rfl)) ?_
  intro W base args ds gs before hval0 hW hcnd _
  have hval : ∀ (j : Nat) t v, Try.f5.params[j]? = some t → args[j]? = some v → Value.okWide Try.prog W .any base t v := hval0
  have hW' := hW
  obtain ⟨p, q, hA0, hV, rfl, hfz, hnd⟩ := hW
  have hA : DataW.TrodAll enc Try.prog W 0 (fun _ => true) true Try.f5.params.toList args.toList ds p := hA0
  rw [Try.params5] at hA hval
  obtain ⟨v0, vs0, d0, ds0, p0, q0, hargs, rfl, rfl, h0, r0⟩ := trodAll_cons hA
  obtain ⟨v1, vs1, d1, ds1, p1, q1, rfl, rfl, rfl, h1, r1⟩ := trodAll_cons r0
  obtain ⟨rfl, rfl, rfl⟩ := trodAll_nil r1
  obtain rfl : args = #[v0, v1] := by cases args; simp_all
  obtain ⟨rfl, rfl⟩ := trodVars_none hV
  obtain ⟨a0, len0, cap0, rfl⟩ := okWide_slice Try.underlying29 (hval 0 29 v0 rfl rfl)
  have k0 := h0
  have lt0 : ∀ x ∈ p0, x.block < W.heap.size := by obtain ⟨m, hm⟩ := k0; exact DataW.trod_lt m _ _ _ hm
  obtain ⟨z0, w0⟩ : ∃ ss, IsStrs W a0 len0 cap0 ss := by
    obtain ⟨fuel, hf⟩ := h0
    rcases open_strings Try.underlying29 Try.underlying9 (by kernel_rfl) hf with ⟨hcs, _⟩ | ⟨x, l, c, ss, hcs, _, hl, hm, hz, _, hcell, hws⟩
    · simp [Value.cells] at hcs
      obtain ⟨rfl, rfl, rfl⟩ := hcs
      exact ⟨[], .inl ⟨rfl, rfl, rfl, rfl⟩⟩
    · simp [Value.cells] at hcs
      obtain ⟨rfl, rfl, rfl⟩ := hcs
      exact ⟨ss, .inr ⟨_, rfl, hl, hm, by simpa using hz, hcell, hws⟩⟩
  obtain ⟨n, rfl, rfl, rfl, w1⟩ := open_int Try.underlying5 (hval 1 5 v1 rfl rfl) h1
  clear hA0 hval0
  have hn := bounds_u8 w1
  refine (loop_any a0 len0 cap0 z0 n W w0 hn.1 hn.2).mono fun e W' ⟨he, bel⟩ => ?_
  subst he
  exact ⟨_, rfl, _, _, _, [], _, [], hW', trodAll_mk1 (shut_bool Try.underlying4 _), (trodAll_cons_mk (Below.trod laidOut (by kernel_rfl) (of_decide_eq_true (by kernel_rfl)) k0 bel lt0) (trodAll_cons_mk (shut_int Try.underlying5 w1) trodAll_mk0)), rfl, bel.frame _, fun h => by cases h⟩
end all

/-- The statement: OctetAll returns true at every input. -/
theorem all_proved : Rows.OctetAllSaid :=
  OpenClaim.holds_of_wide 5 Try.f5 rfl rfl rfl rfl rfl rfl rfl ⟨rfl, rfl, rfl, rfl, rfl⟩ rfl rfl rfl rfl rfl (by kernel_rfl) Try.func5 (by kernel_rfl)
    (of_decide_eq_true (by kernel_rfl)) (by unfold Func.isWrapper; first | (rw [if_pos (by decide +kernel)]; kernel_rfl) | (rw [if_neg (by decide +kernel)]; exact ⟨rfl, rfl⟩))
    (fun os started H enc _ => all.lifted os started H enc)
#print axioms all_proved
end Go.Proofs.Ytddobbgpfdoamaa
