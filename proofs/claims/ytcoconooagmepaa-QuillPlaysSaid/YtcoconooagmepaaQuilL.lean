/- The law QuillPlays: its walk. -/
import Derived.Test.YtcoconooagmepaaQuilK
namespace Go.Proofs.Ytcoconooagmepaa
open Go.RowKit

/-- A row of deeds that came in, read at its cells. -/
def IsDeeds4 (w : World) (a : Option Addr) (len : Nat) : Prop :=
  (a = none ∧ len = 0) ∨ ∃ x, a = some x ∧ len ≤ 9223372036854775807 ∧ ∀ i, i < len → ∃ (ln tk : Bool) (a2 : Option Addr) (len2 cp2 : Nat) (ss : List ByteArray), IsTexts w a2 len2 ss ∧
    w.cell? (x.add (i * 3)) = some (.bool ln) ∧ w.cell? ⟨(x.add (i * 3)).block, (x.add (i * 3)).off + 1, none⟩ = some (.bool tk) ∧ w.cell? ⟨(x.add (i * 3)).block, (x.add (i * 3)).off + 2, none⟩ = some (.slice a2 len2 cp2)
theorem IsDeeds4.below {w w' : World} {a : Option Addr} {len : Nat} (h : IsDeeds4 w a len) (hb : Below w.heap.size w w') : IsDeeds4 w' a len := by
  rcases h with h | ⟨x, rfl, hl, h⟩
  · exact .inl h
  · refine .inr ⟨x, rfl, hl, fun i hi => ?_⟩
    obtain ⟨ln, tk, a2, len2, cp2, ss, ht, c0, c1, c2⟩ := h i hi
    exact ⟨ln, tk, a2, len2, cp2, ss, ht.below hb, (hb.cell (lt_of_cell c0)).trans c0, (hb.cell (lt_of_cell c1)).trans c1, (hb.cell (lt_of_cell c2)).trans c2⟩
theorem putS_le (M : Int) (s : ByteArray) (ss : List ByteArray) : (putS M s ss).size ≤ s.size + (flat ss).length := by
  unfold putS
  split
  · rw [size_append, cat_size]; omega
  · omega

/-- Where the law stands ahead of a round. -/
structure Quilling (b : Nat) (v : Value) (s : ByteArray) (M : Int) (w wr : World) : Prop where
  quil : Quil b v s M wr
  below : Below w.heap.size w wr
  own : ∀ k, ownQ b v k → w.heap.size ≤ k
/-- .. and behind the deed, ahead of the looks. -/
structure Deeded (b : Nat) (s : ByteArray) (M : Int) (w : World) (E : Int) (a : Option Addr) (n : Nat) (mm : List ByteArray) (w' : World) : Prop where
  quil : ∃ v, Quilling b v (putS M s mm) M w w'
  texts : IsTexts w' a n mm
  err : E = putE M s mm
  few : (flat mm).length ≤ 242

set_option maxRecDepth 4000 in
set_option maxHeartbeats 2000000 in
theorem qplays_core (most : Int) (h0 : -9223372036854775808 ≤ most) (h1 : most < 9223372036854775808) (a : Option Addr) (len cp : Nat) (w : World) (hd : IsDeeds4 w a len) :
    Calls Try.prog 3 #[.int .i64 most, .slice a len cp] w fun e w' => e = .returned (.bool true) ∧ Below w.heap.size w w' := by
  have HD := Lib.hid hd
  have hlen : len ≤ 9223372036854775807 := by
    rcases hd with ⟨_, rfl⟩ | ⟨x, _, hl, _⟩
    · omega
    · exact hl
  clear hd
  obtain ⟨M, hM⟩ : ∃ M, max most 0 = M := ⟨_, rfl⟩
  have hM0 : 0 ≤ M := by omega
  have hM1 : M ≤ 9223372036854775807 := by omega
  go_enter Try.func3, Try.ntmps3
  go_wp2_with fail
  refine (awake4_any _).mono ?_
  rintro e w1 ⟨rfl, hb1⟩
  have HB1 := Lib.hid hb1
  clear hb1
  go_wp2_with fail
  refine (QNew_any most w1 h0 h1).mono ?_
  rintro e w2 ⟨rfl, hw2⟩
  rw [hM] at hw2
  have HQ : Hid (Quilling w1.heap.size (.slice none 0 0) ByteArray.empty M w w2) := by
    rw [hw2]
    refine ⟨quil_new M hM0 hM1 w1, HB1.out.alloc HB1.out.size _, ?_⟩
    rintro k (rfl | h)
    · exact HB1.out.size
    · simp [Value.ownBlock] at h
  clear hw2
  generalize w1.heap.size = b at *
  go_wp2_with fail
  go_loopw [6, 7] (fun sv i wr => ∃ (n : Nat) (s : ByteArray) (v : Value), n ≤ len ∧ n ≤ 30 ∧ i = .int .i64 n ∧ sv = .string s ∧ s.size ≤ 300 * n ∧ Hid (Quilling b v s M w wr)) (fun _ i _ => len - (intOf i).toNat)
  case atStart => exact ⟨0, ByteArray.empty, _, Nat.zero_le _, Nat.zero_le _, rfl, rfl, Nat.le_refl _, HQ⟩
  case round =>
    clear HQ HB1
    obtain ⟨n, s, v, hn, hn30, rfl, rfl, hss, HQ⟩ := hrel
    by_cases hlt : n < len ∧ n < 30
    · obtain ⟨hl1, hl2⟩ := hlt
      rcases HD.out with ⟨rfl, rfl⟩ | ⟨x, rfl, hl, hcells⟩
      · omega
      obtain ⟨ln, tk, a2, len2, cp2, ss, ht, d0, d1, d2⟩ := hcells n hl1
      have d0 := (HQ.out.below.cell (lt_of_cell d0)).trans d0
      have d1 := (HQ.out.below.cell (lt_of_cell d1)).trans d1
      have d2 := (HQ.out.below.cell (lt_of_cell d2)).trans d2
      clear hcells
      have hbl : b < wr.heap.size := HQ.out.quil.lt
      have HT := Lib.hid ht
      clear ht
      cases tk
      · have HQt : Hid (Quilling b v s M w (wr.alloc (.cells #[.bool ln, .bool false, .slice a2 len2 cp2] 28))) := ⟨HQ.out.quil.below (by repeat (first | with_reducible exact Below.refl _ _ | with_reducible assumption | (with_reducible refine Below.setCell ?_ ?_ _; rotate_left; · (simp <;> omega)) | (with_reducible refine Below.alloc ?_ ?_ _; rotate_left; · (simp <;> omega)) | with_reducible refine Below.drew ?_)), HQ.out.below.alloc HQ.out.below.size _, HQ.out.own⟩
        have hd0 : (wr.alloc (.cells #[.bool ln, .bool false, .slice a2 len2 cp2] 28)).cell? ⟨wr.heap.size, 0, none⟩ = some (.bool ln) := by simp [go_sem]
        have hdl : wr.heap.size < (wr.alloc (.cells #[.bool ln, .bool false, .slice a2 len2 cp2] 28)).heap.size := by simp
        have HSS : Hid (s.size ≤ 300 * n) := hss
        have HSZ : Hid (w.heap.size ≤ (wr.alloc (.cells #[.bool ln, .bool false, .slice a2 len2 cp2] 28)).heap.size) := HQt.out.below.size
        go_wp2_with fail
        refine (few4_any a2 len2 cp2 ss _ (HT.out.below HQt.out.below)).mono ?_
        rintro e w4 ⟨a3, n3, c3, rfl, ho3, hb3⟩
        obtain ⟨hn3, ht3, hc3, -, hnc3⟩ := row_facts ho3 (by have := few_length ss; omega)
        have hna : ∀ y, a3 = some y → ¬ ownQ b (v) y.block := fun y hy ho => by
          have h5 := (ho3.lt y.block (by rw [hy]; rfl)).1
          have h6 := HQt.out.quil.lt_own ho
          omega
        have HQ4 : Hid (Quilling b (v) (s) M w w4) := ⟨HQt.out.quil.below hb3, below_then HQt.out.below hb3, HQt.out.own⟩
        have e0 : w4.cell? ⟨wr.heap.size, 0, none⟩ = some (.bool ln) := below_cell hb3 hdl hd0
        have hn6 : n3 ≤ 6 := by have := few_length ss; omega
        have HF := Lib.hid (flat_few ss)
        have HO3 := Lib.hid ho3
        have HT3 := Lib.hid ht3
        have HNA := Lib.hid hna
        clear ho3 ht3 hna hb3 HQt hn3 hd0 HT
        generalize fewQ ss = ff at *
        cases ln
        · have hP := QPut_some b (v) (s) M a3 n3 c3 ff w4 HQ4.out.quil HT3.out HNA.out (by have := HF.out; have := HSS.out; omega)
          obtain ⟨E, hE⟩ : ∃ E, putE M (s) ff = E := ⟨_, rfl⟩
          rw [hE] at hP
          have HP := Lib.hid hP
          have HEE := Lib.hid hE
          clear hP hE
          go_wp2_with fail
          refine HP.out.mono ?_
          rintro e w5 ⟨rfl, hp5⟩
          obtain ⟨v5, hq5, hb5, ho5, hk5⟩ := hp5.on HQ4.out.below.size HQ4.out.own
          have HE : Hid (Deeded b (s) M w E a3 n3 ff w5) := ⟨⟨v5, hq5, HQ4.out.below.trans hb5, ho5⟩, HT3.out.kept hk5 HNA.out, HEE.out.symm, by have := HF.out; omega⟩
          clear HP hp5 hq5 hb5 ho5 hk5 HEE HO3
          obtain ⟨S, hS⟩ : ∃ S, putS M (s) (ff) = S := ⟨_, rfl⟩
          have hR := RPut_any (s) most a3 n3 c3 (ff) _ HE.out.texts (by rw [hM]; exact HQ4.out.quil.le) (by have := HE.out.few; have := HSS.out; omega)
          rw [hM, hS, ← HE.out.err] at hR
          have HR := Lib.hid hR
          obtain ⟨v6, hv6⟩ := HE.out.quil
          rw [hS] at hv6
          have HV := Lib.hid hv6
          have hle6 := hv6.quil.le
          have hsz6 : S.size ≤ 300 * (n + 1) := by
            have h1 := putS_le M (s) (ff)
            rw [hS] at h1
            have := HE.out.few
            have := HSS.out
            omega
          clear hR hv6 hS HE
          go_wp2_with fail
          refine HR.out.mono ?_
          rintro e w7 ⟨rfl, rfl⟩
          go_wp2_with fail
          refine (QText_some _ _ _ _ _ HV.out.quil).mono ?_
          rintro e w8 ⟨rfl, rfl⟩
          go_wp2_with fail
          refine (QLen_some _ _ _ _ _ HV.out.quil).mono ?_
          rintro e w8 ⟨rfl, rfl⟩
          go_wp2_with fail
          refine (QLeft_some _ _ _ _ _ HV.out.quil).mono ?_
          rintro e w8 ⟨rfl, q, rfl⟩
          go_wp2_with fail
          refine (QLen_some _ _ _ _ _ (HV.out.quil.drewN q)).mono ?_
          rintro e w8 ⟨rfl, rfl⟩
          clear h0 h1 hlen hl hM1
          go_wp2_with fail
          exact ⟨⟨n + 1, S, v6, by omega, by omega, by go_num, rfl, hsz6, HV.out.quil.drewN q, HV.out.below.trans (below_drewN _ _ q), HV.out.own⟩, by simp [intOf]; omega⟩
        · have hP := QLine_some b (v) (s) M a3 n3 c3 ff w4 HQ4.out.quil HT3.out hc3 (by omega) (by have := HF.out; have := HSS.out; omega)
          obtain ⟨E, hE⟩ : ∃ E, putE M (s) (ff ++ [crlf]) = E := ⟨_, rfl⟩
          rw [hE] at hP
          have HP := Lib.hid hP
          have HEE := Lib.hid hE
          clear hP hE
          obtain ⟨i0, hi, hz0, hz1, hz2⟩ := info_parts info_string
          go_wp2_with fail
          refine HP.out.mono ?_
          rintro e w5 ⟨rfl, hp5⟩
          have hno5 : ∃ v5, Quil b v5 (putS M (s) (ff ++ [crlf])) M w5 ∧ Kept (ownQ b (v)) w4 w5 ∧ (∀ k, ownQ b v5 k → ownQ b (v) k ∨ w4.heap.size ≤ k) := by
            obtain ⟨v5, hq5, hk5, hn5⟩ := hp5
            refine ⟨v5, hq5, hk5, ?_⟩
            rintro k (h | h)
            · exact .inl (.inl h)
            · rcases hn5 k h with h | h
              · exact .inl (.inr h)
              · exact .inr h
          obtain ⟨v5, hq5, hk5, hn5⟩ := hno5
          obtain ⟨-, -, hb5, -, -⟩ := hp5.on HQ4.out.below.size HQ4.out.own
          have ho5 : w5.ownsRow 0 9 1 (.slice a3 n3 c3) n3 (ff.map Value.string) := own_weak (own_kept HO3.out hk5 (fun k hk => by
            cases a3 with
            | none => simp [Value.ownBlock] at hk
            | some y => simp [Value.ownBlock] at hk; subst hk; exact HNA.out y rfl))
          have hlt3 : ∀ k, (Value.slice a3 n3 c3).ownBlock = some k → k < w4.heap.size := fun k hk => (HO3.out.lt k hk).2
          have hnv : ∀ k, (Value.slice a3 n3 c3).ownBlock = some k → ¬ ownQ b (v) k := fun k hk => by
            cases a3 with
            | none => simp [Value.ownBlock] at hk
            | some y => simp [Value.ownBlock] at hk; subst hk; exact HNA.out y rfl
          have HQ5 := Lib.hid hq5
          have HK5 := Lib.hid hk5
          have HN5 := Lib.hid hn5
          have HB5 := Lib.hid (HQ4.out.below.trans hb5)
          have HO5 := Lib.hid ho5
          have HNV := Lib.hid hnv
          have HL3 := Lib.hid hlt3
          have HGE : Hid (∀ k, (Value.slice a3 n3 c3).ownBlock = some k → w.heap.size ≤ k) := fun k hk => by
            have h5 := (HO3.out.lt k hk).1
            have h6 := HSZ.out
            omega
          clear HP hp5 hq5 hk5 hn5 hb5 ho5 hnv hlt3 HO3
          go_wp2_with (at_builtin; refine wpList_append_own _ rfl _ _ 26 rfl 0 9 i0 _ 1 16 Try.underlying26 hi hz0 hz1 hz2 rfl (by omega) _ n3 _ rfl (HO5.out.alloc _) ⟨w5.heap.size, 0, none⟩ 1 1 [.string crlf] rfl rfl ?c1 ?c2 ?c3 ?c4 (Nat.zero_le _) ?_)
          case c1 => intro j u hj; rcases j with _ | j <;> simp at hj; subst hj; simp [go_sem, crlf]
          case c2 => intro u hu; simp at hu; subst hu; rfl
          case c3 => unfold maxLen; omega
          case c4 => omega
          intro v6 w6 ho6 hg6 _
          obtain ⟨a6, c6, rfl, _⟩ := own_form ho6
          have HE : Hid (Deeded b (s) M w E a6 (n3 + 1) (ff ++ [crlf]) w6) := by
            have hal : Below w5.heap.size w5 (w5.alloc (.cells #[.string crlf] 9)) := (by repeat (first | with_reducible exact Below.refl _ _ | with_reducible assumption | (with_reducible refine Below.setCell ?_ ?_ _; rotate_left; · (simp <;> omega)) | (with_reducible refine Below.alloc ?_ ?_ _; rotate_left; · (simp <;> omega)) | with_reducible refine Below.drew ?_))
            have hg : Kept (fun k => (Value.slice a3 n3 c3).ownBlock = some k) (w5.alloc (.cells #[.string crlf] 9)) w6 := (Kept.refl _ _).grown hg6 (fun k hk => .inl hk)
            refine ⟨⟨v5, (HQ5.out.below hal).kept hg ?_, ?_, ?_⟩, ?_, HEE.out.symm, ?_⟩
            · intro k hk ho
              have h7 := HL3.out k ho
              rcases HN5.out k hk with h | h
              · exact HNV.out k ho h
              · omega
            · exact (HB5.out.trans (hal.mono HB5.out.size)).grown hg6 (by have := HB5.out.size; simp; omega) (fun k hk => HGE.out k hk)
            · intro k hk
              rcases HN5.out k hk with h | h
              · exact HQ4.out.own k h
              · exact Nat.le_trans HQ4.out.below.size h
            · exact own_strs (by simpa using ho6) (by omega)
            · rw [flat_line]
              have := HF.out
              have hcl : crlf.size = 2 := rfl
              omega
          clear ho6 hg6 HQ5 HK5 HN5 HB5 HO5 HNV HL3 HGE HEE hi hz0 hz1 hz2
          obtain ⟨S, hS⟩ : ∃ S, putS M (s) (ff ++ [crlf]) = S := ⟨_, rfl⟩
          have hR := RPut_any (s) most a6 (n3 + 1) c6 (ff ++ [crlf]) _ HE.out.texts (by rw [hM]; exact HQ4.out.quil.le) (by have := HE.out.few; have := HSS.out; omega)
          rw [hM, hS, ← HE.out.err] at hR
          have HR := Lib.hid hR
          obtain ⟨v6, hv6⟩ := HE.out.quil
          rw [hS] at hv6
          have HV := Lib.hid hv6
          have hle6 := hv6.quil.le
          have hsz6 : S.size ≤ 300 * (n + 1) := by
            have h1 := putS_le M (s) (ff ++ [crlf])
            rw [hS] at h1
            have := HE.out.few
            have := HSS.out
            omega
          clear hR hv6 hS HE
          go_wp2_with fail
          refine HR.out.mono ?_
          rintro e w7 ⟨rfl, rfl⟩
          go_wp2_with fail
          refine (QText_some _ _ _ _ _ HV.out.quil).mono ?_
          rintro e w8 ⟨rfl, rfl⟩
          go_wp2_with fail
          refine (QLen_some _ _ _ _ _ HV.out.quil).mono ?_
          rintro e w8 ⟨rfl, rfl⟩
          go_wp2_with fail
          refine (QLeft_some _ _ _ _ _ HV.out.quil).mono ?_
          rintro e w8 ⟨rfl, q, rfl⟩
          go_wp2_with fail
          refine (QLen_some _ _ _ _ _ (HV.out.quil.drewN q)).mono ?_
          rintro e w8 ⟨rfl, rfl⟩
          clear h0 h1 hlen hl hM1
          go_wp2_with fail
          exact ⟨⟨n + 1, S, v6, by omega, by omega, by go_num, rfl, hsz6, HV.out.quil.drewN q, HV.out.below.trans (below_drewN _ _ q), HV.out.own⟩, by simp [intOf]; omega⟩
      · have HQa : Hid (Quilling b v s M w (wr.alloc (.cells #[.bool ln, .bool true, .slice a2 len2 cp2] 28))) := ⟨HQ.out.quil.below (by repeat (first | with_reducible exact Below.refl _ _ | with_reducible assumption | (with_reducible refine Below.setCell ?_ ?_ _; rotate_left; · (simp <;> omega)) | (with_reducible refine Below.alloc ?_ ?_ _; rotate_left; · (simp <;> omega)) | with_reducible refine Below.drew ?_)), HQ.out.below.alloc HQ.out.below.size _, HQ.out.own⟩
        have ha0 : (wr.alloc (.cells #[.bool ln, .bool true, .slice a2 len2 cp2] 28)).cell? ⟨wr.heap.size, 0, none⟩ = some (.bool ln) := by simp [go_sem]
        have ha2 : (wr.alloc (.cells #[.bool ln, .bool true, .slice a2 len2 cp2] 28)).cell? ⟨wr.heap.size, 2, none⟩ = some (.slice a2 len2 cp2) := by simp [go_sem]
        have hal : wr.heap.size < (wr.alloc (.cells #[.bool ln, .bool true, .slice a2 len2 cp2] 28)).heap.size := by simp
        go_wp2_with fail
        refine (QTake_some _ _ _ _ _ HQa.out.quil).mono ?_
        rintro e wt ⟨rfl, hwt⟩
        have HQt : Hid (Quilling b (.slice none 0 0) ByteArray.empty M w wt) := by
          rw [hwt]
          refine ⟨HQa.out.quil.take, HQa.out.below.setCell (p := ⟨b, 0, none⟩) (HQa.out.own b (.inl rfl)) _, ?_⟩
          rintro k (h | h)
          · exact HQa.out.own k (.inl h)
          · simp [Value.ownBlock] at h
        have hd0 : wt.cell? ⟨wr.heap.size, 0, none⟩ = some (.bool ln) := by
          rw [hwt, World.cell?_setCell_other _ _ _ _ (by intro e; injection e with e1; omega)]; exact ha0
        have hd2 : wt.cell? ⟨wr.heap.size, 2, none⟩ = some (.slice a2 len2 cp2) := by
          rw [hwt, World.cell?_setCell_other _ _ _ _ (by intro e; injection e with e1; omega)]; exact ha2
        have hdl : wr.heap.size < wt.heap.size := by rw [hwt, size_setCell]; exact hal
        have HSS : Hid (ByteArray.empty.size ≤ 300 * n) := Nat.zero_le _
        have HSZ : Hid (w.heap.size ≤ wt.heap.size) := HQt.out.below.size
        clear hwt ha0 ha2 hal HQa
        go_wp2_with fail
        refine (few4_any a2 len2 cp2 ss _ (HT.out.below HQt.out.below)).mono ?_
        rintro e w4 ⟨a3, n3, c3, rfl, ho3, hb3⟩
        obtain ⟨hn3, ht3, hc3, -, hnc3⟩ := row_facts ho3 (by have := few_length ss; omega)
        have hna : ∀ y, a3 = some y → ¬ ownQ b (.slice none 0 0) y.block := fun y hy ho => by
          have h5 := (ho3.lt y.block (by rw [hy]; rfl)).1
          have h6 := HQt.out.quil.lt_own ho
          omega
        have HQ4 : Hid (Quilling b (.slice none 0 0) (ByteArray.empty) M w w4) := ⟨HQt.out.quil.below hb3, below_then HQt.out.below hb3, HQt.out.own⟩
        have e0 : w4.cell? ⟨wr.heap.size, 0, none⟩ = some (.bool ln) := below_cell hb3 hdl hd0
        have hn6 : n3 ≤ 6 := by have := few_length ss; omega
        have HF := Lib.hid (flat_few ss)
        have HO3 := Lib.hid ho3
        have HT3 := Lib.hid ht3
        have HNA := Lib.hid hna
        clear ho3 ht3 hna hb3 HQt hn3 hd0 HT
        generalize fewQ ss = ff at *
        cases ln
        · have hP := QPut_some b (.slice none 0 0) (ByteArray.empty) M a3 n3 c3 ff w4 HQ4.out.quil HT3.out HNA.out (by have := HF.out; have := HSS.out; omega)
          obtain ⟨E, hE⟩ : ∃ E, putE M (ByteArray.empty) ff = E := ⟨_, rfl⟩
          rw [hE] at hP
          have HP := Lib.hid hP
          have HEE := Lib.hid hE
          clear hP hE
          go_wp2_with fail
          refine HP.out.mono ?_
          rintro e w5 ⟨rfl, hp5⟩
          obtain ⟨v5, hq5, hb5, ho5, hk5⟩ := hp5.on HQ4.out.below.size HQ4.out.own
          have HE : Hid (Deeded b (ByteArray.empty) M w E a3 n3 ff w5) := ⟨⟨v5, hq5, HQ4.out.below.trans hb5, ho5⟩, HT3.out.kept hk5 HNA.out, HEE.out.symm, by have := HF.out; omega⟩
          clear HP hp5 hq5 hb5 ho5 hk5 HEE HO3
          obtain ⟨S, hS⟩ : ∃ S, putS M (ByteArray.empty) (ff) = S := ⟨_, rfl⟩
          have hR := RPut_any (ByteArray.empty) most a3 n3 c3 (ff) _ HE.out.texts (by rw [hM]; exact HQ4.out.quil.le) (by have := HE.out.few; have := HSS.out; omega)
          rw [hM, hS, ← HE.out.err] at hR
          have HR := Lib.hid hR
          obtain ⟨v6, hv6⟩ := HE.out.quil
          rw [hS] at hv6
          have HV := Lib.hid hv6
          have hle6 := hv6.quil.le
          have hsz6 : S.size ≤ 300 * (n + 1) := by
            have h1 := putS_le M (ByteArray.empty) (ff)
            rw [hS] at h1
            have := HE.out.few
            have := HSS.out
            omega
          clear hR hv6 hS HE
          go_wp2_with fail
          refine HR.out.mono ?_
          rintro e w7 ⟨rfl, rfl⟩
          go_wp2_with fail
          refine (QText_some _ _ _ _ _ HV.out.quil).mono ?_
          rintro e w8 ⟨rfl, rfl⟩
          go_wp2_with fail
          refine (QLen_some _ _ _ _ _ HV.out.quil).mono ?_
          rintro e w8 ⟨rfl, rfl⟩
          go_wp2_with fail
          refine (QLeft_some _ _ _ _ _ HV.out.quil).mono ?_
          rintro e w8 ⟨rfl, q, rfl⟩
          go_wp2_with fail
          refine (QLen_some _ _ _ _ _ (HV.out.quil.drewN q)).mono ?_
          rintro e w8 ⟨rfl, rfl⟩
          clear h0 h1 hlen hl hM1
          go_wp2_with fail
          exact ⟨⟨n + 1, S, v6, by omega, by omega, by go_num, rfl, hsz6, HV.out.quil.drewN q, HV.out.below.trans (below_drewN _ _ q), HV.out.own⟩, by simp [intOf]; omega⟩
        · have hP := QLine_some b (.slice none 0 0) (ByteArray.empty) M a3 n3 c3 ff w4 HQ4.out.quil HT3.out hc3 (by omega) (by have := HF.out; have := HSS.out; omega)
          obtain ⟨E, hE⟩ : ∃ E, putE M (ByteArray.empty) (ff ++ [crlf]) = E := ⟨_, rfl⟩
          rw [hE] at hP
          have HP := Lib.hid hP
          have HEE := Lib.hid hE
          clear hP hE
          obtain ⟨i0, hi, hz0, hz1, hz2⟩ := info_parts info_string
          go_wp2_with fail
          refine HP.out.mono ?_
          rintro e w5 ⟨rfl, hp5⟩
          have hno5 : ∃ v5, Quil b v5 (putS M (ByteArray.empty) (ff ++ [crlf])) M w5 ∧ Kept (ownQ b (.slice none 0 0)) w4 w5 ∧ (∀ k, ownQ b v5 k → ownQ b (.slice none 0 0) k ∨ w4.heap.size ≤ k) := by
            obtain ⟨v5, hq5, hk5, hn5⟩ := hp5
            refine ⟨v5, hq5, hk5, ?_⟩
            rintro k (h | h)
            · exact .inl (.inl h)
            · rcases hn5 k h with h | h
              · exact .inl (.inr h)
              · exact .inr h
          obtain ⟨v5, hq5, hk5, hn5⟩ := hno5
          obtain ⟨-, -, hb5, -, -⟩ := hp5.on HQ4.out.below.size HQ4.out.own
          have ho5 : w5.ownsRow 0 9 1 (.slice a3 n3 c3) n3 (ff.map Value.string) := own_weak (own_kept HO3.out hk5 (fun k hk => by
            cases a3 with
            | none => simp [Value.ownBlock] at hk
            | some y => simp [Value.ownBlock] at hk; subst hk; exact HNA.out y rfl))
          have hlt3 : ∀ k, (Value.slice a3 n3 c3).ownBlock = some k → k < w4.heap.size := fun k hk => (HO3.out.lt k hk).2
          have hnv : ∀ k, (Value.slice a3 n3 c3).ownBlock = some k → ¬ ownQ b (.slice none 0 0) k := fun k hk => by
            cases a3 with
            | none => simp [Value.ownBlock] at hk
            | some y => simp [Value.ownBlock] at hk; subst hk; exact HNA.out y rfl
          have HQ5 := Lib.hid hq5
          have HK5 := Lib.hid hk5
          have HN5 := Lib.hid hn5
          have HB5 := Lib.hid (HQ4.out.below.trans hb5)
          have HO5 := Lib.hid ho5
          have HNV := Lib.hid hnv
          have HL3 := Lib.hid hlt3
          have HGE : Hid (∀ k, (Value.slice a3 n3 c3).ownBlock = some k → w.heap.size ≤ k) := fun k hk => by
            have h5 := (HO3.out.lt k hk).1
            have h6 := HSZ.out
            omega
          clear HP hp5 hq5 hk5 hn5 hb5 ho5 hnv hlt3 HO3
          go_wp2_with (at_builtin; refine wpList_append_own _ rfl _ _ 26 rfl 0 9 i0 _ 1 16 Try.underlying26 hi hz0 hz1 hz2 rfl (by omega) _ n3 _ rfl (HO5.out.alloc _) ⟨w5.heap.size, 0, none⟩ 1 1 [.string crlf] rfl rfl ?c1 ?c2 ?c3 ?c4 (Nat.zero_le _) ?_)
          case c1 => intro j u hj; rcases j with _ | j <;> simp at hj; subst hj; simp [go_sem, crlf]
          case c2 => intro u hu; simp at hu; subst hu; rfl
          case c3 => unfold maxLen; omega
          case c4 => omega
          intro v6 w6 ho6 hg6 _
          obtain ⟨a6, c6, rfl, _⟩ := own_form ho6
          have HE : Hid (Deeded b (ByteArray.empty) M w E a6 (n3 + 1) (ff ++ [crlf]) w6) := by
            have hal : Below w5.heap.size w5 (w5.alloc (.cells #[.string crlf] 9)) := (by repeat (first | with_reducible exact Below.refl _ _ | with_reducible assumption | (with_reducible refine Below.setCell ?_ ?_ _; rotate_left; · (simp <;> omega)) | (with_reducible refine Below.alloc ?_ ?_ _; rotate_left; · (simp <;> omega)) | with_reducible refine Below.drew ?_))
            have hg : Kept (fun k => (Value.slice a3 n3 c3).ownBlock = some k) (w5.alloc (.cells #[.string crlf] 9)) w6 := (Kept.refl _ _).grown hg6 (fun k hk => .inl hk)
            refine ⟨⟨v5, (HQ5.out.below hal).kept hg ?_, ?_, ?_⟩, ?_, HEE.out.symm, ?_⟩
            · intro k hk ho
              have h7 := HL3.out k ho
              rcases HN5.out k hk with h | h
              · exact HNV.out k ho h
              · omega
            · exact (HB5.out.trans (hal.mono HB5.out.size)).grown hg6 (by have := HB5.out.size; simp; omega) (fun k hk => HGE.out k hk)
            · intro k hk
              rcases HN5.out k hk with h | h
              · exact HQ4.out.own k h
              · exact Nat.le_trans HQ4.out.below.size h
            · exact own_strs (by simpa using ho6) (by omega)
            · rw [flat_line]
              have := HF.out
              have hcl : crlf.size = 2 := rfl
              omega
          clear ho6 hg6 HQ5 HK5 HN5 HB5 HO5 HNV HL3 HGE HEE hi hz0 hz1 hz2
          obtain ⟨S, hS⟩ : ∃ S, putS M (ByteArray.empty) (ff ++ [crlf]) = S := ⟨_, rfl⟩
          have hR := RPut_any (ByteArray.empty) most a6 (n3 + 1) c6 (ff ++ [crlf]) _ HE.out.texts (by rw [hM]; exact HQ4.out.quil.le) (by have := HE.out.few; have := HSS.out; omega)
          rw [hM, hS, ← HE.out.err] at hR
          have HR := Lib.hid hR
          obtain ⟨v6, hv6⟩ := HE.out.quil
          rw [hS] at hv6
          have HV := Lib.hid hv6
          have hle6 := hv6.quil.le
          have hsz6 : S.size ≤ 300 * (n + 1) := by
            have h1 := putS_le M (ByteArray.empty) (ff ++ [crlf])
            rw [hS] at h1
            have := HE.out.few
            have := HSS.out
            omega
          clear hR hv6 hS HE
          go_wp2_with fail
          refine HR.out.mono ?_
          rintro e w7 ⟨rfl, rfl⟩
          go_wp2_with fail
          refine (QText_some _ _ _ _ _ HV.out.quil).mono ?_
          rintro e w8 ⟨rfl, rfl⟩
          go_wp2_with fail
          refine (QLen_some _ _ _ _ _ HV.out.quil).mono ?_
          rintro e w8 ⟨rfl, rfl⟩
          go_wp2_with fail
          refine (QLeft_some _ _ _ _ _ HV.out.quil).mono ?_
          rintro e w8 ⟨rfl, q, rfl⟩
          go_wp2_with fail
          refine (QLen_some _ _ _ _ _ (HV.out.quil.drewN q)).mono ?_
          rintro e w8 ⟨rfl, rfl⟩
          clear h0 h1 hlen hl hM1
          go_wp2_with fail
          exact ⟨⟨n + 1, S, v6, by omega, by omega, by go_num, rfl, hsz6, HV.out.quil.drewN q, HV.out.below.trans (below_drewN _ _ q), HV.out.own⟩, by simp [intOf]; omega⟩
    · have hex : ¬ n < len ∨ (n < len ∧ ¬ n < 30) := by omega
      rcases hex with h1 | ⟨h1, h2⟩
      all_goals
        go_wp2
        go_ret
        exact ⟨rfl, HQ.out.below⟩
end Go.Proofs.Ytcoconooagmepaa
