/- The law QuillNone: its walk. -/
import Derived.Test.YtcoconooagmepaaQuilI
namespace Go.Proofs.Ytcoconooagmepaa
open Go.RowKit

/-- What a row that a call has made gives. -/
theorem row_facts {w : World} {B : Nat} {a : Option Addr} {n c : Nat} {ss : List ByteArray} (h : w.ownsRow B 9 1 (.slice a n c) n (ss.map Value.string)) (hs : ss.length ≤ 1000) :
    n = ss.length ∧ IsTexts w a n ss ∧ (a = none → c = 0) ∧ (∀ x, a = some x → x = ⟨x.block, 0, none⟩ ∧ x.block < w.heap.size) ∧ n ≤ c := by
  have hl : ss.length = n := by have := h.1; simpa using this
  refine ⟨hl.symm, own_strs h (by omega), ?_, ?_, ?_⟩
  · rintro rfl
    rcases h.2 with ⟨h1, _⟩ | ⟨g, c', cur, h1, _⟩
    · cases h1; rfl
    · cases h1
  · rintro x rfl
    refine ⟨?_, (h.lt x.block rfl).2⟩
    rcases h.2 with ⟨h1, _⟩ | ⟨g, c', cur, h1, _⟩
    · cases h1
    · cases h1; rfl
  · rcases h.2 with ⟨h1, h2⟩ | ⟨g, c', cur, h1, _, _, h3, _⟩
    · omega
    · cases h1; exact h3
theorem put_zero (ss : List ByteArray) (h : (flat ss).length = 0) : putE 0 ByteArray.empty ss = 0 ∧ putS 0 ByteArray.empty ss = ByteArray.empty := by
  have hf : fits (0 - (ByteArray.empty.size : Nat)) ss = true := by
    have e : ByteArray.empty.size = 0 := rfl
    unfold fits
    rw [h, e]
    rfl
  refine ⟨by unfold putE; rw [if_pos hf], ?_⟩
  unfold putS
  rw [if_pos hf]
  apply bytes_eq
  rw [list_append, cat_data, List.eq_nil_of_length_eq_zero h]
  rfl
theorem put_some (ss : List ByteArray) (h : 0 < (flat ss).length) : putE 0 ByteArray.empty ss = 10 ∧ putS 0 ByteArray.empty ss = ByteArray.empty := by
  have hf : ¬ fits (0 - (ByteArray.empty.size : Nat)) ss = true := by
    have e : ByteArray.empty.size = 0 := rfl
    unfold fits
    rw [e]
    simp
    intro hn
    rw [hn] at h
    simp at h
  exact ⟨by unfold putE; rw [if_neg hf], by unfold putS; rw [if_neg hf]⟩

set_option maxHeartbeats 400000 in
theorem qnone_core (most : Int) (h0 : -9223372036854775808 ≤ most) (h1 : most < 9223372036854775808) (a : Option Addr) (len cp : Nat) (ss : List ByteArray) (w : World) (hz : IsTexts w a len ss) :
    Calls Try.prog 5 #[.int .i64 most, .slice a len cp] w fun e w' => e = .returned (.bool true) ∧ Below w.heap.size w w' := by
  have HZ := Lib.hid hz
  have hM : max (min most 0) 0 = 0 := by omega
  clear hz
  go_enter Try.func5, Try.ntmps5
  go_wp2_with fail
  refine (awake4_any _).mono ?_
  rintro e w1 ⟨rfl, hb1⟩
  have HB1 := Lib.hid hb1
  clear hb1
  go_wp2_with fail
  refine (few4_any a len cp ss w1 (HZ.out.below HB1.out)).mono ?_
  rintro e w2 ⟨a2, n2, c2, rfl, ho2, hb2⟩
  obtain ⟨hn2, ht2, hc2, hx2, hnc2⟩ := row_facts ho2 (by have := few_length ss; omega)
  have HB2 := Lib.hid (below_then HB1.out hb2)
  have HT2 := Lib.hid ht2
  have HL := Lib.hid (flat_few ss)
  have hn6 : n2 ≤ 6 := by have := few_length ss; omega
  clear hb2 ho2 ht2 HB1 HZ
  generalize fewQ ss = ff at *
  subst hn2
  go_wp2_with fail
  refine (QNew_any (min most 0) w2 (by omega) (by omega)).mono ?_
  rintro e w3 ⟨rfl, hw3⟩
  rw [hM] at hw3
  have hq3 : Quil w2.heap.size (.slice none 0 0) ByteArray.empty 0 w3 := by rw [hw3]; exact quil_new 0 (by omega) (by omega) w2
  have hb3 : Below w2.heap.size w2 w3 := by rw [hw3]; exact (by repeat (first | with_reducible exact Below.refl _ _ | with_reducible assumption | (with_reducible refine Below.setCell ?_ ?_ _; rotate_left; · (simp <;> omega)) | (with_reducible refine Below.alloc ?_ ?_ _; rotate_left; · (simp <;> omega)) | with_reducible refine Below.drew ?_))
  have ho3 : ∀ k, ownQ w2.heap.size (.slice none 0 0) k → w2.heap.size ≤ k := by rintro k (rfl | h) <;> first | omega | simp [Value.ownBlock] at h
  have hP3 := Lib.hid (QPut_some w2.heap.size (.slice none 0 0) ByteArray.empty 0 a2 ff.length c2 ff w3 hq3 (HT2.out.below hb3) (fun x hx ho => by have h5 := (hx2 x hx).2; have h6 := ho3 _ ho; omega) (by have := HL.out; have e : ByteArray.empty.size = 0 := rfl; omega))
  have HB3 := Lib.hid hb3
  have HO3 := Lib.hid ho3
  clear hw3 hb3 ho3 hq3
  obtain ⟨L, hL⟩ : ∃ L, (flat ff).length = L := ⟨_, rfl⟩
  have hcs : (cat ff).size = L := by rw [cat_size, hL]
  obtain ⟨E, hE⟩ : ∃ E, putE 0 ByteArray.empty ff = E := ⟨_, rfl⟩
  have hS : putS 0 ByteArray.empty ff = ByteArray.empty := by
    rcases Nat.eq_zero_or_pos (flat ff).length with h | h
    · exact (put_zero ff h).2
    · exact (put_some ff h).2
  have HE : Hid ((L = 0 ∧ E = 0) ∨ (0 < L ∧ E = 10)) := by
    rcases Nat.eq_zero_or_pos (flat ff).length with h | h
    · exact .inl ⟨by omega, by rw [← hE]; exact (put_zero ff h).1⟩
    · exact .inr ⟨by omega, by rw [← hE]; exact (put_some ff h).1⟩
  rw [hE, hS] at hP3
  have HLL := Lib.hid hL
  clear hE hS hL
  go_wp2_with fail
  refine hP3.out.mono ?_
  rintro e w4 ⟨rfl, hp4⟩
  obtain ⟨v4, hq4, hb4, ho4, -⟩ := hp4.on HB3.out.size HO3.out
  have HQ4 := Lib.hid hq4
  have HB4 := Lib.hid (HB3.out.trans hb4)
  have HO4 := Lib.hid ho4
  clear hP3 hp4 hq4 hb4 ho4
  have hA := Lib.hid (RAll_any a2 ff.length c2 ff w4 (HT2.out.below HB4.out) (by have := HL.out; omega))
  obtain ⟨C, hC⟩ : ∃ C, cat ff = C := ⟨_, rfl⟩
  rw [hC] at hA hcs
  clear hC
  go_wp2_with fail
  refine hA.out.mono ?_
  rintro e w5 ⟨rfl, rfl⟩
  clear hA
  go_wp2_with fail
  refine (QPut_nil a2 ff.length c2 w4).mono ?_
  rintro e w5 ⟨rfl, rfl⟩
  go_wp2_with fail
  refine (QLine_nil a2 ff.length c2 ff w4 (HT2.out.below HB4.out) hc2 (by omega)).mono ?_
  rintro e w5 ⟨rfl, hb5⟩
  have HQ5 := Lib.hid (HQ4.out.below hb5)
  have HB5 := Lib.hid (HB4.out.trans (hb5.mono HB4.out.size))
  clear hb5
  go_wp2_with fail
  refine (QLen_nil _).mono ?_
  rintro e w6 ⟨rfl, rfl⟩
  go_wp2_with fail
  refine (QLeft_nil _).mono ?_
  rintro e w6 ⟨rfl, n, rfl⟩
  go_wp2_with fail
  refine (QText_nil _).mono ?_
  rintro e w6 ⟨rfl, rfl⟩
  go_wp2_with fail
  refine (QTake_nil _).mono ?_
  rintro e w6 ⟨rfl, rfl⟩
  have hq7 := HQ5.out.drewN n
  have hP7 := Lib.hid (QLine_some w2.heap.size v4 ByteArray.empty 0 a2 ff.length c2 ff (w5.drewN n) hq7 (HT2.out.below (HB5.out.trans (below_drewN _ _ n))) hc2 (by omega) (by have := HL.out; have e : ByteArray.empty.size = 0 := rfl; omega))
  have hE7 : putE 0 ByteArray.empty (ff ++ [crlf]) = 10 := (put_some _ (by rw [flat_line]; have : crlf.size = 2 := rfl; omega)).1
  rw [hE7] at hP7
  have HQ7 := Lib.hid hq7
  clear hE7 hq7
  have HE2 : Hid ((L = 0 ∧ E = 0) ∨ (¬ L = 0 ∧ E = 10)) := by
    rcases HE.out with h | h
    · exact .inl h
    · exact .inr ⟨by omega, h.2⟩
  clear HE
  rcases HE2.out with ⟨rfl, rfl⟩ | ⟨hL0, rfl⟩
  all_goals
    go_wp2_with fail
    refine (QText_some _ _ _ _ _ HQ7.out).mono ?_
    rintro e w7 ⟨rfl, rfl⟩
    go_wp2_with fail
    refine hP7.out.mono ?_
    rintro e w8 ⟨rfl, hp8⟩
    obtain ⟨v8, -, hb8, -, -⟩ := hp8.on (B := w2.heap.size) (by have := HB5.out.size; exact this) HO4.out
    go_wp2_with fail
    go_ret
    exact ⟨rfl, below_then HB2.out (HB5.out.trans ((below_drewN _ _ n).trans hb8))⟩
  all_goals (rename_i hbad; omega)
end Go.Proofs.Ytcoconooagmepaa
