/- The document's Join; Join by the shelf's contract; the page's example: contracts. -/
import Derived.Test.YtcoconooagmepaaQuilH
namespace Go.Proofs.Ytcoconooagmepaa
open Go.RowKit

theorem RJoin_any (sep : ByteArray) (a : Option Addr) (len cp : Nat) (ss : List ByteArray) (w : World) (hz : IsTexts w a len ss) (hb : sep.size * ss.length + (flat ss).length ≤ 100000000) (hsep : sep.size ≤ 100000000) :
    Calls Try.prog 17 #[.string sep, .slice a len cp] w fun e w' => e = .returned (.string (joinB sep ss)) ∧ w = w' := by
  obtain ⟨hlen, hz⟩ := hz
  rcases hz with ⟨rfl, rfl⟩ | ⟨x, rfl, hl, hc⟩
  · obtain rfl := List.eq_nil_of_length_eq_zero hlen
    clear hlen hb
    go_enter Try.func17, Try.ntmps17
    go_wp2_with fail
    refine wp_loop_rounds 1 ?_
    rw [rounds_succ]
    go_wp2_with fail
    go_ret
    exact ⟨rfl, rfl⟩
  · have HC := Lib.hid hc
    have HL := Lib.hid hlen
    have HB := Lib.hid hb
    clear hc hlen hb
    go_enter Try.func17, Try.ntmps17
    go_wp2_with fail
    go_loop [5, 6] (fun s i => ∃ (k : Nat), k ≤ len ∧ i = .int .i64 k ∧ s = .string (joinB sep (ss.take k))) (fun _ i => len - (intOf i).toNat)
    case atStart => exact ⟨0, Nat.zero_le _, rfl, rfl⟩
    case round =>
      obtain ⟨k, hk, rfl, rfl⟩ := hrel
      by_cases hlt : k < len
      · have hc := HC.out k hlt
        have hkl : k < ss.length := by rw [HL.out]; exact hlt
        have hy : (ss.getD k ByteArray.empty).size ≤ 100000000 := by
          have h1 := flat_le ss k hkl
          have h2 := HB.out
          have h3 := Nat.zero_le (sep.size * ss.length)
          omega
        have hj : (joinB sep (ss.take k)).size ≤ 100000000 := Nat.le_trans (joinB_take_le sep ss k) HB.out
        rcases Nat.eq_zero_or_pos k with rfl | hpos
        · have hs := Lib.hid (joinB_one sep ss hkl)
          have he : joinB sep (ss.take 0) = ByteArray.empty := rfl
          have hx0 : x.add 0 = x := by unfold Addr.add; simp
          rw [hx0] at hc
          rw [he]
          generalize ss.getD 0 ByteArray.empty = y at *
          clear hj he hkl hx0
          go_wp2_with fail
          exact ⟨⟨1, by omega, by go_num, by rw [← hs.out]; exact congrArg Value.string (bytes_eq (by rw [list_append]; rfl))⟩, by simp [intOf]; omega⟩
        · have hs := Lib.hid (joinB_snoc sep ss k hpos hkl)
          generalize ss.getD k ByteArray.empty = y at *
          generalize joinB sep (ss.take k) = z at *
          go_wp2_with fail
          exact ⟨⟨k + 1, by omega, by go_num, by rw [hs.out]⟩, by simp [intOf]; omega⟩
      · have hE := Lib.hid (show ss.take k = ss from List.take_of_length_le (by rw [HL.out]; omega))
        go_wp2_with fail
        go_ret
        rw [hE.out]
        exact ⟨rfl, rfl⟩

theorem add_none (b j : Nat) : (⟨b, 0, none⟩ : Addr).add j = ⟨b, j, none⟩ := by unfold Addr.add; split <;> simp_all
theorem SJoin_any (sep : ByteArray) (a : Option Addr) (len cp : Nat) (ss : List ByteArray) (w : World) (hz : IsTexts w a len ss) (hx : ∀ x, a = some x → x = ⟨x.block, 0, none⟩ ∧ x.block < w.heap.size) (hcp : len ≤ cp) (hlen : len ≤ 1000000)
    (hb : sep.size * ss.length + (flat ss).length ≤ 100000000) :
    Calls Try.prog 21 #[.slice a len cp, .string sep] w fun e w' => e = .returned (.string (joinB sep ss)) ∧ Below w.heap.size w w' := by
  obtain ⟨hl, hz⟩ := hz
  rcases hz with ⟨rfl, rfl⟩ | ⟨x, rfl, hxl, hc⟩
  · obtain rfl := List.eq_nil_of_length_eq_zero hl
    exact (Any.strings_Join_none join_lays join_extra none cp sep w).mono fun e w' ⟨he, hw⟩ => ⟨he, hw ▸ Below.refl _ _⟩
  · obtain ⟨hx1, hx2⟩ := hx x rfl
    subst hl
    rw [hx1]
    refine Any.strings_Join join_lays join_extra x.block 0 cp ss sep w ?_ hx2 (by omega) hcp ?_
    · intro j y hj
      obtain ⟨hjl, rfl⟩ := List.getElem?_eq_some_iff.1 hj
      have := hc j hjl
      rw [getD_at ss j hjl, hx1] at this
      rw [add_none] at this
      rw [Nat.zero_add]
      exact this
    · rw [← joinB_size]
      have := joinB_le sep ss
      omega
theorem QJoin_any (sep : ByteArray) (a : Option Addr) (len cp : Nat) (ss : List ByteArray) (w : World) (hz : IsTexts w a len ss) (hx : ∀ x, a = some x → x = ⟨x.block, 0, none⟩ ∧ x.block < w.heap.size) (hcp : len ≤ cp) (hlen : len ≤ 1000000)
    (hb : sep.size * ss.length + (flat ss).length ≤ 100000000) :
    Calls Try.prog 16 #[.string sep, .slice a len cp] w fun e w' => e = .returned (.string (joinB sep ss)) ∧ Below w.heap.size w w' := by
  have hJ := Lib.hid (SJoin_any sep a len cp ss w hz hx hcp hlen hb)
  clear hz hx hcp hlen hb
  go_enter Try.func16, Try.ntmps16
  go_wp2_with fail
  refine hJ.out.mono ?_
  rintro e w1 ⟨rfl, hb1⟩
  go_wp2_with fail
  go_ret
  exact ⟨rfl, hb1⟩

theorem Put_.on {b : Nat} {v : Value} {s : ByteArray} {most : Int} {B : Nat} {w w' : World} (h : Put_ b v s most w w') (hB : B ≤ w.heap.size) (ho : ∀ k, ownQ b v k → B ≤ k) :
    ∃ v', Quil b v' s most w' ∧ Below B w w' ∧ (∀ k, ownQ b v' k → B ≤ k) ∧ Kept (ownQ b v) w w' := by
  obtain ⟨v', hq, hk, hn⟩ := h
  refine ⟨v', hq, (hk.mono (Q := fun k => B ≤ k) fun k _ h => ho k h).below hB, ?_, hk⟩
  rintro k (rfl | h)
  · exact ho _ (.inl rfl)
  · rcases hn k h with h | h
    · exact ho k (.inr h)
    · omega

def tAb : ByteArray := ⟨#[97, 98]⟩
def tC : ByteArray := ⟨#[99]⟩
def tDef : ByteArray := ⟨#[100, 101, 102]⟩
def tAbc : ByteArray := ⟨#[97, 98, 99]⟩
def tEnd : ByteArray := ⟨#[97, 98, 99, 13, 10]⟩
theorem one_text (w : World) (t : ByteArray) (y : TypeId) : IsTexts (w.alloc (.cells #[.string t] y)) (some ⟨w.heap.size, 0, none⟩) 1 [t] :=
  ⟨rfl, .inr ⟨_, rfl, by omega, fun i hi => by rcases i with _ | i <;> first | omega | simp [go_sem]⟩⟩
theorem two_texts (w : World) (t u : ByteArray) (y : TypeId) : IsTexts (w.alloc (.cells #[.string t, .string u] y)) (some ⟨w.heap.size, 0, none⟩) 2 [t, u] :=
  ⟨rfl, .inr ⟨_, rfl, by omega, fun i hi => by rcases i with _ | _ | i <;> first | omega | simp [go_sem]⟩⟩
set_option maxHeartbeats 400000 in
theorem awake4_any (w : World) : Calls Try.prog 6 #[] w fun e w' => e = .returned (.bool true) ∧ Below w.heap.size w w' := by
  go_enter Try.func6, Try.ntmps6
  go_wp2_with fail
  refine (QNew_any 5 w (by omega) (by omega)).mono ?_
  rintro e w1 ⟨rfl, hw1⟩
  have hq1 : Quil w.heap.size (.slice none 0 0) ByteArray.empty 5 w1 := by rw [hw1]; exact quil_new 5 (by omega) (by omega) w
  have hb1 : Below w.heap.size w w1 := by rw [hw1]; exact (by repeat (first | with_reducible exact Below.refl _ _ | with_reducible assumption | (with_reducible refine Below.setCell ?_ ?_ _; rotate_left; · (simp <;> omega)) | (with_reducible refine Below.alloc ?_ ?_ _; rotate_left; · (simp <;> omega)) | with_reducible refine Below.drew ?_))
  have ho1 : ∀ k, ownQ w.heap.size (.slice none 0 0) k → w.heap.size ≤ k := by rintro k (rfl | h) <;> first | omega | simp [Value.ownBlock] at h
  have HQ1 := Lib.hid hq1
  have HB1 := Lib.hid hb1
  have HO1 := Lib.hid ho1
  clear hw1 hq1 hb1 ho1
  have hP1 := QPut_some w.heap.size (.slice none 0 0) ByteArray.empty 5 (some ⟨w1.heap.size, 0, none⟩) 2 2 [tAb, tC] (w1.alloc (.cells #[.string tAb, .string tC] 9)) (HQ1.out.below (by repeat (first | with_reducible exact Below.refl _ _ | with_reducible assumption | (with_reducible refine Below.setCell ?_ ?_ _; rotate_left; · (simp <;> omega)) | (with_reducible refine Below.alloc ?_ ?_ _; rotate_left; · (simp <;> omega)) | with_reducible refine Below.drew ?_))) (two_texts _ _ _ _) (fun x hx ho => by cases hx; have := HQ1.out.lt_own ho; simp at this) (by decide)
  rw [show putE 5 ByteArray.empty [tAb, tC] = 0 by decide, show putS 5 ByteArray.empty [tAb, tC] = tAbc by rfl] at hP1
  go_wp2_with fail
  refine hP1.mono ?_
  rintro e w2 ⟨rfl, hp2⟩
  obtain ⟨v2, hq2, hb2, ho2, -⟩ := hp2.on (by have := HB1.out.size; simp; omega) HO1.out
  have HQ2 := Lib.hid hq2
  have HB2 := Lib.hid ((HB1.out.alloc HB1.out.size _).trans hb2)
  have HO2 := Lib.hid ho2
  clear hP1 hp2 hq2 hb2 ho2
  have hP2 := QPut_some w.heap.size v2 tAbc 5 (some ⟨w2.heap.size, 0, none⟩) 1 1 [tDef] (w2.alloc (.cells #[.string tDef] 9)) (HQ2.out.below (by repeat (first | with_reducible exact Below.refl _ _ | with_reducible assumption | (with_reducible refine Below.setCell ?_ ?_ _; rotate_left; · (simp <;> omega)) | (with_reducible refine Below.alloc ?_ ?_ _; rotate_left; · (simp <;> omega)) | with_reducible refine Below.drew ?_))) (one_text _ _ _) (fun x hx ho => by cases hx; have := HQ2.out.lt_own ho; simp at this) (by decide)
  rw [show putE 5 tAbc [tDef] = 10 by decide, show putS 5 tAbc [tDef] = tAbc by rfl] at hP2
  go_wp2_with fail
  refine hP2.mono ?_
  rintro e w3 ⟨rfl, hp3⟩
  obtain ⟨v3, hq3, hb3, ho3, -⟩ := hp3.on (by have := HB2.out.size; simp; omega) HO2.out
  have HQ3 := Lib.hid hq3
  have HB3 := Lib.hid ((HB2.out.alloc HB2.out.size _).trans hb3)
  have HO3 := Lib.hid ho3
  clear hP2 hp3 hq3 hb3 ho3
  have hP3 := QLine_some w.heap.size v3 tAbc 5 none 0 0 [] w3 HQ3.out (IsTexts.none _) (fun _ => rfl) (by omega) (by decide)
  rw [show putE 5 tAbc ([] ++ [crlf]) = 0 by decide, show putS 5 tAbc ([] ++ [crlf]) = tEnd by rfl] at hP3
  go_wp2_with fail
  refine hP3.mono ?_
  rintro e w4 ⟨rfl, hp4⟩
  obtain ⟨v4, hq4, hb4, ho4, -⟩ := hp4.on HB3.out.size HO3.out
  have HQ4 := Lib.hid hq4
  have HB4 := Lib.hid (HB3.out.trans hb4)
  clear hP3 hp4 hq4 hb4 ho4
  go_wp2_with fail
  refine (QText_some _ _ _ _ _ HQ4.out).mono ?_
  rintro e w5 ⟨rfl, rfl⟩
  unfold tEnd
  go_wp2_with fail
  refine (QLen_some _ _ _ _ _ HQ4.out).mono ?_
  rintro e w5 ⟨rfl, rfl⟩
  have hs5 : tEnd.size = 5 := rfl
  rw [hs5]
  go_wp2_with fail
  refine (QLeft_some _ _ _ _ _ HQ4.out).mono ?_
  rintro e w5 ⟨rfl, n, rfl⟩
  rw [hs5]
  go_wp2_with fail
  go_ret
  exact ⟨rfl, HB4.out.trans (below_drewN _ _ n)⟩
end Go.Proofs.Ytcoconooagmepaa
