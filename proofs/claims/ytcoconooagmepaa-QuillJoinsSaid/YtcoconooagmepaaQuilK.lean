/- The law QuillJoins: its walk. -/
import Derived.Test.YtcoconooagmepaaQuilJ
import Derived.Deep.RegionWith
namespace Go.Proofs.Ytcoconooagmepaa
open Go.RowKit

theorem put_all (most : Int) (ss : List ByteArray) (h : ((flat ss).length : Int) ≤ most) : putE most ByteArray.empty ss = 0 ∧ putS most ByteArray.empty ss = cat ss := by
  have hf : fits (most - (ByteArray.empty.size : Nat)) ss = true := by
    have e : ByteArray.empty.size = 0 := rfl
    unfold fits
    rw [e]
    exact decide_eq_true (by omega)
  refine ⟨by unfold putE; rw [if_pos hf], ?_⟩
  unfold putS
  rw [if_pos hf]
  apply bytes_eq
  rw [list_append]
  rfl

set_option maxHeartbeats 800000 in
theorem qjoins_core (sep0 : ByteArray) (a : Option Addr) (len cp : Nat) (ss : List ByteArray) (w : World) (hs0 : sep0.size ≤ maxLen) (hz : IsTexts w a len ss) :
    Calls Try.prog 4 #[.string sep0, .slice a len cp] w fun e w' => e = .returned (.bool true) ∧ Below w.heap.size w w' := by
  unfold maxLen at hs0
  have HZ := Lib.hid hz
  obtain ⟨sep, hsep⟩ : ∃ sep, sep0.extract 0 (min (sep0.size : Int) 20).toNat = sep := ⟨_, rfl⟩
  have HS : Hid (sep.size ≤ 20) := by
    show _ ≤ _
    rw [← hsep]
    simp
    omega
  have hm0 : (0 : Int) ≤ min (sep0.size : Int) 20 := by omega
  have hm1 : min (sep0.size : Int) 20 ≤ (sep0.size : Int) := by omega
  clear hz
  go_enter Try.func4, Try.ntmps4
  go_wp2_with fail
  refine (awake4_any _).mono ?_
  rintro e w1 ⟨rfl, hb1⟩
  have HB1 := Lib.hid hb1
  clear hb1
  go_wp2_with fail
  go_region_with (go_at_call 9; refine (few4_any a len cp ss _ (HZ.out.below (HB1.out.trans (below_drewN _ _ 1)))).mono ?_; rintro e w2 ⟨a2, n2, c2, rfl, ho2, hb2⟩)
  all_goals
    obtain ⟨hn2, ht2, hc2, hx2, hnc2⟩ := row_facts ho2 (by have := few_length ss; omega)
    have HB2 : Hid (Below w.heap.size w w2) := below_then HB1.out ((below_drewN _ _ 1).trans hb2)
    have HT2 := Lib.hid ht2
    have HL := Lib.hid (flat_few ss)
    have hn6 : n2 ≤ 6 := by have := few_length ss; omega
    clear hb2 ho2 ht2 HB1 HZ hsep hm0 hm1 hs0
    generalize fewQ ss = ff at *
    subst hn2
    have hJ6 : ∀ p : ByteArray, p.size ≤ 20 → p.size * ff.length + (flat ff).length ≤ 100000000 := fun p hp => by
      have h1 := Nat.mul_le_mul hp hn6
      have h2 := HL.out
      omega
    have HJ6 := Lib.hid hJ6
    clear hJ6
    go_wp2_with fail
    refine (QNew_any 1000 w2 (by omega) (by omega)).mono ?_
    rintro e w3 ⟨rfl, hw3⟩
    have hq3 : Quil w2.heap.size (.slice none 0 0) ByteArray.empty 1000 w3 := by rw [hw3]; exact quil_new 1000 (by omega) (by omega) w2
    have hb3 : Below w2.heap.size w2 w3 := by rw [hw3]; exact (by repeat (first | with_reducible exact Below.refl _ _ | with_reducible assumption | (with_reducible refine Below.setCell ?_ ?_ _; rotate_left; · (simp <;> omega)) | (with_reducible refine Below.alloc ?_ ?_ _; rotate_left; · (simp <;> omega)) | with_reducible refine Below.drew ?_))
    have ho3 : ∀ k, ownQ w2.heap.size (.slice none 0 0) k → w2.heap.size ≤ k := by rintro k (rfl | h) <;> first | omega | simp [Value.ownBlock] at h
    have hP3 := Lib.hid (QPut_some w2.heap.size (.slice none 0 0) ByteArray.empty 1000 a2 ff.length c2 ff w3 hq3 (HT2.out.below hb3) (fun x hx ho => by have h5 := (hx2 x hx).2; have h6 := ho3 _ ho; omega) (by have := HL.out; have e : ByteArray.empty.size = 0 := rfl; omega))
    obtain ⟨hE, hS⟩ := put_all 1000 ff (by have := HL.out; omega)
    rw [hE, hS] at hP3
    have HB3 := Lib.hid hb3
    have HO3 := Lib.hid ho3
    clear hw3 hb3 ho3 hq3 hE hS
    go_wp2_with fail
    refine hP3.out.mono ?_
    rintro e w4 ⟨rfl, hp4⟩
    obtain ⟨v4, hq4, hb4, ho4, -⟩ := hp4.on HB3.out.size HO3.out
    have HQ4 := Lib.hid hq4
    have HB4 := Lib.hid (HB3.out.trans hb4)
    have HO4 := Lib.hid ho4
    clear hP3 hp4 hq4 hb4 ho4 HB3 HO3
    have hJ := Lib.hid (QJoin_any sep a2 ff.length c2 ff w4 (HT2.out.below HB4.out) (fun x hx => ⟨(hx2 x hx).1, by have h5 := (hx2 x hx).2; have h6 := HB4.out.size; omega⟩) hnc2 (by omega) (HJ6.out sep HS.out))
    have hRJ := Lib.hid (fun w' (h : Below w2.heap.size w2 w') => RJoin_any sep a2 ff.length c2 ff w' (HT2.out.below h) (HJ6.out sep HS.out) (by have := HS.out; omega))
    have hJE := Lib.hid (fun w' (h : Below w2.heap.size w2 w') => QJoin_any ByteArray.empty a2 ff.length c2 ff w' (HT2.out.below h) (fun x hx => ⟨(hx2 x hx).1, by have h5 := (hx2 x hx).2; have h6 := h.size; omega⟩) hnc2 (by omega) (HJ6.out _ (by decide)))
    have hA := Lib.hid (fun w' (h : Below w2.heap.size w2 w') => RAll_any a2 ff.length c2 ff w' (HT2.out.below h) (by have := HL.out; omega))
    rw [joinB_empty] at hJE
    generalize joinB sep ff = J at *
    generalize cat ff = C at *
    go_wp2_with fail
    refine hJ.out.mono ?_
    rintro e w5 ⟨rfl, hb5⟩
    have HQ5 := Lib.hid (HQ4.out.below hb5)
    have HB5 := Lib.hid (HB4.out.trans (hb5.mono HB4.out.size))
    clear hb5 hJ HQ4
    go_wp2_with fail
    refine (hRJ.out _ HB5.out).mono ?_
    rintro e w6 ⟨rfl, rfl⟩
    clear hRJ
    go_wp2_with fail
    refine (QText_some _ _ _ _ _ HQ5.out).mono ?_
    rintro e w6 ⟨rfl, rfl⟩
    go_wp2_with fail
    refine (hJE.out _ HB5.out).mono ?_
    rintro e w6 ⟨rfl, hb6⟩
    have HQ6 := Lib.hid (HQ5.out.below hb6)
    have HB6 := Lib.hid (HB5.out.trans (hb6.mono HB5.out.size))
    clear hb6 hJE HQ5
    go_wp2_with fail
    refine (QTake_some _ _ _ _ _ HQ6.out).mono ?_
    rintro e w7 ⟨rfl, hw7⟩
    have HQ7 : Hid (Quil w2.heap.size (.slice none 0 0) ByteArray.empty 1000 w7) := by rw [hw7]; exact HQ6.out.take
    have HB7 : Hid (Below w2.heap.size w2 w7) := by rw [hw7]; exact HB6.out.setCell (p := ⟨w2.heap.size, 0, none⟩) (Nat.le_refl _) _
    clear hw7
    go_wp2_with fail
    refine (hA.out _ HB7.out).mono ?_
    rintro e w8 ⟨rfl, rfl⟩
    go_wp2_with fail
    refine (QLen_some _ _ _ _ _ HQ7.out).mono ?_
    rintro e w8 ⟨rfl, rfl⟩
    have hs0 : ByteArray.empty.size = 0 := rfl
    rw [hs0]
    go_wp2_with fail
    go_ret
    exact ⟨rfl, below_then HB2.out HB7.out⟩
end Go.Proofs.Ytcoconooagmepaa
