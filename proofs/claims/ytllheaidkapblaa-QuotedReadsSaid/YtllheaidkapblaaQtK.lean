/- The law QuotedReads: its walk. -/
import Derived.Test.YtllheaidkapblaaQtI
namespace Go.Proofs.Ytllheaidkapblaa
open Go.RowKit

theorem kept_other {b c : Nat} {s : ByteArray} {k : Nat} {w w' : World} (h : IsScan (.pointer (some ⟨c, 0, none⟩)) s k w) (hk : Kept (ownScan (.pointer (some ⟨b, 0, none⟩))) w w') (hne : b ≠ c) : IsScan (.pointer (some ⟨c, 0, none⟩)) s k w' :=
  h.kept hk fun i hi hj => by simp [ownScan] at hi hj; omega
theorem Text_front (v : Value) (s : ByteArray) (k : Nat) (w : World) (h : IsScan v s 0 w) (hs : s.size ≤ maxLen) (hk : k ≤ s.size) :
    Calls Try.prog 17 #[v, .string (s.extract 0 k)] w fun e w' => e = .returned (.bool true) ∧ IsScan v s k w' ∧ Kept (ownScan v) w w' := by
  obtain ⟨h1, h2⟩ := Qd.beg_front s k hk
  refine (Text_v v s 0 (s.extract 0 k) w h hs (by simp; omega)).mono ?_
  rintro e w' ⟨rfl, hs2, hk2⟩
  rw [h1] at hs2 ⊢
  simp only [if_true] at hs2
  rw [h2] at hs2
  exact ⟨rfl, hs2, hk2⟩
theorem unq_cases (s : ByteArray) : (unqE s = 0 ∧ unqT s = Qd.txt (Qd.fr s 0) ∧ Qd.len (Qd.fr s 0) = s.size ∧ 0 < s.size) ∨ (unqE s = 2 ∧ unqT s = ByteArray.empty ∧ Qd.len (Qd.fr s 0) = 0) ∨ (unqE s = 2 ∧ unqT s = ByteArray.empty ∧ 0 < Qd.len (Qd.fr s 0) ∧ Qd.len (Qd.fr s 0) ≠ s.size) := by
  have hl := Qd.some_len s 0
  cases hu : unq s
  · right
    have e1 : unqE s = 2 := by unfold unqE; rw [hu]; rfl
    have e2 : unqT s = ByteArray.empty := by unfold unqT; rw [hu]; rfl
    unfold unq at hu
    rw [hl] at hu
    simp at hu
    by_cases h : 0 < Qd.len (Qd.fr s 0)
    · exact .inr ⟨e1, e2, h, hu h⟩
    · exact .inl ⟨e1, e2, by omega⟩
  · left
    have e1 : unqE s = 0 := by unfold unqE; rw [hu]; rfl
    have e2 : unqT s = Qd.txt (Qd.fr s 0) := by unfold unqT; rw [hu]; rfl
    unfold unq at hu
    rw [hl] at hu
    simp at hu
    exact ⟨e1, e2, hu.2, by omega⟩
theorem wok_len' (s : ByteArray) (k : Nat) : wok s k = decide (0 < wlen s k) := Qd.wok_len s k
theorem wlen_le (s : ByteArray) (k : Nat) (hk : k ≤ s.size) : k + wlen s k ≤ s.size := by
  unfold wlen
  split
  · exact runLen_le B.tok s k hk
  · exact Qd.len_le s k hk
theorem int_le_min (n m : Nat) : ∃ k : Nat, min (n : Int) (m : Int) = (k : Int) ∧ k ≤ m := ⟨min n m, by omega, by omega⟩
set_option maxHeartbeats 2000000 in
set_option maxRecDepth 4000 in
theorem reads5_core (s0 : ByteArray) (m : Nat) (w : World) (h0 : s0.size ≤ maxLen) (hm : m ≤ 255) :
    Calls Try.prog 4 #[.string s0, .int .u8 m] w fun e w' => e = .returned (.bool true) ∧ Below w.heap.size w w' := by
  have hz := fewS_size s0
  have HF := Lib.hid (few5_any s0 · h0)
  clear h0
  generalize fewS s0 = s at *
  have hsm : s.size ≤ maxLen := by unfold maxLen; omega
  have HSM := Lib.hid hsm
  have HC := unq_cases s
  obtain ⟨k, hk, hks⟩ := int_le_min m s.size
  have e1 := Lib.hid (Qd.some_len s k)
  have e2 := Lib.hid (wok_len' s k)
  have e3 := Lib.hid (Qd.fr_rest s k)
  have e4 := Lib.hid (And.intro (Qd.wtxt_rest s k) (Qd.wlen_rest s k))
  have hrz : (restS s k).size ≤ 100000 := by rw [restS_size s k hks]; omega
  have HRZ := Lib.hid hrz
  have hl1 := Qd.len_le s k hks
  have hl2 := wlen_le s k hks
  clear hsm hrz
  generalize hT0 : Qd.txt (Qd.fr s 0) = T0 at *
  generalize hL0 : Qd.len (Qd.fr s 0) = L0 at *
  have HT0 := Lib.hid hT0
  have HL0 := Lib.hid hL0
  clear hT0 hL0
  generalize hEE : unqE s = EE at *
  generalize hTT : unqT s = TT at *
  have HEE := Lib.hid hEE
  have HTT := Lib.hid hTT
  clear hEE hTT
  generalize hL : Qd.len (Qd.fr s k) = L at *
  generalize hT : Qd.txt (Qd.fr s k) = T at *
  generalize hM : wlen s k = M at *
  generalize hU : wtxt s k = U at *
  have HH := Lib.hid (And.intro (And.intro hL hT) (And.intro hM hU))
  clear hL hT hM hU
  rcases HC with ⟨rfl, rfl, rfl, hp⟩ | ⟨rfl, rfl, rfl⟩ | ⟨rfl, rfl, hp, hne⟩
  · go_enter Try.func4, Try.ntmps4
    go_wp2_with fail
    refine (awake5_any _).mono ?_
    rintro e w1 ⟨rfl, hb1⟩
    go_wp2_with fail
    refine (HF.out _).mono ?_
    rintro e w' ⟨rfl, rfl⟩
    go_wp2_with fail
    refine (Unquote_any s _ (by omega)).mono ?_
    rintro e w2 ⟨rfl, hb2⟩
    rw [HEE.out, HTT.out]
    have HB2 := Lib.hid (below_then hb1 hb2)
    clear hb1 hb2
    go_wp2_with fail
    refine (RFront_any s _ (by omega)).mono ?_
    rintro e w3 ⟨rfl, n3, rfl⟩
    rw [HT0.out, HL0.out]
    have hb3 := HB2.out.trans (below_drewN _ _ n3)
    have HB3 := Lib.hid hb3
    clear hb3 HB2
    go_wp2_with fail
    refine (New_any s _).mono ?_
    rintro e w4 ⟨rfl, hw4⟩
    have hsc4 := scn_new s (w2.drewN n3)
    rw [← hw4] at hsc4
    have hb4 : Below w.heap.size w w4 := by rw [hw4]; exact HB3.out.alloc HB3.out.size _
    have hz4 : w4.heap.size = (w2.drewN n3).heap.size + 1 := by rw [hw4]; simp
    have hz3 := HB3.out.size
    have HS4 : Hid (IsScan (.pointer (some ⟨(w2.drewN n3).heap.size, 0, none⟩)) s 0 w4) := .inr ⟨_, rfl, hsc4⟩
    have HB4 := Lib.hid hb4
    clear hw4 hsc4 hb4 HB3
    generalize hcb : (w2.drewN n3).heap.size = c at *
    go_wp2_with fail
    refine (New_any s _).mono ?_
    rintro e w5 ⟨rfl, hw5⟩
    have hsc5 := scn_new s w4
    rw [← hw5] at hsc5
    have hb5 : Below w.heap.size w w5 := by rw [hw5]; exact HB4.out.alloc HB4.out.size _
    have hz5 := HB4.out.size
    rw [hz4] at hsc5
    have HD5 : Hid (IsScan (.pointer (some ⟨c + 1, 0, none⟩)) s 0 w5) := .inr ⟨_, rfl, hsc5⟩
    have HC5 : Hid (IsScan (.pointer (some ⟨c, 0, none⟩)) s 0 w5) := HS4.out.below (by rw [hw5]; exact (Below.refl _ _).alloc (Nat.le_refl _) _)
    have HB5 := Lib.hid hb5
    have hlt5 : c < w5.heap.size ∧ c + 1 < w5.heap.size := by rw [hw5]; simp; omega
    clear hw5 hsc5 hb5 HB4 HS4
    have hcd : c ≠ c + 1 := by omega
    go_wp2_with fail
    refine (Text_front _ s k _ HC5.out HSM.out hks).mono ?_
    rintro e w6 ⟨rfl, hs6, hk6⟩
    have HC6 := Lib.hid hs6
    have HD6 := Lib.hid (kept_other HD5.out hk6 hcd)
    have HB6 := Lib.hid (HB5.out.trans ((below_of_own hk6 (by omega)).mono (by omega)))
    have hg6 := hk6.size
    clear hs6 hk6 HC5 HD5 HB5
    go_wp2_with fail
    refine (Text_front _ s k _ HD6.out HSM.out hks).mono ?_
    rintro e w7 ⟨rfl, hs7, hk7⟩
    have HD7 := Lib.hid hs7
    have HC7 := Lib.hid (kept_other HC6.out hk7 hcd.symm)
    have HB7 := Lib.hid (HB6.out.trans ((below_of_own hk7 (by omega)).mono (by omega)))
    have hg7 := hk7.size
    clear hs7 hk7 HC6 HD6 HB6
    go_wp2_with fail
    refine (Read_v _ s k _ HC7.out (by omega)).mono ?_
    rintro e w8 ⟨rfl, hs8, hk8⟩
    rw [e1.out, HH.out.1.2]
    rw [HH.out.1.1] at hs8
    have HC8 := Lib.hid hs8
    have HD8 := Lib.hid (kept_other HD7.out hk8 hcd)
    have HB8 := Lib.hid (HB7.out.trans ((below_of_own hk8 (by omega)).mono (by omega)))
    have hg8 := hk8.size
    clear hs8 hk8 HC7 HD7 HB7
    go_wp2_with fail
    refine (RFront_any (restS s k) _ HRZ.out).mono ?_
    rintro e w9 ⟨rfl, n9, rfl⟩
    rw [e3.out, HH.out.1.1, HH.out.1.2]
    have HC9 := Lib.hid (HC8.out.below (below_drewN _ _ n9))
    have HD9 := Lib.hid (HD8.out.below (below_drewN _ _ n9))
    have HB9 := Lib.hid (HB8.out.trans (below_drewN _ _ n9))
    clear HC8 HD8 HB8
    go_wp2_with fail
    refine (Word_v _ s k _ HD9.out (by omega)).mono ?_
    rintro e w10 ⟨rfl, hs10, hk10⟩
    rw [e2.out, HH.out.2.2]
    rw [HH.out.2.1] at hs10
    have HD10 := Lib.hid hs10
    have HC10 := Lib.hid (kept_other HC9.out hk10 hcd.symm)
    have HB10 := Lib.hid (HB9.out.trans ((below_of_own hk10 (by simp; omega)).mono (by omega)))
    clear hs10 hk10 HC9 HD9 HB9
    go_wp2_with fail
    refine (RWord_any (restS s k) _ HRZ.out).mono ?_
    rintro e w11 ⟨rfl, hb11⟩
    rw [e4.out.1, e4.out.2]
    have HC11 := Lib.hid (HC10.out.below hb11)
    have HD11 := Lib.hid (HD10.out.below hb11)
    have HB11 := Lib.hid (below_then HB10.out hb11)
    clear hb11 HC10 HD10 HB10
    go_wp2_with fail
    refine (At_v _ s _ _ HC11.out).mono ?_
    rintro e w' ⟨rfl, rfl⟩
    go_wp2_with fail
    refine (At_v _ s _ _ HD11.out).mono ?_
    rintro e w' ⟨rfl, rfl⟩
    go_wp2_with fail
    go_ret
    exact ⟨by first | rfl | simp, HB11.out⟩
  · go_enter Try.func4, Try.ntmps4
    go_wp2_with fail
    refine (awake5_any _).mono ?_
    rintro e w1 ⟨rfl, hb1⟩
    go_wp2_with fail
    refine (HF.out _).mono ?_
    rintro e w' ⟨rfl, rfl⟩
    go_wp2_with fail
    refine (Unquote_any s _ (by omega)).mono ?_
    rintro e w2 ⟨rfl, hb2⟩
    rw [HEE.out, HTT.out]
    have HB2 := Lib.hid (below_then hb1 hb2)
    clear hb1 hb2
    go_wp2_with fail
    refine (RFront_any s _ (by omega)).mono ?_
    rintro e w3 ⟨rfl, n3, rfl⟩
    rw [HT0.out, HL0.out]
    have hb3 := HB2.out.trans (below_drewN _ _ n3)
    have HB3 := Lib.hid hb3
    clear hb3 HB2
    go_wp2_with fail
    refine (New_any s _).mono ?_
    rintro e w4 ⟨rfl, hw4⟩
    have hsc4 := scn_new s (w2.drewN n3)
    rw [← hw4] at hsc4
    have hb4 : Below w.heap.size w w4 := by rw [hw4]; exact HB3.out.alloc HB3.out.size _
    have hz4 : w4.heap.size = (w2.drewN n3).heap.size + 1 := by rw [hw4]; simp
    have hz3 := HB3.out.size
    have HS4 : Hid (IsScan (.pointer (some ⟨(w2.drewN n3).heap.size, 0, none⟩)) s 0 w4) := .inr ⟨_, rfl, hsc4⟩
    have HB4 := Lib.hid hb4
    clear hw4 hsc4 hb4 HB3
    generalize hcb : (w2.drewN n3).heap.size = c at *
    go_wp2_with fail
    refine (New_any s _).mono ?_
    rintro e w5 ⟨rfl, hw5⟩
    have hsc5 := scn_new s w4
    rw [← hw5] at hsc5
    have hb5 : Below w.heap.size w w5 := by rw [hw5]; exact HB4.out.alloc HB4.out.size _
    have hz5 := HB4.out.size
    rw [hz4] at hsc5
    have HD5 : Hid (IsScan (.pointer (some ⟨c + 1, 0, none⟩)) s 0 w5) := .inr ⟨_, rfl, hsc5⟩
    have HC5 : Hid (IsScan (.pointer (some ⟨c, 0, none⟩)) s 0 w5) := HS4.out.below (by rw [hw5]; exact (Below.refl _ _).alloc (Nat.le_refl _) _)
    have HB5 := Lib.hid hb5
    have hlt5 : c < w5.heap.size ∧ c + 1 < w5.heap.size := by rw [hw5]; simp; omega
    clear hw5 hsc5 hb5 HB4 HS4
    have hcd : c ≠ c + 1 := by omega
    go_wp2_with fail
    refine (Text_front _ s k _ HC5.out HSM.out hks).mono ?_
    rintro e w6 ⟨rfl, hs6, hk6⟩
    have HC6 := Lib.hid hs6
    have HD6 := Lib.hid (kept_other HD5.out hk6 hcd)
    have HB6 := Lib.hid (HB5.out.trans ((below_of_own hk6 (by omega)).mono (by omega)))
    have hg6 := hk6.size
    clear hs6 hk6 HC5 HD5 HB5
    go_wp2_with fail
    refine (Text_front _ s k _ HD6.out HSM.out hks).mono ?_
    rintro e w7 ⟨rfl, hs7, hk7⟩
    have HD7 := Lib.hid hs7
    have HC7 := Lib.hid (kept_other HC6.out hk7 hcd.symm)
    have HB7 := Lib.hid (HB6.out.trans ((below_of_own hk7 (by omega)).mono (by omega)))
    have hg7 := hk7.size
    clear hs7 hk7 HC6 HD6 HB6
    go_wp2_with fail
    refine (Read_v _ s k _ HC7.out (by omega)).mono ?_
    rintro e w8 ⟨rfl, hs8, hk8⟩
    rw [e1.out, HH.out.1.2]
    rw [HH.out.1.1] at hs8
    have HC8 := Lib.hid hs8
    have HD8 := Lib.hid (kept_other HD7.out hk8 hcd)
    have HB8 := Lib.hid (HB7.out.trans ((below_of_own hk8 (by omega)).mono (by omega)))
    have hg8 := hk8.size
    clear hs8 hk8 HC7 HD7 HB7
    go_wp2_with fail
    refine (RFront_any (restS s k) _ HRZ.out).mono ?_
    rintro e w9 ⟨rfl, n9, rfl⟩
    rw [e3.out, HH.out.1.1, HH.out.1.2]
    have HC9 := Lib.hid (HC8.out.below (below_drewN _ _ n9))
    have HD9 := Lib.hid (HD8.out.below (below_drewN _ _ n9))
    have HB9 := Lib.hid (HB8.out.trans (below_drewN _ _ n9))
    clear HC8 HD8 HB8
    go_wp2_with fail
    refine (Word_v _ s k _ HD9.out (by omega)).mono ?_
    rintro e w10 ⟨rfl, hs10, hk10⟩
    rw [e2.out, HH.out.2.2]
    rw [HH.out.2.1] at hs10
    have HD10 := Lib.hid hs10
    have HC10 := Lib.hid (kept_other HC9.out hk10 hcd.symm)
    have HB10 := Lib.hid (HB9.out.trans ((below_of_own hk10 (by simp; omega)).mono (by omega)))
    clear hs10 hk10 HC9 HD9 HB9
    go_wp2_with fail
    refine (RWord_any (restS s k) _ HRZ.out).mono ?_
    rintro e w11 ⟨rfl, hb11⟩
    rw [e4.out.1, e4.out.2]
    have HC11 := Lib.hid (HC10.out.below hb11)
    have HD11 := Lib.hid (HD10.out.below hb11)
    have HB11 := Lib.hid (below_then HB10.out hb11)
    clear hb11 HC10 HD10 HB10
    go_wp2_with fail
    refine (At_v _ s _ _ HC11.out).mono ?_
    rintro e w' ⟨rfl, rfl⟩
    go_wp2_with fail
    refine (At_v _ s _ _ HD11.out).mono ?_
    rintro e w' ⟨rfl, rfl⟩
    go_wp2_with fail
    go_ret
    exact ⟨by first | rfl | simp, HB11.out⟩
  · have hq : ((L0 : Int) == (s.size : Int)) = false := by rw [beq_eq_false_iff_ne]; omega
    go_enter Try.func4, Try.ntmps4
    go_wp2_with fail
    refine (awake5_any _).mono ?_
    rintro e w1 ⟨rfl, hb1⟩
    go_wp2_with fail
    refine (HF.out _).mono ?_
    rintro e w' ⟨rfl, rfl⟩
    go_wp2_with fail
    refine (Unquote_any s _ (by omega)).mono ?_
    rintro e w2 ⟨rfl, hb2⟩
    rw [HEE.out, HTT.out]
    have HB2 := Lib.hid (below_then hb1 hb2)
    clear hb1 hb2
    go_wp2_with fail
    refine (RFront_any s _ (by omega)).mono ?_
    rintro e w3 ⟨rfl, n3, rfl⟩
    rw [HT0.out, HL0.out]
    have hb3 := HB2.out.trans (below_drewN _ _ n3)
    have HB3 := Lib.hid hb3
    clear hb3 HB2
    go_wp2_with fail
    refine (New_any s _).mono ?_
    rintro e w4 ⟨rfl, hw4⟩
    have hsc4 := scn_new s (w2.drewN n3)
    rw [← hw4] at hsc4
    have hb4 : Below w.heap.size w w4 := by rw [hw4]; exact HB3.out.alloc HB3.out.size _
    have hz4 : w4.heap.size = (w2.drewN n3).heap.size + 1 := by rw [hw4]; simp
    have hz3 := HB3.out.size
    have HS4 : Hid (IsScan (.pointer (some ⟨(w2.drewN n3).heap.size, 0, none⟩)) s 0 w4) := .inr ⟨_, rfl, hsc4⟩
    have HB4 := Lib.hid hb4
    clear hw4 hsc4 hb4 HB3
    generalize hcb : (w2.drewN n3).heap.size = c at *
    go_wp2_with fail
    refine (New_any s _).mono ?_
    rintro e w5 ⟨rfl, hw5⟩
    have hsc5 := scn_new s w4
    rw [← hw5] at hsc5
    have hb5 : Below w.heap.size w w5 := by rw [hw5]; exact HB4.out.alloc HB4.out.size _
    have hz5 := HB4.out.size
    rw [hz4] at hsc5
    have HD5 : Hid (IsScan (.pointer (some ⟨c + 1, 0, none⟩)) s 0 w5) := .inr ⟨_, rfl, hsc5⟩
    have HC5 : Hid (IsScan (.pointer (some ⟨c, 0, none⟩)) s 0 w5) := HS4.out.below (by rw [hw5]; exact (Below.refl _ _).alloc (Nat.le_refl _) _)
    have HB5 := Lib.hid hb5
    have hlt5 : c < w5.heap.size ∧ c + 1 < w5.heap.size := by rw [hw5]; simp; omega
    clear hw5 hsc5 hb5 HB4 HS4
    have hcd : c ≠ c + 1 := by omega
    go_wp2_with fail
    refine (Text_front _ s k _ HC5.out HSM.out hks).mono ?_
    rintro e w6 ⟨rfl, hs6, hk6⟩
    have HC6 := Lib.hid hs6
    have HD6 := Lib.hid (kept_other HD5.out hk6 hcd)
    have HB6 := Lib.hid (HB5.out.trans ((below_of_own hk6 (by omega)).mono (by omega)))
    have hg6 := hk6.size
    clear hs6 hk6 HC5 HD5 HB5
    go_wp2_with fail
    refine (Text_front _ s k _ HD6.out HSM.out hks).mono ?_
    rintro e w7 ⟨rfl, hs7, hk7⟩
    have HD7 := Lib.hid hs7
    have HC7 := Lib.hid (kept_other HC6.out hk7 hcd.symm)
    have HB7 := Lib.hid (HB6.out.trans ((below_of_own hk7 (by omega)).mono (by omega)))
    have hg7 := hk7.size
    clear hs7 hk7 HC6 HD6 HB6
    go_wp2_with fail
    refine (Read_v _ s k _ HC7.out (by omega)).mono ?_
    rintro e w8 ⟨rfl, hs8, hk8⟩
    rw [e1.out, HH.out.1.2]
    rw [HH.out.1.1] at hs8
    have HC8 := Lib.hid hs8
    have HD8 := Lib.hid (kept_other HD7.out hk8 hcd)
    have HB8 := Lib.hid (HB7.out.trans ((below_of_own hk8 (by omega)).mono (by omega)))
    have hg8 := hk8.size
    clear hs8 hk8 HC7 HD7 HB7
    go_wp2_with fail
    refine (RFront_any (restS s k) _ HRZ.out).mono ?_
    rintro e w9 ⟨rfl, n9, rfl⟩
    rw [e3.out, HH.out.1.1, HH.out.1.2]
    have HC9 := Lib.hid (HC8.out.below (below_drewN _ _ n9))
    have HD9 := Lib.hid (HD8.out.below (below_drewN _ _ n9))
    have HB9 := Lib.hid (HB8.out.trans (below_drewN _ _ n9))
    clear HC8 HD8 HB8
    go_wp2_with fail
    refine (Word_v _ s k _ HD9.out (by omega)).mono ?_
    rintro e w10 ⟨rfl, hs10, hk10⟩
    rw [e2.out, HH.out.2.2]
    rw [HH.out.2.1] at hs10
    have HD10 := Lib.hid hs10
    have HC10 := Lib.hid (kept_other HC9.out hk10 hcd.symm)
    have HB10 := Lib.hid (HB9.out.trans ((below_of_own hk10 (by simp; omega)).mono (by omega)))
    clear hs10 hk10 HC9 HD9 HB9
    go_wp2_with fail
    refine (RWord_any (restS s k) _ HRZ.out).mono ?_
    rintro e w11 ⟨rfl, hb11⟩
    rw [e4.out.1, e4.out.2]
    have HC11 := Lib.hid (HC10.out.below hb11)
    have HD11 := Lib.hid (HD10.out.below hb11)
    have HB11 := Lib.hid (below_then HB10.out hb11)
    clear hb11 HC10 HD10 HB10
    go_wp2_with fail
    refine (At_v _ s _ _ HC11.out).mono ?_
    rintro e w' ⟨rfl, rfl⟩
    go_wp2_with fail
    refine (At_v _ s _ _ HD11.out).mono ?_
    rintro e w' ⟨rfl, rfl⟩
    go_wp2_with fail
    go_ret
    exact ⟨by first | rfl | simp, HB11.out⟩
end Go.Proofs.Ytllheaidkapblaa
