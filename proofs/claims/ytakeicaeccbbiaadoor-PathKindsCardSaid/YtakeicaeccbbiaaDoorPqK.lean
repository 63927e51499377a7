/- Layer 9's page: its example; few; and the walks of the laws PathKinds and PathCuts. -/
import Derived.Test.YtakeicaeccbbiaaDoorPqH
import Derived.Test.YtakeicaeccbbiaaDoorPqI
namespace Go.Proofs.YtakeicaeccbbiaaDoor
open Go.RowKit

def few9 (s : ByteArray) : ByteArray := s.extract 0 (min s.size 200)
theorem few9_size (s : ByteArray) : (few9 s).size ≤ 200 := by unfold few9; simp [ByteArray.size_extract]; omega
set_option maxRecDepth 20000 in
theorem few9_any (s : ByteArray) (w : World) (hs : s.size ≤ maxLen) :
    Calls Tryd.prog 7 #[.string s] w fun e w' => e = .returned (.string (few9 s)) ∧ w' = w := by
  unfold maxLen at hs
  obtain ⟨k, hk⟩ : ∃ k : Nat, min (s.size : Int) 200 = (k : Int) := ⟨min s.size 200, by omega⟩
  have hk2 : min s.size 200 = k := by omega
  have hk3 : k ≤ s.size := by omega
  unfold few9
  rw [hk2]
  clear hk2
  go_enter Tryd.func7, Tryd.ntmps7
  go_wp2_with fail
  go_ret
  exact ⟨rfl, rfl⟩
theorem MaxL.at_below {w w' : World} (h : MaxL w) (hb : Below w.heap.size w w') : MaxL w' := h.stay hb
namespace Pq
theorem aw_cut : cutL [47, 97, 47, 46, 47, 98, 47, 46, 46, 47, 99, 63, 120] = ([47, 97, 47, 46, 47, 98, 47, 46, 46, 47, 99], [120], true, 0) := by decide +kernel
theorem aw_dots : dotsR [47, 97, 47, 46, 47, 98, 47, 46, 46, 47, 99] = ([47, 97, 47, 99], 0) := by decide +kernel
end Pq
set_option maxHeartbeats 1600000 in
theorem awake9_any (w : World) (hm : MaxL w) : Calls Tryd.prog 6 #[] w fun e w' => e = .returned (.bool true) ∧ Below w.heap.size w w' := by
  have HC := Lib.hid (PCut_any ⟨#[47, 97, 47, 46, 47, 98, 47, 46, 46, 47, 99, 63, 120]⟩ w (by decide) hm)
  have HD := Lib.hid (fun w1 => PDots_any ⟨#[47, 97, 47, 46, 47, 98, 47, 46, 46, 47, 99]⟩ w1 (by decide))
  unfold cutV at HC
  unfold dotsV at HD
  rw [show (⟨#[47, 97, 47, 46, 47, 98, 47, 46, 46, 47, 99, 63, 120]⟩ : ByteArray).data.toList = [47, 97, 47, 46, 47, 98, 47, 46, 46, 47, 99, 63, 120] from rfl, Pq.aw_cut] at HC
  rw [show (⟨#[47, 97, 47, 46, 47, 98, 47, 46, 46, 47, 99]⟩ : ByteArray).data.toList = [47, 97, 47, 46, 47, 98, 47, 46, 46, 47, 99] from rfl, Pq.aw_dots] at HD
  clear hm
  go_enter Tryd.func6, Tryd.ntmps6
  go_wp2_with fail
  refine HC.out.mono ?_
  rintro e w1 ⟨rfl, hb1⟩
  have HB1 := Lib.hid hb1
  clear hb1
  go_wp2_with fail
  refine (HD.out _).mono ?_
  rintro e w2 ⟨rfl, hb2⟩
  have HB2 := Lib.hid (HB1.out.trans (hb2.mono HB1.out.size))
  clear hb2
  go_wp2_with fail
  go_ret
  exact ⟨rfl, HB2.out⟩
set_option maxHeartbeats 1600000 in
theorem kinds9_core (s : ByteArray) (w : World) (hs : s.size ≤ maxLen) (hm : MaxL w) :
    Calls Tryd.prog 3 #[.string s] w fun e w' => e = .returned (.bool true) ∧ Below w.heap.size w w' := by
  have HA := Lib.hid (awake9_any w hm)
  have HF := Lib.hid (fun w1 => few9_any s w1 hs)
  have htz := few9_size s
  generalize few9 s = t at *
  have HP := Lib.hid (fun w1 => PPath_any t w1 (by omega))
  have HRP := Lib.hid (fun w1 => RPPath_any t w1 (by omega))
  have HQ := Lib.hid (fun w1 => PQuery_any t w1 (by omega))
  have HRQ := Lib.hid (fun w1 => RPQuery_any t w1 (by omega))
  generalize Pq.pathL t.data.toList = b1 at *
  generalize Pq.queryL t.data.toList = b2 at *
  clear hm hs
  go_enter Tryd.func3, Tryd.ntmps3
  go_wp2_with fail
  refine HA.out.mono ?_
  rintro e w1 ⟨rfl, hb1⟩
  have HB1 := Lib.hid hb1
  clear hb1
  go_wp2_with fail
  refine (HF.out _).mono ?_
  rintro e w2 ⟨rfl, hw2⟩
  subst hw2
  go_wp2_with fail
  refine (HP.out _).mono ?_
  rintro e w3 ⟨rfl, hb3⟩
  have HB3 := Lib.hid (HB1.out.trans (hb3.mono HB1.out.size))
  clear hb3
  go_wp2_with fail
  refine (HRP.out _).mono ?_
  rintro e w4 ⟨rfl, rfl⟩
  go_wp2_with fail
  refine (HQ.out _).mono ?_
  rintro e w5 ⟨rfl, hb5⟩
  have HB5 := Lib.hid (HB3.out.trans (hb5.mono HB3.out.size))
  clear hb5
  go_wp2_with fail
  refine (HRQ.out _).mono ?_
  rintro e w6 ⟨rfl, rfl⟩
  go_wp2_with fail
  go_ret
  exact ⟨rfl, HB5.out⟩
namespace Pq
theorem arr_ext (t : ByteArray) (n : Nat) : (⟨(t.data.toList.take n).toArray⟩ : ByteArray) = t.extract 0 n := bytes_eq (by rw [Hp.ext_start])
theorem arr_end (t : ByteArray) (n : Nat) : (⟨(t.data.toList.drop n).toArray⟩ : ByteArray) = t.extract n t.size := bytes_eq (by rw [Hp.ext_end])
theorem mark_byte : ∀ (l : List UInt8), markN l < l.length → l = l.take (markN l) ++ 63 :: l.drop (markN l + 1)
  | [], h => by cases h
  | c :: r, h => by
    unfold markN at h ⊢
    by_cases hc : c = 63
    · rw [if_pos hc, hc]; rfl
    · rw [if_neg hc] at h ⊢
      have := mark_byte r (by simpa using h)
      rw [List.take_succ_cons, List.drop_succ_cons, List.cons_append, ← this]
end Pq
theorem cutV_yes {l : List UInt8} (h1 : Pq.pathL (l.take (Pq.markN l)) = true) (h2 : Pq.queryL (l.drop (Pq.markN l + 1)) = true) : cutV l = .tuple #[.string ⟨(l.take (Pq.markN l)).toArray⟩, .string ⟨(l.drop (Pq.markN l + 1)).toArray⟩, .bool (decide (Pq.markN l < l.length)), .int .i64 0] := by
  unfold cutV Pq.cutL
  rw [if_pos (by rw [h1, h2]; rfl)]
theorem cutV_no {l : List UInt8} (h : (Pq.pathL (l.take (Pq.markN l)) && Pq.queryL (l.drop (Pq.markN l + 1))) = false) : cutV l = .tuple #[.string ⟨#[]⟩, .string ⟨#[]⟩, .bool false, .int .i64 2] := by
  unfold cutV Pq.cutL
  rw [if_neg (by rw [h]; simp)]
set_option maxRecDepth 8000 in
set_option maxHeartbeats 4000000 in
theorem cuts9_core (s : ByteArray) (w : World) (hs : s.size ≤ maxLen) (hm : MaxL w) :
    Calls Tryd.prog 4 #[.string s] w fun e w' => e = .returned (.bool true) ∧ Below w.heap.size w w' := by
  have HA := Lib.hid (awake9_any w hm)
  have HF := Lib.hid (fun w1 => few9_any s w1 hs)
  have htz := few9_size s
  generalize few9 s = t at *
  have hc0 := fun w1 (h : Below w.heap.size w w1) => PCut_any t w1 (by omega) (hm.stay h)
  have HM := Lib.hid (fun w1 => RMark_any t w1 (by omega))
  have hl : t.data.toList.length = t.size := by simp
  have hml := Pq.mark_le t.data.toList
  have hmb := Pq.mark_byte t.data.toList
  have hyes := @cutV_yes t.data.toList
  have hno := @cutV_no t.data.toList
  have hRP := fun w1 => RPPath_any (t.extract 0 (Pq.markN t.data.toList)) w1 (by simp [ByteArray.size_extract]; omega)
  have hRQ := fun w1 => RPQuery_any (t.extract (Pq.markN t.data.toList + 1) t.size) w1 (by simp [ByteArray.size_extract]; omega)
  rw [Hp.ext_start] at hRP
  rw [Hp.ext_end] at hRQ
  rw [hl] at hml hmb hyes
  rw [Pq.arr_ext, Pq.arr_end] at hyes
  generalize hp1 : Pq.pathL (t.data.toList.take (Pq.markN t.data.toList)) = b1 at *
  generalize hq1 : Pq.queryL (t.data.toList.drop (Pq.markN t.data.toList + 1)) = b2 at *
  clear hp1
  generalize Pq.markN t.data.toList = N at *
  have HRP := Lib.hid hRP
  have HRQ := Lib.hid hRQ
  clear hRP hRQ hm hs
  cases b1
  · have HC := Lib.hid hc0
    rw [hno rfl] at HC
    clear hc0 hyes hno hmb hq1
    obtain ⟨P, hP⟩ : ∃ P, t.extract 0 N = P := ⟨_, rfl⟩
    rw [hP] at HRP
    go_enter Tryd.func4, Tryd.ntmps4
    go_wp2_with fail
    refine HA.out.mono ?_
    rintro e w1 ⟨rfl, hb1⟩
    have HB1 := Lib.hid hb1
    clear hb1
    go_wp2_with fail
    refine (HF.out _).mono ?_
    rintro e w2 ⟨rfl, hw2⟩
    subst hw2
    go_wp2_with fail
    refine (HC.out _ HB1.out).mono ?_
    rintro e w3 ⟨rfl, hb3⟩
    have HB3 := Lib.hid (HB1.out.trans (hb3.mono HB1.out.size))
    clear hb3
    go_wp2_with fail
    refine (HM.out _).mono ?_
    rintro e w4 ⟨rfl, rfl⟩
    go_wp2_with fail
    refine (HRP.out _).mono ?_
    rintro e w5 ⟨rfl, rfl⟩
    go_wp2_with fail
    go_ret
    exact ⟨rfl, HB3.out⟩
  · by_cases hN : N < t.size
    · have hN1 : (N : Int) < t.size := by omega
      have hN2 : (N : Int) + 1 ≤ t.size := by omega
      have hback : t.extract 0 N ++ ⟨#[63]⟩ ++ t.extract (N + 1) t.size = t := by
        apply bytes_eq
        rw [list_append, list_append, Hp.ext_start, Hp.ext_end]
        conv => rhs; rw [hmb hN]
        simp
      obtain ⟨P, hP⟩ : ∃ P, t.extract 0 N = P := ⟨_, rfl⟩
      obtain ⟨Q, hQ⟩ : ∃ Q, t.extract (N + 1) t.size = Q := ⟨_, rfl⟩
      rw [hP] at HRP hyes hback
      rw [hQ] at HRQ hyes hback
      have hPs : P.size ≤ 1000 := by rw [← hP]; simp [ByteArray.size_extract]; omega
      have hQs : Q.size ≤ 1000 := by rw [← hQ]; simp [ByteArray.size_extract]; omega
      cases b2
      · have HC := Lib.hid hc0
        rw [hno rfl] at HC
        clear hc0 hyes hno hmb hq1 hback
        go_enter Tryd.func4, Tryd.ntmps4
        go_wp2_with fail
        refine HA.out.mono ?_
        rintro e w1 ⟨rfl, hb1⟩
        have HB1 := Lib.hid hb1
        clear hb1
        go_wp2_with fail
        refine (HF.out _).mono ?_
        rintro e w2 ⟨rfl, hw2⟩
        subst hw2
        go_wp2_with fail
        refine (HC.out _ HB1.out).mono ?_
        rintro e w3 ⟨rfl, hb3⟩
        have HB3 := Lib.hid (HB1.out.trans (hb3.mono HB1.out.size))
        clear hb3
        go_wp2_with fail
        refine (HM.out _).mono ?_
        rintro e w4 ⟨rfl, rfl⟩
        go_wp2_with fail
        refine (HRP.out _).mono ?_
        rintro e w5 ⟨rfl, rfl⟩
        go_wp2_with fail
        refine (HRQ.out _).mono ?_
        rintro e w6 ⟨rfl, rfl⟩
        go_wp2_with fail
        go_ret
        exact ⟨rfl, HB3.out⟩
      · have HC := Lib.hid hc0
        rw [hyes rfl rfl, decide_eq_true hN] at HC
        have hj := fun w1 => PJoin_any P Q true w1 hPs hQs
        rw [if_pos rfl, hback] at hj
        have HJ := Lib.hid hj
        clear hc0 hyes hno hmb hq1 hback hj
        go_enter Tryd.func4, Tryd.ntmps4
        go_wp2_with fail
        refine HA.out.mono ?_
        rintro e w1 ⟨rfl, hb1⟩
        have HB1 := Lib.hid hb1
        clear hb1
        go_wp2_with fail
        refine (HF.out _).mono ?_
        rintro e w2 ⟨rfl, hw2⟩
        subst hw2
        go_wp2_with fail
        refine (HC.out _ HB1.out).mono ?_
        rintro e w3 ⟨rfl, hb3⟩
        have HB3 := Lib.hid (HB1.out.trans (hb3.mono HB1.out.size))
        clear hb3
        go_wp2_with fail
        refine (HM.out _).mono ?_
        rintro e w4 ⟨rfl, rfl⟩
        go_wp2_with fail
        refine (HRP.out _).mono ?_
        rintro e w5 ⟨rfl, rfl⟩
        go_wp2_with fail
        refine (HRQ.out _).mono ?_
        rintro e w6 ⟨rfl, rfl⟩
        go_wp2_with fail
        refine (HJ.out _).mono ?_
        rintro e w7 ⟨rfl, hw7⟩
        subst hw7
        go_wp2_with fail
        go_ret
        exact ⟨rfl, HB3.out⟩
    · obtain rfl : N = t.size := by omega
      have hb2 : b2 = true := by
        rw [← hq1, List.drop_of_length_le (by omega)]
        exact Pq.pcL_nil _
      subst hb2
      have e0 : t.extract 0 t.size = t := bytes_eq (by rw [Hp.ext_start, List.take_of_length_le (by omega)])
      have e1 : t.extract (t.size + 1) t.size = ⟨#[]⟩ := bytes_eq (by rw [Hp.ext_end, List.drop_of_length_le (by omega)])
      have HC := Lib.hid hc0
      rw [hyes rfl rfl, e0, e1, decide_eq_false (Nat.lt_irrefl _)] at HC
      rw [e0] at HRP
      have HJ := Lib.hid (fun w1 => PJoin_any t ⟨#[]⟩ false w1 (by omega) (by decide))
      clear hc0 hyes hno hmb hq1 e1
      go_enter Tryd.func4, Tryd.ntmps4
      go_wp2_with fail
      refine HA.out.mono ?_
      rintro e w1 ⟨rfl, hb1⟩
      have HB1 := Lib.hid hb1
      clear hb1
      go_wp2_with fail
      refine (HF.out _).mono ?_
      rintro e w2 ⟨rfl, hw2⟩
      subst hw2
      go_wp2_with fail
      refine (HC.out _ HB1.out).mono ?_
      rintro e w3 ⟨rfl, hb3⟩
      have HB3 := Lib.hid (HB1.out.trans (hb3.mono HB1.out.size))
      clear hb3
      go_wp2_with fail
      refine (HM.out _).mono ?_
      rintro e w4 ⟨rfl, rfl⟩
      go_wp2_with fail
      refine (HRP.out _).mono ?_
      rintro e w5 ⟨rfl, rfl⟩
      go_wp2_with fail
      refine (HJ.out _).mono ?_
      rintro e w7 ⟨rfl, hw7⟩
      subst hw7
      go_wp2_with fail
      go_ret
      exact ⟨rfl, HB3.out⟩
end Go.Proofs.YtakeicaeccbbiaaDoor
