/- The walks of the laws HostKinds and HostUnder. -/
import Derived.Test.YtfjklhfmecjjkaaDoorHoV
import Derived.Test.YtfjklhfmecjjkaaDoorHoX
namespace Go.Proofs.YtfjklhfmecjjkaaDoor
open Go.RowKit

set_option maxHeartbeats 4000000 in
theorem kinds8_core (s : ByteArray) (w : World) (hs : s.size ≤ maxLen) (ht : Tx w) :
    Calls Tryd.prog 3 #[.string s] w fun e w' => e = .returned (.bool true) ∧ Below w.heap.size w w' := by
  have HA := Lib.hid (awake8_any w ht)
  have HF := Lib.hid (fun w1 => few8_any s w1 hs)
  have htz := few8_size s
  generalize few8 s = t at *
  have HN := Lib.hid (fun w1 => Name_any t w1 (by omega))
  have HRN := Lib.hid (fun w1 => RHName_any t w1 (by omega))
  have H4 := Lib.hid (fun w1 (h : Below w.heap.size w w1) => Four_any t w1 (by omega) (ht.tabs.stay h))
  have HR4 := Lib.hid (fun w1 => RFour_any t w1 (by omega))
  have H6 := Lib.hid (fun w1 (h : Below w.heap.size w w1) => Six_any t w1 (by omega) (ht.stay h))
  have HR6 := Lib.hid (fun w1 => RSix_any t w1 (by omega))
  rw [← Hp.six_eq] at HR6
  have hfn := fun h => Hp.four_name (l := t.data.toList) h
  generalize Hp.nameL t.data.toList = bn at *
  generalize Hp.fourL t.data.toList = b4 at *
  generalize Hp.sixC t.data.toList = b6 at *
  clear ht hs
  go_enter Tryd.func3, Tryd.ntmps3
  go_wp2_with fail
  refine HA.out.mono ?_
  rintro e w1 ⟨rfl, hb1⟩
  have HB1 := Lib.hid hb1
  clear hb1
  go_wp2_with fail
  refine (HF.out _).mono ?_
  rintro e w2 ⟨rfl, hw2⟩
  subst hw2
  go_wp2_with fail
  refine (HN.out _).mono ?_
  rintro e w3 ⟨rfl, hb3⟩
  have HB3 := Lib.hid (HB1.out.trans (hb3.mono HB1.out.size))
  clear hb3
  go_wp2_with fail
  refine (HRN.out _).mono ?_
  rintro e w4 ⟨rfl, rfl⟩
  go_wp2_with fail
  refine (H4.out _ HB3.out).mono ?_
  rintro e w5 ⟨rfl, hb5⟩
  have HB5 := Lib.hid (HB3.out.trans (hb5.mono HB3.out.size))
  clear hb5
  go_wp2_with fail
  refine (HR4.out _).mono ?_
  rintro e w6 ⟨rfl, hb6⟩
  have HB6 := Lib.hid (HB5.out.trans (hb6.mono HB5.out.size))
  clear hb6
  go_wp2_with fail
  refine (H6.out _ HB6.out).mono ?_
  rintro e w7 ⟨rfl, hb7⟩
  have HB7 := Lib.hid (HB6.out.trans (hb7.mono HB6.out.size))
  clear hb7
  go_wp2_with fail
  refine (HR6.out _).mono ?_
  rintro e w8 ⟨rfl, hb8⟩
  have HB8 := Lib.hid (HB7.out.trans (hb8.mono HB7.out.size))
  clear hb8
  go_wp2_with fail
  refine (H4.out _ HB8.out).mono ?_
  rintro e w9 ⟨rfl, hb9⟩
  have HB9 := Lib.hid (HB8.out.trans (hb9.mono HB8.out.size))
  clear hb9
  cases b4
  · go_wp2_with fail
    go_ret
    exact ⟨rfl, HB9.out⟩
  · have hbn : bn = true := hfn rfl
    subst hbn
    go_wp2_with fail
    refine (HN.out _).mono ?_
    rintro e w10 ⟨rfl, hb10⟩
    go_wp2_with fail
    go_ret
    exact ⟨rfl, HB9.out.trans (hb10.mono HB9.out.size)⟩
set_option maxHeartbeats 4000000 in
theorem under8_core (a b c : ByteArray) (w : World) (ha : a.size ≤ maxLen) (hb : b.size ≤ maxLen) (hc : c.size ≤ maxLen) (ht : Tx w) :
    Calls Tryd.prog 4 #[.string a, .string b, .string c] w fun e w' => e = .returned (.bool true) ∧ Below w.heap.size w w' := by
  have HA := Lib.hid (awake8_any w ht)
  have HFa := Lib.hid (fun w1 => few8_any a w1 ha)
  have HFb := Lib.hid (fun w1 => few8_any b w1 hb)
  have HFc := Lib.hid (fun w1 => few8_any c w1 hc)
  have hza := few8_size a
  have hzb := few8_size b
  have hzc := few8_size c
  generalize few8 a = A at *
  generalize few8 b = E at *
  generalize few8 c = C at *
  have H1 := Lib.hid (fun w1 (h : Below w.heap.size w w1) => HUnder_any A E w1 (by omega) (by omega) (ht.stay h))
  have H2 := Lib.hid (fun w1 (h : Below w.heap.size w w1) => HUnder_any E C w1 (by omega) (by omega) (ht.stay h))
  have H3 := Lib.hid (fun w1 (h : Below w.heap.size w w1) => HUnder_any A C w1 (by omega) (by omega) (ht.stay h))
  have HS := Lib.hid (fun w1 (h : Below w.heap.size w w1) => HUnder_any A A w1 (by omega) (by omega) (ht.stay h))
  have HR := Lib.hid (fun w1 => RHUnder_any A E w1 (by omega) (by omega))
  have HN := Lib.hid (fun w1 => RHName_any A w1 (by omega))
  have H4 := Lib.hid (fun w1 => RFour_any A w1 (by omega))
  have htr := fun h k => Hp.und_trans (a := A.data.toList) (b := E.data.toList) (c := C.data.toList) h k
  rw [Hp.und_self, Hp.isN_eq] at HS
  generalize Hp.und A.data.toList E.data.toList = x at *
  generalize Hp.und E.data.toList C.data.toList = y at *
  generalize Hp.und A.data.toList C.data.toList = z at *
  generalize Hp.nameL A.data.toList = na at *
  generalize Hp.fourL A.data.toList = fa at *
  have hxyz : (!x || !y || z) = true := by
    cases x
    · rfl
    · cases y
      · rfl
      · rw [htr rfl rfl]; rfl
  clear ht ha hb hc htr
  go_enter Tryd.func4, Tryd.ntmps4
  go_wp2_with fail
  refine HA.out.mono ?_
  rintro e w1 ⟨rfl, hb1⟩
  have HB1 := Lib.hid hb1
  clear hb1
  go_wp2_with fail
  refine (HFa.out _).mono ?_
  rintro e w2 ⟨rfl, hw2⟩
  subst hw2
  go_wp2_with fail
  refine (HFb.out _).mono ?_
  rintro e w3 ⟨rfl, hw3⟩
  subst hw3
  go_wp2_with fail
  refine (HFc.out _).mono ?_
  rintro e w4 ⟨rfl, hw4⟩
  subst hw4
  go_wp2_with fail
  refine (H1.out _ HB1.out).mono ?_
  rintro e w5 ⟨rfl, hb5⟩
  have HB5 := Lib.hid (HB1.out.trans (hb5.mono HB1.out.size))
  clear hb5
  go_wp2_with fail
  refine (H2.out _ HB5.out).mono ?_
  rintro e w6 ⟨rfl, hb6⟩
  have HB6 := Lib.hid (HB5.out.trans (hb6.mono HB5.out.size))
  clear hb6
  go_wp2_with fail
  refine (H3.out _ HB6.out).mono ?_
  rintro e w7 ⟨rfl, hb7⟩
  have HB7 := Lib.hid (HB6.out.trans (hb7.mono HB6.out.size))
  clear hb7
  go_wp2_with fail
  refine (HR.out _).mono ?_
  rintro e w8 ⟨rfl, hb8⟩
  have HB8 := Lib.hid (HB7.out.trans (hb8.mono HB7.out.size))
  clear hb8
  cases x
  · clear hxyz
    go_wp2_with fail
    refine (HS.out _ HB8.out).mono ?_
    rintro e w9 ⟨rfl, hb9⟩
    have HB9 := Lib.hid (HB8.out.trans (hb9.mono HB8.out.size))
    clear hb9
    go_wp2_with fail
    refine (HN.out _).mono ?_
    rintro e w10 ⟨rfl, rfl⟩
    cases na
    · go_wp2_with fail
      go_ret
      exact ⟨rfl, HB9.out⟩
    · go_wp2_with fail
      refine (H4.out _).mono ?_
      rintro e w11 ⟨rfl, hb11⟩
      have HB11 := Lib.hid (HB9.out.trans (hb11.mono HB9.out.size))
      clear hb11
      cases fa
      · go_wp2_with fail
        go_ret
        exact ⟨rfl, HB11.out⟩
      · go_wp2_with fail
        go_ret
        exact ⟨rfl, HB11.out⟩
  · cases y
    · clear hxyz
      go_wp2_with fail
      refine (HS.out _ HB8.out).mono ?_
      rintro e w9 ⟨rfl, hb9⟩
      have HB9 := Lib.hid (HB8.out.trans (hb9.mono HB8.out.size))
      clear hb9
      go_wp2_with fail
      refine (HN.out _).mono ?_
      rintro e w10 ⟨rfl, rfl⟩
      cases na
      · go_wp2_with fail
        go_ret
        exact ⟨rfl, HB9.out⟩
      · go_wp2_with fail
        refine (H4.out _).mono ?_
        rintro e w11 ⟨rfl, hb11⟩
        have HB11 := Lib.hid (HB9.out.trans (hb11.mono HB9.out.size))
        clear hb11
        cases fa
        · go_wp2_with fail
          go_ret
          exact ⟨rfl, HB11.out⟩
        · go_wp2_with fail
          go_ret
          exact ⟨rfl, HB11.out⟩
    · have hz : z = true := by simpa using hxyz
      subst hz
      clear hxyz
      go_wp2_with fail
      refine (HS.out _ HB8.out).mono ?_
      rintro e w9 ⟨rfl, hb9⟩
      have HB9 := Lib.hid (HB8.out.trans (hb9.mono HB8.out.size))
      clear hb9
      go_wp2_with fail
      refine (HN.out _).mono ?_
      rintro e w10 ⟨rfl, rfl⟩
      cases na
      · go_wp2_with fail
        go_ret
        exact ⟨rfl, HB9.out⟩
      · go_wp2_with fail
        refine (H4.out _).mono ?_
        rintro e w11 ⟨rfl, hb11⟩
        have HB11 := Lib.hid (HB9.out.trans (hb11.mono HB9.out.size))
        clear hb11
        cases fa
        · go_wp2_with fail
          go_ret
          exact ⟨rfl, HB11.out⟩
        · go_wp2_with fail
          go_ret
          exact ⟨rfl, HB11.out⟩
end Go.Proofs.YtfjklhfmecjjkaaDoor
