/- The walk of the law PathDots. -/
import Derived.Test.YtakeicaeccbbiaaDoorPqK
import Derived.Test.YtakeicaeccbbiaaDoorPqJ
namespace Go.Proofs.YtakeicaeccbbiaaDoor
open Go.RowKit

set_option maxRecDepth 8000 in
set_option maxHeartbeats 4000000 in
theorem dots9_core (s : ByteArray) (w : World) (hs : s.size ≤ maxLen) (hm : MaxL w) :
    Calls Tryd.prog 5 #[.string s] w fun e w' => e = .returned (.bool true) ∧ Below w.heap.size w w' := by
  have HA := Lib.hid (awake9_any w hm)
  have HF := Lib.hid (fun w1 => few9_any s w1 hs)
  have htz := few9_size s
  generalize few9 s = t at *
  have hd0 := fun w1 => PDots_any t w1 (by omega)
  have hrp := fun w1 => RPPath_any t w1 (by omega)
  have hl : t.data.toList.length = t.size := by simp
  clear hm hs
  cases hp : Pq.pathL t.data.toList
  · have hv : dotsV t.data.toList = .tuple #[.string ⟨#[]⟩, .int .i64 2] := by unfold dotsV Pq.dotsR; rw [hp]; rfl
    rw [hv] at hd0
    rw [hp] at hrp
    have HD := Lib.hid hd0
    have HRP := Lib.hid hrp
    clear hd0 hrp hv hp
    go_enter Tryd.func5, Tryd.ntmps5
    go_wp2_with fail
    refine HA.out.mono ?_
    rintro e w1 ⟨rfl, hb1⟩
    have HB1 := Lib.hid hb1
    clear hb1
    go_wp2_with fail
    refine (HF.out _).mono ?_
    rintro e w2 ⟨rfl, hw2⟩
    subst hw2
    go_wp2_with fail
    refine (HD.out _).mono ?_
    rintro e w3 ⟨rfl, hb3⟩
    have HB3 := Lib.hid (HB1.out.trans (hb3.mono HB1.out.size))
    clear hb3
    go_wp2_with fail
    refine (HRP.out _).mono ?_
    rintro e w4 ⟨rfl, rfl⟩
    go_wp2_with fail
    go_ret
    exact ⟨rfl, HB3.out⟩
  · obtain ⟨K, hK0, hKc, hdf, hpd, hdd, hpp⟩ := Pq.dots_back hp
    obtain ⟨r, hr, -⟩ := Pq.path_form hp
    have hdl := Pq.dots_len hp
    have hv : dotsV t.data.toList = .tuple #[.string ⟨(Pq.dotsL t.data.toList).toArray⟩, .int .i64 0] := by unfold dotsV Pq.dotsR; rw [hp]; rfl
    have hrd := fun w1 => RPDots_any t r hr w1 (by omega) hp
    obtain ⟨D, hD⟩ : ∃ D, (⟨(Pq.dotsL t.data.toList).toArray⟩ : ByteArray) = D := ⟨_, rfl⟩
    have hDl : D.data.toList = Pq.dotsL t.data.toList := by rw [← hD]
    have hDs : D.size ≤ 201 := by
      have e1 : D.data.toList.length = D.size := by simp
      rw [hDl] at e1
      omega
    have hv2 : dotsV D.data.toList = .tuple #[.string D, .int .i64 0] := by
      unfold dotsV Pq.dotsR
      rw [hDl, hpd, if_pos rfl, hdd, hD]
    rw [hD] at hv hrd
    rw [hv] at hd0
    rw [hp] at hrp
    have hd1 := fun w1 => PDots_any D w1 (by omega)
    rw [hv2] at hd1
    have HPa := Lib.hid (fun w1 => Parts_any D 47 47 rfl w1 (by omega))
    rw [← hDl] at hpp
    have hpl := Hp.ptxt_len 47 D (by omega)
    have hpf := Hp.ptxt_few 47 D (by omega)
    have hat0 := Hp.ptxt_at 47 D (by omega)
    rw [hpp] at hat0 hpl
    have hclean : ∀ k, k < (Hp.ptxt 47 D).length → (((Hp.ptxt 47 D).getD k ByteArray.empty).toList == [46]) = false ∧ (((Hp.ptxt 47 D).getD k ByteArray.empty).toList == [46, 46]) = false := by
      intro k hk
      have hcl : Pq.Clean (([] :: K).getD k []) := by
        rw [Hp.getD_is _ [] k (by omega)]
        rcases List.mem_cons.1 (List.getElem_mem (l := [] :: K) (n := k) (by omega)) with e | e
        · rw [e]; exact Pq.clean_nil
        · exact hKc _ e
      rw [ByteArray.toList_eq, hat0 k hk, beq_eq_false_iff_ne, beq_eq_false_iff_ne]
      exact ⟨hcl.one, hcl.two⟩
    have HCL := Lib.hid hclean
    have HD := Lib.hid hd0
    have HD1 := Lib.hid hd1
    have HRD := Lib.hid hrd
    have HRP := Lib.hid hrp
    clear hd0 hd1 hrd hrp hv hv2 hclean hat0 hpp hpl hDl hD hdd hpd hdf hKc hK0 hdl hp hr
    generalize Hp.ptxt 47 D = L at *
    go_enter Tryd.func5, Tryd.ntmps5
    go_wp2_with fail
    refine HA.out.mono ?_
    rintro e w1 ⟨rfl, hb1⟩
    have HB1 := Lib.hid hb1
    clear hb1
    go_wp2_with fail
    refine (HF.out _).mono ?_
    rintro e w2 ⟨rfl, hw2⟩
    subst hw2
    go_wp2_with fail
    refine (HD.out _).mono ?_
    rintro e w3 ⟨rfl, hb3⟩
    have HB3 := Lib.hid (HB1.out.trans (hb3.mono HB1.out.size))
    clear hb3
    go_wp2_with fail
    refine (HRP.out _).mono ?_
    rintro e w4 ⟨rfl, rfl⟩
    go_wp2_with fail
    refine (HD1.out _).mono ?_
    rintro e w5 ⟨rfl, hb5⟩
    have HB5 := Lib.hid (HB3.out.trans (hb5.mono HB3.out.size))
    clear hb5
    go_wp2_with fail
    refine (HPa.out _).mono ?_
    rintro e w6 ⟨a, n, c, rfl, ho6, hb6⟩
    have hn6 := own_len ho6
    have HZ := Lib.hid (own_strs ho6 (by omega))
    have HB6 := Lib.hid (HB5.out.trans (hb6.mono HB5.out.size))
    clear ho6 hb6
    go_wp2_with fail
    go_loopw [8] (fun i wr => ∃ k : Nat, k ≤ n ∧ i = .int .i64 k ∧ ∃ q, wr = w6.drewN q) (fun i _ => n - (intOf i).toNat)
    case atStart => exact ⟨0, Nat.zero_le _, rfl, 0, rfl⟩
    case round =>
      obtain ⟨k, hk, rfl, q, rfl⟩ := hrel
      by_cases hlt : k < n
      · rcases HZ.out.2 with ⟨-, h0⟩ | ⟨x, rfl, hxl, hcells⟩
        · exact absurd h0 (by omega)
        have hc := hcells k hlt
        obtain ⟨c1, c2⟩ := HCL.out k (by omega)
        generalize L.getD k ByteArray.empty = g at *
        clear hcells
        go_wp2_with fail
        go_roundw
        case rel => exact ⟨k + 1, by omega, by go_num, q, rfl⟩
        case measure => simp [intOf]; omega
      · obtain rfl : k = n := by omega
        go_wp2_with fail
        refine (HRD.out _).mono ?_
        rintro e w7 ⟨rfl, hb7⟩
        have HB7 := Lib.hid ((HB6.out.trans (below_drewN _ _ q)).trans (hb7.mono (HB6.out.trans (below_drewN _ w6 q)).size))
        clear hb7
        go_wp2_with fail
        go_ret
        exact ⟨rfl, HB7.out⟩
end Go.Proofs.YtakeicaeccbbiaaDoor
