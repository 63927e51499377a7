/- The walks of the laws HostReads and HostWrites. -/
import Derived.Test.YtfjklhfmecjjkaaGreatDoorHoU
import Derived.Test.YtfjklhfmecjjkaaGreatDoorHoV
namespace Go.Proofs.YtfjklhfmecjjkaaGreatDoor
open Go.RowKit

namespace Hp
theorem prs_small {l nm : List UInt8} {k p : Int} (h : prs l = some (k, nm, p)) : nm.length ≤ l.length ∧ p < 9223372036854775808 := by
  obtain ⟨a, h0, h1, h2, h3⟩ := (prs_iff l _).1 h
  simp only at h1 h2 h3
  subst h1 h2
  have ha : (hostL a).2.length ≤ a.length := by
    rcases host_kinds a h0 with ⟨m, rfl, -, e⟩ | ⟨-, e⟩ | ⟨-, -, e⟩ <;> rw [e] <;> simp <;> omega
  rcases h3 with ⟨rfl, rfl⟩ | ⟨d, rfl, hd, rfl⟩
  · exact ⟨ha, by decide⟩
  · obtain ⟨n, hn, -, e⟩ := okD_form hd
    rw [e]
    simp only [List.length_append, List.length_cons]
    exact ⟨by omega, by omega⟩
theorem textH_back {l nm : List UInt8} {k p : Int} (h : prs l = some (k, nm, p)) : textH k nm p = some l := by
  have e := write_back h
  rw [textH_yes (by rw [e]; exact h), e]
theorem textH_prs {X nm : List UInt8} {k p : Int} (h : textH k nm p = some X) : prs X = some (k, nm, p) := by
  unfold textH at h
  split at h
  · rename_i g
    injection h with h
    rw [← h]; exact g
  · cases h
theorem textH_le {X nm : List UInt8} {k p : Int} (hp : p < 9223372036854775808) (h : textH k nm p = some X) : X.length ≤ nm.length + 67 := by
  unfold textH at h
  split at h
  · injection h with h
    rw [← h]; exact writeL_le k p nm hp
  · cases h
end Hp
set_option maxHeartbeats 4000000 in
theorem reads8_core (s : ByteArray) (w : World) (hs : s.size ≤ maxLen) (ht : Tx w) :
    Calls Tryz.prog 3 #[.string s] w fun e w' => e = .returned (.bool true) ∧ Below w.heap.size w w' := by
  have HA := Lib.hid (awake8_any w ht)
  have HF := Lib.hid (fun w1 => few8_any s w1 hs)
  have htz := few8_size s
  generalize few8 s = t at *
  have HP := Lib.hid (fun w1 (h : Below w.heap.size w w1) => HParse_any t w1 (by omega) (ht.stay h))
  have HQ := Lib.hid (fun w1 => RHParse_any t w1 (by omega))
  rw [Hp.prs_eq] at HQ
  obtain ⟨o, ho⟩ : ∃ o, Hp.prs t.data.toList = o := ⟨_, rfl⟩
  rw [ho] at HP HQ
  cases o with
  | none =>
    have HT := Lib.hid (fun w1 (h : Below w.heap.size w w1) => HText_any 0 0 ⟨#[]⟩ w1 (by decide) (by decide) (ht.stay h))
    generalize Hp.textH 0 (⟨#[]⟩ : ByteArray).data.toList 0 = T at *
    unfold prsV at HP HQ
    unfold hostV at HP HQ HT
    simp only at HP HQ
    clear ho ht hs
    go_enter Tryz.func3, Tryz.ntmps3
    go_wp2_with fail
    refine HA.out.mono ?_
    rintro e w1 ⟨rfl, hb1⟩
    have HB1 := Lib.hid hb1
    clear hb1
    go_wp2_with fail
    refine (HF.out _).mono ?_
    rintro e w2 ⟨rfl, hw2⟩
    subst hw2
    go_wp2_with fail
    refine (HP.out _ HB1.out).mono ?_
    rintro e w3 ⟨rfl, hb3⟩
    have HB3 := Lib.hid ((HB1.out.trans (hb3.mono HB1.out.size)).alloc (Nat.le_trans HB1.out.size hb3.size) (.cells #[.int .i64 0, .string ⟨#[]⟩, .int .i64 0] 26))
    clear hb3
    go_wp2_with fail
    refine (HQ.out _).mono ?_
    rintro e w4 ⟨rfl, hb4⟩
    have x0 := below_cell hb4 (b := w3.heap.size) (i := 0) (x := some (.int .i64 0)) (by simp) (by simp [go_sem])
    have x1 := below_cell hb4 (b := w3.heap.size) (i := 1) (x := some (.string ⟨#[]⟩)) (by simp) (by simp [go_sem])
    have x2 := below_cell hb4 (b := w3.heap.size) (i := 2) (x := some (.int .i64 0)) (by simp) (by simp [go_sem])
    have hl4 : w3.heap.size < w4.heap.size := by have := hb4.size; simp at this; omega
    have HB4 := Lib.hid ((HB3.out.trans (hb4.mono HB3.out.size)).alloc (Nat.le_trans HB3.out.size hb4.size) (.cells #[.int .i64 0, .string ⟨#[]⟩, .int .i64 0] 26))
    clear hb4
    go_wp2_with fail
    refine (HT.out _ HB4.out).mono ?_
    rintro e w5 ⟨rfl, hb5⟩
    have HB5 := Lib.hid (HB4.out.trans (hb5.mono HB4.out.size))
    clear hb5
    cases T with
    | none =>
      unfold txtV
      go_wp2_with fail
      go_ret
      exact ⟨rfl, HB5.out⟩
    | some X =>
      unfold txtV
      go_wp2_with fail
      go_ret
      exact ⟨rfl, HB5.out⟩
  | some x =>
    obtain ⟨k, nm, p⟩ := x
    obtain ⟨hn1, hp1⟩ := Hp.prs_small ho
    have hlen : t.data.toList.length = t.size := by simp
    have hnz : (⟨nm.toArray⟩ : ByteArray).size ≤ 300 := by show nm.toArray.size ≤ 300; rw [List.size_toArray]; omega
    have HT := Lib.hid (fun w1 (h : Below w.heap.size w w1) => HText_any k p ⟨nm.toArray⟩ w1 hnz hp1 (ht.stay h))
    rw [Hp.ofL_list, Hp.textH_back ho] at HT
    unfold txtV at HT
    simp only at HT
    rw [Hp.ofL_self] at HT
    unfold prsV at HP HQ
    unfold hostV at HP HQ HT
    simp only at HP HQ
    generalize (⟨nm.toArray⟩ : ByteArray) = N at *
    clear ho ht hs hn1 hlen
    go_enter Tryz.func3, Tryz.ntmps3
    go_wp2_with fail
    refine HA.out.mono ?_
    rintro e w1 ⟨rfl, hb1⟩
    have HB1 := Lib.hid hb1
    clear hb1
    go_wp2_with fail
    refine (HF.out _).mono ?_
    rintro e w2 ⟨rfl, hw2⟩
    subst hw2
    go_wp2_with fail
    refine (HP.out _ HB1.out).mono ?_
    rintro e w3 ⟨rfl, hb3⟩
    have HB3 := Lib.hid ((HB1.out.trans (hb3.mono HB1.out.size)).alloc (Nat.le_trans HB1.out.size hb3.size) (.cells #[.int .i64 k, .string N, .int .i64 p] 26))
    clear hb3
    go_wp2_with fail
    refine (HQ.out _).mono ?_
    rintro e w4 ⟨rfl, hb4⟩
    have x0 := below_cell hb4 (b := w3.heap.size) (i := 0) (x := some (.int .i64 k)) (by simp) (by simp [go_sem])
    have x1 := below_cell hb4 (b := w3.heap.size) (i := 1) (x := some (.string N)) (by simp) (by simp [go_sem])
    have x2 := below_cell hb4 (b := w3.heap.size) (i := 2) (x := some (.int .i64 p)) (by simp) (by simp [go_sem])
    have hl4 : w3.heap.size < w4.heap.size := by have := hb4.size; simp at this; omega
    have HB4 := Lib.hid ((HB3.out.trans (hb4.mono HB3.out.size)).alloc (Nat.le_trans HB3.out.size hb4.size) (.cells #[.int .i64 k, .string N, .int .i64 p] 26))
    clear hb4
    go_wp2_with fail
    refine (HT.out _ HB4.out).mono ?_
    rintro e w5 ⟨rfl, hb5⟩
    have HB5 := Lib.hid (HB4.out.trans (hb5.mono HB4.out.size))
    clear hb5
    go_wp2_with fail
    go_ret
    exact ⟨rfl, HB5.out⟩
set_option maxHeartbeats 4000000 in
theorem writes8_core (k p : Int) (nm : ByteArray) (w : World) (hs : nm.size ≤ maxLen) (hp : p < 9223372036854775808) (ht : Tx w) :
    Calls Tryz.prog 4 #[hostV k nm p] w fun e w' => e = .returned (.bool true) ∧ Below w.heap.size w w' := by
  have hb0 : ∀ o, Below w.heap.size w (w.alloc o) := fun o => (Below.refl _ _).alloc (Nat.le_refl _) _
  have HB0 := Lib.hid hb0
  clear hb0
  have HA := Lib.hid (fun w1 (h : Below w.heap.size w w1) => awake8_any w1 (ht.stay h))
  have HF := Lib.hid (fun w1 => few8_any nm w1 hs)
  have htz := few8_size nm
  generalize few8 nm = t at *
  have HT := Lib.hid (fun w1 (h : Below w.heap.size w w1) => HText_any k p t w1 (by omega) hp (ht.stay h))
  have HR := Lib.hid (fun w1 => RHText_any k p t w1 (by omega) hp)
  obtain ⟨T, hT⟩ : ∃ T, Hp.textH k t.data.toList p = T := ⟨_, rfl⟩
  rw [hT] at HT HR
  unfold hostV
  unfold hostV at HT HR
  cases T with
  | none =>
    have HP := Lib.hid (fun w1 (h : Below w.heap.size w w1) => HParse_any ⟨#[]⟩ w1 (by decide) (ht.stay h))
    obtain ⟨o, ho⟩ : ∃ o, Hp.prs (⟨#[]⟩ : ByteArray).data.toList = o := ⟨_, rfl⟩
    rw [ho] at HP
    unfold txtV at HT HR
    simp only at HT HR
    clear hT ht hs ho
    go_enter Tryz.func4, Tryz.ntmps4
    go_wp2_with fail
    refine (HA.out _ (HB0.out _)).mono ?_
    rintro e w1 ⟨rfl, hb1⟩
    have c0 := below_cell hb1 (b := w.heap.size) (i := 0) (x := some (.int .i64 k)) (by simp) (by simp [go_sem])
    have c1 := below_cell hb1 (b := w.heap.size) (i := 1) (x := some (.string nm)) (by simp) (by simp [go_sem])
    have c2 := below_cell hb1 (b := w.heap.size) (i := 2) (x := some (.int .i64 p)) (by simp) (by simp [go_sem])
    have f1 := below_frozen hb1 (b := w.heap.size) (i := 1) (x := false) (by simp) (by simp [go_sem])
    have hl1 : w.heap.size < w1.heap.size := by have := hb1.size; simp at this; omega
    have HB1 := Lib.hid ((HB0.out (.cells #[.int .i64 k, .string nm, .int .i64 p] 26)).trans (hb1.mono (by simp)))
    clear hb1
    go_wp2_with fail
    refine (HF.out _).mono ?_
    rintro e w2 ⟨rfl, hw2⟩
    subst hw2
    go_wp2_with fail
    have HBx := Lib.hid (HB1.out.setCell (p := ⟨w.heap.size, 1, none⟩) (Nat.le_refl _) (.string t))
    obtain ⟨W, hW⟩ : ∃ W, w2.setCell ⟨w.heap.size, 1, none⟩ (.string t) = W := ⟨_, rfl⟩
    rw [hW] at HBx ⊢
    have d0 : W.cell? ⟨w.heap.size, 0, none⟩ = some (.int .i64 k) := by rw [← hW]; simp [go_sem, c0]
    have d1 : W.cell? ⟨w.heap.size, 1, none⟩ = some (.string t) := by rw [← hW]; simp [go_sem, c1]
    have d2 : W.cell? ⟨w.heap.size, 2, none⟩ = some (.int .i64 p) := by rw [← hW]; simp [go_sem, c2]
    have hl2 : w.heap.size < W.heap.size := by rw [← hW]; simp; omega
    clear hW c0 c1 c2 f1 HB1
    refine (HT.out _ HBx.out).mono ?_
    rintro e w3 ⟨rfl, hb3⟩
    have e0 := below_cell hb3 hl2 d0
    have e1 := below_cell hb3 hl2 d1
    have e2 := below_cell hb3 hl2 d2
    have hl3 : w.heap.size < w3.heap.size := by have := hb3.size; omega
    have HB3 := Lib.hid (HBx.out.trans (hb3.mono HBx.out.size))
    clear hb3 d0 d1 d2
    go_wp2_with fail
    refine (HR.out _).mono ?_
    rintro e w4 ⟨rfl, hb4⟩
    have g0 := below_cell hb4 hl3 e0
    have g1 := below_cell hb4 hl3 e1
    have g2 := below_cell hb4 hl3 e2
    have hl4 : w.heap.size < w4.heap.size := by have := hb4.size; omega
    have HB4 := Lib.hid (HB3.out.trans (hb4.mono HB3.out.size))
    clear hb4 e0 e1 e2
    go_wp2_with fail
    refine (HP.out _ HB4.out).mono ?_
    rintro e w5 ⟨rfl, hb5⟩
    have i0 := below_cell hb5 hl4 g0
    have i1 := below_cell hb5 hl4 g1
    have i2 := below_cell hb5 hl4 g2
    have hl5 : w.heap.size < w5.heap.size := by have := hb5.size; omega
    have HB5 := Lib.hid (HB4.out.trans (hb5.mono HB4.out.size))
    clear hb5 g0 g1 g2
    cases o with
    | none =>
      unfold prsV hostV
      go_wp2_with fail
      go_ret
      exact ⟨rfl, HB5.out.alloc HB5.out.size _⟩
    | some x =>
      obtain ⟨k2, n2, p2⟩ := x
      unfold prsV hostV
      go_wp2_with fail
      go_ret
      exact ⟨rfl, HB5.out.alloc HB5.out.size _⟩
  | some X =>
    have hX := Hp.textH_prs hT
    have hXl := Hp.textH_le hp hT
    have hlen : t.data.toList.length = t.size := by simp
    have hXz : (⟨X.toArray⟩ : ByteArray).size ≤ 900 := by show X.toArray.size ≤ 900; rw [List.size_toArray]; omega
    have HP := Lib.hid (fun w1 (h : Below w.heap.size w w1) => HParse_any ⟨X.toArray⟩ w1 hXz (ht.stay h))
    rw [Hp.ofL_list, hX] at HP
    unfold txtV at HT HR
    unfold prsV hostV at HP
    simp only at HT HR HP
    rw [Hp.ofL_self] at HP
    generalize (⟨X.toArray⟩ : ByteArray) = U at *
    clear hT ht hs hX hXl hlen hXz
    go_enter Tryz.func4, Tryz.ntmps4
    go_wp2_with fail
    refine (HA.out _ (HB0.out _)).mono ?_
    rintro e w1 ⟨rfl, hb1⟩
    have c0 := below_cell hb1 (b := w.heap.size) (i := 0) (x := some (.int .i64 k)) (by simp) (by simp [go_sem])
    have c1 := below_cell hb1 (b := w.heap.size) (i := 1) (x := some (.string nm)) (by simp) (by simp [go_sem])
    have c2 := below_cell hb1 (b := w.heap.size) (i := 2) (x := some (.int .i64 p)) (by simp) (by simp [go_sem])
    have f1 := below_frozen hb1 (b := w.heap.size) (i := 1) (x := false) (by simp) (by simp [go_sem])
    have hl1 : w.heap.size < w1.heap.size := by have := hb1.size; simp at this; omega
    have HB1 := Lib.hid ((HB0.out (.cells #[.int .i64 k, .string nm, .int .i64 p] 26)).trans (hb1.mono (by simp)))
    clear hb1
    go_wp2_with fail
    refine (HF.out _).mono ?_
    rintro e w2 ⟨rfl, hw2⟩
    subst hw2
    go_wp2_with fail
    have HBx := Lib.hid (HB1.out.setCell (p := ⟨w.heap.size, 1, none⟩) (Nat.le_refl _) (.string t))
    obtain ⟨W, hW⟩ : ∃ W, w2.setCell ⟨w.heap.size, 1, none⟩ (.string t) = W := ⟨_, rfl⟩
    rw [hW] at HBx ⊢
    have d0 : W.cell? ⟨w.heap.size, 0, none⟩ = some (.int .i64 k) := by rw [← hW]; simp [go_sem, c0]
    have d1 : W.cell? ⟨w.heap.size, 1, none⟩ = some (.string t) := by rw [← hW]; simp [go_sem, c1]
    have d2 : W.cell? ⟨w.heap.size, 2, none⟩ = some (.int .i64 p) := by rw [← hW]; simp [go_sem, c2]
    have hl2 : w.heap.size < W.heap.size := by rw [← hW]; simp; omega
    clear hW c0 c1 c2 f1 HB1
    refine (HT.out _ HBx.out).mono ?_
    rintro e w3 ⟨rfl, hb3⟩
    have e0 := below_cell hb3 hl2 d0
    have e1 := below_cell hb3 hl2 d1
    have e2 := below_cell hb3 hl2 d2
    have hl3 : w.heap.size < w3.heap.size := by have := hb3.size; omega
    have HB3 := Lib.hid (HBx.out.trans (hb3.mono HBx.out.size))
    clear hb3 d0 d1 d2
    go_wp2_with fail
    refine (HR.out _).mono ?_
    rintro e w4 ⟨rfl, hb4⟩
    have g0 := below_cell hb4 hl3 e0
    have g1 := below_cell hb4 hl3 e1
    have g2 := below_cell hb4 hl3 e2
    have hl4 : w.heap.size < w4.heap.size := by have := hb4.size; omega
    have HB4 := Lib.hid (HB3.out.trans (hb4.mono HB3.out.size))
    clear hb4 e0 e1 e2
    go_wp2_with fail
    refine (HP.out _ HB4.out).mono ?_
    rintro e w5 ⟨rfl, hb5⟩
    have i0 := below_cell hb5 hl4 g0
    have i1 := below_cell hb5 hl4 g1
    have i2 := below_cell hb5 hl4 g2
    have hl5 : w.heap.size < w5.heap.size := by have := hb5.size; omega
    have HB5 := Lib.hid (HB4.out.trans (hb5.mono HB4.out.size))
    clear hb5 g0 g1 g2
    go_wp2_with fail
    go_ret
    exact ⟨rfl, HB5.out.alloc HB5.out.size _⟩
end Go.Proofs.YtfjklhfmecjjkaaGreatDoor
