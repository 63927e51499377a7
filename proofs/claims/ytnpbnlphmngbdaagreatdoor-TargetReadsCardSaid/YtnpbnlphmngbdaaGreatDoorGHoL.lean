/- Contracts and lemmas that the claim rests on: HoL. -/
import Derived.Test.YtnpbnlphmngbdaaGreatDoorGHoK
/- port, hostEnd, Parse, isNamed: contracts. -/
namespace Go.Proofs.YtnpbnlphmngbdaaGreatDoor
open Go.RowKit

namespace Hp
def portN (l : List UInt8) : Int := if l = [] then -1 else (Nu.rd 10 65535 l.tail).1
def portB (l : List UInt8) : Bool := if l = [] then true else okD 65535 l.tail
theorem trim_colon (d : List UInt8) : Lib.trimPrefix (58 :: d) [58] = d := by
  unfold Lib.trimPrefix
  rw [if_pos (by simp [Lib.hasPrefix, List.isPrefixOf])]; rfl
theorem prs_eqn (l : List UInt8) : prs l = if (hostL (l.take (hEnd l))).1 = 0 then none else if portB (l.drop (hEnd l)) then some ((hostL (l.take (hEnd l))).1, (hostL (l.take (hEnd l))).2, portN (l.drop (hEnd l))) else none := by
  unfold prs portB portN
  by_cases h : (hostL (l.take (hEnd l))).1 = 0
  · rw [if_pos h, if_pos h]
  · rw [if_neg h, if_neg h]
    by_cases g : l.drop (hEnd l) = []
    · rw [if_pos g, if_pos g, if_pos rfl, if_pos g]
    · rw [if_neg g, if_neg g, if_neg g]
theorem portN_bound (l : List UInt8) : -1 ≤ portN l ∧ portN l < 9223372036854775808 := by
  unfold portN
  split
  · decide
  · have h := rd_nonneg 65535 l.tail
    refine ⟨by omega, ?_⟩
    unfold Nu.rd
    split
    · decide
    · split
      · decide
      · rename_i h2; show (Nu.val 10 l.tail : Int) < _; omega
end Hp
set_option maxHeartbeats 400000 in
theorem port_any (s : ByteArray) (w : World) (hs : s.size ≤ 900) (hl : s.data.toList = [] ∨ ∃ d, s.data.toList = 58 :: d) (ht : Tx w) :
    Calls Tryz.prog 54 #[.string s] w fun e w' => e = .returned (.tuple #[.int .i64 (Hp.portN s.data.toList), .bool (Hp.portB s.data.toList)]) ∧ Below w.heap.size w w' := by
  rcases hl with h | ⟨d, h⟩
  · have he : s.toList.isEmpty = true := by rw [ByteArray.toList_eq, h]; rfl
    rw [h]
    unfold Hp.portN Hp.portB
    rw [if_pos rfl, if_pos rfl]
    clear h
    go_enter Tryz.func54, Tryz.ntmps54
    go_wp2_with fail
    go_ret2
    exact ⟨rfl, Below.refl _ _⟩
  · have he : s.toList.isEmpty = false := by rw [ByteArray.toList_eq, h]; rfl
    have hd : (⟨d.toArray⟩ : ByteArray).size ≤ 1000 := by
      have h1 := congrArg List.length h
      rw [Array.length_toList] at h1
      have h2 : s.data.size = s.size := rfl
      show d.toArray.size ≤ 1000
      simp at h1 ⊢
      omega
    have HT := Lib.hid (fun w => TrimPrefix_any s ⟨#[58]⟩ w)
    rw [h, show (⟨#[58]⟩ : ByteArray).data.toList = [58] from rfl, Hp.trim_colon] at HT
    have HD := Lib.hid (decimal_any ⟨d.toArray⟩ 65535 (by omega) (by omega) w (by omega) ht.tabs)
    rw [Hp.ofL_list] at HD
    rw [h]
    unfold Hp.portN Hp.portB
    rw [if_neg (by simp), if_neg (by simp), List.tail_cons]
    generalize (⟨d.toArray⟩ : ByteArray) = t at *
    generalize Hp.okD 65535 d = o at *
    generalize Nu.rd 10 65535 d = q at *
    clear h
    go_enter Tryz.func54, Tryz.ntmps54
    go_wp2_with fail
    refine (HT.out _).mono ?_
    rintro e w1 ⟨rfl, rfl⟩
    go_wp2_with fail
    refine HD.out.mono ?_
    rintro e w2 ⟨rfl, hb2⟩
    go_wp2_with fail
    go_ret2
    exact ⟨rfl, hb2⟩
set_option maxHeartbeats 400000 in
theorem hostEnd_any (s : ByteArray) (w : World) (hs : s.size ≤ 900) :
    Calls Tryz.prog 52 #[.string s] w fun e w' => e = .returned (.int .i64 (Hp.hEnd s.data.toList)) ∧ w' = w := by
  have h1 := Hp.fromL_eq s.data.toList
  have h2 := Hp.fromL_le s.data.toList
  have hlen : s.data.toList.length = s.size := by simp
  have hge := Lib.indexByte_ge (s.data.toList.drop (Hp.fromL s.data.toList)) 58
  have hhe : (Hp.hEnd s.data.toList : Int) = if 0 ≤ Lib.indexByte (s.data.toList.drop (Hp.fromL s.data.toList)) 58 then (Hp.fromL s.data.toList : Int) + Lib.indexByte (s.data.toList.drop (Hp.fromL s.data.toList)) 58 else (s.size : Int) := by
    unfold Hp.hEnd
    rw [hlen]
    split
    · omega
    · rfl
  have hle := (Hp.hEnd_spec s.data.toList).1
  rw [hlen] at h2 hle
  have HI := Lib.hid (fun w => Index_any s 93 w)
  have HJ := Lib.hid (fun w => Index_any (s.extract (Hp.fromL s.data.toList) s.size) 58 w)
  rw [Hp.ext_end] at HJ
  rw [show Lib.indexByte s.data.toList 93 = (Hp.fromL s.data.toList : Int) - 1 by omega] at HI
  have hle2 : (Hp.hEnd s.data.toList : Int) ≤ s.size := by omega
  rw [hhe] at hle2 ⊢
  clear hhe hle
  generalize Lib.indexByte (s.data.toList.drop (Hp.fromL s.data.toList)) 58 = j at *
  generalize Hp.fromL s.data.toList = k at *
  clear h1 hlen
  by_cases hj : 0 ≤ j
  · rw [if_pos hj] at hle2 ⊢
    go_enter Tryz.func52, Tryz.ntmps52
    go_wp2_with fail
    refine (HI.out _).mono ?_
    rintro e w1 ⟨rfl, rfl⟩
    go_wp2_with fail
    refine (HJ.out _).mono ?_
    rintro e w2 ⟨rfl, rfl⟩
    go_wp2_with fail
    go_ret
    exact ⟨rfl, rfl⟩
  · rw [if_neg hj]
    have hj2 : j < 0 := by omega
    go_enter Tryz.func52, Tryz.ntmps52
    go_wp2_with fail
    refine (HI.out _).mono ?_
    rintro e w1 ⟨rfl, rfl⟩
    go_wp2_with fail
    refine (HJ.out _).mono ?_
    rintro e w2 ⟨rfl, rfl⟩
    go_wp2_with fail
    go_ret
    exact ⟨rfl, rfl⟩
theorem below3 {B b : Nat} {w w1 : World} (h : Below B w w1) (hb : B ≤ b) (x y z : Value) : Below B w (((w1.setCell ⟨b, 0, none⟩ x).setCell ⟨b, 1, none⟩ y).setCell ⟨b, 2, none⟩ z) :=
  ((h.setCell (p := ⟨b, 0, none⟩) hb x).setCell (p := ⟨b, 1, none⟩) hb y).setCell (p := ⟨b, 2, none⟩) hb z
/-- What Parse hands back. -/
def prsV (o : Option (Int × List UInt8 × Int)) : Value := match o with
  | none => .tuple #[hostV 0 ⟨#[]⟩ 0, .int .i64 27]
  | some (k, nm, p) => .tuple #[hostV k ⟨nm.toArray⟩ p, .int .i64 0]
set_option maxHeartbeats 800000 in
theorem HParse_any (s : ByteArray) (w : World) (hs : s.size ≤ 900) (ht : Tx w) :
    Calls Tryz.prog 35 #[.string s] w fun e w' => e = .returned (prsV (Hp.prs s.data.toList)) ∧ Below w.heap.size w w' := by
  obtain ⟨h1, h2⟩ := Hp.hEnd_spec s.data.toList
  have hlen : s.data.toList.length = s.size := by simp
  rw [hlen] at h1
  have HE := Lib.hid (fun w => hostEnd_any s w hs)
  rw [Hp.prs_eqn]
  generalize Hp.hEnd s.data.toList = k at *
  have HH := Lib.hid (fun w1 (h : Below w.heap.size w w1) => host_any (s.extract 0 k) w1 (by simp [ByteArray.size_extract]; omega) (ht.stay h))
  rw [Hp.ext_start] at HH
  have HP := Lib.hid (fun w1 (h : Below w.heap.size w w1) => port_any (s.extract k s.size) w1 (by simp [ByteArray.size_extract]; omega) (by rw [Hp.ext_end]; exact h2) (ht.stay h))
  rw [Hp.ext_end] at HP
  clear h2 hlen
  have hpb := Hp.portN_bound (s.data.toList.drop k)
  generalize Hp.portN (s.data.toList.drop k) = p at *
  generalize Hp.portB (s.data.toList.drop k) = pb at *
  generalize Hp.hostL (s.data.toList.take k) = q at *
  obtain ⟨kd, nm⟩ := q
  simp only at HH ⊢
  have hb0 : ∀ o, Below w.heap.size w (w.alloc o) := fun o => (Below.refl _ _).alloc (Nat.le_refl _) _
  have HB0 := Lib.hid hb0
  have HBa := Lib.hid (Below.refl (w.heap.size + 1) (w.alloc (.cells #[.int .i64 0, .string ⟨#[]⟩, .int .i64 0] 27)))
  clear hb0 ht
  by_cases h0 : kd = 0
  · rw [if_pos h0]
    have hd0 : decide (kd ≠ 0) = false := by rw [h0]; rfl
    rw [hd0] at HH
    go_enter Tryz.func35, Tryz.ntmps35
    go_wp2_with fail
    refine (HE.out _).mono ?_
    rintro e w1 ⟨rfl, rfl⟩
    go_wp2_with fail
    refine (HH.out _ (HB0.out _)).mono ?_
    rintro e w2 ⟨rfl, hb2⟩
    have HB2 := Lib.hid (HBa.out.trans (hb2.mono (by simp)))
    clear hb2
    have z0 := (HB2.out.cell (p := ⟨w.heap.size, 0, none⟩) (by simp)).trans (show (w.alloc (.cells #[.int .i64 0, .string ⟨#[]⟩, .int .i64 0] 27)).cell? ⟨w.heap.size, 0, none⟩ = some (.int .i64 0) by simp [go_sem])
    have g0 := (HB2.out.frozen (p := ⟨w.heap.size, 0, none⟩) (by simp)).trans (show (w.alloc (.cells #[.int .i64 0, .string ⟨#[]⟩, .int .i64 0] 27)).frozen? ⟨w.heap.size, 0, none⟩ = false by simp [go_sem])
    have z1 := (HB2.out.cell (p := ⟨w.heap.size, 1, none⟩) (by simp)).trans (show (w.alloc (.cells #[.int .i64 0, .string ⟨#[]⟩, .int .i64 0] 27)).cell? ⟨w.heap.size, 1, none⟩ = some (.string ⟨#[]⟩) by simp [go_sem])
    have g1 := (HB2.out.frozen (p := ⟨w.heap.size, 1, none⟩) (by simp)).trans (show (w.alloc (.cells #[.int .i64 0, .string ⟨#[]⟩, .int .i64 0] 27)).frozen? ⟨w.heap.size, 1, none⟩ = false by simp [go_sem])
    have z2 := (HB2.out.cell (p := ⟨w.heap.size, 2, none⟩) (by simp)).trans (show (w.alloc (.cells #[.int .i64 0, .string ⟨#[]⟩, .int .i64 0] 27)).cell? ⟨w.heap.size, 2, none⟩ = some (.int .i64 0) by simp [go_sem])
    have g2 := (HB2.out.frozen (p := ⟨w.heap.size, 2, none⟩) (by simp)).trans (show (w.alloc (.cells #[.int .i64 0, .string ⟨#[]⟩, .int .i64 0] 27)).frozen? ⟨w.heap.size, 2, none⟩ = false by simp [go_sem])
    have hl2 : w.heap.size < w2.heap.size := by have := HB2.out.size; simp at this; omega
    unfold hostV
    go_wp2_with fail
    refine bodyPost_ret (v := .tuple #[hostV 0 ⟨#[]⟩ 0, .int .i64 27]) (by simp [results, hostV, Tryz.results35, go_sem, z0, z1, z2, hl2]) rfl ⟨rfl, ?_⟩
    exact (below3 ((HB0.out _).trans (HB2.out.mono (by simp))) (Nat.le_refl _) _ _ _).alloc (by simp; omega) _
  · rw [if_neg h0]
    have hd0 : decide (kd ≠ 0) = true := by simpa using h0
    rw [hd0] at HH
    go_enter Tryz.func35, Tryz.ntmps35
    go_wp2_with fail
    refine (HE.out _).mono ?_
    rintro e w1 ⟨rfl, rfl⟩
    go_wp2_with fail
    refine (HH.out _ (HB0.out _)).mono ?_
    rintro e w2 ⟨rfl, hb2⟩
    have HB2 := Lib.hid (HBa.out.trans (hb2.mono (by simp)))
    clear hb2
    have hl2 : w.heap.size < w2.heap.size := by have := HB2.out.size; simp at this; omega
    have HBw := Lib.hid (((HB0.out _).trans (HB2.out.mono (by simp))).alloc (by omega) (.cells #[.int .i64 kd, .string ⟨nm.toArray⟩, .int .i64 0] 27))
    unfold hostV
    go_wp2_with fail
    refine (HP.out _ HBw.out).mono ?_
    rintro e w3 ⟨rfl, hb3⟩
    have hl3 : w2.heap.size < w3.heap.size := by have := hb3.size; simp at this; omega
    have HB3 := Lib.hid ((HB2.out.trans ((Below.refl (w.heap.size + 1) w2).alloc (by omega) _)).trans (hb3.mono (by simp; omega)))
    have HBv := Lib.hid (HBw.out.trans (hb3.mono (by simp; omega)))
    have y0 := (hb3.cell (p := ⟨w2.heap.size, 0, none⟩) (by simp)).trans (show (w2.alloc (.cells #[.int .i64 kd, .string ⟨nm.toArray⟩, .int .i64 0] 27)).cell? ⟨w2.heap.size, 0, none⟩ = some (.int .i64 kd) by simp [go_sem])
    have q0 := (hb3.frozen (p := ⟨w2.heap.size, 0, none⟩) (by simp)).trans (show (w2.alloc (.cells #[.int .i64 kd, .string ⟨nm.toArray⟩, .int .i64 0] 27)).frozen? ⟨w2.heap.size, 0, none⟩ = false by simp [go_sem])
    have y1 := (hb3.cell (p := ⟨w2.heap.size, 1, none⟩) (by simp)).trans (show (w2.alloc (.cells #[.int .i64 kd, .string ⟨nm.toArray⟩, .int .i64 0] 27)).cell? ⟨w2.heap.size, 1, none⟩ = some (.string ⟨nm.toArray⟩) by simp [go_sem])
    have q1 := (hb3.frozen (p := ⟨w2.heap.size, 1, none⟩) (by simp)).trans (show (w2.alloc (.cells #[.int .i64 kd, .string ⟨nm.toArray⟩, .int .i64 0] 27)).frozen? ⟨w2.heap.size, 1, none⟩ = false by simp [go_sem])
    have y2 := (hb3.cell (p := ⟨w2.heap.size, 2, none⟩) (by simp)).trans (show (w2.alloc (.cells #[.int .i64 kd, .string ⟨nm.toArray⟩, .int .i64 0] 27)).cell? ⟨w2.heap.size, 2, none⟩ = some (.int .i64 0) by simp [go_sem])
    have q2 := (hb3.frozen (p := ⟨w2.heap.size, 2, none⟩) (by simp)).trans (show (w2.alloc (.cells #[.int .i64 kd, .string ⟨nm.toArray⟩, .int .i64 0] 27)).frozen? ⟨w2.heap.size, 2, none⟩ = false by simp [go_sem])
    have z0 := (HB3.out.cell (p := ⟨w.heap.size, 0, none⟩) (by simp)).trans (show (w.alloc (.cells #[.int .i64 0, .string ⟨#[]⟩, .int .i64 0] 27)).cell? ⟨w.heap.size, 0, none⟩ = some (.int .i64 0) by simp [go_sem])
    have g0 := (HB3.out.frozen (p := ⟨w.heap.size, 0, none⟩) (by simp)).trans (show (w.alloc (.cells #[.int .i64 0, .string ⟨#[]⟩, .int .i64 0] 27)).frozen? ⟨w.heap.size, 0, none⟩ = false by simp [go_sem])
    have z1 := (HB3.out.cell (p := ⟨w.heap.size, 1, none⟩) (by simp)).trans (show (w.alloc (.cells #[.int .i64 0, .string ⟨#[]⟩, .int .i64 0] 27)).cell? ⟨w.heap.size, 1, none⟩ = some (.string ⟨#[]⟩) by simp [go_sem])
    have g1 := (HB3.out.frozen (p := ⟨w.heap.size, 1, none⟩) (by simp)).trans (show (w.alloc (.cells #[.int .i64 0, .string ⟨#[]⟩, .int .i64 0] 27)).frozen? ⟨w.heap.size, 1, none⟩ = false by simp [go_sem])
    have z2 := (HB3.out.cell (p := ⟨w.heap.size, 2, none⟩) (by simp)).trans (show (w.alloc (.cells #[.int .i64 0, .string ⟨#[]⟩, .int .i64 0] 27)).cell? ⟨w.heap.size, 2, none⟩ = some (.int .i64 0) by simp [go_sem])
    have g2 := (HB3.out.frozen (p := ⟨w.heap.size, 2, none⟩) (by simp)).trans (show (w.alloc (.cells #[.int .i64 0, .string ⟨#[]⟩, .int .i64 0] 27)).frozen? ⟨w.heap.size, 2, none⟩ = false by simp [go_sem])
    clear hb3
    cases pb
    · go_wp2_with fail
      refine bodyPost_ret (v := .tuple #[hostV 0 ⟨#[]⟩ 0, .int .i64 27]) (by simp [results, hostV, Tryz.results35, go_sem, z0, z1, z2]) rfl ⟨rfl, ?_⟩
      exact below3 (HBv.out.setCell (p := ⟨w2.heap.size, 2, none⟩) (by simp; omega) _) (Nat.le_refl _) _ _ _
    · go_wp2_with fail
      refine bodyPost_ret (v := .tuple #[hostV kd ⟨nm.toArray⟩ p, .int .i64 0]) (by simp [results, hostV, Tryz.results35, go_sem, z0, z1, z2]) rfl ⟨rfl, ?_⟩
      exact below3 (HBv.out.setCell (p := ⟨w2.heap.size, 2, none⟩) (by simp; omega) _) (Nat.le_refl _) _ _ _
end Go.Proofs.YtnpbnlphmngbdaaGreatDoor
