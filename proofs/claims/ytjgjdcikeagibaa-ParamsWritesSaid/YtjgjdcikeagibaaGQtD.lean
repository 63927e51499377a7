/- Contracts and lemmas that the claim rests on: QtD. -/
import Derived.Test.YtjgjdcikeagibaaGQtC
/- The reader's quoted: its contract. -/
namespace Go.Proofs.Ytjgjdcikeagibaa
open Go.RowKit

/-- Where a scanner stands, read off the world. -/
def placeOf (v : Value) (w : World) : Nat := match v with
  | .pointer (some a) => (match w.cell? ⟨a.block, 1, none⟩ with | some x => (intOf x).toNat | none => 0)
  | _ => 0
theorem IsScan.place_ {v : Value} {s : ByteArray} {k : Nat} {w : World} (h : IsScan v s k w) : placeOf v w = k := by
  rcases h with ⟨rfl, rfl, rfl⟩ | ⟨t, rfl, h⟩
  · rfl
  · unfold placeOf
    simp only [h.place]
    simp [intOf]
theorem of_kept_new {v : Value} {w w' : World} (h : Kept (fun i => w.heap.size ≤ i) w w') : Kept (ownScan v) w w' := h.mono fun _ hi hj => absurd hj (by omega)
/-- A call that turns a new scanner alone. -/
theorem below_of_own {b : Nat} {w w' : World} (h : Kept (ownScan (.pointer (some ⟨b, 0, none⟩))) w w') (hb : b ≤ w.heap.size := by simp) : Below b w w' :=
  (h.mono fun i _ hi => (by simp [ownScan] at hi; omega)).below hb
/-- A reader at work: its scanner at j; its own struct in the first block behind w; its builder in block b. -/
structure Rs (v : Value) (s : ByteArray) (w : World) (b j : Nat) (wr : World) : Prop where
  scan : IsScan v s j wr
  box : wr.cell? ⟨w.heap.size, 0, none⟩ = some v
  kept : Kept (ownScan v) w wr
  lt : w.heap.size < b
  own : ∀ i, ownScan v i → i < w.heap.size
theorem Rs.scan_ {v : Value} {s : ByteArray} {w : World} {b j j' : Nat} {wr w' : World} (h : Rs v s w b j wr) (hs : IsScan v s j' w') (hk : Kept (ownScan v) wr w') : Rs v s w b j' w' :=
  ⟨hs, hk.at_cell (lt_of_cell h.box) (fun e => by have := h.own _ e; omega) h.box, h.kept.trans hk, h.lt, h.own⟩
theorem Rs.below_ {v : Value} {s : ByteArray} {w : World} {b j : Nat} {wr w' : World} (h : Rs v s w b j wr) (hb : Below b wr w') : Rs v s w b j w' := by
  have hk : Kept (fun i => b ≤ i) wr w' := Kept.of_below' hb (fun _ h => h)
  have hlt := h.lt
  refine ⟨h.scan.kept hk (fun i hi hn => by have := h.own i hi; omega), hk.at_cell (lt_of_cell h.box) (by omega) h.box, ?_, h.lt, h.own⟩
  refine (h.kept.mono (Q := fun i => ownScan v i ∨ w.heap.size ≤ i) (fun _ _ h => .inl h)).trans (hk.mono fun i _ hi => .inr (by omega)) |>.mono ?_
  rintro i hi (h1 | h1)
  · exact h1
  · omega
theorem Rs.drewN {v : Value} {s : ByteArray} {w : World} {b j : Nat} {wr : World} (h : Rs v s w b j wr) (n : Nat) : Rs v s w b j (wr.drewN n) := h.scan_ (h.scan.below (below_drewN _ _ n)) ((Kept.refl _ _).drewN n)
theorem Rs.drew {v : Value} {s : ByteArray} {w : World} {b j : Nat} {wr : World} (h : Rs v s w b j wr) : Rs v s w b j wr.drew := h.drewN 1
theorem Bld.scan_ {v : Value} {s : ByteArray} {w : World} {b j : Nat} {wr w' : World} {l : List UInt8} (hb : Bld b l wr) (h : Rs v s w b j wr) (hk : Kept (ownScan v) wr w') : Bld b l w' :=
  hb.kept hk (fun i hi hn => by have := h.own i hn; have := h.lt; omega)
theorem Bld.drew {b : Nat} {l : List UInt8} {w : World} (h : Bld b l w) : Bld b l w.drew := h.kept (P := fun _ => False) ((Kept.refl _ _).drewN 1) (fun _ _ h => h)
/-- What the reader hands back. -/
def Quoted_ (v : Value) (s : ByteArray) (k : Nat) (w : World) (e : Ending) (w' : World) : Prop :=
  ∃ m j, k ≤ j ∧ e = .returned (.tuple #[.string m, .bool (Qd.fr s k).isSome]) ∧ IsScan v s j w' ∧ Kept (ownScan v) w w' ∧ ((Qd.fr s k).isSome = true → m = Qd.txt (Qd.fr s k) ∧ j = k + Qd.len (Qd.fr s k))
theorem Quoted_.no {v : Value} {s : ByteArray} {k : Nat} {w : World} {m : ByteArray} {j : Nat} {w' : World} {e : Ending} (h : Qd.fr s k = none) (he : e = .returned (.tuple #[.string m, .bool false])) (hj : k ≤ j) (hs : IsScan v s j w') (hk : Kept (ownScan v) w w') : Quoted_ v s k w e w' := by
  refine ⟨m, j, hj, ?_, hs, hk, ?_⟩
  · rw [h]; exact he
  · rw [h]; intro h; cases h
theorem Quoted_.yes {v : Value} {s : ByteArray} {k : Nat} {w : World} {l : List UInt8} {n j : Nat} {w' : World} {e : Ending} (h : Qd.fr s k = some (l, n)) (he : e = .returned (.tuple #[.string ⟨l.toArray⟩, .bool true])) (hj : j = k + n) (hs : IsScan v s j w') (hk : Kept (ownScan v) w w') : Quoted_ v s k w e w' := by
  refine ⟨⟨l.toArray⟩, j, by omega, ?_, hs, hk, ?_⟩
  · rw [h]; exact he
  · rw [h]; intro _; exact ⟨rfl, hj⟩
def AtQ (v : Value) (s : ByteArray) (k : Nat) (w : World) (b : Nat) (wr : World) : Prop := ∃ j acc, Rs v s w b j wr ∧ Bld b acc wr ∧ Qd.On s k j acc

set_option maxHeartbeats 1000000 in
theorem quoted_v (v : Value) (s : ByteArray) (k : Nat) (w : World) (h : IsScan v s k w) (hs : s.size ≤ 100000) :
    Calls Try.prog 61 #[.agg #[v]] w (Quoted_ v s k w) := by
  have hle := h.le
  have hown : ∀ i, ownScan v i → i < w.heap.size := fun i hi => h.own_lt hi
  have hA0 : ∀ o, IsScan v s k (w.alloc o) := fun o => h.below ((Below.refl _ _).alloc (Nat.le_refl _) _)
  have HA0 := Lib.hid hA0
  have HO := Lib.hid hown
  have hm : s.size ≤ maxLen := by unfold maxLen; omega
  have HM := Lib.hid hm
  clear h hA0 hm hown
  by_cases hq : k < s.size ∧ byteAt s k = 34
  · have HQ := Lib.hid hq
    clear hq
    go_enter Try.func61, Try.ntmps61
    go_wp2_with fail
    refine (Byte_yes v s k 34 _ (HA0.out _) HM.out HQ.out.1 HQ.out.2).mono ?_
    rintro e w2 ⟨rfl, hs2, hk2⟩
    have hz2 := hk2.size
    simp at hz2
    have hr2 : Rs v s w w2.heap.size (k + 1) w2 := by
      refine ⟨hs2, hk2.at_cell (by simp) (fun e => by have := HO.out _ e; omega) (by simp [go_sem]), Kept.trans (by repeat (first | with_reducible exact Kept.refl _ _ | with_reducible assumption | (with_reducible refine Kept.setCellL ?_ ?_ _; rotate_left; · (simp <;> omega)) | with_reducible refine Kept.alloc ?_ _ | with_reducible refine Kept.drew ?_ | with_reducible refine Kept.drewN ?_ _)) hk2, by omega, HO.out⟩
    have hb2 := Bld.made w2
    have hr3 := hr2.below_ (w' := w2.alloc (.cells #[.pointer none, .slice none 0 0] 72)) ((Below.refl _ _).alloc (Nat.le_refl _) _)
    have HR3 := Lib.hid hr3
    have HB3 := Lib.hid hb2
    have box3 := hr3.box
    clear hr2 hb2 hr3 hs2 hk2
    go_wp2_with fail
    refine (WhilePl_v v s (k + 1) _ HR3.out.scan hs).mono ?_
    rintro e w4 ⟨rfl, hs4, hk4⟩
    have hb4 := HB3.out.scan_ HR3.out hk4
    have hr4 := HR3.out.scan_ hs4 hk4
    have hq1 := HQ.out.1
    have hrl := runLen_le Qd.pl s (k + 1) (by omega)
    have HR4 := Lib.hid hr4
    have HB4 := Lib.hid hb4
    have hcz := cut_size s (k + 1) _ hrl
    have HO4 := Lib.hid (Qd.On.first s k hq1 HQ.out.2)
    clear HR3 HB3 hs4 hk4 hb4 hr4 hq1
    generalize hcut : s.extract (k + 1) (k + 1 + runLen Qd.pl s (k + 1)) = x at *
    clear hcut
    go_wp2_with fail
    refine (WriteString_any _ _ x _ HB4.out (by simp) (by omega)).mono ?_
    rintro e w5 ⟨rfl, hb5, hbl5⟩
    have hr5 := HR4.out.below_ hbl5
    have hat : AtQ v s k w w2.heap.size w5 := ⟨_, _, hr5, hb5, by simpa using HO4.out⟩
    have HAT := Lib.hid hat
    clear HR4 HB4 hb5 hbl5 hr5 hat HO4 hcz hrl
    go_wp2_with fail
    go_loopw [5] (fun _ wr => AtQ v s k w w2.heap.size wr) (fun _ wr => s.size - placeOf v wr)
    case atStart => exact HAT.out
    case round =>
      clear HAT
      obtain ⟨j, acc, hr, hb, hon⟩ := hrel
      have box := hr.box
      have HR := Lib.hid hr
      have HB := Lib.hid hb
      have HN := Lib.hid hon
      have hjle := hon.le
      have hkj := hon.ge
      have hfew := hon.few
      have hpl := Lib.hid hr.scan.place_
      clear hr hb hon
      by_cases he : j < s.size ∧ byteAt s j = 92
      · have HE := Lib.hid he
        clear he
        go_wp2_with fail
        refine (Byte_yes v s j 92 _ HR.out.scan HM.out HE.out.1 HE.out.2).mono ?_
        rintro e w6 ⟨rfl, hs6, hk6⟩
        have HB6 := Lib.hid (HB.out.scan_ HR.out hk6)
        have hr6 := HR.out.scan_ hs6 hk6
        have box6 := hr6.box
        have HR6 := Lib.hid hr6
        clear hr6 hs6 hk6 box HR HB
        cases hv : valAt s (j + 1)
        · have hfr : Qd.fr s k = none := HN.out.bad HE.out.1 HE.out.2 (by
            unfold valAt at hv
            intro hx
            rw [hx.2] at hv
            simp at hv
            omega)
          have HF := Lib.hid hfr
          have HV := Lib.hid hv
          clear hfr hv
          go_wp2_with fail
          refine (value_v v s (j + 1) _ HR6.out.scan hs).mono ?_
          rintro e w7 ⟨rfl, hs7, hk7⟩
          rw [HV.out] at hs7 ⊢
          simp only [Bool.false_eq_true, if_false] at hs7
          have HR7 := Lib.hid (HR6.out.scan_ hs7 hk7)
          clear hs7 hk7 HR6 HB6
          go_wp2_with fail
          go_ret2
          exact Quoted_.no HF.out rfl (by omega) HR7.out.scan HR7.out.kept
        · have HV := Lib.hid hv
          have hv2 : j + 1 < s.size ∧ B.val (byteAt s (j + 1)) = true := by
            unfold valAt at hv
            simpa using hv
          have HNN := Lib.hid (HN.out.next HE.out.2 hv2.1 hv2.2)
          have hj2 := hv2.1
          have hlt := HE.out.1
          clear hv hv2
          go_wp2_with fail
          refine (value_v v s (j + 1) _ HR6.out.scan hs).mono ?_
          rintro e w7 ⟨rfl, hs7, hk7⟩
          rw [HV.out] at hs7 ⊢
          simp only [if_true] at hs7
          have hr7 := HR6.out.scan_ hs7 hk7
          have box7 := hr7.box
          have HB7 := Lib.hid (HB6.out.scan_ HR6.out hk7)
          have HR7 := Lib.hid hr7
          clear hs7 hk7 HR6 HB6 hr7
          go_wp2_with fail
          refine (WriteByte_any _ acc (s.data.toList.getD (j + 1) 0) (byteAt s (j + 1)) rfl _ HB7.out (by omega)).mono ?_
          rintro e w8 ⟨rfl, hb8, hbl8⟩
          have hr8 := HR7.out.below_ hbl8
          have box8 := hr8.box
          have HR8 := Lib.hid hr8
          have HB8 := Lib.hid hb8
          clear hr8 hb8 hbl8 HR7 HB7
          go_wp2_with fail
          refine (WhilePl_v v s (j + 2) _ HR8.out.scan hs).mono ?_
          rintro e w9 ⟨rfl, hs9, hk9⟩
          have hrl := runLen_le Qd.pl s (j + 2) (by omega)
          have hcz := cut_size s (j + 2) _ hrl
          have HB9 := Lib.hid (HB8.out.scan_ HR8.out hk9)
          have HR9 := Lib.hid (HR8.out.scan_ hs9 hk9)
          clear hs9 hk9 HR8 HB8
          generalize hcut : s.extract (j + 2) (j + 2 + runLen Qd.pl s (j + 2)) = x at *
          clear hcut
          go_wp2_with fail
          refine (WriteString_any _ _ x _ HB9.out (by simp; omega) (by omega)).mono ?_
          rintro e w10 ⟨rfl, hb10, hbl10⟩
          have hr10 := HR9.out.below_ hbl10
          have hpl10 := Lib.hid hr10.scan.place_
          have hat : AtQ v s k w w2.heap.size w10 := ⟨_, _, hr10, hb10, HNN.out⟩
          have HAT := Lib.hid hat
          clear hr10 hb10 hbl10 hat HR9 HB9 HNN
          go_wp2_with fail
          go_roundw
          case rel => exact HAT.out
          case measure => rw [hpl.out, hpl10.out]; omega
      · have HE := Lib.hid he
        clear he
        go_wp2_with fail
        refine (Byte_no v s j 92 _ HR.out.scan HM.out HE.out).mono ?_
        rintro e w6 ⟨rfl, hs6, hk6⟩
        have hb6 := HB.out.scan_ HR.out hk6
        have hr6 := HR.out.scan_ hs6 hk6
        have HBD := Lib.hid hb6.drew
        have HRD := Lib.hid hr6.drew
        have box6 := hr6.box
        have box6d := hr6.drew.box
        clear hr6 hb6 hs6 hk6 box HR HB
        by_cases hm : j < s.size ∧ byteAt s j = 34
        · have HMM := Lib.hid hm
          have HF := Lib.hid (HN.out.done hm.1 hm.2)
          clear hm
          go_wp2_with fail
          go_region_with (first | (go_at_call 54; refine (String_any _ acc _ HBD.out).mono ?_; rintro e w7 ⟨rfl, hb7⟩; have hr7 := HRD.out.below_ hb7; have box7 := hr7.box; have HR7 := Lib.hid hr7; clear hr7 hb7) | (go_at_call 72; refine (Byte_yes v s j 34 _ HR7.out.scan HM.out HMM.out.1 HMM.out.2).mono ?_; rintro e w8 ⟨rfl, hs8, hk8⟩))
          all_goals
            have HR8 := Lib.hid (HR7.out.scan_ hs8 hk8)
            clear hs8 hk8
            go_wp2_with fail
            go_ret2
            exact Quoted_.yes HF.out rfl (by omega) HR8.out.scan HR8.out.kept
        · have HMM := Lib.hid hm
          have HF := Lib.hid (HN.out.nope HE.out hm)
          clear hm
          go_wp2_with fail
          go_region_with (first | (go_at_call 54; refine (String_any _ acc _ HBD.out).mono ?_; rintro e w7 ⟨rfl, hb7⟩; have hr7 := HRD.out.below_ hb7; have box7 := hr7.box; have HR7 := Lib.hid hr7; clear hr7 hb7) | (go_at_call 72; refine (Byte_no v s j 34 _ HR7.out.scan HM.out HMM.out).mono ?_; rintro e w8 ⟨rfl, hs8, hk8⟩))
          all_goals
            have HR8 := Lib.hid (HR7.out.scan_ hs8 hk8)
            clear hs8 hk8
            go_wp2_with fail
            go_ret2
            exact Quoted_.no HF.out rfl (by omega) HR8.out.scan HR8.out.kept
  · have HQ := Lib.hid hq
    have HF := Lib.hid (Qd.On.no s k hq)
    clear hq
    go_enter Try.func61, Try.ntmps61
    go_wp2_with fail
    refine (Byte_no v s k 34 _ (HA0.out _) HM.out HQ.out).mono ?_
    rintro e w2 ⟨rfl, hs2, hk2⟩
    have HK : Hid (Kept (ownScan v) w w2) := Kept.trans (by repeat (first | with_reducible exact Kept.refl _ _ | with_reducible assumption | (with_reducible refine Kept.setCellL ?_ ?_ _; rotate_left; · (simp <;> omega)) | with_reducible refine Kept.alloc ?_ _ | with_reducible refine Kept.drew ?_ | with_reducible refine Kept.drewN ?_ _)) hk2
    clear hk2
    go_wp2_with fail
    go_ret2
    exact Quoted_.no HF.out rfl (Nat.le_refl _) hs2 HK.out
end Go.Proofs.Ytjgjdcikeagibaa
