/- Contracts and lemmas that the claim rests on: TgB. -/
import Derived.Test.YtnpbnlphmngbdaaGreatDoorGTgA
import Derived.Test.YtnpbnlphmngbdaaGreatDoorGPqC
import Derived.Test.YtnpbnlphmngbdaaGreatDoorGIdxB
import Derived.Test.YtnpbnlphmngbdaaGreatDoorGHoL
import Derived.Deep.CutRange
/- A target's cells; withPath, withRest: contracts. -/
namespace Go.Proofs.YtnpbnlphmngbdaaGreatDoor
open Go.RowKit

/-- A target, as a value; its cells in a world. -/
def tv (k : Int) (sch : ByteArray) (hk : Int) (nm : ByteArray) (p : Int) (pa qu : ByteArray) (ha : Bool) : Value :=
  .agg #[.int .i64 k, .string sch, .int .i64 hk, .string nm, .int .i64 p, .string pa, .string qu, .bool ha]
structure TgAt (w : World) (b : Nat) (k : Int) (sch : ByteArray) (hk : Int) (nm : ByteArray) (p : Int) (pa qu : ByteArray) (ha : Bool) : Prop where
  c0 : w.cell? ⟨b, 0, none⟩ = some (.int .i64 k)
  c1 : w.cell? ⟨b, 1, none⟩ = some (.string sch)
  c2 : w.cell? ⟨b, 2, none⟩ = some (.int .i64 hk)
  c3 : w.cell? ⟨b, 3, none⟩ = some (.string nm)
  c4 : w.cell? ⟨b, 4, none⟩ = some (.int .i64 p)
  c5 : w.cell? ⟨b, 5, none⟩ = some (.string pa)
  c6 : w.cell? ⟨b, 6, none⟩ = some (.string qu)
  c7 : w.cell? ⟨b, 7, none⟩ = some (.bool ha)
  f0 : w.frozen? ⟨b, 0, none⟩ = false
  f1 : w.frozen? ⟨b, 1, none⟩ = false
  f2 : w.frozen? ⟨b, 2, none⟩ = false
  f3 : w.frozen? ⟨b, 3, none⟩ = false
  f4 : w.frozen? ⟨b, 4, none⟩ = false
  f5 : w.frozen? ⟨b, 5, none⟩ = false
  f6 : w.frozen? ⟨b, 6, none⟩ = false
  f7 : w.frozen? ⟨b, 7, none⟩ = false
  lt : b < w.heap.size
section
variable {w w' : World} {b B : Nat} {k : Int} {sch : ByteArray} {hk : Int} {nm : ByteArray} {p : Int} {pa qu : ByteArray} {ha : Bool}
theorem TgAt.below (h : TgAt w b k sch hk nm p pa qu ha) (hb : Below B w w') (hB : b < B) : TgAt w' b k sch hk nm p pa qu ha :=
  ⟨(hb.cell hB).trans h.c0, (hb.cell hB).trans h.c1, (hb.cell hB).trans h.c2, (hb.cell hB).trans h.c3, (hb.cell hB).trans h.c4, (hb.cell hB).trans h.c5, (hb.cell hB).trans h.c6, (hb.cell hB).trans h.c7,
   (hb.frozen hB).trans h.f0, (hb.frozen hB).trans h.f1, (hb.frozen hB).trans h.f2, (hb.frozen hB).trans h.f3, (hb.frozen hB).trans h.f4, (hb.frozen hB).trans h.f5, (hb.frozen hB).trans h.f6, (hb.frozen hB).trans h.f7, Nat.lt_of_lt_of_le h.lt hb.size⟩
theorem tgAt_new (w : World) (k : Int) (sch : ByteArray) (hk : Int) (nm : ByteArray) (p : Int) (pa qu : ByteArray) (ha : Bool) :
    TgAt (w.alloc (.cells #[.int .i64 k, .string sch, .int .i64 hk, .string nm, .int .i64 p, .string pa, .string qu, .bool ha] 29)) w.heap.size k sch hk nm p pa qu ha := by
  constructor <;> simp [go_sem]
end
/-- The cells of a target that lies in block b turn; all else stays. -/
def putT (w : World) (b : Nat) (k : Int) (sch : ByteArray) (hk : Int) (nm : ByteArray) (p : Int) (pa qu : ByteArray) (ha : Bool) : World :=
  (((((((w.setCell ⟨b, 0, none⟩ (.int .i64 k)).setCell ⟨b, 1, none⟩ (.string sch)).setCell ⟨b, 2, none⟩ (.int .i64 hk)).setCell ⟨b, 3, none⟩ (.string nm)).setCell ⟨b, 4, none⟩ (.int .i64 p)).setCell ⟨b, 5, none⟩ (.string pa)).setCell ⟨b, 6, none⟩ (.string qu)).setCell ⟨b, 7, none⟩ (.bool ha)
theorem putT_below {B b : Nat} {w w1 : World} (h : Below B w w1) (hb : B ≤ b) (v0 v1 v2 v3 v4 v5 v6 v7 : Value) :
    Below B w ((((((((w1.setCell ⟨b, 0, none⟩ v0).setCell ⟨b, 1, none⟩ v1).setCell ⟨b, 2, none⟩ v2).setCell ⟨b, 3, none⟩ v3).setCell ⟨b, 4, none⟩ v4).setCell ⟨b, 5, none⟩ v5).setCell ⟨b, 6, none⟩ v6).setCell ⟨b, 7, none⟩ v7) :=
  (((((((h.setCell (p := ⟨b, 0, none⟩) hb v0).setCell (p := ⟨b, 1, none⟩) hb v1).setCell (p := ⟨b, 2, none⟩) hb v2).setCell (p := ⟨b, 3, none⟩) hb v3).setCell (p := ⟨b, 4, none⟩) hb v4).setCell (p := ⟨b, 5, none⟩) hb v5).setCell (p := ⟨b, 6, none⟩) hb v6).setCell (p := ⟨b, 7, none⟩) hb v7
section
variable {w : World} {b c : Nat} {k : Int} {sch : ByteArray} {hk : Int} {nm : ByteArray} {p : Int} {pa qu : ByteArray} {ha : Bool} {k' : Int} {sch' : ByteArray} {hk' : Int} {nm' : ByteArray} {p' : Int} {pa' qu' : ByteArray} {ha' : Bool}
theorem TgAt.put (h : TgAt w b k sch hk nm p pa qu ha) (k' : Int) (sch' : ByteArray) (hk' : Int) (nm' : ByteArray) (p' : Int) (pa' qu' : ByteArray) (ha' : Bool) : TgAt (putT w b k' sch' hk' nm' p' pa' qu' ha') b k' sch' hk' nm' p' pa' qu' ha' := by
  unfold putT
  constructor <;> simp [go_sem, h.c0, h.c1, h.c2, h.c3, h.c4, h.c5, h.c6, h.c7, h.f0, h.f1, h.f2, h.f3, h.f4, h.f5, h.f6, h.f7, h.lt]
theorem TgAt.other (h : TgAt w c k sch hk nm p pa qu ha) (hc : c ≠ b) (k' : Int) (sch' : ByteArray) (hk' : Int) (nm' : ByteArray) (p' : Int) (pa' qu' : ByteArray) (ha' : Bool) : TgAt (putT w b k' sch' hk' nm' p' pa' qu' ha') c k sch hk nm p pa qu ha := by
  have hc' : ¬ b = c := fun e => hc e.symm
  unfold putT
  constructor <;> simp [go_sem, h.c0, h.c1, h.c2, h.c3, h.c4, h.c5, h.c6, h.c7, h.f0, h.f1, h.f2, h.f3, h.f4, h.f5, h.f6, h.f7, h.lt]
theorem putT_size : (putT w b k sch hk nm p pa qu ha).heap.size = w.heap.size := by unfold putT; simp
theorem putT_belowP {B : Nat} {w1 : World} (h : Below B w w1) (hb : B ≤ b) : Below B w (putT w1 b k sch hk nm p pa qu ha) := putT_below h hb _ _ _ _ _ _ _ _
end
set_option maxHeartbeats 1600000 in
theorem withPath_any (k : Int) (sch : ByteArray) (hk : Int) (nm : ByteArray) (p : Int) (pa qu : ByteArray) (ha : Bool) (s : ByteArray) (w : World) (hs : s.size ≤ 1000) (hm : MaxL w) :
    Calls Tryz.prog 25 #[tv k sch hk nm p pa qu ha, .string s] w fun e w' =>
      e = .returned (.tuple #[tv k sch hk nm p ⟨(Pq.cutL s.data.toList).1.toArray⟩ ⟨(Pq.cutL s.data.toList).2.1.toArray⟩ (Pq.cutL s.data.toList).2.2.1, .bool (decide ((Pq.cutL s.data.toList).2.2.2 = 0))]) ∧ Below w.heap.size w w' := by
  have hb0 : ∀ o, Below w.heap.size w (w.alloc o) := fun o => (Below.refl _ _).alloc (Nat.le_refl _) _
  have HB0 := Lib.hid hb0
  have HC := Lib.hid (fun w1 (h : Below w.heap.size w w1) => PCut_any s w1 hs (hm.stay h))
  have HT := Lib.hid (tgAt_new w k sch hk nm p pa qu ha)
  have HZ := Lib.hid (tgAt_new (w.alloc (.cells #[.int .i64 k, .string sch, .int .i64 hk, .string nm, .int .i64 p, .string pa, .string qu, .bool ha] 29)) 0 ⟨#[]⟩ 0 ⟨#[]⟩ 0 ⟨#[]⟩ ⟨#[]⟩ false)
  clear hb0 hm
  unfold cutV at HC
  generalize (⟨(Pq.cutL s.data.toList).1.toArray⟩ : ByteArray) = P at *
  generalize (⟨(Pq.cutL s.data.toList).2.1.toArray⟩ : ByteArray) = Q at *
  generalize (Pq.cutL s.data.toList).2.2.1 = b at *
  generalize (Pq.cutL s.data.toList).2.2.2 = er at *
  unfold tv
  go_enter Tryz.func25, Tryz.ntmps25
  go_wp2_with fail
  refine (HC.out _ ((HB0.out _).alloc (by simp) _)).mono ?_
  rintro e w1 ⟨rfl, hb1⟩
  obtain ⟨c0, c1, c2, c3, c4, c5, c6, c7, f0, f1, f2, f3, f4, f5, f6, f7, l1⟩ := (HT.out.below ((Below.refl (w.heap.size + 1) _).alloc (by simp) _) (by omega)).below hb1 (by simp; omega)
  obtain ⟨d0, d1, d2, d3, d4, d5, d6, d7, g0, g1, g2, g3, g4, g5, g6, g7, l2⟩ := HZ.out.below hb1 (by simp)
  simp only [World.size_alloc] at d0 d1 d2 d3 d4 d5 d6 d7 g0 g1 g2 g3 g4 g5 g6 g7 l2
  have HB1 := Lib.hid (((HB0.out (.cells #[.int .i64 k, .string sch, .int .i64 hk, .string nm, .int .i64 p, .string pa, .string qu, .bool ha] 29)).alloc (by simp) (.cells #[.int .i64 0, .string ⟨#[]⟩, .int .i64 0, .string ⟨#[]⟩, .int .i64 0, .string ⟨#[]⟩, .string ⟨#[]⟩, .bool false] 29)).trans (hb1.mono (by simp; omega)))
  clear hb1
  go_wp2_with fail
  refine bodyPost_ret (v := .tuple #[tv k sch hk nm p P Q b, .bool (er == 0)]) (by simp [results, tv, Tryz.results25, go_sem, d0, d1, d2, d3, d4, d5, d6, d7]) rfl ⟨rfl, ?_⟩
  refine putT_below ?_ (by simp) _ _ _ _ _ _ _ _
  exact ((HB1.out.setCell (p := ⟨w.heap.size, 5, none⟩) (Nat.le_refl _) _).setCell (p := ⟨w.heap.size, 6, none⟩) (Nat.le_refl _) _).setCell (p := ⟨w.heap.size, 7, none⟩) (Nat.le_refl _) _
/-- A target's value. -/
def tgV (t : Tg.T) : Value := tv t.kind ⟨t.scheme.toArray⟩ t.host.1 ⟨t.host.2.1.toArray⟩ t.host.2.2 ⟨t.path.toArray⟩ ⟨t.query.toArray⟩ t.has
theorem withPath_t (t : Tg.T) (s : ByteArray) (w : World) (hs : s.size ≤ 1000) (hm : MaxL w) :
    Calls Tryz.prog 25 #[tgV t, .string s] w fun e w' => e = .returned (.tuple #[tgV (Tg.wp t s.data.toList).1, .bool (Tg.wp t s.data.toList).2]) ∧ Below w.heap.size w w' :=
  withPath_any _ _ _ _ _ _ _ _ s w hs hm
set_option maxHeartbeats 1600000 in
theorem withRest_t (t : Tg.T) (s : ByteArray) (w : World) (hs : s.size ≤ 900) (hm : MaxL w) :
    Calls Tryz.prog 41 #[tgV t, .string s] w fun e w' => e = .returned (.tuple #[tgV (Tg.wr t s.data.toList).1, .bool (Tg.wr t s.data.toList).2]) ∧ Below w.heap.size w w' := by
  have hb0 : ∀ o, Below w.heap.size w (w.alloc o) := fun o => (Below.refl _ _).alloc (Nat.le_refl _) _
  have HB0 := Lib.hid hb0
  have HH := Lib.hid (fun w1 => HasPrefix_any s ⟨#[47]⟩ w1)
  rw [show (⟨#[47]⟩ : ByteArray).data.toList = [47] from rfl] at HH
  have hsl : (⟨#[47]⟩ : ByteArray) ++ s = ⟨(47 :: s.data.toList).toArray⟩ := bytes_eq (by rw [list_append]; simp)
  have HW := Lib.hid (fun w1 (h : Below w.heap.size w w1) => withPath_t t s w1 (by omega) (hm.stay h))
  have HV := Lib.hid (fun w1 (h : Below w.heap.size w w1) => withPath_t t ((⟨#[47]⟩ : ByteArray) ++ s) w1 (by rw [ByteArray.size_append]; show 1 + s.size ≤ 1000; omega) (hm.stay h))
  rw [hsl, show (⟨(47 :: s.data.toList).toArray⟩ : ByteArray).data.toList = 47 :: s.data.toList by simp] at HV
  rw [← hsl] at HV
  unfold Tg.wr
  obtain ⟨X1, hX1⟩ : ∃ X, Tg.wp t (47 :: s.data.toList) = X := ⟨_, rfl⟩
  obtain ⟨X2, hX2⟩ : ∃ X, Tg.wp t s.data.toList = X := ⟨_, rfl⟩
  rw [hX1] at HV ⊢
  rw [hX2] at HW ⊢
  clear hX1 hX2 hb0 hm hsl
  obtain ⟨T1, b1⟩ := X1
  obtain ⟨T2, b2⟩ := X2
  generalize Lib.hasPrefix s.data.toList [47] = hp at *
  obtain ⟨k, sch, ⟨hk, nm, p⟩, pa, qu, ha⟩ := t
  have HT := Lib.hid (tgAt_new w k ⟨sch.toArray⟩ hk ⟨nm.toArray⟩ p ⟨pa.toArray⟩ ⟨qu.toArray⟩ ha)
  have HZ := Lib.hid (tgAt_new (w.alloc (.cells #[.int .i64 k, .string ⟨sch.toArray⟩, .int .i64 hk, .string ⟨nm.toArray⟩, .int .i64 p, .string ⟨pa.toArray⟩, .string ⟨qu.toArray⟩, .bool ha] 29)) 0 ⟨#[]⟩ 0 ⟨#[]⟩ 0 ⟨#[]⟩ ⟨#[]⟩ false)
  obtain ⟨k1, sch1, ⟨hk1, nm1, p1⟩, pa1, qu1, ha1⟩ := T1
  obtain ⟨k2, sch2, ⟨hk2, nm2, p2⟩, pa2, qu2, ha2⟩ := T2
  cases hp
  · show Calls Tryz.prog _ _ w fun e w' => e = .returned (.tuple #[tv k1 ⟨sch1.toArray⟩ hk1 ⟨nm1.toArray⟩ p1 ⟨#[]⟩ ⟨qu1.toArray⟩ ha1, .bool b1]) ∧ Below w.heap.size w w'
    unfold tgV at HV ⊢
    simp only at HV ⊢
    generalize (⟨sch.toArray⟩ : ByteArray) = S at *
    generalize (⟨nm.toArray⟩ : ByteArray) = N at *
    generalize (⟨pa.toArray⟩ : ByteArray) = PA at *
    generalize (⟨qu.toArray⟩ : ByteArray) = QU at *
    generalize (⟨sch1.toArray⟩ : ByteArray) = S1 at *
    generalize (⟨nm1.toArray⟩ : ByteArray) = N1 at *
    generalize (⟨pa1.toArray⟩ : ByteArray) = PA1 at *
    generalize (⟨qu1.toArray⟩ : ByteArray) = QU1 at *
    clear HW
    unfold tv at HV ⊢
    go_enter Tryz.func41, Tryz.ntmps41
    go_wp2_with (go_at_call 24; refine (HH.out _).mono ?_; rintro e w1 ⟨rfl, hw1⟩; subst hw1)
    refine (HV.out _ ((HB0.out _).alloc (by simp) _)).mono ?_
    rintro e w1 ⟨rfl, hb1⟩
    have HTb := Lib.hid ((HT.out.below ((Below.refl (w.heap.size + 1) _).alloc (by simp) _) (by omega)).below hb1 (by simp; omega))
    have HZb := Lib.hid (HZ.out.below hb1 (by simp))
    rw [World.size_alloc] at HZb
    obtain ⟨c0, c1, c2, c3, c4, c5, c6, c7, f0, f1, f2, f3, f4, f5, f6, f7, l1⟩ := HTb.out
    have HB1 := Lib.hid (((HB0.out (.cells #[.int .i64 k, .string S, .int .i64 hk, .string N, .int .i64 p, .string PA, .string QU, .bool ha] 29)).alloc (by simp) (.cells #[.int .i64 0, .string ⟨#[]⟩, .int .i64 0, .string ⟨#[]⟩, .int .i64 0, .string ⟨#[]⟩, .string ⟨#[]⟩, .bool false] 29)).trans (hb1.mono (by simp; omega)))
    clear hb1 HT HZ HV HH
    go_upto_region 4 with fail
    clear c0 c1 c2 c3 c4 c5 c6 c7 f0 f1 f2 f3 f4 f5 f6 f7
    generalize hW2 : ((((((((w1.setCell ⟨w.heap.size, 0, none⟩ (.int .i64 k1)).setCell ⟨w.heap.size, 1, none⟩ (.string S1)).setCell ⟨w.heap.size, 2, none⟩ (.int .i64 hk1)).setCell ⟨w.heap.size, 3, none⟩ (.string N1)).setCell ⟨w.heap.size, 4, none⟩ (.int .i64 p1)).setCell ⟨w.heap.size, 5, none⟩ (.string PA1)).setCell ⟨w.heap.size, 6, none⟩ (.string QU1)).setCell ⟨w.heap.size, 7, none⟩ (.bool ha1)) = W2
    have HW2 := Lib.hid (show putT w1 w.heap.size k1 S1 hk1 N1 p1 PA1 QU1 ha1 = W2 from hW2)
    clear hW2
    have HTc := HTb.out.put k1 S1 hk1 N1 p1 PA1 QU1 ha1
    have HZc := HZb.out.other (b := w.heap.size) (by omega) k1 S1 hk1 N1 p1 PA1 QU1 ha1
    have HBc := Lib.hid (putT_belowP (b := w.heap.size) (k := k1) (sch := S1) (hk := hk1) (nm := N1) (p := p1) (pa := PA1) (qu := QU1) (ha := ha1) HB1.out (Nat.le_refl _))
    rw [HW2.out] at HTc HZc HBc
    obtain ⟨c0, c1, c2, c3, c4, c5, c6, c7, f0, f1, f2, f3, f4, f5, f6, f7, l1⟩ := HTc
    obtain ⟨d0, d1, d2, d3, d4, d5, d6, d7, g0, g1, g2, g3, g4, g5, g6, g7, l2⟩ := HZc
    clear HTb HZb
    go_wp2_with fail
    refine bodyPost_ret (v := .tuple #[tv k1 S1 hk1 N1 p1 ⟨#[]⟩ QU1 ha1, .bool b1]) (by simp [results, tv, Tryz.results41, go_sem, d0, d1, d2, d3, d4, d5, d6, d7]) rfl ⟨rfl, ?_⟩
    exact putT_below (HBc.out.setCell (p := ⟨w.heap.size, 5, none⟩) (Nat.le_refl _) _) (by simp) _ _ _ _ _ _ _ _
  · show Calls Tryz.prog _ _ w fun e w' => e = .returned (.tuple #[tv k2 ⟨sch2.toArray⟩ hk2 ⟨nm2.toArray⟩ p2 ⟨pa2.toArray⟩ ⟨qu2.toArray⟩ ha2, .bool b2]) ∧ Below w.heap.size w w'
    unfold tgV at HW ⊢
    simp only at HW ⊢
    generalize (⟨sch.toArray⟩ : ByteArray) = S at *
    generalize (⟨nm.toArray⟩ : ByteArray) = N at *
    generalize (⟨pa.toArray⟩ : ByteArray) = PA at *
    generalize (⟨qu.toArray⟩ : ByteArray) = QU at *
    generalize (⟨sch2.toArray⟩ : ByteArray) = S1 at *
    generalize (⟨nm2.toArray⟩ : ByteArray) = N1 at *
    generalize (⟨pa2.toArray⟩ : ByteArray) = PA1 at *
    generalize (⟨qu2.toArray⟩ : ByteArray) = QU1 at *
    clear HV
    unfold tv at HW ⊢
    go_enter Tryz.func41, Tryz.ntmps41
    go_wp2_with (go_at_call 24; refine (HH.out _).mono ?_; rintro e w1 ⟨rfl, hw1⟩; subst hw1)
    refine (HW.out _ ((HB0.out _).alloc (by simp) _)).mono ?_
    rintro e w1 ⟨rfl, hb1⟩
    have HZb := Lib.hid (HZ.out.below hb1 (by simp))
    rw [World.size_alloc] at HZb
    obtain ⟨d0, d1, d2, d3, d4, d5, d6, d7, g0, g1, g2, g3, g4, g5, g6, g7, l2⟩ := HZb.out
    have HB1 := Lib.hid (((HB0.out (.cells #[.int .i64 k, .string S, .int .i64 hk, .string N, .int .i64 p, .string PA, .string QU, .bool ha] 29)).alloc (by simp) (.cells #[.int .i64 0, .string ⟨#[]⟩, .int .i64 0, .string ⟨#[]⟩, .int .i64 0, .string ⟨#[]⟩, .string ⟨#[]⟩, .bool false] 29)).trans (hb1.mono (by simp; omega)))
    clear hb1 HT HZ HW HH HZb
    go_wp2_with fail
    refine bodyPost_ret (v := .tuple #[tv k2 S1 hk2 N1 p2 PA1 QU1 ha2, .bool b2]) (by simp [results, tv, Tryz.results41, go_sem, d0, d1, d2, d3, d4, d5, d6, d7]) rfl ⟨rfl, ?_⟩
    exact putT_below HB1.out (by simp) _ _ _ _ _ _ _ _
end Go.Proofs.YtnpbnlphmngbdaaGreatDoor
