/- Contracts and lemmas that the claim rests on: HoN. -/
import Derived.Test.YtnpbnlphmngbdaaGreatDoorGHoM
import Derived.Test.YtnpbnlphmngbdaaGreatDoorGOct
/- Text, Under: contracts. -/
namespace Go.Proofs.YtnpbnlphmngbdaaGreatDoor
open Go.RowKit

namespace Hp
theorem writeL_le (k p : Int) (nm : List UInt8) (hp : p < 9223372036854775808) : (writeL k nm p).length ≤ nm.length + 67 := by
  have h := Nu.tx_size 10 (by omega) p hp
  have h2 : (Nu.tx 10 p).data.toList.length = (Nu.tx 10 p).size := by simp
  unfold writeL
  split <;> split <;> simp <;> omega
theorem textH_yes {k p : Int} {nm : List UInt8} (h : prs (writeL k nm p) = some (k, nm, p)) : textH k nm p = some (writeL k nm p) := by unfold textH; rw [if_pos h]
theorem textH_no {k p : Int} {nm : List UInt8} (h : ¬ prs (writeL k nm p) = some (k, nm, p)) : textH k nm p = none := by unfold textH; rw [if_neg h]
theorem foldS_le (a : ByteArray) (ha : a.size ≤ 300) : (B.foldS a).size ≤ 300 := by
  have h1 : (B.foldS a).data.toList.length = a.size := by
    unfold B.foldS
    rw [ofL_list, B.fold_length]; simp
  rw [Array.length_toList] at h1
  have h2 : (B.foldS a).data.size = (B.foldS a).size := rfl
  omega
theorem und_eqn (a b : ByteArray) : und a.data.toList b.data.toList = (isN a.data.toList && isN b.data.toList && ((B.foldS a).toList == (B.foldS b).toList || Lib.hasSuffix (B.foldS a).data.toList ((⟨#[46]⟩ : ByteArray) ++ B.foldS b).data.toList)) := by
  unfold und belowN
  congr 1
  congr 1
  rw [sameS_eq]; rfl
end Hp
/-- What Text hands back. -/
def txtV (o : Option (List UInt8)) (bad : Int) : Value := match o with
  | none => .tuple #[.string ⟨#[]⟩, .int .i64 bad]
  | some l => .tuple #[.string ⟨l.toArray⟩, .int .i64 0]
set_option maxHeartbeats 1600000 in
theorem HText_any (k p : Int) (nm : ByteArray) (w : World) (hs : nm.size ≤ 300) (hp : p < 9223372036854775808) (ht : Tx w) :
    Calls Tryz.prog 32 #[hostV k nm p] w fun e w' => e = .returned (txtV (Hp.textH k nm.data.toList p) 27) ∧ Below w.heap.size w w' := by
  have hwl := Hp.writeL_le k p nm.data.toList hp
  have hn2 : nm.data.toList.length = nm.size := by simp
  have hX : (⟨(Hp.writeL k nm.data.toList p).toArray⟩ : ByteArray).size ≤ 900 := by
    show (Hp.writeL k nm.data.toList p).toArray.size ≤ 900
    rw [List.size_toArray]
    omega
  have HW := Lib.hid (fun w1 (h : Below w.heap.size w w1) => write_any k p nm w1 hs hp (ht.stay h))
  have HP := Lib.hid (fun w1 (h : Below w.heap.size w w1) => HParse_any ⟨(Hp.writeL k nm.data.toList p).toArray⟩ w1 hX (ht.stay h))
  rw [Hp.ofL_list] at HP
  have hyes := fun h => Hp.textH_yes (k := k) (p := p) (nm := nm.data.toList) h
  have hno := fun h => Hp.textH_no (k := k) (p := p) (nm := nm.data.toList) h
  have hb0 : ∀ o, Below w.heap.size w (w.alloc o) := fun o => (Below.refl _ _).alloc (Nat.le_refl _) _
  have HB0 := Lib.hid hb0
  generalize Hp.textH k nm.data.toList p = T at *
  generalize Hp.writeL k nm.data.toList p = X at *
  generalize Hp.prs X = o at *
  have hX3 : ∃ X3, X3 = (⟨X.toArray⟩ : ByteArray) := ⟨_, rfl⟩
  obtain ⟨X3, hX3⟩ := hX3
  rw [← hX3] at HW HP
  clear hb0 ht hwl hX hn2
  unfold hostV
  unfold hostV at HW
  cases o with
  | none =>
    have hT := Lib.hid (hno (by simp))
    have HX3 := Lib.hid hX3
    clear hyes hno hX3
    unfold prsV hostV at HP
    simp only at HP
    go_enter Tryz.func32, Tryz.ntmps32
    go_wp2_with fail
    refine (HW.out _ (HB0.out _)).mono ?_
    rintro e w1 ⟨rfl, hb1⟩
    have HB1 := Lib.hid ((HB0.out (.cells #[.int .i64 k, .string nm, .int .i64 p] 27)).trans (hb1.mono (by simp)))
    clear hb1
    go_wp2_with fail
    refine (HP.out _ HB1.out).mono ?_
    rintro e w2 ⟨rfl, hb2⟩
    have HB2 := Lib.hid ((HB1.out.trans (hb2.mono HB1.out.size)).alloc (Nat.le_trans HB1.out.size hb2.size) (.cells #[.int .i64 0, .string ⟨#[]⟩, .int .i64 0] 27))
    clear hb2
    go_wp2_with fail
    go_ret2
    rw [hT.out]
    exact ⟨rfl, HB2.out⟩
  | some x =>
    obtain ⟨k2, n2, p2⟩ := x
    have HX3 := Lib.hid hX3
    clear hX3
    unfold prsV hostV at HP
    simp only at HP
    by_cases hq : some (k2, n2, p2) = some (k, nm.data.toList, p)
    · have HT := Lib.hid (hyes hq)
      simp only [Option.some.injEq, Prod.mk.injEq] at hq
      obtain ⟨rfl, rfl, rfl⟩ := hq
      have hsl : (⟨nm.data.toList.toArray⟩ : ByteArray) = nm := (Hp.ofL _ _ rfl).symm
      rw [hsl] at HP
      clear hyes hno hsl
      go_enter Tryz.func32, Tryz.ntmps32
      go_wp2_with fail
      refine (HW.out _ (HB0.out _)).mono ?_
      rintro e w1 ⟨rfl, hb1⟩
      have c0 := below_cell hb1 (b := w.heap.size) (i := 0) (x := some (.int .i64 k2)) (by simp) (by simp [go_sem])
      have c1 := below_cell hb1 (b := w.heap.size) (i := 1) (x := some (.string nm)) (by simp) (by simp [go_sem])
      have c2 := below_cell hb1 (b := w.heap.size) (i := 2) (x := some (.int .i64 p2)) (by simp) (by simp [go_sem])
      have hl1 : w.heap.size < w1.heap.size := by have := hb1.size; simp at this; omega
      have HB1 := Lib.hid ((HB0.out (.cells #[.int .i64 k2, .string nm, .int .i64 p2] 27)).trans (hb1.mono (by simp)))
      clear hb1
      go_wp2_with fail
      refine (HP.out _ HB1.out).mono ?_
      rintro e w2 ⟨rfl, hb2⟩
      have d0 := below_cell hb2 hl1 c0
      have d1 := below_cell hb2 hl1 c1
      have d2 := below_cell hb2 hl1 c2
      have hl2 : w.heap.size < w2.heap.size := by have := hb2.size; omega
      have HB2 := Lib.hid (HB1.out.trans (hb2.mono HB1.out.size))
      clear hb2
      go_wp2_with fail
      go_ret2
      refine ⟨?_, HB2.out.alloc HB2.out.size _⟩
      rw [HT.out]
      show Ending.returned (.tuple #[.string X3, .int .i64 0]) = _
      rw [HX3.out]; rfl
    · have HT := Lib.hid (hno hq)
      have HQ := Lib.hid hq
      clear hyes hno hq
      go_enter Tryz.func32, Tryz.ntmps32
      go_wp2_with fail
      refine (HW.out _ (HB0.out _)).mono ?_
      rintro e w1 ⟨rfl, hb1⟩
      have c0 := below_cell hb1 (b := w.heap.size) (i := 0) (x := some (.int .i64 k)) (by simp) (by simp [go_sem])
      have c1 := below_cell hb1 (b := w.heap.size) (i := 1) (x := some (.string nm)) (by simp) (by simp [go_sem])
      have c2 := below_cell hb1 (b := w.heap.size) (i := 2) (x := some (.int .i64 p)) (by simp) (by simp [go_sem])
      have hl1 : w.heap.size < w1.heap.size := by have := hb1.size; simp at this; omega
      have HB1 := Lib.hid ((HB0.out (.cells #[.int .i64 k, .string nm, .int .i64 p] 27)).trans (hb1.mono (by simp)))
      clear hb1
      go_wp2_with fail
      refine (HP.out _ HB1.out).mono ?_
      rintro e w2 ⟨rfl, hb2⟩
      have d0 := below_cell hb2 hl1 c0
      have d1 := below_cell hb2 hl1 c1
      have d2 := below_cell hb2 hl1 c2
      have hl2 : w.heap.size < w2.heap.size := by have := hb2.size; omega
      have HB2 := Lib.hid (HB1.out.trans (hb2.mono HB1.out.size))
      clear hb2
      go_wp2_with fail
      all_goals
        go_ret2
        refine ⟨?_, HB2.out.alloc HB2.out.size _⟩
        first
          | (rw [HT.out]; rfl)
          | (exfalso; apply HQ.out; simp_all [ByteArray.toList_eq])
end Go.Proofs.YtnpbnlphmngbdaaGreatDoor
