/- What the program's fieldline asks of a text: a line's end in it, bytes of a value alone, a value: contracts. -/
import Derived.Test.YtchhjmdbjndckaaDoorIdxB
import Derived.Test.YtchhjmdbjndckaaDoorBlB
import Derived.Test.YtchhjmdbjndckaaDoorScanE
import Derived.Test.YtchhjmdbjndckaaDoorFlA
namespace Go.Proofs.YtchhjmdbjndckaaDoor
open Go.RowKit

namespace Fl
theorem ix_any : ∀ l : List UInt8, decide (0 ≤ Lib.indexAny l [13, 10]) = l.any en
  | [] => by decide
  | c :: r => by
    have ih := ix_any r
    have hg := Lib.indexAny_ge [13, 10] r
    rw [List.any_cons, ← ih]
    show decide (0 ≤ (if ([13, 10] : List UInt8).contains c = true then (0 : Int) else if (Lib.indexAny r [13, 10] == -1) = true then -1 else Lib.indexAny r [13, 10] + 1)) = (en c || _)
    unfold en
    cases ([13, 10] : List UInt8).contains c
    · rw [if_neg (by decide), Bool.false_or, decide_eq_decide]
      split
      · rename_i h
        have h' : Lib.indexAny r [13, 10] = -1 := by simpa using h
        rw [h']
      · rename_i h
        have h' : Lib.indexAny r [13, 10] ≠ -1 := by simpa using h
        omega
    · rfl
theorem tokS_L (s : ByteArray) : tokS s = tokL s.data.toList := by
  unfold tokS tokL
  rw [show s.data.toList.length = s.size from Array.length_toList]
  rfl
/-- May a text be a value? -/
def vOk (l : List UInt8) : Bool := l.all vl && decide (Cm.trim l = l)
theorem trim_same (s : ByteArray) : ((trimB [32, 9] s).toList == s.toList) = decide (Cm.trim s.data.toList = s.data.toList) := by
  rw [ByteArray.toList_eq, ByteArray.toList_eq]
  show (Cm.trim s.data.toList == _) = _
  rw [Bool.eq_iff_iff]; simp
end Fl
theorem Ends_any (s : ByteArray) (w : World) (hs : s.size ≤ 100000) :
    Calls Tryd.prog 14 #[.string s, .string ⟨#[13, 10]⟩] w fun e w' => e = .returned (.bool (s.data.toList.any Fl.en)) ∧ Below w.heap.size w w' := by
  have HI := Lib.hid (IndexAny_any s ⟨#[13, 10]⟩ w hs rfl (by
    intro j b hj
    have hm := List.mem_of_getElem? hj
    have hm' : b ∈ ([13, 10] : List UInt8) := hm
    simp at hm'
    rcases hm' with rfl | rfl <;> decide))
  rw [← Fl.ix_any]
  have e0 : (⟨#[13, 10]⟩ : ByteArray).data.toList = [13, 10] := rfl
  rw [e0] at HI
  generalize Lib.indexAny s.data.toList [13, 10] = ix at *
  go_enter Tryd.func14, Tryd.ntmps14
  go_wp2_with fail
  refine HI.out.mono ?_
  rintro e w1 ⟨rfl, hb1⟩
  go_wp2_with fail
  go_ret
  exact ⟨rfl, hb1⟩
theorem enters_IsValueF (args : Array Value) (w : World) : (callFunc 19 args).run Tryd.prog w = .ok (.enter 19 args) w := by
  exact enters_of Tryd.func19 (by kernel_rfl) rfl args w
theorem AllVl_any (t : ByteArray) (w : World) (hs : t.size ≤ 100000) :
    Calls Tryd.prog 18 #[.func (.func 19) #[] #[], .slice (some ⟨w.heap.size, 0, none⟩) 1 1] (w.alloc (.cells #[.string t] 9)) fun e w' => e = .returned (.bool (t.data.toList.all Fl.vl)) ∧ Below w.heap.size w w' := by
  have hfl : (asks (fun _ c => Fl.vl c) [] (flat [t])).1 = t.data.toList.all Fl.vl := by rw [asks_pure]; unfold flat; simp
  have hA := All_any 19 #[] #[] (fun _ c => Fl.vl c) (fun _ W => W = (w.alloc (.cells #[.string t] 9)).alloc (.cells #[.bool false] 4)) ⟨w.heap.size, 0, none⟩ 1 1 [t] rfl (by omega) (by simpa using hs) (w.alloc (.cells #[.string t] 9)) enters_IsValueF rfl
    (by
      rintro pre W rfl
      refine ⟨by simp [go_sem], by simp [go_sem], fun i hi => ?_⟩
      obtain rfl : i = 0 := by omega
      exact alloc2_cell _ _ _ _ _)
    (by
      rintro pre c r W - - rfl
      refine (IsValue_any (c.toNat : Int) _).mono ?_
      rintro e w' ⟨rfl, rfl⟩
      exact ⟨rfl, rfl⟩)
  rw [hfl] at hA
  refine hA.mono ?_
  rintro e w' ⟨W, rfl, rfl, rfl⟩
  exact ⟨rfl, (by repeat (first | with_reducible exact Below.refl _ _ | with_reducible assumption | (with_reducible refine Below.setCell ?_ ?_ _; rotate_left; · (simp <;> omega)) | (with_reducible refine Below.alloc ?_ ?_ _; rotate_left; · (simp <;> omega)) | with_reducible refine Below.drew ?_))⟩
theorem isValue_any (s : ByteArray) (w : World) (hs : s.size ≤ 100000) :
    Calls Tryd.prog 26 #[.string s] w fun e w' => e = .returned (.bool (Fl.vOk s.data.toList)) ∧ Below w.heap.size w w' := by
  have HA := Lib.hid (AllVl_any s w hs)
  have HT := Lib.hid (fun w1 => Trim_any ⟨#[32, 9]⟩ s [32, 9] rfl (by decide) (by decide +kernel) w1 hs)
  have HS := Lib.hid (Fl.trim_same s)
  unfold Fl.vOk
  generalize s.data.toList.all Fl.vl = a at *
  generalize decide (Cm.trim s.data.toList = s.data.toList) = b at *
  generalize trimB [32, 9] s = t at *
  go_enter Tryd.func26, Tryd.ntmps26
  go_wp2_with fail
  refine HA.out.mono ?_
  rintro e w1 ⟨rfl, hb1⟩
  cases a
  · go_wp2_with fail
    go_ret
    exact ⟨rfl, hb1⟩
  · go_wp2_with fail
    refine (HT.out _).mono ?_
    rintro e w2 ⟨rfl, hb2⟩
    go_wp2_with fail
    rw [HS.out]
    go_wp2_with fail
    go_ret
    exact ⟨rfl, hb1.trans (hb2.mono hb1.size)⟩
/-- A field's two cells in a world. -/
structure FldAt (w : World) (b : Nat) (n v : ByteArray) : Prop where
  c0 : w.cell? ⟨b, 0, none⟩ = some (.string n)
  c1 : w.cell? ⟨b, 1, none⟩ = some (.string v)
  f0 : w.frozen? ⟨b, 0, none⟩ = false
  f1 : w.frozen? ⟨b, 1, none⟩ = false
  lt : b < w.heap.size
theorem FldAt.stay {w w' : World} {b : Nat} {n v : ByteArray} (h : FldAt w b n v) (hb : Below w.heap.size w w') : FldAt w' b n v :=
  ⟨(hb.cell h.lt).trans h.c0, (hb.cell h.lt).trans h.c1, (hb.frozen h.lt).trans h.f0, (hb.frozen h.lt).trans h.f1, Nat.lt_of_lt_of_le h.lt hb.size⟩
theorem fldAt_new (w : World) (n v : ByteArray) : FldAt (w.alloc (.cells #[.string n, .string v] 25)) w.heap.size n v := by
  constructor <;> simp [go_sem]
/-- A field as a value. -/
def fF (n v : ByteArray) : Value := .agg #[.string n, .string v]
theorem FCheck_any (n v : ByteArray) (w : World) (hn : n.size ≤ 100000) (hv : v.size ≤ 100000) :
    Calls Tryd.prog 12 #[fF n v] w fun e w' => e = .returned (.int .i64 (Fl.checkL n.data.toList v.data.toList)) ∧ Below w.heap.size w w' := by
  have HT := Lib.hid (fun w1 => Token_any n w1 hn)
  rw [Fl.tokS_L] at HT
  have HV := Lib.hid (fun w1 => isValue_any v w1 hv)
  have HN := Lib.hid (fldAt_new w n v)
  show Calls _ _ _ _ fun e w' => e = .returned (.int .i64 (if Fl.tokL n.data.toList = false then 21 else if Fl.vOk v.data.toList = false then 25 else 0)) ∧ _
  generalize Fl.tokL n.data.toList = a at *
  generalize Fl.vOk v.data.toList = b at *
  unfold fF
  go_enter Tryd.func12, Tryd.ntmps12
  go_wp2_with fail
  refine (HT.out _).mono ?_
  rintro e w1 ⟨rfl, hb1⟩
  have hb0 : Below w.heap.size w w1 := below_then (by repeat (first | with_reducible exact Below.refl _ _ | with_reducible assumption | (with_reducible refine Below.setCell ?_ ?_ _; rotate_left; · (simp <;> omega)) | (with_reducible refine Below.alloc ?_ ?_ _; rotate_left; · (simp <;> omega)) | with_reducible refine Below.drew ?_)) hb1
  obtain ⟨c0, c1, -, -, l0⟩ := HN.out.stay hb1
  cases a
  · go_wp2_with fail
    go_ret
    exact ⟨rfl, hb0⟩
  · go_wp2_with fail
    refine (HV.out _).mono ?_
    rintro e w2 ⟨rfl, hb2⟩
    have hb3 := below_then hb0 hb2
    cases b
    · go_wp2_with fail
      go_ret
      exact ⟨rfl, hb3⟩
    · go_wp2_with fail
      go_ret
      exact ⟨rfl, hb3⟩
/-- A line's text. -/
def lineB (n v : ByteArray) : ByteArray := ⟨(Fl.lineL n.data.toList v.data.toList).toArray⟩
def txtF (n v : ByteArray) : Value := if Fl.checkL n.data.toList v.data.toList = 0 then .tuple #[.string (lineB n v), .int .i64 0] else .tuple #[.string ByteArray.empty, .int .i64 (Fl.checkL n.data.toList v.data.toList)]
theorem line_none (n v : ByteArray) (h : v.toList.isEmpty = true) : n ++ ⟨#[58]⟩ = lineB n v := by
  rw [ByteArray.toList_eq] at h
  have h2 : v.data.toList = [] := by simpa using h
  apply bytes_eq
  rw [list_append]
  show _ = Fl.lineL _ _
  unfold Fl.lineL
  rw [if_pos h2]
theorem line_some (n v : ByteArray) (h : v.toList.isEmpty = false) : n ++ ⟨#[58]⟩ ++ (⟨#[32]⟩ ++ v) = lineB n v := by
  rw [ByteArray.toList_eq] at h
  have h2 : v.data.toList ≠ [] := by simpa using h
  apply bytes_eq
  rw [list_append, list_append, list_append]
  show _ = Fl.lineL _ _
  unfold Fl.lineL
  rw [if_neg h2, List.append_assoc]
  rfl
theorem FText_any (n v : ByteArray) (w : World) (hn : n.size ≤ 100000) (hv : v.size ≤ 100000) :
    Calls Tryd.prog 10 #[fF n v] w fun e w' => e = .returned (txtF n v) ∧ Below w.heap.size w w' := by
  have HC := Lib.hid (fun w1 => FCheck_any n v w1 hn hv)
  have HN := Lib.hid (fldAt_new w n v)
  have H0 := Lib.hid (line_none n v)
  have H1 := Lib.hid (line_some n v)
  unfold txtF
  generalize Fl.checkL n.data.toList v.data.toList = k at *
  generalize lineB n v = l at *
  unfold fF at *
  by_cases hk : k = 0
  · subst hk
    rw [if_pos rfl]
    cases he : v.toList.isEmpty
    · have e1 := H1.out he
      go_enter Tryd.func10, Tryd.ntmps10
      go_wp2_with fail
      refine (HC.out _).mono ?_
      rintro e w1 ⟨rfl, hb1⟩
      have hb0 : Below w.heap.size w w1 := below_then (by repeat (first | with_reducible exact Below.refl _ _ | with_reducible assumption | (with_reducible refine Below.setCell ?_ ?_ _; rotate_left; · (simp <;> omega)) | (with_reducible refine Below.alloc ?_ ?_ _; rotate_left; · (simp <;> omega)) | with_reducible refine Below.drew ?_)) hb1
      obtain ⟨c0, c1, -, -, l0⟩ := HN.out.stay hb1
      go_wp2_with fail
      go_ret2
      exact ⟨ret_pair rfl rfl, hb0⟩
    · have e1 := H0.out he
      go_enter Tryd.func10, Tryd.ntmps10
      go_wp2_with fail
      refine (HC.out _).mono ?_
      rintro e w1 ⟨rfl, hb1⟩
      have hb0 : Below w.heap.size w w1 := below_then (by repeat (first | with_reducible exact Below.refl _ _ | with_reducible assumption | (with_reducible refine Below.setCell ?_ ?_ _; rotate_left; · (simp <;> omega)) | (with_reducible refine Below.alloc ?_ ?_ _; rotate_left; · (simp <;> omega)) | with_reducible refine Below.drew ?_)) hb1
      obtain ⟨c0, c1, -, -, l0⟩ := HN.out.stay hb1
      go_wp2_with fail
      go_ret2
      exact ⟨ret_pair rfl rfl, hb0⟩
  · rw [if_neg hk]
    have hk2 : (k == 0) = false := by simpa using hk
    go_enter Tryd.func10, Tryd.ntmps10
    go_wp2_with fail
    refine (HC.out _).mono ?_
    rintro e w1 ⟨rfl, hb1⟩
    have hb0 : Below w.heap.size w w1 := below_then (by repeat (first | with_reducible exact Below.refl _ _ | with_reducible assumption | (with_reducible refine Below.setCell ?_ ?_ _; rotate_left; · (simp <;> omega)) | (with_reducible refine Below.alloc ?_ ?_ _; rotate_left; · (simp <;> omega)) | with_reducible refine Below.drew ?_)) hb1
    go_wp2_with fail
    go_ret2
    exact ⟨ret_pair rfl rfl, hb0⟩
end Go.Proofs.YtchhjmdbjndckaaDoor
