/- A reference's values; base, write, Parse: contracts. -/
import Derived.Test.YtnnhlkbjdfgcaaaUrH
import Derived.Test.YtnnhlkbjdfgcaaaQuilI
namespace Go.Proofs.Ytnnhlkbjdfgcaaa
open Go.RowKit
namespace Ur
theorem rest_le (b : List UInt8) : (restOf b).length ≤ b.length := by
  unfold restOf
  split
  · rw [List.length_drop]; omega
  · exact Nat.le_refl _
theorem sch_le (b : List UInt8) : (schOf b).length ≤ b.length := by
  unfold schOf
  split
  · rw [List.length_take]; omega
  · exact Nat.zero_le _
theorem au_le (d : List UInt8) : (auOf d).length ≤ d.length := by
  unfold auOf
  split
  · rw [List.length_take, List.length_drop]; omega
  · exact Nat.zero_le _
theorem pa_le (d : List UInt8) : (paOf d).length ≤ d.length := by
  unfold paOf
  split
  · rw [List.length_drop, List.length_drop]; omega
  · exact Nat.le_refl _
theorem noQ_le (l : List UInt8) : (noQ l).length ≤ l.length := by unfold noQ; rw [List.length_take]; omega
theorem noF_le (l : List UInt8) : (noF l).length ≤ l.length := by unfold noF; rw [List.length_take]; omega
/-- No part is longer than so much. -/
structure R.Le (r : R) (n : Nat) : Prop where
  sch : r.sch.length ≤ n
  au : r.au.length ≤ n
  pa : r.pa.length ≤ n
  qu : r.qu.length ≤ n
  fr : r.fr.length ≤ n
theorem R.Le.mono {r : R} {n m : Nat} (h : r.Le n) (k : n ≤ m) : r.Le m := ⟨Nat.le_trans h.sch k, Nat.le_trans h.au k, Nat.le_trans h.pa k, Nat.le_trans h.qu k, Nat.le_trans h.fr k⟩
theorem R.none_le (n : Nat) : R.none.Le n := ⟨Nat.zero_le _, Nat.zero_le _, Nat.zero_le _, Nat.zero_le _, Nat.zero_le _⟩
theorem parts_le (l : List UInt8) : (parts l).Le l.length := by
  have h1 := noF_le l
  have h2 := Nat.le_trans (noQ_le (noF l)) h1
  have h3 := Nat.le_trans (rest_le (noQ (noF l))) h2
  refine ⟨Nat.le_trans (sch_le _) h2, Nat.le_trans (au_le _) h3, Nat.le_trans (pa_le _) h3, ?_, ?_⟩
  · show ((noF l).drop _).length ≤ _
    rw [List.length_drop]; omega
  · show (l.drop _).length ≤ _
    rw [List.length_drop]; omega
theorem parse_le {l : List UInt8} {r : R} (h : parseL l = some r) : r.Le l.length := by
  unfold parseL at h
  split at h
  · rw [← Option.some.inj h]; exact parts_le l
  · cases h
end Ur
theorem arr_size (l : List UInt8) : (⟨l.toArray⟩ : ByteArray).size = l.length := by
  show l.toArray.size = _
  simp
theorem arr_list (l : List UInt8) : (⟨l.toArray⟩ : ByteArray).data.toList = l := by simp
/-- The program's functions over a reference. -/
theorem hasRight_r (r : Ur.R) (w : World) (h : r.Le 1000) (hm : MaxL w) :
    Calls Try.prog 18 #[rV r] w fun e w' => e = .returned (.bool (Ur.okR r)) ∧ Below w.heap.size w w' := by
  have h1 := hasRight_any ⟨r.sch.toArray⟩ ⟨r.au.toArray⟩ ⟨r.pa.toArray⟩ ⟨r.qu.toArray⟩ ⟨r.fr.toArray⟩ r.hA r.hQ r.hF w (by rw [arr_size]; exact h.au) (by rw [arr_size]; exact h.pa) (by rw [arr_size]; exact h.qu) (by rw [arr_size]; exact h.fr) hm
  rw [arr_list, arr_list, arr_list, arr_list] at h1
  exact h1
theorem colons_r (r : Ur.R) (w : World) (h : r.Le 1000) (hm : MaxL w) :
    Calls Try.prog 19 #[rV r] w fun e w' => e = .returned (.bool (Ur.colR r)) ∧ Below w.heap.size w w' := by
  have h1 := colons_any ⟨r.sch.toArray⟩ ⟨r.au.toArray⟩ ⟨r.pa.toArray⟩ ⟨r.qu.toArray⟩ ⟨r.fr.toArray⟩ r.hA r.hQ r.hF w (by rw [arr_size]; exact h.pa) hm
  rw [arr_list, arr_list] at h1
  exact h1
/-- What Parse answers. -/
def pV (o : Option Ur.R) : Value := match o with
  | some r => .tuple #[rV r, .int .i64 0]
  | none => .tuple #[rV Ur.R.none, .int .i64 2]
set_option maxHeartbeats 800000 in
theorem UParse_any (s : ByteArray) (w : World) (hs : s.size ≤ 1000) (hm : MaxL w) :
    Calls Try.prog 8 #[.string s] w fun e w' => e = .returned (pV (Ur.parseL s.data.toList)) ∧ Below w.heap.size w w' := by
  have hl : s.data.toList.length = s.size := by simp
  have hle := (Ur.parts_le s.data.toList).mono (m := 1000) (by omega)
  have HP := Lib.hid (fun w1 (h : Below w.heap.size w w1) => parts_any s w1 hs (hm.stay h))
  have HR := Lib.hid (fun w1 (h : Below w.heap.size w w1) => hasRight_r (Ur.parts s.data.toList) w1 hle (hm.stay h))
  have HC := Lib.hid (fun w1 (h : Below w.heap.size w w1) => colons_r (Ur.parts s.data.toList) w1 hle (hm.stay h))
  unfold Ur.parseL
  generalize Ur.parts s.data.toList = r at *
  generalize Ur.okR r = b1 at *
  generalize Ur.colR r = b2 at *
  clear hm hle hl hs
  have hb0 : ∀ o, Below w.heap.size w (w.alloc o) := fun o => (Below.refl _ _).alloc (Nat.le_refl _) _
  have HB0 := Lib.hid hb0
  clear hb0
  have HV := Lib.hid (show pV (some r) = .tuple #[rV r, .int .i64 0] from rfl)
  unfold rV at *
  generalize (⟨r.sch.toArray⟩ : ByteArray) = A at *
  generalize (⟨r.au.toArray⟩ : ByteArray) = B at *
  generalize (⟨r.pa.toArray⟩ : ByteArray) = C at *
  generalize (⟨r.qu.toArray⟩ : ByteArray) = D at *
  generalize (⟨r.fr.toArray⟩ : ByteArray) = E at *
  go_enter Try.func8, Try.ntmps8
  cases b1
  · go_wp2_with (first | (go_at_call 17; refine (HP.out _ ?_).mono ?_; exact (by repeat (first | with_reducible exact Below.refl _ _ | with_reducible assumption | with_reducible refine below_allocT ?_ _ | with_reducible refine Below.drew ?_ | with_reducible refine below_drewT ?_ _ | (with_reducible refine Below.setCell ?_ ?_ _; rotate_left; · first | exact Nat.le_refl _ | omega | (simp <;> omega)) | (with_reducible refine Below.alloc ?_ ?_ _; rotate_left; · first | omega | (simp <;> omega)))); rintro e w1 ⟨rfl, hb1⟩; have HB1 := Lib.hid (below_then (w := w) (by repeat (first | with_reducible exact Below.refl _ _ | with_reducible assumption | with_reducible refine below_allocT ?_ _ | with_reducible refine Below.drew ?_ | with_reducible refine below_drewT ?_ _ | (with_reducible refine Below.setCell ?_ ?_ _; rotate_left; · first | exact Nat.le_refl _ | omega | (simp <;> omega)) | (with_reducible refine Below.alloc ?_ ?_ _; rotate_left; · first | omega | (simp <;> omega)))) hb1); have HZ1 := Lib.hid ((refAt_new w ⟨#[]⟩ ⟨#[]⟩ ⟨#[]⟩ ⟨#[]⟩ ⟨#[]⟩ false false false).stay hb1); clear hb1) | (go_at_call 18; refine (HR.out _ ?_).mono ?_; (have h := HB1.out; have hz := h.size; exact (by repeat (first | with_reducible exact Below.refl _ _ | with_reducible assumption | with_reducible refine below_allocT ?_ _ | with_reducible refine Below.drew ?_ | with_reducible refine below_drewT ?_ _ | (with_reducible refine Below.setCell ?_ ?_ _; rotate_left; · first | exact Nat.le_refl _ | omega | (simp <;> omega)) | (with_reducible refine Below.alloc ?_ ?_ _; rotate_left; · first | omega | (simp <;> omega))))); rintro e w2 ⟨rfl, hb2⟩; have HB2 := Lib.hid (below_then (w := w) (by have h := HB1.out; have hz := h.size; exact (by repeat (first | with_reducible exact Below.refl _ _ | with_reducible assumption | with_reducible refine below_allocT ?_ _ | with_reducible refine Below.drew ?_ | with_reducible refine below_drewT ?_ _ | (with_reducible refine Below.setCell ?_ ?_ _; rotate_left; · first | exact Nat.le_refl _ | omega | (simp <;> omega)) | (with_reducible refine Below.alloc ?_ ?_ _; rotate_left; · first | omega | (simp <;> omega))))) hb2); have HR2 := Lib.hid ((refAt_new w1 A B C D E r.hA r.hQ r.hF).stay hb2); have HZ2 := Lib.hid ((HZ1.out.stay ((Below.refl _ _).alloc (Nat.le_refl _) _)).stay hb2); clear hb2; obtain ⟨c0, c1, c2, c3, c4, c5, c6, c7, f0, f1, f2, f3, f4, f5, f6, f7, l0⟩ := HR2.out; obtain ⟨d0, d1, d2, d3, d4, d5, d6, d7, g0, g1, g2, g3, g4, g5, g6, g7, l1⟩ := HZ2.out) | (go_at_call 19; refine (HC.out _ ?_).mono ?_; (have h := HB2.out; have hz := h.size; exact (by repeat (first | with_reducible exact Below.refl _ _ | with_reducible assumption | with_reducible refine below_allocT ?_ _ | with_reducible refine Below.drew ?_ | with_reducible refine below_drewT ?_ _ | (with_reducible refine Below.setCell ?_ ?_ _; rotate_left; · first | exact Nat.le_refl _ | omega | (simp <;> omega)) | (with_reducible refine Below.alloc ?_ ?_ _; rotate_left; · first | omega | (simp <;> omega))))); rintro e w3 ⟨rfl, hb3⟩; clear c0 c1 c2 c3 c4 c5 c6 c7 f0 f1 f2 f3 f4 f5 f6 f7 l0 d0 d1 d2 d3 d4 d5 d6 d7 g0 g1 g2 g3 g4 g5 g6 g7 l1; have HB3 := Lib.hid (below_then (w := w) (by have h := HB2.out; have hz := h.size; exact (by repeat (first | with_reducible exact Below.refl _ _ | with_reducible assumption | with_reducible refine below_allocT ?_ _ | with_reducible refine Below.drew ?_ | with_reducible refine below_drewT ?_ _ | (with_reducible refine Below.setCell ?_ ?_ _; rotate_left; · first | exact Nat.le_refl _ | omega | (simp <;> omega)) | (with_reducible refine Below.alloc ?_ ?_ _; rotate_left; · first | omega | (simp <;> omega))))) hb3); have HR3 := Lib.hid (HR2.out.stay hb3); have HZ3 := Lib.hid (HZ2.out.stay hb3); clear hb3; obtain ⟨c0, c1, c2, c3, c4, c5, c6, c7, f0, f1, f2, f3, f4, f5, f6, f7, l0⟩ := HR3.out; obtain ⟨d0, d1, d2, d3, d4, d5, d6, d7, g0, g1, g2, g3, g4, g5, g6, g7, l1⟩ := HZ3.out))
    refine bodyPost_ret (v := .tuple #[.agg #[.string ⟨#[]⟩, .string ⟨#[]⟩, .string ⟨#[]⟩, .string ⟨#[]⟩, .string ⟨#[]⟩, .bool false, .bool false, .bool false], .int .i64 2]) (by simp [results, Try.results8, go_sem, d0, d1, d2, d3, d4, d5, d6, d7]) rfl ⟨rfl, ?_⟩
    have h := HB2.out
    have hz := h.size
    exact (by repeat (first | with_reducible exact Below.refl _ _ | with_reducible assumption | with_reducible refine below_allocT ?_ _ | with_reducible refine Below.drew ?_ | with_reducible refine below_drewT ?_ _ | (with_reducible refine Below.setCell ?_ ?_ _; rotate_left; · first | exact Nat.le_refl _ | omega | (simp <;> omega)) | (with_reducible refine Below.alloc ?_ ?_ _; rotate_left; · first | omega | (simp <;> omega))))
  · cases b2
    · go_wp2_with (first | (go_at_call 17; refine (HP.out _ ?_).mono ?_; exact (by repeat (first | with_reducible exact Below.refl _ _ | with_reducible assumption | with_reducible refine below_allocT ?_ _ | with_reducible refine Below.drew ?_ | with_reducible refine below_drewT ?_ _ | (with_reducible refine Below.setCell ?_ ?_ _; rotate_left; · first | exact Nat.le_refl _ | omega | (simp <;> omega)) | (with_reducible refine Below.alloc ?_ ?_ _; rotate_left; · first | omega | (simp <;> omega)))); rintro e w1 ⟨rfl, hb1⟩; have HB1 := Lib.hid (below_then (w := w) (by repeat (first | with_reducible exact Below.refl _ _ | with_reducible assumption | with_reducible refine below_allocT ?_ _ | with_reducible refine Below.drew ?_ | with_reducible refine below_drewT ?_ _ | (with_reducible refine Below.setCell ?_ ?_ _; rotate_left; · first | exact Nat.le_refl _ | omega | (simp <;> omega)) | (with_reducible refine Below.alloc ?_ ?_ _; rotate_left; · first | omega | (simp <;> omega)))) hb1); have HZ1 := Lib.hid ((refAt_new w ⟨#[]⟩ ⟨#[]⟩ ⟨#[]⟩ ⟨#[]⟩ ⟨#[]⟩ false false false).stay hb1); clear hb1) | (go_at_call 18; refine (HR.out _ ?_).mono ?_; (have h := HB1.out; have hz := h.size; exact (by repeat (first | with_reducible exact Below.refl _ _ | with_reducible assumption | with_reducible refine below_allocT ?_ _ | with_reducible refine Below.drew ?_ | with_reducible refine below_drewT ?_ _ | (with_reducible refine Below.setCell ?_ ?_ _; rotate_left; · first | exact Nat.le_refl _ | omega | (simp <;> omega)) | (with_reducible refine Below.alloc ?_ ?_ _; rotate_left; · first | omega | (simp <;> omega))))); rintro e w2 ⟨rfl, hb2⟩; have HB2 := Lib.hid (below_then (w := w) (by have h := HB1.out; have hz := h.size; exact (by repeat (first | with_reducible exact Below.refl _ _ | with_reducible assumption | with_reducible refine below_allocT ?_ _ | with_reducible refine Below.drew ?_ | with_reducible refine below_drewT ?_ _ | (with_reducible refine Below.setCell ?_ ?_ _; rotate_left; · first | exact Nat.le_refl _ | omega | (simp <;> omega)) | (with_reducible refine Below.alloc ?_ ?_ _; rotate_left; · first | omega | (simp <;> omega))))) hb2); have HR2 := Lib.hid ((refAt_new w1 A B C D E r.hA r.hQ r.hF).stay hb2); have HZ2 := Lib.hid ((HZ1.out.stay ((Below.refl _ _).alloc (Nat.le_refl _) _)).stay hb2); clear hb2; obtain ⟨c0, c1, c2, c3, c4, c5, c6, c7, f0, f1, f2, f3, f4, f5, f6, f7, l0⟩ := HR2.out; obtain ⟨d0, d1, d2, d3, d4, d5, d6, d7, g0, g1, g2, g3, g4, g5, g6, g7, l1⟩ := HZ2.out) | (go_at_call 19; refine (HC.out _ ?_).mono ?_; (have h := HB2.out; have hz := h.size; exact (by repeat (first | with_reducible exact Below.refl _ _ | with_reducible assumption | with_reducible refine below_allocT ?_ _ | with_reducible refine Below.drew ?_ | with_reducible refine below_drewT ?_ _ | (with_reducible refine Below.setCell ?_ ?_ _; rotate_left; · first | exact Nat.le_refl _ | omega | (simp <;> omega)) | (with_reducible refine Below.alloc ?_ ?_ _; rotate_left; · first | omega | (simp <;> omega))))); rintro e w3 ⟨rfl, hb3⟩; clear c0 c1 c2 c3 c4 c5 c6 c7 f0 f1 f2 f3 f4 f5 f6 f7 l0 d0 d1 d2 d3 d4 d5 d6 d7 g0 g1 g2 g3 g4 g5 g6 g7 l1; have HB3 := Lib.hid (below_then (w := w) (by have h := HB2.out; have hz := h.size; exact (by repeat (first | with_reducible exact Below.refl _ _ | with_reducible assumption | with_reducible refine below_allocT ?_ _ | with_reducible refine Below.drew ?_ | with_reducible refine below_drewT ?_ _ | (with_reducible refine Below.setCell ?_ ?_ _; rotate_left; · first | exact Nat.le_refl _ | omega | (simp <;> omega)) | (with_reducible refine Below.alloc ?_ ?_ _; rotate_left; · first | omega | (simp <;> omega))))) hb3); have HR3 := Lib.hid (HR2.out.stay hb3); have HZ3 := Lib.hid (HZ2.out.stay hb3); clear hb3; obtain ⟨c0, c1, c2, c3, c4, c5, c6, c7, f0, f1, f2, f3, f4, f5, f6, f7, l0⟩ := HR3.out; obtain ⟨d0, d1, d2, d3, d4, d5, d6, d7, g0, g1, g2, g3, g4, g5, g6, g7, l1⟩ := HZ3.out))
      refine bodyPost_ret (v := .tuple #[.agg #[.string ⟨#[]⟩, .string ⟨#[]⟩, .string ⟨#[]⟩, .string ⟨#[]⟩, .string ⟨#[]⟩, .bool false, .bool false, .bool false], .int .i64 2]) (by simp [results, Try.results8, go_sem, d0, d1, d2, d3, d4, d5, d6, d7]) rfl ⟨rfl, ?_⟩
      have h := HB3.out
      have hz := h.size
      exact (by repeat (first | with_reducible exact Below.refl _ _ | with_reducible assumption | with_reducible refine below_allocT ?_ _ | with_reducible refine Below.drew ?_ | with_reducible refine below_drewT ?_ _ | (with_reducible refine Below.setCell ?_ ?_ _; rotate_left; · first | exact Nat.le_refl _ | omega | (simp <;> omega)) | (with_reducible refine Below.alloc ?_ ?_ _; rotate_left; · first | omega | (simp <;> omega))))
    · go_wp2_with (first | (go_at_call 17; refine (HP.out _ ?_).mono ?_; exact (by repeat (first | with_reducible exact Below.refl _ _ | with_reducible assumption | with_reducible refine below_allocT ?_ _ | with_reducible refine Below.drew ?_ | with_reducible refine below_drewT ?_ _ | (with_reducible refine Below.setCell ?_ ?_ _; rotate_left; · first | exact Nat.le_refl _ | omega | (simp <;> omega)) | (with_reducible refine Below.alloc ?_ ?_ _; rotate_left; · first | omega | (simp <;> omega)))); rintro e w1 ⟨rfl, hb1⟩; have HB1 := Lib.hid (below_then (w := w) (by repeat (first | with_reducible exact Below.refl _ _ | with_reducible assumption | with_reducible refine below_allocT ?_ _ | with_reducible refine Below.drew ?_ | with_reducible refine below_drewT ?_ _ | (with_reducible refine Below.setCell ?_ ?_ _; rotate_left; · first | exact Nat.le_refl _ | omega | (simp <;> omega)) | (with_reducible refine Below.alloc ?_ ?_ _; rotate_left; · first | omega | (simp <;> omega)))) hb1); have HZ1 := Lib.hid ((refAt_new w ⟨#[]⟩ ⟨#[]⟩ ⟨#[]⟩ ⟨#[]⟩ ⟨#[]⟩ false false false).stay hb1); clear hb1) | (go_at_call 18; refine (HR.out _ ?_).mono ?_; (have h := HB1.out; have hz := h.size; exact (by repeat (first | with_reducible exact Below.refl _ _ | with_reducible assumption | with_reducible refine below_allocT ?_ _ | with_reducible refine Below.drew ?_ | with_reducible refine below_drewT ?_ _ | (with_reducible refine Below.setCell ?_ ?_ _; rotate_left; · first | exact Nat.le_refl _ | omega | (simp <;> omega)) | (with_reducible refine Below.alloc ?_ ?_ _; rotate_left; · first | omega | (simp <;> omega))))); rintro e w2 ⟨rfl, hb2⟩; have HB2 := Lib.hid (below_then (w := w) (by have h := HB1.out; have hz := h.size; exact (by repeat (first | with_reducible exact Below.refl _ _ | with_reducible assumption | with_reducible refine below_allocT ?_ _ | with_reducible refine Below.drew ?_ | with_reducible refine below_drewT ?_ _ | (with_reducible refine Below.setCell ?_ ?_ _; rotate_left; · first | exact Nat.le_refl _ | omega | (simp <;> omega)) | (with_reducible refine Below.alloc ?_ ?_ _; rotate_left; · first | omega | (simp <;> omega))))) hb2); have HR2 := Lib.hid ((refAt_new w1 A B C D E r.hA r.hQ r.hF).stay hb2); have HZ2 := Lib.hid ((HZ1.out.stay ((Below.refl _ _).alloc (Nat.le_refl _) _)).stay hb2); clear hb2; obtain ⟨c0, c1, c2, c3, c4, c5, c6, c7, f0, f1, f2, f3, f4, f5, f6, f7, l0⟩ := HR2.out; obtain ⟨d0, d1, d2, d3, d4, d5, d6, d7, g0, g1, g2, g3, g4, g5, g6, g7, l1⟩ := HZ2.out) | (go_at_call 19; refine (HC.out _ ?_).mono ?_; (have h := HB2.out; have hz := h.size; exact (by repeat (first | with_reducible exact Below.refl _ _ | with_reducible assumption | with_reducible refine below_allocT ?_ _ | with_reducible refine Below.drew ?_ | with_reducible refine below_drewT ?_ _ | (with_reducible refine Below.setCell ?_ ?_ _; rotate_left; · first | exact Nat.le_refl _ | omega | (simp <;> omega)) | (with_reducible refine Below.alloc ?_ ?_ _; rotate_left; · first | omega | (simp <;> omega))))); rintro e w3 ⟨rfl, hb3⟩; clear c0 c1 c2 c3 c4 c5 c6 c7 f0 f1 f2 f3 f4 f5 f6 f7 l0 d0 d1 d2 d3 d4 d5 d6 d7 g0 g1 g2 g3 g4 g5 g6 g7 l1; have HB3 := Lib.hid (below_then (w := w) (by have h := HB2.out; have hz := h.size; exact (by repeat (first | with_reducible exact Below.refl _ _ | with_reducible assumption | with_reducible refine below_allocT ?_ _ | with_reducible refine Below.drew ?_ | with_reducible refine below_drewT ?_ _ | (with_reducible refine Below.setCell ?_ ?_ _; rotate_left; · first | exact Nat.le_refl _ | omega | (simp <;> omega)) | (with_reducible refine Below.alloc ?_ ?_ _; rotate_left; · first | omega | (simp <;> omega))))) hb3); have HR3 := Lib.hid (HR2.out.stay hb3); have HZ3 := Lib.hid (HZ2.out.stay hb3); clear hb3; obtain ⟨c0, c1, c2, c3, c4, c5, c6, c7, f0, f1, f2, f3, f4, f5, f6, f7, l0⟩ := HR3.out; obtain ⟨d0, d1, d2, d3, d4, d5, d6, d7, g0, g1, g2, g3, g4, g5, g6, g7, l1⟩ := HZ3.out))
      refine bodyPost_ret (v := .tuple #[.agg #[.string A, .string B, .string C, .string D, .string E, .bool r.hA, .bool r.hQ, .bool r.hF], .int .i64 0]) (by simp [results, Try.results8, go_sem, d0, d1, d2, d3, d4, d5, d6, d7]) rfl ⟨?_, ?_⟩
      · exact congrArg Ending.returned HV.out.symm
      · have h := HB3.out
        have hz := h.size
        exact (by repeat (first | with_reducible exact Below.refl _ _ | with_reducible assumption | with_reducible refine below_allocT ?_ _ | with_reducible refine Below.drew ?_ | with_reducible refine below_drewT ?_ _ | (with_reducible refine Below.setCell ?_ ?_ _; rotate_left; · first | exact Nat.le_refl _ | omega | (simp <;> omega)) | (with_reducible refine Below.alloc ?_ ?_ _; rotate_left; · first | omega | (simp <;> omega))))
end Go.Proofs.Ytnnhlkbjdfgcaaa
