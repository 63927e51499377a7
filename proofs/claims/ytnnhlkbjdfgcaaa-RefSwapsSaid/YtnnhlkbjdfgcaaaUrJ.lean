/- base, write, Text, Base: contracts. -/
import Derived.Test.YtnnhlkbjdfgcaaaUrI
import Derived.Test.YtnnhlkbjdfgcaaaRegion
namespace Go.Proofs.Ytnnhlkbjdfgcaaa
open Go.RowKit
theorem ubase_any (A B C D E : ByteArray) (x y z : Bool) (w : World) (h0 : A.size ≤ 1000) (h1 : B.size ≤ 1000) :
    Calls Try.prog 25 #[rF A B C D E x y z] w fun e w' => e = .returned (.string ⟨(Ur.schT A.data.toList ++ Ur.mk x [47, 47] B.data.toList).toArray⟩) ∧ Below w.heap.size w w' := by
  have hb0 : ∀ o, Below w.heap.size w (w.alloc o) := fun o => (Below.refl _ _).alloc (Nat.le_refl _) _
  have HB0 := Lib.hid hb0
  have HM := Lib.hid (fun w1 => marked_any x ⟨#[47, 47]⟩ B w1 (by decide) h1)
  rw [show (⟨#[47, 47]⟩ : ByteArray).data.toList = [47, 47] from rfl] at HM
  have hml : (Ur.mk x [47, 47] B.data.toList).length ≤ 1002 := by
    have : B.data.toList.length = B.size := by simp
    unfold Ur.mk
    split
    · rw [List.length_append]; show 2 + _ ≤ _; omega
    · exact Nat.zero_le _
  generalize Ur.mk x [47, 47] B.data.toList = m at *
  obtain ⟨M, hM⟩ : ∃ M : ByteArray, M.data.toList = m := ⟨⟨m.toArray⟩, by simp⟩
  have hMz : M.size ≤ 1002 := by
    have : M.data.toList.length = M.size := by simp
    rw [← this, hM]; exact hml
  rw [mkB hM] at HM
  rw [← hM]
  obtain ⟨a, ha⟩ : ∃ a, A.toList.isEmpty = a := ⟨_, rfl⟩
  have hv : ∀ S : ByteArray, S.data.toList = Ur.schT A.data.toList → (⟨(Ur.schT A.data.toList ++ M.data.toList).toArray⟩ : ByteArray) = S ++ M := fun S hS => mkB (by rw [list_append, hS])
  clear hb0 hM hml
  unfold rF
  go_enter Try.func25, Try.ntmps25
  cases a
  · rw [hv (A ++ ⟨#[58]⟩) (by
      rw [list_append]
      unfold Ur.schT
      rw [if_neg (by intro e; rw [ByteArray.toList_eq, e] at ha; cases ha)])]
    clear hv
    go_wp2_with (go_at_call 39; refine (HM.out _).mono ?_; rintro e w2 ⟨rfl, rfl⟩)
    go_ret
    exact ⟨rfl, HB0.out _⟩
  · rw [hv A (by
      unfold Ur.schT
      have e : A.data.toList = [] := by rw [← ByteArray.toList_eq]; simpa using ha
      rw [if_pos e, e])]
    clear hv
    go_wp2_with (go_at_call 39; refine (HM.out _).mono ?_; rintro e w2 ⟨rfl, rfl⟩)
    go_ret
    exact ⟨rfl, HB0.out _⟩
theorem ubase_r (r : Ur.R) (w : World) (h : r.Le 1000) :
    Calls Try.prog 25 #[rV r] w fun e w' => e = .returned (.string ⟨(Ur.base r).toArray⟩) ∧ Below w.heap.size w w' := by
  have h1 := ubase_any ⟨r.sch.toArray⟩ ⟨r.au.toArray⟩ ⟨r.pa.toArray⟩ ⟨r.qu.toArray⟩ ⟨r.fr.toArray⟩ r.hA r.hQ r.hF w (by rw [arr_size]; exact h.sch) (by rw [arr_size]; exact h.au)
  rw [arr_list, arr_list] at h1
  exact h1
theorem bytes4 (a b c d : ByteArray) : joinB ⟨#[]⟩ [a, b, c, d] = ⟨(a.data.toList ++ (b.data.toList ++ (c.data.toList ++ d.data.toList))).toArray⟩ := by
  have e : (⟨#[]⟩ : ByteArray) = ByteArray.empty := rfl
  rw [e, joinB_empty]
  refine bytes_eq ?_
  rw [cat_data]
  unfold flat
  simp
theorem cells4 {w : World} {b : Nat} {p q r s : Value} (h0 : w.cell? ⟨b, 0, none⟩ = some p) (h1 : w.cell? ⟨b, 1, none⟩ = some q) (h2 : w.cell? ⟨b, 2, none⟩ = some r) (h3 : w.cell? ⟨b, 3, none⟩ = some s) (i : Nat) (c : Value) (h : [p, q, r, s][i]? = some c) : w.cell? ⟨b, i, none⟩ = some c := by
  match i, h with
  | 0, h => exact h0.trans h
  | 1, h => exact h1.trans h
  | 2, h => exact h2.trans h
  | 3, h => exact h3.trans h
theorem four_texts (w : World) (b : Nat) (p q r s : ByteArray) (h0 : w.cell? ⟨b, 0, none⟩ = some (.string p)) (h1 : w.cell? ⟨b, 1, none⟩ = some (.string q)) (h2 : w.cell? ⟨b, 2, none⟩ = some (.string r)) (h3 : w.cell? ⟨b, 3, none⟩ = some (.string s)) : IsTexts w (some ⟨b, 0, none⟩) 4 [p, q, r, s] :=
  ⟨rfl, .inr ⟨_, rfl, by omega, fun i hi => by rcases i with _ | _ | _ | _ | i <;> first | omega | (rw [add_none]; first | exact h0 | exact h1 | exact h2 | exact h3)⟩⟩
set_option maxHeartbeats 800000 in
theorem uwrite_any (A B C D E : ByteArray) (x y z : Bool) (w : World) (h0 : A.size ≤ 1000) (h1 : B.size ≤ 1000) (h2 : C.size ≤ 1000) (h3 : D.size ≤ 1000) (h4 : E.size ≤ 1000) :
    Calls Try.prog 23 #[rF A B C D E x y z] w fun e w' => e = .returned (.string ⟨(Ur.schT A.data.toList ++ Ur.mk x [47, 47] B.data.toList ++ (C.data.toList ++ (Ur.mk y [63] D.data.toList ++ Ur.mk z [35] E.data.toList))).toArray⟩) ∧ Below w.heap.size w w' := by
  have mkl : ∀ (h : Bool) (c : UInt8) (S : ByteArray), S.size ≤ 1000 → (Ur.mk h [c] S.data.toList).length ≤ 1001 := by
    intro h c S hS
    have : S.data.toList.length = S.size := by simp
    unfold Ur.mk
    split
    · rw [List.length_append]; show 1 + _ ≤ _; omega
    · exact Nat.zero_le _
  have HM := Lib.hid (fun w1 => marked_any y ⟨#[63]⟩ D w1 (by decide) h3)
  have HF := Lib.hid (fun w1 => marked_any z ⟨#[35]⟩ E w1 (by decide) h4)
  have HB := Lib.hid (fun w1 => ubase_any A B C D E x y z w1 h0 h1)
  rw [show (⟨#[63]⟩ : ByteArray).data.toList = [63] from rfl] at HM
  rw [show (⟨#[35]⟩ : ByteArray).data.toList = [35] from rfl] at HF
  have bl : (Ur.schT A.data.toList ++ Ur.mk x [47, 47] B.data.toList).length ≤ 2003 := by
    have e1 : A.data.toList.length = A.size := by simp
    have e2 : B.data.toList.length = B.size := by simp
    unfold Ur.schT Ur.mk
    rw [List.length_append]
    split <;> split <;> simp <;> omega
  have l1 := mkl y 63 D h3
  have l2 := mkl z 35 E h4
  generalize Ur.schT A.data.toList ++ Ur.mk x [47, 47] B.data.toList = ba at *
  generalize Ur.mk y [63] D.data.toList = q at *
  generalize Ur.mk z [35] E.data.toList = hh at *
  obtain ⟨BA, hBA⟩ : ∃ M : ByteArray, M.data.toList = ba := ⟨⟨ba.toArray⟩, by simp⟩
  obtain ⟨Q, hQ⟩ : ∃ M : ByteArray, M.data.toList = q := ⟨⟨q.toArray⟩, by simp⟩
  obtain ⟨H, hH⟩ : ∃ M : ByteArray, M.data.toList = hh := ⟨⟨hh.toArray⟩, by simp⟩
  rw [mkB hBA] at HB
  rw [mkB hQ] at HM
  rw [mkB hH] at HF
  rw [← hBA, ← hQ, ← hH, ← bytes4]
  have hJ := fun b (W : World) (hlt : b < W.heap.size) c0 c1 c2 c3 => QJoin_any ⟨#[]⟩ (some ⟨b, 0, none⟩) 4 4 [BA, C, Q, H] W (four_texts W b BA C Q H c0 c1 c2 c3) (fun x hx => by cases hx; exact ⟨rfl, hlt⟩) (Nat.le_refl _) (by omega) (by
    have e1 : BA.data.toList.length = BA.size := by simp
    have e2 : Q.data.toList.length = Q.size := by simp
    have e3 : H.data.toList.length = H.size := by simp
    have e4 : C.data.toList.length = C.size := by simp
    show 0 * 4 + (flat [BA, C, Q, H]).length ≤ _
    unfold flat
    simp only [List.flatMap_cons, List.flatMap_nil, List.length_append, List.length_nil, hBA, hQ, hH]
    omega)
  have HJ := Lib.hid hJ
  generalize joinB ⟨#[]⟩ [BA, C, Q, H] = J at *
  have HB0 := Lib.hid ((Below.refl w.heap.size w).alloc (Nat.le_refl _) (.cells #[.string A, .string B, .string C, .string D, .string E, .bool x, .bool y, .bool z] 25))
  have hR := refAt_new w A B C D E x y z
  clear hJ mkl bl l1 l2 hBA hQ hH h0 h1 h2 h3 h4
  unfold rF at *
  go_enter Try.func23, Try.ntmps23
  go_wp2_with (go_at_call 39; refine (HM.out _).mono ?_; rintro e w2 ⟨rfl, rfl⟩)
  obtain ⟨c0, c1, c2, c3, c4, c5, c6, c7, f0, f1, f2, f3, f4, f5, f6, f7, l0⟩ := hR
  generalize w.alloc (.cells #[.string A, .string B, .string C, .string D, .string E, .bool x, .bool y, .bool z] 25) = W1 at *
  refine wp_region_specs (by kernel_rfl) [.is (.agg #[.string A, .string B, .string C, .string D, .string E, .bool x, .bool y, .bool z]), .is (.string BA), .is (.pointer (some ⟨w.heap.size, 2, none⟩)), .is (.string C), .is (.string Q), .is (.pointer (some ⟨w.heap.size, 7, none⟩)), .is (.bool z), .is (.pointer (some ⟨w.heap.size, 4, none⟩)), .is (.string E), .is (.string H), .row [.string BA, .string C, .string Q, .string H], .is (.string J), .is (.string J)] (by kernel_rfl) ?_ ?_
  · refine ⟨?_, ?_, ?_, ?_, ?_, ?_, ?_, ?_, ?_, ?_, ?_, ?_, ?_, trivial⟩
    · intro a wq hs hb hold hdep K hK
      have f1 : a.tmps.getD 1 undef = .pointer (some ⟨w.heap.size, 0, none⟩) := hold 1 (by kernel_rfl)
      refine Or.inl ⟨rfl, ?_⟩
      clear hold hdep hs
      have e0 := below_cell hb l0 c0
      have e1 := below_cell hb l0 c1
      have e2 := below_cell hb l0 c2
      have e3 := below_cell hb l0 c3
      have e4 := below_cell hb l0 c4
      have e5 := below_cell hb l0 c5
      have e6 := below_cell hb l0 c6
      have e7 := below_cell hb l0 c7
      go_simp
      exact hK _ _ rfl (Below.refl _ _)
    · intro a wq hs hb hold hdep K hK
      have f9 : a.tmps.getD 9 undef = .agg #[.string A, .string B, .string C, .string D, .string E, .bool x, .bool y, .bool z] := hdep 0 9 (by kernel_rfl) (by kernel_rfl)
      refine Or.inl ⟨rfl, ?_⟩
      clear hold hdep hs
      go_simp
      refine (HB.out _).mono ?_
      rintro e w9 ⟨rfl, hb9⟩
      exact hK _ _ rfl hb9
    · intro a wq hs hb hold hdep K hK
      have f1 : a.tmps.getD 1 undef = .pointer (some ⟨w.heap.size, 0, none⟩) := hold 1 (by kernel_rfl)
      refine Or.inl ⟨rfl, ?_⟩
      clear hold hdep hs
      go_simp
      exact hK _ _ rfl (Below.refl _ _)
    · intro a wq hs hb hold hdep K hK
      have f11 : a.tmps.getD 11 undef = .pointer (some ⟨w.heap.size, 2, none⟩) := hdep 2 11 (by kernel_rfl) (by kernel_rfl)
      refine Or.inl ⟨rfl, ?_⟩
      clear hold hdep hs
      have e9 := below_cell hb l0 c2
      go_simp
      exact hK _ _ rfl (Below.refl _ _)
    · intro a wq hs hb hold hdep K hK
      have f3 : a.tmps.getD 3 undef = .string Q := hold 3 (by kernel_rfl)
      refine Or.inl ⟨rfl, ?_⟩
      clear hold hdep hs
      go_simp
      exact hK _ _ rfl (Below.refl _ _)
    · intro a wq hs hb hold hdep K hK
      have f1 : a.tmps.getD 1 undef = .pointer (some ⟨w.heap.size, 0, none⟩) := hold 1 (by kernel_rfl)
      refine Or.inl ⟨rfl, ?_⟩
      clear hold hdep hs
      go_simp
      exact hK _ _ rfl (Below.refl _ _)
    · intro a wq hs hb hold hdep K hK
      have f14 : a.tmps.getD 14 undef = .pointer (some ⟨w.heap.size, 7, none⟩) := hdep 5 14 (by kernel_rfl) (by kernel_rfl)
      refine Or.inl ⟨rfl, ?_⟩
      clear hold hdep hs
      have e9 := below_cell hb l0 c7
      go_simp
      exact hK _ _ rfl (Below.refl _ _)
    · intro a wq hs hb hold hdep K hK
      have f1 : a.tmps.getD 1 undef = .pointer (some ⟨w.heap.size, 0, none⟩) := hold 1 (by kernel_rfl)
      refine Or.inl ⟨rfl, ?_⟩
      clear hold hdep hs
      go_simp
      exact hK _ _ rfl (Below.refl _ _)
    · intro a wq hs hb hold hdep K hK
      have f16 : a.tmps.getD 16 undef = .pointer (some ⟨w.heap.size, 4, none⟩) := hdep 7 16 (by kernel_rfl) (by kernel_rfl)
      refine Or.inl ⟨rfl, ?_⟩
      clear hold hdep hs
      have e9 := below_cell hb l0 c4
      go_simp
      exact hK _ _ rfl (Below.refl _ _)
    · intro a wq hs hb hold hdep K hK
      have f15 : a.tmps.getD 15 undef = .bool z := hdep 6 15 (by kernel_rfl) (by kernel_rfl)
      have f17 : a.tmps.getD 17 undef = .string E := hdep 8 17 (by kernel_rfl) (by kernel_rfl)
      refine Or.inl ⟨rfl, ?_⟩
      clear hold hdep hs
      go_simp
      refine (HF.out _).mono ?_
      rintro e w9 ⟨rfl, rfl⟩
      exact hK _ _ rfl (Below.refl _ _)
    · intro a wq hs hb hold hdep K hK
      have f10 : a.tmps.getD 10 undef = .string BA := hdep 1 10 (by kernel_rfl) (by kernel_rfl)
      have f12 : a.tmps.getD 12 undef = .string C := hdep 3 12 (by kernel_rfl) (by kernel_rfl)
      have f13 : a.tmps.getD 13 undef = .string Q := hdep 4 13 (by kernel_rfl) (by kernel_rfl)
      have f18 : a.tmps.getD 18 undef = .string H := hdep 9 18 (by kernel_rfl) (by kernel_rfl)
      refine Or.inl ⟨rfl, ?_⟩
      clear hold hdep hs
      have q10 : a.tmps[10]?.getD undef = .string BA := by rw [← Array.getD_eq_getD_getElem?]; exact f10
      have q12 : a.tmps[12]?.getD undef = .string C := by rw [← Array.getD_eq_getD_getElem?]; exact f12
      have q13 : a.tmps[13]?.getD undef = .string Q := by rw [← Array.getD_eq_getD_getElem?]; exact f13
      have q18 : a.tmps[18]?.getD undef = .string H := by rw [← Array.getD_eq_getD_getElem?]; exact f18
      go_simp
      refine hK _ _ ?_ ?_
      · exact ⟨wq.heap.size, rfl, by simp, cells4 (p := .string BA) (q := .string C) (r := .string Q) (s := .string H) (by simp [go_sem]) (by simp [go_sem]) (by simp [go_sem]) (by simp [go_sem])⟩
      · exact (Below.refl _ _).alloc (Nat.le_refl _) _
    · intro a wq hs hb hold hdep K hK
      obtain ⟨bx, f19, lx, e9⟩ := hdep 10 19 (by kernel_rfl) (by kernel_rfl)
      refine Or.inl ⟨rfl, ?_⟩
      clear hold hdep hs
      go_simp
      refine (HJ.out bx _ lx (e9 0 _ rfl) (e9 1 _ rfl) (e9 2 _ rfl) (e9 3 _ rfl)).mono ?_
      rintro e w9 ⟨rfl, hb9⟩
      exact hK _ _ rfl hb9
    · intro a wq hs hb hold hdep K hK
      have f20 : a.tmps.getD 20 undef = .string J := hdep 11 20 (by kernel_rfl) (by kernel_rfl)
      refine Or.inl ⟨rfl, ?_⟩
      clear hold hdep hs
      go_simp
      exact hK _ _ rfl (Below.refl _ _)
  · intro a wq hs hd hb hold hall
    have f2 : a.tmps.getD 2 undef = .string J := hall 12 2 (by kernel_rfl)
    have hbz : Below w.heap.size w wq := HB0.out.trans (hb.mono HB0.out.size)
    clear hold hall hs hb
    go_wp2_with fail
    refine bodyPost_ret (v := .string J) ?_ ?_ ?_
    · rw [← f2]; exact results_tmp rfl _ _ _
    · exact hd
    · exact ⟨rfl, hbz⟩
end Go.Proofs.Ytnnhlkbjdfgcaaa
