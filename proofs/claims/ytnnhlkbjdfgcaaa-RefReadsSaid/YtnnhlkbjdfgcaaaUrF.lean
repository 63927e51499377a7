/- A reference's cells; hasRightBytes: contracts. -/
import Derived.Test.YtnnhlkbjdfgcaaaUrE
import Derived.Test.YtnnhlkbjdfgcaaaRegion
namespace Go.Proofs.Ytnnhlkbjdfgcaaa
open Go.RowKit
/-- A reference's cells in a world. -/
structure RefAt (w : World) (b : Nat) (A B C D E : ByteArray) (x y z : Bool) : Prop where
  c0 : w.cell? ⟨b, 0, none⟩ = some (.string A)
  c1 : w.cell? ⟨b, 1, none⟩ = some (.string B)
  c2 : w.cell? ⟨b, 2, none⟩ = some (.string C)
  c3 : w.cell? ⟨b, 3, none⟩ = some (.string D)
  c4 : w.cell? ⟨b, 4, none⟩ = some (.string E)
  c5 : w.cell? ⟨b, 5, none⟩ = some (.bool x)
  c6 : w.cell? ⟨b, 6, none⟩ = some (.bool y)
  c7 : w.cell? ⟨b, 7, none⟩ = some (.bool z)
  f0 : w.frozen? ⟨b, 0, none⟩ = false
  f1 : w.frozen? ⟨b, 1, none⟩ = false
  f2 : w.frozen? ⟨b, 2, none⟩ = false
  f3 : w.frozen? ⟨b, 3, none⟩ = false
  f4 : w.frozen? ⟨b, 4, none⟩ = false
  f5 : w.frozen? ⟨b, 5, none⟩ = false
  f6 : w.frozen? ⟨b, 6, none⟩ = false
  f7 : w.frozen? ⟨b, 7, none⟩ = false
  lt : b < w.heap.size
section
variable {w w' : World} {b B' : Nat} {A B C D E : ByteArray} {x y z : Bool}
theorem RefAt.below (h : RefAt w b A B C D E x y z) (hb : Below B' w w') (hB : b < B') : RefAt w' b A B C D E x y z :=
  ⟨(hb.cell hB).trans h.c0, (hb.cell hB).trans h.c1, (hb.cell hB).trans h.c2, (hb.cell hB).trans h.c3, (hb.cell hB).trans h.c4, (hb.cell hB).trans h.c5, (hb.cell hB).trans h.c6, (hb.cell hB).trans h.c7,
   (hb.frozen hB).trans h.f0, (hb.frozen hB).trans h.f1, (hb.frozen hB).trans h.f2, (hb.frozen hB).trans h.f3, (hb.frozen hB).trans h.f4, (hb.frozen hB).trans h.f5, (hb.frozen hB).trans h.f6, (hb.frozen hB).trans h.f7, Nat.lt_of_lt_of_le h.lt hb.size⟩
theorem RefAt.stay (h : RefAt w b A B C D E x y z) (hb : Below w.heap.size w w') : RefAt w' b A B C D E x y z := h.below hb h.lt
end
theorem refAt_new (w : World) (A B C D E : ByteArray) (x y z : Bool) :
    RefAt (w.alloc (.cells #[.string A, .string B, .string C, .string D, .string E, .bool x, .bool y, .bool z] 25)) w.heap.size A B C D E x y z := by
  constructor <;> simp [go_sem]
/-- A reference, as a value, of its fields. -/
def rF (A B C D E : ByteArray) (x y z : Bool) : Value := .agg #[.string A, .string B, .string C, .string D, .string E, .bool x, .bool y, .bool z]
set_option maxHeartbeats 1600000 in
theorem hasRight_any (A B C D E : ByteArray) (x y z : Bool) (w : World) (h1 : B.size ≤ 1000) (h2 : C.size ≤ 1000) (h3 : D.size ≤ 1000) (h4 : E.size ≤ 1000) (hm : MaxL w) :
    Calls Try.prog 18 #[rF A B C D E x y z] w fun e w' => e = .returned (.bool ((Pq.pcL [91, 93] B.data.toList && !B.data.toList.contains 64) && (Pq.pcL [47] C.data.toList && (Pq.pcL [47, 63] D.data.toList && Pq.pcL [47, 63] E.data.toList)))) ∧ Below w.heap.size w w' := by
  have hmf : ∀ (fn : Fn) (first cap : Array Value) (w : World), (Instr.makeFunc fn first cap).run Try.prog w = .ok (.func fn first cap) w := fun _ _ _ _ => rfl
  have hsf : ∀ (w : World) (a : Addr) (fn : Fn) (first cap : Array Value), (store a (.func fn first cap)).run Try.prog w = stored Try.prog w a (.func fn first cap) .plain := fun w a fn first cap => run_store _ w a _ _ rfl
  obtain ⟨W1, hW1⟩ : ∃ W1, ((((w.alloc (.cells #[.string A, .string B, .string C, .string D, .string E, .bool x, .bool y, .bool z] 25)).alloc (.cells #[.string ⟨#[91, 93]⟩] 9)).alloc (.cells #[.func (.func 51) #[] #[.pointer (some ⟨w.heap.size + 1, 0, none⟩)]] 52)).alloc (.cells #[.string ⟨#[47, 63]⟩] 9)) = W1 := ⟨_, rfl⟩
  have hR : RefAt W1 w.heap.size A B C D E x y z := by
    rw [← hW1]
    exact (refAt_new w A B C D E x y z).below (B' := w.heap.size + 1) (by repeat (first | with_reducible exact Below.refl _ _ | with_reducible assumption | (with_reducible refine Below.setCell ?_ ?_ _; rotate_left; · (simp <;> omega)) | (with_reducible refine Below.alloc ?_ ?_ _; rotate_left; · (simp <;> omega)) | with_reducible refine Below.drew ?_)) (by omega)
  have hbW : Below w.heap.size w W1 := by rw [← hW1]; exact (by repeat (first | with_reducible exact Below.refl _ _ | with_reducible assumption | (with_reducible refine Below.setCell ?_ ?_ _; rotate_left; · (simp <;> omega)) | (with_reducible refine Below.alloc ?_ ?_ _; rotate_left; · (simp <;> omega)) | with_reducible refine Below.drew ?_))
  have hs1 : W1.heap.size = w.heap.size + 1 + 1 + 1 + 1 := by rw [← hW1]; simp
  have e1 : W1.cell? ⟨w.heap.size + 1, 0, none⟩ = some (.string ⟨#[91, 93]⟩) := by rw [← hW1]; simp [go_sem]
  have e2 : W1.cell? ⟨w.heap.size + 1 + 1, 0, none⟩ = some (.func (.func 51) #[] #[.pointer (some ⟨w.heap.size + 1, 0, none⟩)]) := by rw [← hW1]; simp [go_sem]
  have e3 : W1.cell? ⟨w.heap.size + 1 + 1 + 1, 0, none⟩ = some (.string ⟨#[47, 63]⟩) := by rw [← hW1]; simp [go_sem]
  have hm1 := hm.stay hbW
  have HAu := Lib.hid (fun W (hb : Below W1.heap.size W1 W) => isOfA_any (w.heap.size + 1) (w.heap.size + 1 + 1) B W (below_cell hb (by omega) e2) (below_cell hb (by omega) e1) h1 (hm1.stay hb))
  have HPa := Lib.hid (fun W c (hb : Below W1.heap.size W1 W) hc => isOfP_any ⟨#[47]⟩ c C W hc h2 (hm1.stay hb))
  have HQu := Lib.hid (fun W (hb : Below W1.heap.size W1 W) => isOfP_any ⟨#[47, 63]⟩ (w.heap.size + 1 + 1 + 1) D W (below_cell hb (by omega) e3) h3 (hm1.stay hb))
  have HFr := Lib.hid (fun W (hb : Below W1.heap.size W1 W) => isOfP_any ⟨#[47, 63]⟩ (w.heap.size + 1 + 1 + 1) E W (below_cell hb (by omega) e3) h4 (hm1.stay hb))
  rw [show (⟨#[47]⟩ : ByteArray).data.toList = [47] from rfl] at HPa
  rw [show (⟨#[47, 63]⟩ : ByteArray).data.toList = [47, 63] from rfl] at HQu HFr
  generalize (Pq.pcL [91, 93] B.data.toList && !B.data.toList.contains 64) = b1 at *
  generalize Pq.pcL [47] C.data.toList = b2 at *
  generalize Pq.pcL [47, 63] D.data.toList = b3 at *
  generalize Pq.pcL [47, 63] E.data.toList = b4 at *
  have HBW := Lib.hid hbW
  have HS1 := Lib.hid hs1
  have HW1 := Lib.hid hW1
  clear hm hm1 h1 h2 h3 h4 e1 e2 e3 hbW hs1 hW1
  unfold rF
  go_enter Try.func18, Try.ntmps18
  go_wp2_with (go_at_call 32; refine (pathsAnd_any _ _).mono ?_; rintro e w1 ⟨rfl, rfl⟩)
  rw [HW1.out]
  obtain ⟨c0, c1, c2, c3, c4, c5, c6, c7, f0, f1, f2, f3, f4, f5, f6, f7, l0⟩ := hR
  refine wp_region_specs (by kernel_rfl) [.is (.func (.func 33) #[] #[.pointer (some ⟨w.heap.size + 1 + 1, 0, none⟩)]), .is (.pointer (some ⟨w.heap.size, 1, none⟩)), .is (.string B), .is (.bool b1), .is (.bool b1), .when (b1) (.boxed 51 (.string ⟨#[47]⟩)), .when (b1) (.is (.pointer (some ⟨w.heap.size, 2, none⟩))), .when (b1) (.is (.string C)), .when (b1) (.is (.bool b2)), .is (.bool (b1 && b2)), .is (.bool (b1 && b2)), .when (b1 && b2) (.is (.func (.func 51) #[] #[.pointer (some ⟨w.heap.size + 1 + 1 + 1, 0, none⟩)])), .when (b1 && b2) (.is (.pointer (some ⟨w.heap.size, 3, none⟩))), .when (b1 && b2) (.is (.string D)), .when (b1 && b2) (.is (.bool b3)), .is (.bool (b1 && b2 && b3)), .is (.bool (b1 && b2 && b3)), .when (b1 && b2 && b3) (.is (.func (.func 51) #[] #[.pointer (some ⟨w.heap.size + 1 + 1 + 1, 0, none⟩)])), .when (b1 && b2 && b3) (.is (.pointer (some ⟨w.heap.size, 4, none⟩))), .when (b1 && b2 && b3) (.is (.string E)), .when (b1 && b2 && b3) (.is (.bool b4)), .is (.bool (b1 && b2 && b3 && b4)), .is (.bool (b1 && b2 && b3 && b4))] (by kernel_rfl) ?_ ?_
  · refine ⟨?_, ?_, ?_, ?_, ?_, ?_, ?_, ?_, ?_, ?_, ?_, ?_, ?_, ?_, ?_, ?_, ?_, ?_, ?_, ?_, ?_, ?_, ?_, trivial⟩
    · intro a wq hs hb hold hdep K hK
      have f4 : a.tmps.getD 4 undef = .func (.func 33) #[] #[.pointer (some ⟨w.heap.size + 1 + 1, 0, none⟩)] := hold 4 (by kernel_rfl)
      refine Or.inl ⟨rfl, ?_⟩
      clear hold hdep hs
      go_simp
      exact hK _ _ rfl (Below.refl _ _)
    · intro a wq hs hb hold hdep K hK
      have f1 : a.tmps.getD 1 undef = .pointer (some ⟨w.heap.size, 0, none⟩) := hold 1 (by kernel_rfl)
      refine Or.inl ⟨rfl, ?_⟩
      clear hold hdep hs
      go_simp
      exact hK _ _ rfl (Below.refl _ _)
    · intro a wq hs hb hold hdep K hK
      have f10 : a.tmps.getD 10 undef = .pointer (some ⟨w.heap.size, 1, none⟩) := hdep 1 10 (by kernel_rfl) (by kernel_rfl)
      refine Or.inl ⟨rfl, ?_⟩
      clear hold hdep hs
      have e9 := below_cell hb l0 c1
      go_simp
      exact hK _ _ rfl (Below.refl _ _)
    · intro a wq hs hb hold hdep K hK
      have f9 : a.tmps.getD 9 undef = .func (.func 33) #[] #[.pointer (some ⟨w.heap.size + 1 + 1, 0, none⟩)] := hdep 0 9 (by kernel_rfl) (by kernel_rfl)
      have f11 : a.tmps.getD 11 undef = .string B := hdep 2 11 (by kernel_rfl) (by kernel_rfl)
      refine Or.inl ⟨rfl, ?_⟩
      clear hold hdep hs
      go_simp
      refine (HAu.out _ hb).mono ?_
      rintro e w9 ⟨rfl, hb9⟩
      exact hK _ _ rfl hb9
    · intro a wq hs hb hold hdep K hK
      have f12 : a.tmps.getD 12 undef = .bool b1 := hdep 3 12 (by kernel_rfl) (by kernel_rfl)
      refine Or.inl ⟨rfl, ?_⟩
      clear hold hdep hs
      go_simp
      exact hK _ _ rfl (Below.refl _ _)
    · intro a wq hs hb hold hdep K hK
      cases b1
      · exact Or.inr ⟨unwant_of (d := 13) rfl (by kernel_rfl) (hdep 4 13 (by kernel_rfl) (by kernel_rfl)), hK _ _ trivial (Below.refl _ _)⟩
      · refine Or.inl ⟨want_of (d := 13) rfl (by kernel_rfl) (hdep 4 13 (by kernel_rfl) (by kernel_rfl)), ?_⟩
        clear hold hdep hs
        go_simp
        refine (pathsAnd_any _ _).mono ?_
        rintro e w9 ⟨rfl, rfl⟩
        exact hK _ _ ⟨_, rfl, by simp, by simp [go_sem]⟩ ((Below.refl _ _).alloc (Nat.le_refl _) _)
    · intro a wq hs hb hold hdep K hK
      cases b1
      · exact Or.inr ⟨unwant_of (d := 13) rfl (by kernel_rfl) (hdep 4 13 (by kernel_rfl) (by kernel_rfl)), hK _ _ trivial (Below.refl _ _)⟩
      · have f1 : a.tmps.getD 1 undef = .pointer (some ⟨w.heap.size, 0, none⟩) := hold 1 (by kernel_rfl)
        refine Or.inl ⟨want_of (d := 13) rfl (by kernel_rfl) (hdep 4 13 (by kernel_rfl) (by kernel_rfl)), ?_⟩
        clear hold hdep hs
        go_simp
        exact hK _ _ rfl (Below.refl _ _)
    · intro a wq hs hb hold hdep K hK
      cases b1
      · exact Or.inr ⟨unwant_of (d := 13) rfl (by kernel_rfl) (hdep 4 13 (by kernel_rfl) (by kernel_rfl)), hK _ _ trivial (Below.refl _ _)⟩
      · have f15 : a.tmps.getD 15 undef = .pointer (some ⟨w.heap.size, 2, none⟩) := hdep 6 15 (by kernel_rfl) (by kernel_rfl)
        refine Or.inl ⟨want_of (d := 13) rfl (by kernel_rfl) (hdep 4 13 (by kernel_rfl) (by kernel_rfl)), ?_⟩
        clear hold hdep hs
        have e9 := below_cell hb l0 c2
        go_simp
        exact hK _ _ rfl (Below.refl _ _)
    · intro a wq hs hb hold hdep K hK
      cases b1
      · exact Or.inr ⟨unwant_of (d := 13) rfl (by kernel_rfl) (hdep 4 13 (by kernel_rfl) (by kernel_rfl)), hK _ _ trivial (Below.refl _ _)⟩
      · obtain ⟨bx, f14, _, e9⟩ := hdep 5 14 (by kernel_rfl) (by kernel_rfl)
        have f16 : a.tmps.getD 16 undef = .string C := hdep 7 16 (by kernel_rfl) (by kernel_rfl)
        refine Or.inl ⟨want_of (d := 13) rfl (by kernel_rfl) (hdep 4 13 (by kernel_rfl) (by kernel_rfl)), ?_⟩
        clear hold hdep hs
        go_simp
        refine (HPa.out _ bx hb e9).mono ?_
        rintro e w9 ⟨rfl, hb9⟩
        exact hK _ _ rfl hb9
    · intro a wq hs hb hold hdep K hK
      refine Or.inl ⟨rfl, ?_⟩
      cases b1
      · have f13 : a.tmps.getD 13 undef = .bool false := hdep 4 13 (by kernel_rfl) (by kernel_rfl)
        clear hold hdep hs
        go_simp
        exact hK _ _ rfl (Below.refl _ _)
      · have f13 : a.tmps.getD 13 undef = .bool true := hdep 4 13 (by kernel_rfl) (by kernel_rfl)
        have f17 : a.tmps.getD 17 undef = .bool b2 := hdep 8 17 (by kernel_rfl) (by kernel_rfl)
        clear hold hdep hs
        go_simp
        exact hK _ _ rfl (Below.refl _ _)
    · intro a wq hs hb hold hdep K hK
      have f18 : a.tmps.getD 18 undef = .bool (b1 && b2) := hdep 9 18 (by kernel_rfl) (by kernel_rfl)
      refine Or.inl ⟨rfl, ?_⟩
      clear hold hdep hs
      go_simp
      exact hK _ _ rfl (Below.refl _ _)
    · intro a wq hs hb hold hdep K hK
      cases b1
      · exact Or.inr ⟨unwant_of (d := 19) rfl (by kernel_rfl) (hdep 10 19 (by kernel_rfl) (by kernel_rfl)), hK _ _ trivial (Below.refl _ _)⟩
      · cases b2
        · exact Or.inr ⟨unwant_of (d := 19) rfl (by kernel_rfl) (hdep 10 19 (by kernel_rfl) (by kernel_rfl)), hK _ _ trivial (Below.refl _ _)⟩
        · have f5 : a.tmps.getD 5 undef = .func (.func 51) #[] #[.pointer (some ⟨w.heap.size + 1 + 1 + 1, 0, none⟩)] := hold 5 (by kernel_rfl)
          refine Or.inl ⟨want_of (d := 19) rfl (by kernel_rfl) (hdep 10 19 (by kernel_rfl) (by kernel_rfl)), ?_⟩
          clear hold hdep hs
          go_simp
          exact hK _ _ rfl (Below.refl _ _)
    · intro a wq hs hb hold hdep K hK
      cases b1
      · exact Or.inr ⟨unwant_of (d := 19) rfl (by kernel_rfl) (hdep 10 19 (by kernel_rfl) (by kernel_rfl)), hK _ _ trivial (Below.refl _ _)⟩
      · cases b2
        · exact Or.inr ⟨unwant_of (d := 19) rfl (by kernel_rfl) (hdep 10 19 (by kernel_rfl) (by kernel_rfl)), hK _ _ trivial (Below.refl _ _)⟩
        · have f1 : a.tmps.getD 1 undef = .pointer (some ⟨w.heap.size, 0, none⟩) := hold 1 (by kernel_rfl)
          refine Or.inl ⟨want_of (d := 19) rfl (by kernel_rfl) (hdep 10 19 (by kernel_rfl) (by kernel_rfl)), ?_⟩
          clear hold hdep hs
          go_simp
          exact hK _ _ rfl (Below.refl _ _)
    · intro a wq hs hb hold hdep K hK
      cases b1
      · exact Or.inr ⟨unwant_of (d := 19) rfl (by kernel_rfl) (hdep 10 19 (by kernel_rfl) (by kernel_rfl)), hK _ _ trivial (Below.refl _ _)⟩
      · cases b2
        · exact Or.inr ⟨unwant_of (d := 19) rfl (by kernel_rfl) (hdep 10 19 (by kernel_rfl) (by kernel_rfl)), hK _ _ trivial (Below.refl _ _)⟩
        · have f21 : a.tmps.getD 21 undef = .pointer (some ⟨w.heap.size, 3, none⟩) := hdep 12 21 (by kernel_rfl) (by kernel_rfl)
          refine Or.inl ⟨want_of (d := 19) rfl (by kernel_rfl) (hdep 10 19 (by kernel_rfl) (by kernel_rfl)), ?_⟩
          clear hold hdep hs
          have e9 := below_cell hb l0 c3
          go_simp
          exact hK _ _ rfl (Below.refl _ _)
    · intro a wq hs hb hold hdep K hK
      cases b1
      · exact Or.inr ⟨unwant_of (d := 19) rfl (by kernel_rfl) (hdep 10 19 (by kernel_rfl) (by kernel_rfl)), hK _ _ trivial (Below.refl _ _)⟩
      · cases b2
        · exact Or.inr ⟨unwant_of (d := 19) rfl (by kernel_rfl) (hdep 10 19 (by kernel_rfl) (by kernel_rfl)), hK _ _ trivial (Below.refl _ _)⟩
        · have f20 : a.tmps.getD 20 undef = .func (.func 51) #[] #[.pointer (some ⟨w.heap.size + 1 + 1 + 1, 0, none⟩)] := hdep 11 20 (by kernel_rfl) (by kernel_rfl)
          have f22 : a.tmps.getD 22 undef = .string D := hdep 13 22 (by kernel_rfl) (by kernel_rfl)
          refine Or.inl ⟨want_of (d := 19) rfl (by kernel_rfl) (hdep 10 19 (by kernel_rfl) (by kernel_rfl)), ?_⟩
          clear hold hdep hs
          go_simp
          refine (HQu.out _ hb).mono ?_
          rintro e w9 ⟨rfl, hb9⟩
          exact hK _ _ rfl hb9
    · intro a wq hs hb hold hdep K hK
      refine Or.inl ⟨rfl, ?_⟩
      cases b1
      · have f19 : a.tmps.getD 19 undef = .bool false := hdep 10 19 (by kernel_rfl) (by kernel_rfl)
        clear hold hdep hs
        go_simp
        exact hK _ _ rfl (Below.refl _ _)
      · cases b2
        · have f19 : a.tmps.getD 19 undef = .bool false := hdep 10 19 (by kernel_rfl) (by kernel_rfl)
          clear hold hdep hs
          go_simp
          exact hK _ _ rfl (Below.refl _ _)
        · have f19 : a.tmps.getD 19 undef = .bool true := hdep 10 19 (by kernel_rfl) (by kernel_rfl)
          have f23 : a.tmps.getD 23 undef = .bool b3 := hdep 14 23 (by kernel_rfl) (by kernel_rfl)
          clear hold hdep hs
          go_simp
          exact hK _ _ rfl (Below.refl _ _)
    · intro a wq hs hb hold hdep K hK
      have f24 : a.tmps.getD 24 undef = .bool (b1 && b2 && b3) := hdep 15 24 (by kernel_rfl) (by kernel_rfl)
      refine Or.inl ⟨rfl, ?_⟩
      clear hold hdep hs
      go_simp
      exact hK _ _ rfl (Below.refl _ _)
    · intro a wq hs hb hold hdep K hK
      cases b1
      · exact Or.inr ⟨unwant_of (d := 25) rfl (by kernel_rfl) (hdep 16 25 (by kernel_rfl) (by kernel_rfl)), hK _ _ trivial (Below.refl _ _)⟩
      · cases b2
        · exact Or.inr ⟨unwant_of (d := 25) rfl (by kernel_rfl) (hdep 16 25 (by kernel_rfl) (by kernel_rfl)), hK _ _ trivial (Below.refl _ _)⟩
        · cases b3
          · exact Or.inr ⟨unwant_of (d := 25) rfl (by kernel_rfl) (hdep 16 25 (by kernel_rfl) (by kernel_rfl)), hK _ _ trivial (Below.refl _ _)⟩
          · have f5 : a.tmps.getD 5 undef = .func (.func 51) #[] #[.pointer (some ⟨w.heap.size + 1 + 1 + 1, 0, none⟩)] := hold 5 (by kernel_rfl)
            refine Or.inl ⟨want_of (d := 25) rfl (by kernel_rfl) (hdep 16 25 (by kernel_rfl) (by kernel_rfl)), ?_⟩
            clear hold hdep hs
            go_simp
            exact hK _ _ rfl (Below.refl _ _)
    · intro a wq hs hb hold hdep K hK
      cases b1
      · exact Or.inr ⟨unwant_of (d := 25) rfl (by kernel_rfl) (hdep 16 25 (by kernel_rfl) (by kernel_rfl)), hK _ _ trivial (Below.refl _ _)⟩
      · cases b2
        · exact Or.inr ⟨unwant_of (d := 25) rfl (by kernel_rfl) (hdep 16 25 (by kernel_rfl) (by kernel_rfl)), hK _ _ trivial (Below.refl _ _)⟩
        · cases b3
          · exact Or.inr ⟨unwant_of (d := 25) rfl (by kernel_rfl) (hdep 16 25 (by kernel_rfl) (by kernel_rfl)), hK _ _ trivial (Below.refl _ _)⟩
          · have f1 : a.tmps.getD 1 undef = .pointer (some ⟨w.heap.size, 0, none⟩) := hold 1 (by kernel_rfl)
            refine Or.inl ⟨want_of (d := 25) rfl (by kernel_rfl) (hdep 16 25 (by kernel_rfl) (by kernel_rfl)), ?_⟩
            clear hold hdep hs
            go_simp
            exact hK _ _ rfl (Below.refl _ _)
    · intro a wq hs hb hold hdep K hK
      cases b1
      · exact Or.inr ⟨unwant_of (d := 25) rfl (by kernel_rfl) (hdep 16 25 (by kernel_rfl) (by kernel_rfl)), hK _ _ trivial (Below.refl _ _)⟩
      · cases b2
        · exact Or.inr ⟨unwant_of (d := 25) rfl (by kernel_rfl) (hdep 16 25 (by kernel_rfl) (by kernel_rfl)), hK _ _ trivial (Below.refl _ _)⟩
        · cases b3
          · exact Or.inr ⟨unwant_of (d := 25) rfl (by kernel_rfl) (hdep 16 25 (by kernel_rfl) (by kernel_rfl)), hK _ _ trivial (Below.refl _ _)⟩
          · have f27 : a.tmps.getD 27 undef = .pointer (some ⟨w.heap.size, 4, none⟩) := hdep 18 27 (by kernel_rfl) (by kernel_rfl)
            refine Or.inl ⟨want_of (d := 25) rfl (by kernel_rfl) (hdep 16 25 (by kernel_rfl) (by kernel_rfl)), ?_⟩
            clear hold hdep hs
            have e9 := below_cell hb l0 c4
            go_simp
            exact hK _ _ rfl (Below.refl _ _)
    · intro a wq hs hb hold hdep K hK
      cases b1
      · exact Or.inr ⟨unwant_of (d := 25) rfl (by kernel_rfl) (hdep 16 25 (by kernel_rfl) (by kernel_rfl)), hK _ _ trivial (Below.refl _ _)⟩
      · cases b2
        · exact Or.inr ⟨unwant_of (d := 25) rfl (by kernel_rfl) (hdep 16 25 (by kernel_rfl) (by kernel_rfl)), hK _ _ trivial (Below.refl _ _)⟩
        · cases b3
          · exact Or.inr ⟨unwant_of (d := 25) rfl (by kernel_rfl) (hdep 16 25 (by kernel_rfl) (by kernel_rfl)), hK _ _ trivial (Below.refl _ _)⟩
          · have f26 : a.tmps.getD 26 undef = .func (.func 51) #[] #[.pointer (some ⟨w.heap.size + 1 + 1 + 1, 0, none⟩)] := hdep 17 26 (by kernel_rfl) (by kernel_rfl)
            have f28 : a.tmps.getD 28 undef = .string E := hdep 19 28 (by kernel_rfl) (by kernel_rfl)
            refine Or.inl ⟨want_of (d := 25) rfl (by kernel_rfl) (hdep 16 25 (by kernel_rfl) (by kernel_rfl)), ?_⟩
            clear hold hdep hs
            go_simp
            refine (HFr.out _ hb).mono ?_
            rintro e w9 ⟨rfl, hb9⟩
            exact hK _ _ rfl hb9
    · intro a wq hs hb hold hdep K hK
      refine Or.inl ⟨rfl, ?_⟩
      cases b1
      · have f25 : a.tmps.getD 25 undef = .bool false := hdep 16 25 (by kernel_rfl) (by kernel_rfl)
        clear hold hdep hs
        go_simp
        exact hK _ _ rfl (Below.refl _ _)
      · cases b2
        · have f25 : a.tmps.getD 25 undef = .bool false := hdep 16 25 (by kernel_rfl) (by kernel_rfl)
          clear hold hdep hs
          go_simp
          exact hK _ _ rfl (Below.refl _ _)
        · cases b3
          · have f25 : a.tmps.getD 25 undef = .bool false := hdep 16 25 (by kernel_rfl) (by kernel_rfl)
            clear hold hdep hs
            go_simp
            exact hK _ _ rfl (Below.refl _ _)
          · have f25 : a.tmps.getD 25 undef = .bool true := hdep 16 25 (by kernel_rfl) (by kernel_rfl)
            have f29 : a.tmps.getD 29 undef = .bool b4 := hdep 20 29 (by kernel_rfl) (by kernel_rfl)
            clear hold hdep hs
            go_simp
            exact hK _ _ rfl (Below.refl _ _)
    · intro a wq hs hb hold hdep K hK
      have f30 : a.tmps.getD 30 undef = .bool (b1 && b2 && b3 && b4) := hdep 21 30 (by kernel_rfl) (by kernel_rfl)
      refine Or.inl ⟨rfl, ?_⟩
      clear hold hdep hs
      go_simp
      exact hK _ _ rfl (Below.refl _ _)
  · intro a wq hs hd hb hold hall
    have f2 : a.tmps.getD 2 undef = .bool (b1 && b2 && b3 && b4) := hall 22 2 (by kernel_rfl)
    have hbz : Below w.heap.size w wq := HBW.out.trans (hb.mono HBW.out.size)
    clear hold hall hs hb
    go_wp2_with fail
    refine bodyPost_ret (v := .bool (b1 && b2 && b3 && b4)) ?_ ?_ ?_
    · rw [← f2]; exact results_tmp rfl _ _ _
    · exact hd
    · exact ⟨ret_bool (by simp only [Bool.and_assoc]), hbz⟩
end Go.Proofs.Ytnnhlkbjdfgcaaa
