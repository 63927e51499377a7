/- Contracts and lemmas that the claim rests on: HoK. -/
import Derived.Test.YtnpbnlphmngbdaaGreatDoorGHoI
import Derived.Test.YtnpbnlphmngbdaaGreatDoorGHoJ
/- inBrackets, host, port, hostEnd: contracts. -/
namespace Go.Proofs.YtnpbnlphmngbdaaGreatDoor
open Go.RowKit

namespace Hp
/-- What stands between brackets, as the library cuts it. -/
def cutI (l : List UInt8) : List UInt8 := Lib.trimSuffix (Lib.trimPrefix l [91]) [93]
def hasI (l : List UInt8) : Bool := Lib.hasPrefix l [91] && Lib.hasSuffix (Lib.trimPrefix l [91]) [93]
theorem inn_cut (l : List UInt8) : (hasI l = true ∧ inn l = some (cutI l)) ∨ (hasI l = false ∧ inn l = none) := by
  cases l with
  | nil => exact .inr ⟨by decide +kernel, by unfold inn; simp⟩
  | cons c r =>
    by_cases hc : c = 91
    · subst hc
      have e1 : Lib.hasPrefix (91 :: r) [91] = true := by simp [Lib.hasPrefix, List.isPrefixOf]
      have e2 : Lib.trimPrefix (91 :: r) [91] = r := by unfold Lib.trimPrefix; rw [if_pos e1]; rfl
      unfold hasI cutI
      rw [e1, e2, Bool.true_and]
      rcases List.eq_nil_or_concat r with rfl | ⟨r', x, rfl⟩
      · exact .inr ⟨by decide +kernel, by unfold inn; simp⟩
      · rw [List.concat_eq_append]
        by_cases hx : x = 93
        · subst hx
          refine .inl ⟨?_, ?_⟩
          · unfold Lib.hasSuffix; rw [List.isSuffixOf_iff_suffix]; exact ⟨r', rfl⟩
          · rw [inn_of]
            unfold Lib.trimSuffix
            rw [if_pos (by unfold Lib.hasSuffix; rw [List.isSuffixOf_iff_suffix]; exact ⟨r', rfl⟩)]
            simp
        · refine .inr ⟨?_, ?_⟩
          · cases h : Lib.hasSuffix (r' ++ [x]) [93]
            · rfl
            · exfalso
              unfold Lib.hasSuffix at h
              rw [List.isSuffixOf_iff_suffix] at h
              obtain ⟨t, ht⟩ := h
              have := List.append_inj_right' ht rfl
              simp only [List.cons.injEq, and_true] at this
              exact hx this.symm
          · unfold inn
            rw [if_neg]
            rintro ⟨-, h⟩
            simp at h
            exact hx h
    · refine .inr ⟨?_, ?_⟩
      · unfold hasI
        have : Lib.hasPrefix (c :: r) [91] = false := by
          simp only [Lib.hasPrefix, List.isPrefixOf, Bool.and_true]
          rw [beq_eq_false_iff_ne]
          exact fun e => hc e.symm
        rw [this]; rfl
      · unfold inn
        rw [if_neg]
        rintro ⟨h, -⟩
        simp at h
        exact hc h
theorem cutI_le (l : List UInt8) : (cutI l).length ≤ l.length := by
  unfold cutI Lib.trimSuffix Lib.trimPrefix
  split <;> split <;> simp <;> omega
theorem host_of (l : List UInt8) : hostL l = if hasI l && sixC (cutI l) then (3, cutI l) else if fourL l then (2, l) else if nameL l then (1, l) else (0, []) := by
  rcases inn_cut l with ⟨h1, h2⟩ | ⟨h1, h2⟩
  · unfold hostL; rw [h2, h1]; simp
  · unfold hostL; rw [h2, h1]; simp
end Hp
set_option maxHeartbeats 400000 in
theorem inBrackets_any (s : ByteArray) (w : World) (hs : s.size ≤ 900) :
    Calls Tryz.prog 72 #[.string s] w fun e w' => e = .returned (.tuple #[.string ⟨(Hp.cutI s.data.toList).toArray⟩, .bool (Hp.hasI s.data.toList)]) ∧ w' = w := by
  have HP := Lib.hid (fun w => CutPrefix_any s ⟨#[91]⟩ w)
  have HS := Lib.hid (fun w => CutSuffix_any ⟨(Lib.trimPrefix s.data.toList [91]).toArray⟩ ⟨#[93]⟩ w (by
    show (Lib.trimPrefix s.data.toList [91]).toArray.size ≤ 100000
    have : s.data.toList.length = s.size := by simp
    unfold Lib.trimPrefix
    split <;> simp <;> omega))
  rw [Hp.ofL_list] at HS
  unfold Hp.cutI Hp.hasI
  rw [show (⟨#[91]⟩ : ByteArray).data.toList = [91] from rfl] at HP
  rw [show (⟨#[93]⟩ : ByteArray).data.toList = [93] from rfl] at HS
  generalize (⟨(Lib.trimSuffix (Lib.trimPrefix s.data.toList [91]) [93]).toArray⟩ : ByteArray) = c at *
  generalize Lib.hasSuffix (Lib.trimPrefix s.data.toList [91]) [93] = p2 at *
  generalize (⟨(Lib.trimPrefix s.data.toList [91]).toArray⟩ : ByteArray) = d at *
  generalize Lib.hasPrefix s.data.toList [91] = p1 at *
  go_enter Tryz.func72, Tryz.ntmps72
  go_wp2_with fail
  refine (HP.out _).mono ?_
  rintro e w1 ⟨rfl, hw1⟩
  subst hw1
  go_wp2_with fail
  refine (HS.out _).mono ?_
  rintro e w2 ⟨rfl, hw2⟩
  subst hw2
  go_wp2_with fail
  all_goals
    go_ret2
    simp_all
/-- A host as a value. -/
def hostV (k : Int) (nm : ByteArray) (p : Int) : Value := .agg #[.int .i64 k, .string nm, .int .i64 p]
set_option maxHeartbeats 800000 in
theorem host_any (s : ByteArray) (w : World) (hs : s.size ≤ 900) (ht : Tx w) :
    Calls Tryz.prog 53 #[.string s] w fun e w' => e = .returned (.tuple #[hostV (Hp.hostL s.data.toList).1 ⟨(Hp.hostL s.data.toList).2.toArray⟩ 0, .bool (decide ((Hp.hostL s.data.toList).1 ≠ 0))]) ∧ Below w.heap.size w w' := by
  have hcl := Hp.cutI_le s.data.toList
  have hlen : s.data.toList.length = s.size := by simp
  have hcs : (⟨(Hp.cutI s.data.toList).toArray⟩ : ByteArray).size ≤ 900 := by show (Hp.cutI s.data.toList).toArray.size ≤ 900; simp; omega
  have HI := Lib.hid (fun w => inBrackets_any s w hs)
  have H6 := Lib.hid (fun w1 (h : Below w.heap.size w w1) => Six_any ⟨(Hp.cutI s.data.toList).toArray⟩ w1 hcs (ht.stay h))
  have H4 := Lib.hid (fun w1 (h : Below w.heap.size w w1) => Four_any s w1 (by omega) (ht.tabs.stay h))
  have HN := Lib.hid (fun w1 => Name_any s w1 (by omega))
  have hsl : (⟨s.data.toList.toArray⟩ : ByteArray) = s := (Hp.ofL _ _ rfl).symm
  have HSL := Lib.hid hsl
  rw [Hp.host_of]
  rw [Hp.ofL_list] at H6
  clear hcl hcs hlen hsl
  generalize Hp.sixC (Hp.cutI s.data.toList) = b6 at *
  generalize Hp.fourL s.data.toList = b4 at *
  generalize Hp.nameL s.data.toList = bn at *
  generalize Hp.hasI s.data.toList = bi at *
  obtain ⟨c, hc⟩ : ∃ c, (⟨(Hp.cutI s.data.toList).toArray⟩ : ByteArray) = c := ⟨_, rfl⟩
  rw [hc] at HI H6
  have hb0 : ∀ o, Below w.heap.size w (w.alloc o) := fun o => (Below.refl _ _).alloc (Nat.le_refl _) _
  have HB0 := Lib.hid hb0
  clear hb0
  have HC := Lib.hid hc
  clear hc
  go_enter Tryz.func53, Tryz.ntmps53
  go_wp2_with fail
  refine (HI.out _).mono ?_
  rintro e w1 ⟨rfl, rfl⟩
  have HBa := Lib.hid (Below.refl (w.heap.size + 1) (w.alloc (.cells #[.int .i64 0, .string ⟨#[]⟩, .int .i64 0] 27)))
  cases bi
  · skip
    go_wp2_with fail
    refine (H4.out _ ((HB0.out _).trans (HBa.out.mono (by simp)))).mono ?_
    rintro e w2 ⟨rfl, hb2⟩
    have HB2 := Lib.hid (HBa.out.trans (hb2.mono (by simp)))
    clear hb2
    cases b4
    · go_wp2_with fail
      refine (HN.out _).mono ?_
      rintro e w3 ⟨rfl, hb3⟩
      have HB3 := Lib.hid (HB2.out.trans (hb3.mono (by have := HB2.out.size; simpa using this)))
      clear hb3
      cases bn
      · skip
        have z0 := (HB3.out.cell (p := ⟨w.heap.size, 0, none⟩) (by simp)).trans (show (w.alloc (.cells #[.int .i64 0, .string ⟨#[]⟩, .int .i64 0] 27)).cell? ⟨w.heap.size, 0, none⟩ = some (.int .i64 0) by simp [go_sem])
        have z1 := (HB3.out.cell (p := ⟨w.heap.size, 1, none⟩) (by simp)).trans (show (w.alloc (.cells #[.int .i64 0, .string ⟨#[]⟩, .int .i64 0] 27)).cell? ⟨w.heap.size, 1, none⟩ = some (.string ⟨#[]⟩) by simp [go_sem])
        have z2 := (HB3.out.cell (p := ⟨w.heap.size, 2, none⟩) (by simp)).trans (show (w.alloc (.cells #[.int .i64 0, .string ⟨#[]⟩, .int .i64 0] 27)).cell? ⟨w.heap.size, 2, none⟩ = some (.int .i64 0) by simp [go_sem])
        have g0 := (HB3.out.frozen (p := ⟨w.heap.size, 0, none⟩) (by simp)).trans (show (w.alloc (.cells #[.int .i64 0, .string ⟨#[]⟩, .int .i64 0] 27)).frozen? ⟨w.heap.size, 0, none⟩ = false by simp [go_sem])
        have g1 := (HB3.out.frozen (p := ⟨w.heap.size, 1, none⟩) (by simp)).trans (show (w.alloc (.cells #[.int .i64 0, .string ⟨#[]⟩, .int .i64 0] 27)).frozen? ⟨w.heap.size, 1, none⟩ = false by simp [go_sem])
        have g2 := (HB3.out.frozen (p := ⟨w.heap.size, 2, none⟩) (by simp)).trans (show (w.alloc (.cells #[.int .i64 0, .string ⟨#[]⟩, .int .i64 0] 27)).frozen? ⟨w.heap.size, 2, none⟩ = false by simp [go_sem])
        go_wp2_with fail
        refine bodyPost_ret (v := .tuple #[hostV 0 ⟨#[]⟩ 0, .bool false]) (by simp [results, hostV, Tryz.results53, go_sem, z0, z1, z2]) rfl ⟨?_, ?_⟩
        · simp
        · exact ((((HB0.out _).trans (HB3.out.mono (by simp))).setCell (p := ⟨w.heap.size, 0, none⟩) (Nat.le_refl _) _).setCell (p := ⟨w.heap.size, 1, none⟩) (Nat.le_refl _) _).setCell (p := ⟨w.heap.size, 2, none⟩) (Nat.le_refl _) _
      · skip
        have z0 := (HB3.out.cell (p := ⟨w.heap.size, 0, none⟩) (by simp)).trans (show (w.alloc (.cells #[.int .i64 0, .string ⟨#[]⟩, .int .i64 0] 27)).cell? ⟨w.heap.size, 0, none⟩ = some (.int .i64 0) by simp [go_sem])
        have z1 := (HB3.out.cell (p := ⟨w.heap.size, 1, none⟩) (by simp)).trans (show (w.alloc (.cells #[.int .i64 0, .string ⟨#[]⟩, .int .i64 0] 27)).cell? ⟨w.heap.size, 1, none⟩ = some (.string ⟨#[]⟩) by simp [go_sem])
        have z2 := (HB3.out.cell (p := ⟨w.heap.size, 2, none⟩) (by simp)).trans (show (w.alloc (.cells #[.int .i64 0, .string ⟨#[]⟩, .int .i64 0] 27)).cell? ⟨w.heap.size, 2, none⟩ = some (.int .i64 0) by simp [go_sem])
        have g0 := (HB3.out.frozen (p := ⟨w.heap.size, 0, none⟩) (by simp)).trans (show (w.alloc (.cells #[.int .i64 0, .string ⟨#[]⟩, .int .i64 0] 27)).frozen? ⟨w.heap.size, 0, none⟩ = false by simp [go_sem])
        have g1 := (HB3.out.frozen (p := ⟨w.heap.size, 1, none⟩) (by simp)).trans (show (w.alloc (.cells #[.int .i64 0, .string ⟨#[]⟩, .int .i64 0] 27)).frozen? ⟨w.heap.size, 1, none⟩ = false by simp [go_sem])
        have g2 := (HB3.out.frozen (p := ⟨w.heap.size, 2, none⟩) (by simp)).trans (show (w.alloc (.cells #[.int .i64 0, .string ⟨#[]⟩, .int .i64 0] 27)).frozen? ⟨w.heap.size, 2, none⟩ = false by simp [go_sem])
        go_wp2_with fail
        refine bodyPost_ret (v := .tuple #[hostV 1 s 0, .bool true]) (by simp [results, hostV, Tryz.results53, go_sem, z0, z1, z2]) rfl ⟨?_, ?_⟩
        · simp
        · exact ((((HB0.out _).trans (HB3.out.mono (by simp))).setCell (p := ⟨w.heap.size, 0, none⟩) (Nat.le_refl _) _).setCell (p := ⟨w.heap.size, 1, none⟩) (Nat.le_refl _) _).setCell (p := ⟨w.heap.size, 2, none⟩) (Nat.le_refl _) _
    · skip
      have z0 := (HB2.out.cell (p := ⟨w.heap.size, 0, none⟩) (by simp)).trans (show (w.alloc (.cells #[.int .i64 0, .string ⟨#[]⟩, .int .i64 0] 27)).cell? ⟨w.heap.size, 0, none⟩ = some (.int .i64 0) by simp [go_sem])
      have z1 := (HB2.out.cell (p := ⟨w.heap.size, 1, none⟩) (by simp)).trans (show (w.alloc (.cells #[.int .i64 0, .string ⟨#[]⟩, .int .i64 0] 27)).cell? ⟨w.heap.size, 1, none⟩ = some (.string ⟨#[]⟩) by simp [go_sem])
      have z2 := (HB2.out.cell (p := ⟨w.heap.size, 2, none⟩) (by simp)).trans (show (w.alloc (.cells #[.int .i64 0, .string ⟨#[]⟩, .int .i64 0] 27)).cell? ⟨w.heap.size, 2, none⟩ = some (.int .i64 0) by simp [go_sem])
      have g0 := (HB2.out.frozen (p := ⟨w.heap.size, 0, none⟩) (by simp)).trans (show (w.alloc (.cells #[.int .i64 0, .string ⟨#[]⟩, .int .i64 0] 27)).frozen? ⟨w.heap.size, 0, none⟩ = false by simp [go_sem])
      have g1 := (HB2.out.frozen (p := ⟨w.heap.size, 1, none⟩) (by simp)).trans (show (w.alloc (.cells #[.int .i64 0, .string ⟨#[]⟩, .int .i64 0] 27)).frozen? ⟨w.heap.size, 1, none⟩ = false by simp [go_sem])
      have g2 := (HB2.out.frozen (p := ⟨w.heap.size, 2, none⟩) (by simp)).trans (show (w.alloc (.cells #[.int .i64 0, .string ⟨#[]⟩, .int .i64 0] 27)).frozen? ⟨w.heap.size, 2, none⟩ = false by simp [go_sem])
      go_wp2_with fail
      refine bodyPost_ret (v := .tuple #[hostV 2 s 0, .bool true]) (by simp [results, hostV, Tryz.results53, go_sem, z0, z1, z2]) rfl ⟨?_, ?_⟩
      · simp
      · exact ((((HB0.out _).trans (HB2.out.mono (by simp))).setCell (p := ⟨w.heap.size, 0, none⟩) (Nat.le_refl _) _).setCell (p := ⟨w.heap.size, 1, none⟩) (Nat.le_refl _) _).setCell (p := ⟨w.heap.size, 2, none⟩) (Nat.le_refl _) _
  · go_wp2_with fail
    refine (H6.out _ (HB0.out _)).mono ?_
    rintro e w2 ⟨rfl, hb2⟩
    have HB2 := Lib.hid (HBa.out.trans (hb2.mono (by simp)))
    clear hb2
    cases b6
    · skip
      go_wp2_with fail
      refine (H4.out _ ((HB0.out _).trans (HB2.out.mono (by simp)))).mono ?_
      rintro e w3 ⟨rfl, hb3⟩
      have HB3 := Lib.hid (HB2.out.trans (hb3.mono (by have := HB2.out.size; simpa using this)))
      clear hb3
      cases b4
      · go_wp2_with fail
        refine (HN.out _).mono ?_
        rintro e w4 ⟨rfl, hb4⟩
        have HB4 := Lib.hid (HB3.out.trans (hb4.mono (by have := HB3.out.size; simpa using this)))
        clear hb4
        cases bn
        · skip
          have z0 := (HB4.out.cell (p := ⟨w.heap.size, 0, none⟩) (by simp)).trans (show (w.alloc (.cells #[.int .i64 0, .string ⟨#[]⟩, .int .i64 0] 27)).cell? ⟨w.heap.size, 0, none⟩ = some (.int .i64 0) by simp [go_sem])
          have z1 := (HB4.out.cell (p := ⟨w.heap.size, 1, none⟩) (by simp)).trans (show (w.alloc (.cells #[.int .i64 0, .string ⟨#[]⟩, .int .i64 0] 27)).cell? ⟨w.heap.size, 1, none⟩ = some (.string ⟨#[]⟩) by simp [go_sem])
          have z2 := (HB4.out.cell (p := ⟨w.heap.size, 2, none⟩) (by simp)).trans (show (w.alloc (.cells #[.int .i64 0, .string ⟨#[]⟩, .int .i64 0] 27)).cell? ⟨w.heap.size, 2, none⟩ = some (.int .i64 0) by simp [go_sem])
          have g0 := (HB4.out.frozen (p := ⟨w.heap.size, 0, none⟩) (by simp)).trans (show (w.alloc (.cells #[.int .i64 0, .string ⟨#[]⟩, .int .i64 0] 27)).frozen? ⟨w.heap.size, 0, none⟩ = false by simp [go_sem])
          have g1 := (HB4.out.frozen (p := ⟨w.heap.size, 1, none⟩) (by simp)).trans (show (w.alloc (.cells #[.int .i64 0, .string ⟨#[]⟩, .int .i64 0] 27)).frozen? ⟨w.heap.size, 1, none⟩ = false by simp [go_sem])
          have g2 := (HB4.out.frozen (p := ⟨w.heap.size, 2, none⟩) (by simp)).trans (show (w.alloc (.cells #[.int .i64 0, .string ⟨#[]⟩, .int .i64 0] 27)).frozen? ⟨w.heap.size, 2, none⟩ = false by simp [go_sem])
          go_wp2_with fail
          refine bodyPost_ret (v := .tuple #[hostV 0 ⟨#[]⟩ 0, .bool false]) (by simp [results, hostV, Tryz.results53, go_sem, z0, z1, z2]) rfl ⟨?_, ?_⟩
          · simp
          · exact ((((HB0.out _).trans (HB4.out.mono (by simp))).setCell (p := ⟨w.heap.size, 0, none⟩) (Nat.le_refl _) _).setCell (p := ⟨w.heap.size, 1, none⟩) (Nat.le_refl _) _).setCell (p := ⟨w.heap.size, 2, none⟩) (Nat.le_refl _) _
        · skip
          have z0 := (HB4.out.cell (p := ⟨w.heap.size, 0, none⟩) (by simp)).trans (show (w.alloc (.cells #[.int .i64 0, .string ⟨#[]⟩, .int .i64 0] 27)).cell? ⟨w.heap.size, 0, none⟩ = some (.int .i64 0) by simp [go_sem])
          have z1 := (HB4.out.cell (p := ⟨w.heap.size, 1, none⟩) (by simp)).trans (show (w.alloc (.cells #[.int .i64 0, .string ⟨#[]⟩, .int .i64 0] 27)).cell? ⟨w.heap.size, 1, none⟩ = some (.string ⟨#[]⟩) by simp [go_sem])
          have z2 := (HB4.out.cell (p := ⟨w.heap.size, 2, none⟩) (by simp)).trans (show (w.alloc (.cells #[.int .i64 0, .string ⟨#[]⟩, .int .i64 0] 27)).cell? ⟨w.heap.size, 2, none⟩ = some (.int .i64 0) by simp [go_sem])
          have g0 := (HB4.out.frozen (p := ⟨w.heap.size, 0, none⟩) (by simp)).trans (show (w.alloc (.cells #[.int .i64 0, .string ⟨#[]⟩, .int .i64 0] 27)).frozen? ⟨w.heap.size, 0, none⟩ = false by simp [go_sem])
          have g1 := (HB4.out.frozen (p := ⟨w.heap.size, 1, none⟩) (by simp)).trans (show (w.alloc (.cells #[.int .i64 0, .string ⟨#[]⟩, .int .i64 0] 27)).frozen? ⟨w.heap.size, 1, none⟩ = false by simp [go_sem])
          have g2 := (HB4.out.frozen (p := ⟨w.heap.size, 2, none⟩) (by simp)).trans (show (w.alloc (.cells #[.int .i64 0, .string ⟨#[]⟩, .int .i64 0] 27)).frozen? ⟨w.heap.size, 2, none⟩ = false by simp [go_sem])
          go_wp2_with fail
          refine bodyPost_ret (v := .tuple #[hostV 1 s 0, .bool true]) (by simp [results, hostV, Tryz.results53, go_sem, z0, z1, z2]) rfl ⟨?_, ?_⟩
          · simp
          · exact ((((HB0.out _).trans (HB4.out.mono (by simp))).setCell (p := ⟨w.heap.size, 0, none⟩) (Nat.le_refl _) _).setCell (p := ⟨w.heap.size, 1, none⟩) (Nat.le_refl _) _).setCell (p := ⟨w.heap.size, 2, none⟩) (Nat.le_refl _) _
      · skip
        have z0 := (HB3.out.cell (p := ⟨w.heap.size, 0, none⟩) (by simp)).trans (show (w.alloc (.cells #[.int .i64 0, .string ⟨#[]⟩, .int .i64 0] 27)).cell? ⟨w.heap.size, 0, none⟩ = some (.int .i64 0) by simp [go_sem])
        have z1 := (HB3.out.cell (p := ⟨w.heap.size, 1, none⟩) (by simp)).trans (show (w.alloc (.cells #[.int .i64 0, .string ⟨#[]⟩, .int .i64 0] 27)).cell? ⟨w.heap.size, 1, none⟩ = some (.string ⟨#[]⟩) by simp [go_sem])
        have z2 := (HB3.out.cell (p := ⟨w.heap.size, 2, none⟩) (by simp)).trans (show (w.alloc (.cells #[.int .i64 0, .string ⟨#[]⟩, .int .i64 0] 27)).cell? ⟨w.heap.size, 2, none⟩ = some (.int .i64 0) by simp [go_sem])
        have g0 := (HB3.out.frozen (p := ⟨w.heap.size, 0, none⟩) (by simp)).trans (show (w.alloc (.cells #[.int .i64 0, .string ⟨#[]⟩, .int .i64 0] 27)).frozen? ⟨w.heap.size, 0, none⟩ = false by simp [go_sem])
        have g1 := (HB3.out.frozen (p := ⟨w.heap.size, 1, none⟩) (by simp)).trans (show (w.alloc (.cells #[.int .i64 0, .string ⟨#[]⟩, .int .i64 0] 27)).frozen? ⟨w.heap.size, 1, none⟩ = false by simp [go_sem])
        have g2 := (HB3.out.frozen (p := ⟨w.heap.size, 2, none⟩) (by simp)).trans (show (w.alloc (.cells #[.int .i64 0, .string ⟨#[]⟩, .int .i64 0] 27)).frozen? ⟨w.heap.size, 2, none⟩ = false by simp [go_sem])
        go_wp2_with fail
        refine bodyPost_ret (v := .tuple #[hostV 2 s 0, .bool true]) (by simp [results, hostV, Tryz.results53, go_sem, z0, z1, z2]) rfl ⟨?_, ?_⟩
        · simp
        · exact ((((HB0.out _).trans (HB3.out.mono (by simp))).setCell (p := ⟨w.heap.size, 0, none⟩) (Nat.le_refl _) _).setCell (p := ⟨w.heap.size, 1, none⟩) (Nat.le_refl _) _).setCell (p := ⟨w.heap.size, 2, none⟩) (Nat.le_refl _) _
    · skip
      have z0 := (HB2.out.cell (p := ⟨w.heap.size, 0, none⟩) (by simp)).trans (show (w.alloc (.cells #[.int .i64 0, .string ⟨#[]⟩, .int .i64 0] 27)).cell? ⟨w.heap.size, 0, none⟩ = some (.int .i64 0) by simp [go_sem])
      have z1 := (HB2.out.cell (p := ⟨w.heap.size, 1, none⟩) (by simp)).trans (show (w.alloc (.cells #[.int .i64 0, .string ⟨#[]⟩, .int .i64 0] 27)).cell? ⟨w.heap.size, 1, none⟩ = some (.string ⟨#[]⟩) by simp [go_sem])
      have z2 := (HB2.out.cell (p := ⟨w.heap.size, 2, none⟩) (by simp)).trans (show (w.alloc (.cells #[.int .i64 0, .string ⟨#[]⟩, .int .i64 0] 27)).cell? ⟨w.heap.size, 2, none⟩ = some (.int .i64 0) by simp [go_sem])
      have g0 := (HB2.out.frozen (p := ⟨w.heap.size, 0, none⟩) (by simp)).trans (show (w.alloc (.cells #[.int .i64 0, .string ⟨#[]⟩, .int .i64 0] 27)).frozen? ⟨w.heap.size, 0, none⟩ = false by simp [go_sem])
      have g1 := (HB2.out.frozen (p := ⟨w.heap.size, 1, none⟩) (by simp)).trans (show (w.alloc (.cells #[.int .i64 0, .string ⟨#[]⟩, .int .i64 0] 27)).frozen? ⟨w.heap.size, 1, none⟩ = false by simp [go_sem])
      have g2 := (HB2.out.frozen (p := ⟨w.heap.size, 2, none⟩) (by simp)).trans (show (w.alloc (.cells #[.int .i64 0, .string ⟨#[]⟩, .int .i64 0] 27)).frozen? ⟨w.heap.size, 2, none⟩ = false by simp [go_sem])
      go_wp2_with fail
      refine bodyPost_ret (v := .tuple #[hostV 3 c 0, .bool true]) (by simp [results, hostV, Tryz.results53, go_sem, z0, z1, z2]) rfl ⟨?_, ?_⟩
      · simp [HC.out]
      · exact ((((HB0.out _).trans (HB2.out.mono (by simp))).setCell (p := ⟨w.heap.size, 0, none⟩) (Nat.le_refl _) _).setCell (p := ⟨w.heap.size, 1, none⟩) (Nat.le_refl _) _).setCell (p := ⟨w.heap.size, 2, none⟩) (Nat.le_refl _) _
end Go.Proofs.YtnpbnlphmngbdaaGreatDoor
