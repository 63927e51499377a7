/- Contracts and lemmas that the claim rests on: TgK. -/
import Derived.Test.YtnpbnlphmngbdaaGreatDoorGTgB
import Derived.Test.YtnpbnlphmngbdaaGreatDoorGPqI
import Derived.Deep.RegionHeld3
/- The document's origin: its contract. -/
namespace Go.Proofs.YtnpbnlphmngbdaaGreatDoor
open Go.RowKit

namespace Tg
/-- The document's origin, with what it hands back of a text that is none. -/
def origR (t : T) (l : List UInt8) : T × Bool := (t.put (l.take (Pq.markN l)) (l.drop (Pq.markN l + 1)) (decide (Pq.markN l < l.length)), Pq.pathL (l.take (Pq.markN l)) && Pq.queryL (l.drop (Pq.markN l + 1)))
theorem origR_get (t : T) (l : List UInt8) : get (origR t l) = orig t l := rfl
end Tg
set_option maxHeartbeats 1600000 in
theorem ROrigin_any (k : Int) (S : ByteArray) (hk : Int) (N : ByteArray) (p : Int) (pa : ByteArray) (ha : Bool) (s : ByteArray) (w : World) (hs : s.size ≤ 1000) :
    Calls Tryz.prog 15 #[tv k S hk N p pa ⟨#[]⟩ ha, .string s] w fun e w' =>
      e = .returned (.tuple #[tv k S hk N p (s.extract 0 (Pq.markN s.data.toList)) (s.extract (Pq.markN s.data.toList + 1) s.size) (decide (Pq.markN s.data.toList < s.size)), .bool (Pq.pathL (s.data.toList.take (Pq.markN s.data.toList)) && Pq.queryL (s.data.toList.drop (Pq.markN s.data.toList + 1)))]) ∧ Below w.heap.size w w' := by
  have hb0 : ∀ o, Below w.heap.size w (w.alloc o) := fun o => (Below.refl _ _).alloc (Nat.le_refl _) _
  have HB0 := Lib.hid hb0
  have HM := Lib.hid (fun w1 => RMark_any s w1 (by omega))
  have hle := Pq.mark_le s.data.toList
  have hl : s.data.toList.length = s.size := by simp
  rw [hl] at hle
  have hP1 : (s.extract 0 (Pq.markN s.data.toList)).data.toList = s.data.toList.take (Pq.markN s.data.toList) := by rw [Hp.ext_start]
  have hQ1 : (s.extract (Pq.markN s.data.toList + 1) s.size).data.toList = s.data.toList.drop (Pq.markN s.data.toList + 1) := by rw [Hp.ext_end]
  have hPz : (s.extract 0 (Pq.markN s.data.toList)).size ≤ 1000 := by simp [ByteArray.size_extract]; omega
  have hQz : (s.extract (Pq.markN s.data.toList + 1) s.size).size ≤ 1000 := by simp [ByteArray.size_extract]; omega
  have HP := Lib.hid (fun w1 => RPPath_any (s.extract 0 (Pq.markN s.data.toList)) w1 (by omega))
  have HQ := Lib.hid (fun w1 => RPQuery_any (s.extract (Pq.markN s.data.toList + 1) s.size) w1 (by omega))
  rw [hP1] at HP
  rw [hQ1] at HQ
  have hq0 : Pq.markN s.data.toList = s.size → Pq.queryL (s.data.toList.drop (Pq.markN s.data.toList + 1)) = true := by
    intro e
    rw [e, List.drop_of_length_le (by omega)]
    exact Pq.pcL_nil _
  have hx0 : Pq.markN s.data.toList = s.size → s.extract (Pq.markN s.data.toList + 1) s.size = ⟨#[]⟩ := by
    intro e
    rw [e]
    exact bytes_eq (by rw [Hp.ext_end, List.drop_of_length_le (by omega)])
  clear hP1 hQ1 hPz hQz hl hb0
  generalize Pq.pathL (s.data.toList.take (Pq.markN s.data.toList)) = bp at *
  generalize Pq.queryL (s.data.toList.drop (Pq.markN s.data.toList + 1)) = bq at *
  generalize Pq.markN s.data.toList = n at *
  obtain ⟨P, hP⟩ : ∃ P, s.extract 0 n = P := ⟨_, rfl⟩
  obtain ⟨Q, hQ⟩ : ∃ Q, s.extract (n + 1) s.size = Q := ⟨_, rfl⟩
  rw [hP] at HP ⊢
  rw [hQ] at HQ hx0 ⊢
  have HT := Lib.hid (tgAt_new w k S hk N p pa ⟨#[]⟩ ha)
  unfold tv
  by_cases hn : n < s.size
  · have h1 : (n : Int) < s.size := by omega
    have h2 : (n : Int) + 1 ≤ s.size := by omega
    rw [decide_eq_true hn]
    clear hq0 hx0 hn
    cases bp
    · rw [Bool.false_and]
      go_enter Tryz.func15, Tryz.ntmps15
      go_wp2_with fail
      refine (HM.out _).mono ?_
      rintro e w1 ⟨rfl, rfl⟩
      go_wp2_with fail
      generalize hW : (w.alloc (.cells #[.int .i64 k, .string S, .int .i64 hk, .string N, .int .i64 p, .string P, .string Q, .bool true] 29)).alloc (.cells #[.int .i64 0, .string ⟨#[]⟩, .int .i64 0, .string ⟨#[]⟩, .int .i64 0, .string ⟨#[]⟩, .string ⟨#[]⟩, .bool false] 29) = W
      obtain ⟨c0, c1, c2, c3, c4, c5, c6, c7, f0, f1, f2, f3, f4, f5, f6, f7, l1⟩ : TgAt W w.heap.size k S hk N p P Q true := by
        rw [← hW]
        exact (tgAt_new w k S hk N p P Q true).below ((Below.refl (w.heap.size + 1) _).alloc (by simp) _) (by omega)
      obtain ⟨d0, d1, d2, d3, d4, d5, d6, d7, g0, g1, g2, g3, g4, g5, g6, g7, l2⟩ : TgAt W (w.heap.size + 1) 0 ⟨#[]⟩ 0 ⟨#[]⟩ 0 ⟨#[]⟩ ⟨#[]⟩ false := by
        have := tgAt_new (w.alloc (.cells #[.int .i64 k, .string S, .int .i64 hk, .string N, .int .i64 p, .string P, .string Q, .bool true] 29)) 0 ⟨#[]⟩ 0 ⟨#[]⟩ 0 ⟨#[]⟩ ⟨#[]⟩ false
        rw [World.size_alloc, hW] at this
        exact this
      have HBW := Lib.hid (show Below w.heap.size w W by rw [← hW]; exact (HB0.out _).alloc (by simp) _)
      clear hW HB0 HM
      first
        | go_region_with (first | (go_at_call 30; refine (HP.out _).mono ?_; rintro e w2 ⟨rfl, hw2⟩; subst hw2) | (go_at_call 17; refine (HQ.out _).mono ?_; rintro e w2 ⟨rfl, hw2⟩; subst hw2))
        | fail
      all_goals go_wp2_with fail
      all_goals
        refine bodyPost_ret (v := .tuple #[tv k S hk N p P Q true, .bool false]) (by simp [results, tv, Tryz.results15, go_sem, d0, d1, d2, d3, d4, d5, d6, d7]) rfl ⟨rfl, ?_⟩
        exact (putT_below HBW.out (by simp) _ _ _ _ _ _ _ _).drew
    · rw [Bool.true_and]
      go_enter Tryz.func15, Tryz.ntmps15
      go_wp2_with fail
      refine (HM.out _).mono ?_
      rintro e w1 ⟨rfl, rfl⟩
      go_wp2_with fail
      generalize hW : (w.alloc (.cells #[.int .i64 k, .string S, .int .i64 hk, .string N, .int .i64 p, .string P, .string Q, .bool true] 29)).alloc (.cells #[.int .i64 0, .string ⟨#[]⟩, .int .i64 0, .string ⟨#[]⟩, .int .i64 0, .string ⟨#[]⟩, .string ⟨#[]⟩, .bool false] 29) = W
      obtain ⟨c0, c1, c2, c3, c4, c5, c6, c7, f0, f1, f2, f3, f4, f5, f6, f7, l1⟩ : TgAt W w.heap.size k S hk N p P Q true := by
        rw [← hW]
        exact (tgAt_new w k S hk N p P Q true).below ((Below.refl (w.heap.size + 1) _).alloc (by simp) _) (by omega)
      obtain ⟨d0, d1, d2, d3, d4, d5, d6, d7, g0, g1, g2, g3, g4, g5, g6, g7, l2⟩ : TgAt W (w.heap.size + 1) 0 ⟨#[]⟩ 0 ⟨#[]⟩ 0 ⟨#[]⟩ ⟨#[]⟩ false := by
        have := tgAt_new (w.alloc (.cells #[.int .i64 k, .string S, .int .i64 hk, .string N, .int .i64 p, .string P, .string Q, .bool true] 29)) 0 ⟨#[]⟩ 0 ⟨#[]⟩ 0 ⟨#[]⟩ ⟨#[]⟩ false
        rw [World.size_alloc, hW] at this
        exact this
      have HBW := Lib.hid (show Below w.heap.size w W by rw [← hW]; exact (HB0.out _).alloc (by simp) _)
      clear hW HB0 HM
      go_region_held3 (fun w' => w'.cell? ⟨w.heap.size, 0, none⟩ = some (.int .i64 k) ∧ w'.cell? ⟨w.heap.size, 1, none⟩ = some (.string S) ∧ w'.cell? ⟨w.heap.size, 2, none⟩ = some (.int .i64 hk) ∧ w'.cell? ⟨w.heap.size, 3, none⟩ = some (.string N) ∧ w'.cell? ⟨w.heap.size, 4, none⟩ = some (.int .i64 p) ∧ w'.cell? ⟨w.heap.size, 5, none⟩ = some (.string P) ∧ w'.cell? ⟨w.heap.size, 6, none⟩ = some (.string Q) ∧ w'.cell? ⟨w.heap.size, 7, none⟩ = some (.bool true))
        (first | go_keep | (refine ⟨?_, ?_, ?_, ?_, ?_, ?_, ?_, ?_⟩ <;> first | go_keep | assumption))
        (first | (go_at_call 30; refine (HP.out _).mono ?_; rintro e w2 ⟨rfl, hw2⟩; subst hw2) | (go_at_call 17; refine (HQ.out _).mono ?_; rintro e w2 ⟨rfl, hw2⟩; subst hw2))
      all_goals go_wp2_with fail
      all_goals
        refine bodyPost_ret (v := .tuple #[tv k S hk N p P Q true, .bool bq]) (by simp [results, tv, Tryz.results15, go_sem, d0, d1, d2, d3, d4, d5, d6, d7]) rfl ⟨rfl, ?_⟩
        exact (putT_below HBW.out (by simp) _ _ _ _ _ _ _ _).drew
  · have hns : n = s.size := by omega
    have hb := hq0 hns
    have hQ0 := hx0 hns
    subst hb hQ0
    rw [decide_eq_false hn]
    have h1 : ¬ (n : Int) < s.size := by omega
    have hPs : s = P := by rw [← hP, hns]; exact (bytes_eq (by rw [Hp.ext_start, List.take_of_length_le (by simp)])).symm
    clear hq0 hx0 hn hQ hP
    subst hPs hns
    cases bp
    · rw [Bool.false_and]
      go_enter Tryz.func15, Tryz.ntmps15
      go_wp2_with fail
      refine (HM.out _).mono ?_
      rintro e w1 ⟨rfl, rfl⟩
      go_wp2_with fail
      generalize hW : (w.alloc (.cells #[.int .i64 k, .string S, .int .i64 hk, .string N, .int .i64 p, .string s, .string ⟨#[]⟩, .bool false] 29)).alloc (.cells #[.int .i64 0, .string ⟨#[]⟩, .int .i64 0, .string ⟨#[]⟩, .int .i64 0, .string ⟨#[]⟩, .string ⟨#[]⟩, .bool false] 29) = W
      obtain ⟨c0, c1, c2, c3, c4, c5, c6, c7, f0, f1, f2, f3, f4, f5, f6, f7, l1⟩ : TgAt W w.heap.size k S hk N p s ⟨#[]⟩ false := by
        rw [← hW]
        exact (tgAt_new w k S hk N p s ⟨#[]⟩ false).below ((Below.refl (w.heap.size + 1) _).alloc (by simp) _) (by omega)
      obtain ⟨d0, d1, d2, d3, d4, d5, d6, d7, g0, g1, g2, g3, g4, g5, g6, g7, l2⟩ : TgAt W (w.heap.size + 1) 0 ⟨#[]⟩ 0 ⟨#[]⟩ 0 ⟨#[]⟩ ⟨#[]⟩ false := by
        have := tgAt_new (w.alloc (.cells #[.int .i64 k, .string S, .int .i64 hk, .string N, .int .i64 p, .string s, .string ⟨#[]⟩, .bool false] 29)) 0 ⟨#[]⟩ 0 ⟨#[]⟩ 0 ⟨#[]⟩ ⟨#[]⟩ false
        rw [World.size_alloc, hW] at this
        exact this
      have HBW := Lib.hid (show Below w.heap.size w W by rw [← hW]; exact (HB0.out _).alloc (by simp) _)
      clear hW HB0 HM
      first
        | go_region_with (first | (go_at_call 30; refine (HP.out _).mono ?_; rintro e w2 ⟨rfl, hw2⟩; subst hw2) | (go_at_call 17; refine (HQ.out _).mono ?_; rintro e w2 ⟨rfl, hw2⟩; subst hw2))
        | fail
      all_goals go_wp2_with fail
      all_goals
        refine bodyPost_ret (v := .tuple #[tv k S hk N p s ⟨#[]⟩ false, .bool false]) (by simp [results, tv, Tryz.results15, go_sem, d0, d1, d2, d3, d4, d5, d6, d7]) rfl ⟨rfl, ?_⟩
        exact (putT_below HBW.out (by simp) _ _ _ _ _ _ _ _).drew
    · rw [Bool.true_and]
      go_enter Tryz.func15, Tryz.ntmps15
      go_wp2_with fail
      refine (HM.out _).mono ?_
      rintro e w1 ⟨rfl, rfl⟩
      go_wp2_with fail
      generalize hW : (w.alloc (.cells #[.int .i64 k, .string S, .int .i64 hk, .string N, .int .i64 p, .string s, .string ⟨#[]⟩, .bool false] 29)).alloc (.cells #[.int .i64 0, .string ⟨#[]⟩, .int .i64 0, .string ⟨#[]⟩, .int .i64 0, .string ⟨#[]⟩, .string ⟨#[]⟩, .bool false] 29) = W
      obtain ⟨c0, c1, c2, c3, c4, c5, c6, c7, f0, f1, f2, f3, f4, f5, f6, f7, l1⟩ : TgAt W w.heap.size k S hk N p s ⟨#[]⟩ false := by
        rw [← hW]
        exact (tgAt_new w k S hk N p s ⟨#[]⟩ false).below ((Below.refl (w.heap.size + 1) _).alloc (by simp) _) (by omega)
      obtain ⟨d0, d1, d2, d3, d4, d5, d6, d7, g0, g1, g2, g3, g4, g5, g6, g7, l2⟩ : TgAt W (w.heap.size + 1) 0 ⟨#[]⟩ 0 ⟨#[]⟩ 0 ⟨#[]⟩ ⟨#[]⟩ false := by
        have := tgAt_new (w.alloc (.cells #[.int .i64 k, .string S, .int .i64 hk, .string N, .int .i64 p, .string s, .string ⟨#[]⟩, .bool false] 29)) 0 ⟨#[]⟩ 0 ⟨#[]⟩ 0 ⟨#[]⟩ ⟨#[]⟩ false
        rw [World.size_alloc, hW] at this
        exact this
      have HBW := Lib.hid (show Below w.heap.size w W by rw [← hW]; exact (HB0.out _).alloc (by simp) _)
      clear hW HB0 HM
      go_region_held3 (fun w' => w'.cell? ⟨w.heap.size, 0, none⟩ = some (.int .i64 k) ∧ w'.cell? ⟨w.heap.size, 1, none⟩ = some (.string S) ∧ w'.cell? ⟨w.heap.size, 2, none⟩ = some (.int .i64 hk) ∧ w'.cell? ⟨w.heap.size, 3, none⟩ = some (.string N) ∧ w'.cell? ⟨w.heap.size, 4, none⟩ = some (.int .i64 p) ∧ w'.cell? ⟨w.heap.size, 5, none⟩ = some (.string s) ∧ w'.cell? ⟨w.heap.size, 6, none⟩ = some (.string ⟨#[]⟩) ∧ w'.cell? ⟨w.heap.size, 7, none⟩ = some (.bool false))
        (first | go_keep | (refine ⟨?_, ?_, ?_, ?_, ?_, ?_, ?_, ?_⟩ <;> first | go_keep | assumption))
        (first | (go_at_call 30; refine (HP.out _).mono ?_; rintro e w2 ⟨rfl, hw2⟩; subst hw2) | (go_at_call 17; refine (HQ.out _).mono ?_; rintro e w2 ⟨rfl, hw2⟩; subst hw2))
      all_goals go_wp2_with fail
      all_goals
        refine bodyPost_ret (v := .tuple #[tv k S hk N p s ⟨#[]⟩ false, .bool true]) (by simp [results, tv, Tryz.results15, go_sem, d0, d1, d2, d3, d4, d5, d6, d7]) rfl ⟨rfl, ?_⟩
        exact (putT_below HBW.out (by simp) _ _ _ _ _ _ _ _).drew
theorem ROrigin_t (t : Tg.T) (s : ByteArray) (w : World) (hs : s.size ≤ 1000) (hq : t.query = []) :
    Calls Tryz.prog 15 #[tgV t, .string s] w fun e w' => e = .returned (.tuple #[tgV (Tg.origR t s.data.toList).1, .bool (Tg.origR t s.data.toList).2]) ∧ Below w.heap.size w w' := by
  obtain ⟨k, sch, ⟨hk, nm, p⟩, pa, qu, ha⟩ := t
  simp only at hq
  subst hq
  have h := ROrigin_any k ⟨sch.toArray⟩ hk ⟨nm.toArray⟩ p ⟨pa.toArray⟩ ha s w hs
  have e1 : s.extract 0 (Pq.markN s.data.toList) = ⟨(s.data.toList.take (Pq.markN s.data.toList)).toArray⟩ := bytes_eq (by rw [Hp.ext_start])
  have e2 : s.extract (Pq.markN s.data.toList + 1) s.size = ⟨(s.data.toList.drop (Pq.markN s.data.toList + 1)).toArray⟩ := bytes_eq (by rw [Hp.ext_end])
  rw [e1, e2, show s.size = s.data.toList.length by simp] at h
  exact h
end Go.Proofs.YtnpbnlphmngbdaaGreatDoor
