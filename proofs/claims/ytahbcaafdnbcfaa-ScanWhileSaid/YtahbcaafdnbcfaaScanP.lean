/- The law ScanWhile: its walk. -/
import Derived.Test.YtahbcaafdnbcfaaScanN
namespace Go.Proofs.Ytahbcaafdnbcfaa
open Go.RowKit

def upTo (M : Nat) : List UInt8 → UInt8 → Bool := fun q _ => decide (q.length + 1 ≤ M)
theorem asks_upTo (M : Nat) : ∀ (l pre : List UInt8), pre.length ≤ M → asks (upTo M) pre l = (decide (pre.length + l.length ≤ M), pre ++ l.take (M + 1 - pre.length))
  | [], pre, h => by simp [asks]; omega
  | c :: l, pre, h => by
    have hu : asks (upTo M) pre (c :: l) = if upTo M pre c then asks (upTo M) (pre ++ [c]) l else (false, pre ++ [c]) := rfl
    rw [hu]
    cases hp : upTo M pre c
    · have hp2 : ¬ pre.length + 1 ≤ M := by simpa [upTo] using hp
      obtain rfl : M = pre.length := by omega
      refine Prod.ext ?_ ?_
      · simp
      · simp [show pre.length + 1 - pre.length = 1 by omega]
    · have hp2 : pre.length + 1 ≤ M := by simpa [upTo] using hp
      simp only [if_true]
      rw [asks_upTo M l (pre ++ [c]) (by simp; omega)]
      rw [show M + 1 - pre.length = (M - pre.length) + 1 from by omega, List.take_succ_cons]
      refine Prod.ext ?_ ?_
      · simp; omega
      · simp [show M + 1 - (pre.length + 1) = M - pre.length by omega]
theorem asked_upTo (M : Nat) (l : List UInt8) : (asks (upTo M) [] l).2.length = min l.length (M + 1) := by
  rw [asks_upTo M l [] (Nat.zero_le _)]; simp; omega
theorem took_upTo (M : Nat) (l : List UInt8) : took (upTo M) l = min l.length M := by
  unfold took cnt
  rw [asked_upTo, asks_upTo M l [] (Nat.zero_le _), asks_upTo M _ [] (Nat.zero_le _)]
  simp only [List.nil_append, List.length_take, List.length_nil, Nat.zero_add, Nat.sub_zero, decide_eq_true_eq]
  split <;> omega

theorem count_any (n mA : Nat) (m : Nat) (M : Int) (c : Int) (w : World) (hn : w.cell? ⟨n, 0, none⟩ = some (.int .i64 m)) (hf : w.frozen? ⟨n, 0, none⟩ = false) (hm : w.cell? ⟨mA, 0, none⟩ = some (.int .u8 M)) (h0 : 0 ≤ M) (h1 : M ≤ 255) (hb : m ≤ 1000000) (hne : mA ≠ n) :
    Calls Try.prog 13 #[.int .u8 c, .pointer (some ⟨n, 0, none⟩), .pointer (some ⟨mA, 0, none⟩)] w fun e w' => e = .returned (.bool (decide (((m + 1 : Nat) : Int) ≤ M))) ∧ w' = w.setCell ⟨n, 0, none⟩ (.int .i64 (m + 1 : Nat)) := by
  go_enter Try.func13, Try.ntmps13
  go_wp2
  go_ret
  exact ⟨rfl, rfl⟩
theorem enters_count (args : Array Value) (w : World) : (callFunc 13 args).run Try.prog w = .ok (.enter 13 args) w := by
  exact enters_of Try.func13 (by kernel_rfl) rfl args w
theorem cut0 (s : ByteArray) (n : Nat) : s.extract 0 (0 + n) = s.extract 0 n := by rw [Nat.zero_add]
/-- What While, handed the law's closure, leaves: the bytes, the count of questions, the scanner. -/
theorem counted_any (s : ByteArray) (M t nb mb : Nat) (w : World) (h : Scn t s 0 w) (hs : s.size ≤ 300) (hM : M ≤ 255) (hn : w.cell? ⟨nb, 0, none⟩ = some (.int .i64 0)) (hf : w.frozen? ⟨nb, 0, none⟩ = false) (hm : w.cell? ⟨mb, 0, none⟩ = some (.int .u8 M)) (h1 : mb ≠ nb) (h2 : t ≠ nb) (h3 : t ≠ mb) :
    Calls Try.prog 12 #[.pointer (some ⟨t, 0, none⟩), .func (.func 13) #[] #[.pointer (some ⟨nb, 0, none⟩), .pointer (some ⟨mb, 0, none⟩)]] w fun e w' => e = .returned (.string (s.extract 0 (min s.size M))) ∧ Scn t s (min s.size M) w' ∧ w'.cell? ⟨nb, 0, none⟩ = some (.int .i64 (min s.size (M + 1) : Nat)) ∧ w'.cell? ⟨mb, 0, none⟩ = some (.int .u8 M) ∧ Kept (fun j => j = nb ∨ j = t) w w' := by
  have hl : (s.data.toList.drop 0).length = s.size := by simp
  have htk : took (upTo M) (s.data.toList.drop 0) = min s.size M := by rw [took_upTo, hl]
  have hak : (asks (upTo M) [] (s.data.toList.drop 0)).2.length = min s.size (M + 1) := by rw [asked_upTo, hl]
  have hnlt : nb < w.heap.size := lt_of_cell hn
  have hmlt : mb < w.heap.size := lt_of_cell hm
  refine (While_any 13 #[] #[.pointer (some ⟨nb, 0, none⟩), .pointer (some ⟨mb, 0, none⟩)] (upTo M)
    (fun pre W => W.cell? ⟨nb, 0, none⟩ = some (.int .i64 pre.length) ∧ W.frozen? ⟨nb, 0, none⟩ = false ∧ W.cell? ⟨mb, 0, none⟩ = some (.int .u8 M) ∧ w.heap.size ≤ W.heap.size)
    (fun j => j = nb) t s 0 w h (by omega) enters_count (fun j hj => by subst hj; exact hnlt) h2 ⟨hn, hf, hm, Nat.le_refl _⟩ ?_ ?_).mono ?_
  · rintro pre W W' ⟨a, b, c, d⟩ hk
    refine ⟨(hk.cell (p := ⟨nb, 0, none⟩) (Nat.lt_of_lt_of_le hnlt d) ?_).trans a, (hk.frozen (p := ⟨nb, 0, none⟩) (Nat.lt_of_lt_of_le hnlt d) ?_).trans b, (hk.cell (p := ⟨mb, 0, none⟩) (Nat.lt_of_lt_of_le hmlt d) ?_).trans c, Nat.le_trans d hk.size⟩
    all_goals
      rintro (hx | hx)
      · simp at hx; omega
      · simp at hx; omega
  · rintro pre c r W hpre - - ⟨a, b, d, e⟩
    have hpl : pre.length ≤ 300 := by
      have := congrArg List.length hpre
      simp at this
      omega
    refine (count_any nb mb pre.length M (c.toNat : Int) W a b d (by omega) (by omega) (by omega) h1).mono ?_
    rintro e' W' ⟨rfl, rfl⟩
    refine ⟨ret_bool ?_, ⟨?_, ?_, ?_, ?_⟩, ?_⟩
    · unfold upTo; rw [Bool.eq_iff_iff]; simp; omega
    · have e2 : (pre ++ [c]).length = pre.length + 1 := by simp
      rw [e2]
      exact World.cell?_setCell_same _ _ _ a
    · rw [World.frozen?_setCell]; exact b
    · rw [World.cell?_setCell_other _ _ _ _ (by simp [Ne.symm h1])]; exact d
    · rw [size_setCell]; exact e
    · exact (Kept.refl (fun j => j = nb) W).setCellL (p := ⟨nb, 0, none⟩) rfl _
  · rintro e w' ⟨rfl, hw⟩
    obtain ⟨a, b, c, -⟩ := hw.inv
    rw [hak] at a
    have hsc := hw.scn
    rw [htk, Nat.zero_add] at hsc
    rw [htk, Nat.zero_add]
    exact ⟨rfl, hsc, a, c, hw.kept⟩

theorem extract_le (s : ByteArray) : s.extract 0 s.size = s := B.extract_all s
theorem extract_end (s : ByteArray) : s.extract s.size s.size = ByteArray.empty := by simp
set_option maxHeartbeats 2000000 in
theorem while_core (s0 : ByteArray) (M : Nat) (w : World) (h0 : s0.size ≤ maxLen) (hM : M ≤ 255) :
    Calls Try.prog 5 #[.string s0, .int .u8 M] w fun e w' => e = .returned (.bool true) ∧ Below w.heap.size w w' := by
  unfold maxLen at h0
  rcases Nat.lt_or_ge 300 s0.size with hx | hx
  · obtain ⟨s, hs⟩ : ∃ s, s0.extract 0 300 = s := ⟨_, rfl⟩
    have hsz : s.size ≤ 300 := by rw [← hs]; simp; omega
    go_enter Try.func5, Try.ntmps5
    go_wp2_with fail
    refine (awake2_any _).mono ?_
    rintro e w1 ⟨rfl, hb1⟩
    have hz1 : w.heap.size + 1 ≤ w1.heap.size := by have := hb1.size; simp at this; omega
    have hm1 : w1.cell? ⟨w.heap.size, 0, none⟩ = some (.int .u8 M) := below_cell hb1 (by simp) (by simp [go_sem])
    have hB1 : Below w.heap.size w w1 := Below.trans (by repeat (first | with_reducible exact Below.refl _ _ | with_reducible assumption | (with_reducible refine Below.setCell ?_ ?_ _; rotate_left; · (simp <;> omega)) | (with_reducible refine Below.alloc ?_ ?_ _; rotate_left; · (simp <;> omega)) | with_reducible refine Below.drew ?_)) (hb1.mono (by simp))
    go_wp2_with fail
    refine (New_any s _).mono ?_
    rintro e w2 ⟨rfl, hw2⟩
    have hz2 : w2.heap.size = w1.heap.size + 1 := by rw [hw2]; simp
    have hsc : Scn w1.heap.size s 0 w2 := by rw [hw2]; exact scn_new s w1
    have hm2 : w2.cell? ⟨w.heap.size, 0, none⟩ = some (.int .u8 M) := by rw [hw2, World.cell?_alloc_past _ _ _ (by omega)]; exact hm1
    have hB2 : Below w.heap.size w w2 := by rw [hw2]; exact hB1.alloc hB1.size _
    have HZ2 := Lib.hid hz2
    have HSC := Lib.hid hsc
    clear hw2 hz2 hsc hb1 hm1
    have hmf : ∀ (fn : Fn) (first cap : Array Value) (w : World), (Instr.makeFunc fn first cap).run Try.prog w = .ok (.func fn first cap) w := fun _ _ _ _ => rfl
    go_wp2_with fail
    have hmx : ((w2.alloc (.cells #[.int .i64 0] 3))).cell? ⟨w.heap.size, 0, none⟩ = some (.int .u8 M) := by
      have := HZ2.out
      rw [World.cell?_alloc_past _ _ _ (by omega)]; exact hm2
    refine (counted_any s M w1.heap.size w2.heap.size w.heap.size _ (HSC.out.kept (P := fun _ => False) (by repeat (first | with_reducible exact Kept.refl _ _ | with_reducible assumption | (with_reducible refine Kept.setCellL ?_ ?_ _; rotate_left; · (simp <;> omega)) | with_reducible refine Kept.alloc ?_ _ | with_reducible refine Kept.drew ?_ | with_reducible refine Kept.drewN ?_ _)) (fun h => h)) hsz hM (by simp [go_sem]) (by simp [go_sem]) hmx ?_ ?_ ?_).mono ?_
    · have := HZ2.out; omega
    · have := HZ2.out; omega
    · omega
    rintro e w3 ⟨rfl, hsc3, hn3, hm3, hk3⟩
    have hK : Below w.heap.size w w3 := Below.trans (hB2.alloc hB2.size _) ((hk3.mono (Q := fun j => w.heap.size ≤ j) (fun j _ hj => by have := HZ2.out; rcases hj with rfl | rfl <;> omega)).below (by have := HZ2.out; simp; omega))
    have HS3 := Lib.hid hsc3
    clear hsc3 hk3 hmx hm2 hB2 hB1
    have hcase : s.size ≤ M ∨ (M < s.size ∧ s.size ≤ M + 1) ∨ M + 1 < s.size := by omega
    rcases hcase with hc | ⟨hc, hc2⟩ | hc
    · have hT : min s.size M = s.size := by omega
      have hN : min s.size (M + 1) = s.size := by omega
      rw [hT] at HS3 ⊢
      rw [hN] at hn3
      rw [extract_le]
      clear hT hN
      go_wp2
      go_quiet (first | (go_at_call 9; exact Calls.quiet_of_same (At_quiet _ s s.size _ (.inr ⟨_, rfl, HS3.out.drewN _⟩))) | (go_at_call 10; exact Calls.quiet_of (Rest_cut _ s s.size _ (.inr ⟨_, rfl, HS3.out.drewN _⟩))))
      go_wp2
      go_ret
      exact ⟨rfl, hK.trans (below_drewN _ _ _)⟩
    · have hT : min s.size M = M := by omega
      have hN : min s.size (M + 1) = s.size := by omega
      rw [hT] at HS3 ⊢
      rw [hN] at hn3
      clear hT hN
      go_wp2
      go_quiet (first | (go_at_call 9; exact Calls.quiet_of_same (At_quiet _ s M _ (.inr ⟨_, rfl, HS3.out.drewN _⟩))) | (go_at_call 10; exact Calls.quiet_of (Rest_cut _ s M _ (.inr ⟨_, rfl, HS3.out.drewN _⟩))))
      go_wp2
      go_ret
      exact ⟨rfl, hK.trans (below_drewN _ _ _)⟩
    · have hT : min s.size M = M := by omega
      have hN : min s.size (M + 1) = M + 1 := by omega
      rw [hT] at HS3 ⊢
      rw [hN] at hn3
      clear hT hN
      have hc2 : M < s.size := by omega
      have hi : (M : Int) ≤ (s.size : Int) := by omega
      go_wp2
      go_quiet (first | (go_at_call 9; exact Calls.quiet_of_same (At_quiet _ s M _ (.inr ⟨_, rfl, HS3.out.drewN _⟩))) | (go_at_call 10; exact Calls.quiet_of (Rest_cut _ s M _ (.inr ⟨_, rfl, HS3.out.drewN _⟩))))
      go_wp2
      go_ret
      exact ⟨rfl, hK.trans (below_drewN _ _ _)⟩
  · obtain ⟨s, rfl⟩ : ∃ s, s = s0 := ⟨_, rfl⟩
    have hsz : s.size ≤ 300 := hx
    go_enter Try.func5, Try.ntmps5
    go_wp2_with fail
    refine (awake2_any _).mono ?_
    rintro e w1 ⟨rfl, hb1⟩
    have hz1 : w.heap.size + 1 ≤ w1.heap.size := by have := hb1.size; simp at this; omega
    have hm1 : w1.cell? ⟨w.heap.size, 0, none⟩ = some (.int .u8 M) := below_cell hb1 (by simp) (by simp [go_sem])
    have hB1 : Below w.heap.size w w1 := Below.trans (by repeat (first | with_reducible exact Below.refl _ _ | with_reducible assumption | (with_reducible refine Below.setCell ?_ ?_ _; rotate_left; · (simp <;> omega)) | (with_reducible refine Below.alloc ?_ ?_ _; rotate_left; · (simp <;> omega)) | with_reducible refine Below.drew ?_)) (hb1.mono (by simp))
    go_wp2_with fail
    refine (New_any s _).mono ?_
    rintro e w2 ⟨rfl, hw2⟩
    have hz2 : w2.heap.size = w1.heap.size + 1 := by rw [hw2]; simp
    have hsc : Scn w1.heap.size s 0 w2 := by rw [hw2]; exact scn_new s w1
    have hm2 : w2.cell? ⟨w.heap.size, 0, none⟩ = some (.int .u8 M) := by rw [hw2, World.cell?_alloc_past _ _ _ (by omega)]; exact hm1
    have hB2 : Below w.heap.size w w2 := by rw [hw2]; exact hB1.alloc hB1.size _
    have HZ2 := Lib.hid hz2
    have HSC := Lib.hid hsc
    clear hw2 hz2 hsc hb1 hm1
    have hmf : ∀ (fn : Fn) (first cap : Array Value) (w : World), (Instr.makeFunc fn first cap).run Try.prog w = .ok (.func fn first cap) w := fun _ _ _ _ => rfl
    go_wp2_with fail
    have hmx : ((w2.alloc (.cells #[.int .i64 0] 3))).cell? ⟨w.heap.size, 0, none⟩ = some (.int .u8 M) := by
      have := HZ2.out
      rw [World.cell?_alloc_past _ _ _ (by omega)]; exact hm2
    refine (counted_any s M w1.heap.size w2.heap.size w.heap.size _ (HSC.out.kept (P := fun _ => False) (by repeat (first | with_reducible exact Kept.refl _ _ | with_reducible assumption | (with_reducible refine Kept.setCellL ?_ ?_ _; rotate_left; · (simp <;> omega)) | with_reducible refine Kept.alloc ?_ _ | with_reducible refine Kept.drew ?_ | with_reducible refine Kept.drewN ?_ _)) (fun h => h)) hsz hM (by simp [go_sem]) (by simp [go_sem]) hmx ?_ ?_ ?_).mono ?_
    · have := HZ2.out; omega
    · have := HZ2.out; omega
    · omega
    rintro e w3 ⟨rfl, hsc3, hn3, hm3, hk3⟩
    have hK : Below w.heap.size w w3 := Below.trans (hB2.alloc hB2.size _) ((hk3.mono (Q := fun j => w.heap.size ≤ j) (fun j _ hj => by have := HZ2.out; rcases hj with rfl | rfl <;> omega)).below (by have := HZ2.out; simp; omega))
    have HS3 := Lib.hid hsc3
    clear hsc3 hk3 hmx hm2 hB2 hB1
    have hcase : s.size ≤ M ∨ (M < s.size ∧ s.size ≤ M + 1) ∨ M + 1 < s.size := by omega
    rcases hcase with hc | ⟨hc, hc2⟩ | hc
    · have hT : min s.size M = s.size := by omega
      have hN : min s.size (M + 1) = s.size := by omega
      rw [hT] at HS3 ⊢
      rw [hN] at hn3
      rw [extract_le]
      clear hT hN
      go_wp2
      go_quiet (first | (go_at_call 9; exact Calls.quiet_of_same (At_quiet _ s s.size _ (.inr ⟨_, rfl, HS3.out.drewN _⟩))) | (go_at_call 10; exact Calls.quiet_of (Rest_cut _ s s.size _ (.inr ⟨_, rfl, HS3.out.drewN _⟩))))
      go_wp2
      go_ret
      exact ⟨rfl, hK.trans (below_drewN _ _ _)⟩
    · have hT : min s.size M = M := by omega
      have hN : min s.size (M + 1) = s.size := by omega
      rw [hT] at HS3 ⊢
      rw [hN] at hn3
      clear hT hN
      go_wp2
      go_quiet (first | (go_at_call 9; exact Calls.quiet_of_same (At_quiet _ s M _ (.inr ⟨_, rfl, HS3.out.drewN _⟩))) | (go_at_call 10; exact Calls.quiet_of (Rest_cut _ s M _ (.inr ⟨_, rfl, HS3.out.drewN _⟩))))
      go_wp2
      go_ret
      exact ⟨rfl, hK.trans (below_drewN _ _ _)⟩
    · have hT : min s.size M = M := by omega
      have hN : min s.size (M + 1) = M + 1 := by omega
      rw [hT] at HS3 ⊢
      rw [hN] at hn3
      clear hT hN
      have hc2 : M < s.size := by omega
      have hi : (M : Int) ≤ (s.size : Int) := by omega
      go_wp2
      go_quiet (first | (go_at_call 9; exact Calls.quiet_of_same (At_quiet _ s M _ (.inr ⟨_, rfl, HS3.out.drewN _⟩))) | (go_at_call 10; exact Calls.quiet_of (Rest_cut _ s M _ (.inr ⟨_, rfl, HS3.out.drewN _⟩))))
      go_wp2
      go_ret
      exact ⟨rfl, hK.trans (below_drewN _ _ _)⟩
end Go.Proofs.Ytahbcaafdnbcfaa
