/- What reads a row of texts, or a quill: contracts. -/
import Derived.Test.YtcoconooagmepaaQuilA
namespace Go.Proofs.Ytcoconooagmepaa
open Go.RowKit

theorem RAll_any (a : Option Addr) (len cp : Nat) (ss : List ByteArray) (w : World) (hz : IsTexts w a len ss) (hb : (flat ss).length ≤ 140737488355328) :
    Calls Try.prog 18 #[.slice a len cp] w fun e w' => e = .returned (.string (cat ss)) ∧ w = w' := by
  obtain ⟨hlen, hz⟩ := hz
  rcases hz with ⟨rfl, rfl⟩ | ⟨x, rfl, hl, hc⟩
  · obtain rfl := List.eq_nil_of_length_eq_zero hlen
    clear hlen hb
    go_enter Try.func18, Try.ntmps18
    go_wp2_with fail
    refine wp_loop_rounds 1 ?_
    rw [rounds_succ]
    go_wp2_with fail
    go_ret
    exact ⟨rfl, rfl⟩
  · have HC := Lib.hid hc
    have HL := Lib.hid hlen
    have HB := Lib.hid hb
    clear hc hlen hb
    go_enter Try.func18, Try.ntmps18
    go_wp2_with fail
    go_loop [3, 4] (fun s i => ∃ (k : Nat), k ≤ len ∧ i = .int .i64 k ∧ s = .string (cat (ss.take k))) (fun _ i => len - (intOf i).toNat)
    case atStart => exact ⟨0, Nat.zero_le _, rfl, rfl⟩
    case round =>
      obtain ⟨k, hk, rfl, rfl⟩ := hrel
      by_cases hlt : k < len
      · have hc := HC.out k hlt
        have hs := Lib.hid (cat_snoc ss k (by rw [HL.out]; exact hlt))
        have hw : (cat (ss.take k)).size + (ss.getD k ByteArray.empty).size ≤ 140737488355328 := by
          rw [cat_size]
          exact Nat.le_trans (flat_le ss k (by rw [HL.out]; exact hlt)) HB.out
        generalize ss.getD k ByteArray.empty = y at *
        generalize cat (ss.take k) = z at *
        go_wp2_with fail
        exact ⟨⟨k + 1, by omega, by go_num, by rw [hs.out]⟩, by simp [intOf]; omega⟩
      · have hE := Lib.hid (cat_all ss k (by rw [HL.out]; omega))
        go_wp2_with fail
        go_ret
        rw [hE.out]
        exact ⟨rfl, rfl⟩

/-- Have the texts together at most so many bytes? -/
def fits (room : Int) (ss : List ByteArray) : Bool := decide (((flat ss).length : Int) ≤ room)
theorem fit_any (room : Int) (h0 : 0 ≤ room) (h1 : room ≤ 9223372036854775807) (a : Option Addr) (len cp : Nat) (ss : List ByteArray) (w : World) (hz : IsTexts w a len ss) (hb : (flat ss).length ≤ 140737488355328) :
    Calls Try.prog 20 #[.int .i64 room, .slice a len cp] w fun e w' => e = .returned (.bool (fits room ss)) ∧ w = w' := by
  obtain ⟨hlen, hz⟩ := hz
  rcases hz with ⟨rfl, rfl⟩ | ⟨x, rfl, hl, hc⟩
  · obtain rfl := List.eq_nil_of_length_eq_zero hlen
    have hf : Hid (fits room [] = true) := by show _ = _; unfold fits flat; simpa using h0
    clear hlen hb
    go_enter Try.func20, Try.ntmps20
    go_wp2_with fail
    refine wp_loop_rounds 1 ?_
    rw [rounds_succ]
    go_wp2_with fail
    go_ret
    exact ⟨ret_bool hf.out.symm, rfl⟩
  · have HC := Lib.hid hc
    have HL := Lib.hid hlen
    have HB := Lib.hid hb
    clear hc hlen hb
    go_enter Try.func20, Try.ntmps20
    go_wp2_with fail
    go_loop [0, 9] (fun r i => ∃ (k t : Nat), k ≤ len ∧ i = .int .i64 k ∧ r = .int .i64 (room - t) ∧ (t : Int) ≤ room ∧ Hid ((flat (ss.take k)).length = t)) (fun _ i => len - (intOf i).toNat)
    case atStart => exact ⟨0, 0, Nat.zero_le _, rfl, by simp, h0, rfl⟩
    case round =>
      obtain ⟨k, t, hk, rfl, rfl, ht, HT⟩ := hrel
      by_cases hlt : k < len
      · have hc := HC.out k hlt
        have hs := Lib.hid (flat_step ss k (by rw [HL.out]; exact hlt))
        have hle := Lib.hid (flat_le ss k (by rw [HL.out]; exact hlt))
        have hy : (ss.getD k ByteArray.empty).size ≤ 140737488355328 := by have := hle.out; have := HB.out; omega
        generalize ss.getD k ByteArray.empty = y at *
        go_wp2_with fail
        · rename_i hgt
          have hf : fits room ss = false := by
            unfold fits
            have := hle.out
            rw [HT.out] at this
            simp
            omega
          go_ret
          exact ⟨ret_bool hf.symm, rfl⟩
        · rename_i hgt
          refine ⟨⟨k + 1, t + y.size, by omega, by go_num, ?_, by omega, by show _ = _; rw [hs.out, HT.out]⟩, by simp [intOf]; omega⟩
          congr 1
          omega
      · have hE : Hid (fits room ss = true) := by
          show _ = _
          have := HT.out
          rw [List.take_of_length_le (by rw [HL.out]; omega)] at this
          unfold fits
          rw [this]
          simpa using ht
        go_wp2_with fail
        go_ret
        exact ⟨ret_bool hE.out.symm, rfl⟩

theorem QNew_any (most : Int) (w : World) (h0 : -9223372036854775808 ≤ most) (h1 : most < 9223372036854775808) :
    Calls Try.prog 7 #[.int .i64 most] w fun e w' => e = .returned (.pointer (some ⟨w.heap.size, 0, none⟩)) ∧ w' = w.alloc (.cells #[.slice none 0 0, .int .i64 (max most 0)] 44) := by
  go_enter Try.func7, Try.ntmps7
  go_wp2
  all_goals
    go_ret
    first
      | (rw [Int.max_eq_left (by omega)]; exact ⟨rfl, rfl⟩)
      | (rw [Int.max_eq_right (by omega)]; exact ⟨rfl, rfl⟩)
theorem quil_new (most : Int) (h0 : 0 ≤ most) (h1 : most ≤ 9223372036854775807) (w : World) : Quil w.heap.size (.slice none 0 0) ByteArray.empty most (w.alloc (.cells #[.slice none 0 0, .int .i64 most] 44)) := by
  refine ⟨heap_alloc_new w _, World.ownsRow_nil _ _ _ _, by simp [Value.ownBlock], ?_, h1⟩
  have e : ByteArray.empty.size = 0 := rfl
  omega

theorem QLen_some (b : Nat) (v : Value) (s : ByteArray) (most : Int) (w : World) (h : Quil b v s most w) :
    Calls Try.prog 14 #[.pointer (some ⟨b, 0, none⟩)] w fun e w' => e = .returned (.int .i64 s.size) ∧ w = w' := by
  have h0 := h.c0
  obtain ⟨a, c, rfl, _⟩ := own_form h.own
  clear h
  go_enter Try.func14, Try.ntmps14
  go_wp2
  go_ret
  exact ⟨rfl, rfl⟩
theorem QLen_nil (w : World) : Calls Try.prog 14 #[.pointer none] w fun e w' => e = .returned (.int .i64 0) ∧ w = w' := by
  go_enter Try.func14, Try.ntmps14
  go_wp2
  go_ret
  exact ⟨rfl, rfl⟩
theorem QLeft_some (b : Nat) (v : Value) (s : ByteArray) (most : Int) (w : World) (h : Quil b v s most w) :
    Calls Try.prog 15 #[.pointer (some ⟨b, 0, none⟩)] w fun e w' => e = .returned (.int .i64 (most - s.size)) ∧ ∃ n, w' = w.drewN n := by
  have h0 := h.c0
  have h1 := h.c1
  have hle := h.le
  have hs := h.small
  obtain ⟨a, c, rfl, _⟩ := own_form h.own
  clear h
  go_enter Try.func15, Try.ntmps15
  go_wp2
  go_quiet (fail)
  go_wp2
  go_ret
  exact ⟨rfl, _, rfl⟩
theorem QLeft_nil (w : World) : Calls Try.prog 15 #[.pointer none] w fun e w' => e = .returned (.int .i64 0) ∧ ∃ n, w' = w.drewN n := by
  go_enter Try.func15, Try.ntmps15
  go_wp2
  go_ret
  exact ⟨rfl, 0, rfl⟩
theorem QText_some (b : Nat) (v : Value) (s : ByteArray) (most : Int) (w : World) (h : Quil b v s most w) :
    Calls Try.prog 13 #[.pointer (some ⟨b, 0, none⟩)] w fun e w' => e = .returned (.string s) ∧ w = w' := by
  have h0 := h.c0
  have ht := text_run h
  obtain ⟨a, c, rfl, _⟩ := own_form h.own
  clear h
  go_enter Try.func13, Try.ntmps13
  go_wp2
  go_ret
  exact ⟨rfl, rfl⟩
theorem QText_nil (w : World) : Calls Try.prog 13 #[.pointer none] w fun e w' => e = .returned (.string ByteArray.empty) ∧ w = w' := by
  go_enter Try.func13, Try.ntmps13
  go_wp2
  go_ret
  exact ⟨rfl, rfl⟩
theorem QTake_some (b : Nat) (v : Value) (s : ByteArray) (most : Int) (w : World) (h : Quil b v s most w) :
    Calls Try.prog 8 #[.pointer (some ⟨b, 0, none⟩)] w fun e w' => e = .returned (.string s) ∧ w' = w.setCell ⟨b, 0, none⟩ (.slice none 0 0) := by
  have h0 := h.c0
  have f0 := h.f0
  have H := Lib.hid h
  clear h
  go_enter Try.func8, Try.ntmps8
  go_wp2_with fail
  refine (QText_some b v s most _ H.out).mono ?_
  rintro e w' ⟨rfl, rfl⟩
  go_wp2_with fail
  go_ret
  exact ⟨rfl, rfl⟩
theorem QTake_nil (w : World) : Calls Try.prog 8 #[.pointer none] w fun e w' => e = .returned (.string ByteArray.empty) ∧ w = w' := by
  go_enter Try.func8, Try.ntmps8
  go_wp2_with fail
  refine (QText_nil _).mono ?_
  rintro e w' ⟨rfl, rfl⟩
  go_wp2_with fail
  go_ret
  exact ⟨rfl, rfl⟩
end Go.Proofs.Ytcoconooagmepaa
