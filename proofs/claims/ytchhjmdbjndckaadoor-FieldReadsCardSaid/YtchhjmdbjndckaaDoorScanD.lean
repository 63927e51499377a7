/- The scanner's While, over any function value: contract. -/
import Derived.Test.YtchhjmdbjndckaaDoorScanC
namespace Go.Proofs.YtchhjmdbjndckaaDoor
open Go.RowKit

/-- How many of the asked bytes were so. -/
def cnt (p : List UInt8 → UInt8 → Bool) (pre : List UInt8) : Nat := if (asks p [] pre).1 then pre.length else pre.length - 1
def took (p : List UInt8 → UInt8 → Bool) (l : List UInt8) : Nat := cnt p (asks p [] l).2
theorem cnt_le (p : List UInt8 → UInt8 → Bool) (pre : List UInt8) : cnt p pre ≤ pre.length := by unfold cnt; split <;> omega
theorem cnt_all (p : List UInt8 → UInt8 → Bool) (pre : List UInt8) (h : (asks p [] pre).1 = true) : cnt p pre = pre.length := by unfold cnt; rw [if_pos h]
theorem cnt_yes (p : List UInt8 → UInt8 → Bool) (pre : List UInt8) (c : UInt8) (h : (asks p [] pre).1 = true) (hc : p pre c = true) : cnt p (pre ++ [c]) = pre.length + 1 := by
  rw [cnt_all _ _ (asks_go p pre c h hc)]; simp
theorem cnt_no (p : List UInt8 → UInt8 → Bool) (pre : List UInt8) (c : UInt8) (h : (asks p [] pre).1 = true) (hc : p pre c = false) : cnt p (pre ++ [c]) = pre.length := by
  unfold cnt
  have := asks_stop p pre c [] h hc
  rw [this]; simp
theorem asks_len (p : List UInt8 → UInt8 → Bool) : ∀ (l pre : List UInt8), (asks p pre l).2.length ≤ pre.length + l.length
  | [], pre => by simp [asks]
  | c :: l, pre => by
    simp only [asks]
    split
    · have := asks_len p l (pre ++ [c]); simp at this ⊢; omega
    · simp
theorem took_le (p : List UInt8 → UInt8 → Bool) (l : List UInt8) : took p l ≤ l.length := by
  have h1 := cnt_le p (asks p [] l).2
  have h2 := asks_len p l []
  unfold took; simp at h2; omega
/-- Of a plain class: as many as are so. -/
theorem asks_plain (q : UInt8 → Bool) : ∀ (l pre : List UInt8), asks (fun _ c => q c) pre l = (l.all q, pre ++ if l.all q then l else l.takeWhile q ++ (l.drop (l.takeWhile q).length).take 1)
  | [], pre => by simp [asks]
  | c :: l, pre => by
    simp only [asks]
    by_cases hc : q c = true
    · rw [if_pos hc, asks_plain q l (pre ++ [c])]
      by_cases ha : l.all q = true
      · simp [hc, ha]
      · simp [hc, ha]
    · rw [if_neg hc]
      simp at hc
      simp [hc]
theorem takeWhile_all {q : UInt8 → Bool} : ∀ {l : List UInt8}, l.all q = true → l.takeWhile q = l
  | [], _ => rfl
  | c :: l, h => by
    simp only [List.all_cons, Bool.and_eq_true] at h
    rw [List.takeWhile_cons_of_pos h.1, takeWhile_all h.2]
theorem takeWhile_lt {q : UInt8 → Bool} : ∀ {l : List UInt8}, l.all q = false → (l.takeWhile q).length < l.length
  | [], h => by simp at h
  | c :: l, h => by
    cases hc : q c
    · rw [List.takeWhile_cons_of_neg (by simp [hc])]; simp
    · rw [List.takeWhile_cons_of_pos hc]
      have : l.all q = false := by simpa [hc] using h
      have := takeWhile_lt this
      simp; omega
theorem takeWhile_allq (q : UInt8 → Bool) : ∀ (l : List UInt8), (l.takeWhile q).all q = true
  | [] => rfl
  | c :: l => by
    cases hc : q c
    · rw [List.takeWhile_cons_of_neg (by simp [hc])]; rfl
    · rw [List.takeWhile_cons_of_pos hc, List.all_cons, hc, takeWhile_allq q l]; rfl
theorem took_plain (q : UInt8 → Bool) (l : List UInt8) : took (fun _ c => q c) l = (l.takeWhile q).length := by
  unfold took
  rw [asks_plain]
  cases ha : l.all q
  · have hlt := takeWhile_lt ha
    have hl1 : ((l.drop (l.takeWhile q).length).take 1).length = 1 := by simp; omega
    obtain ⟨d, hd⟩ := List.length_eq_one_iff.1 hl1
    have hnd : q d = false := by
      cases hq : q d
      · rfl
      · exfalso
        have h1 : l = l.takeWhile q ++ l.drop (l.takeWhile q).length := by
          conv => lhs; rw [← List.takeWhile_append_dropWhile (p := q) (l := l)]
          congr 1
          have h2 : l.drop (l.takeWhile q).length = (l.takeWhile q ++ l.dropWhile q).drop (l.takeWhile q).length := by rw [List.takeWhile_append_dropWhile]
          rw [h2, List.drop_left]
        have e1 : (l.takeWhile q ++ [d]) = l.take ((l.takeWhile q).length + 1) := by
          have h3 := List.take_add (i := (l.takeWhile q).length) (j := 1) (l := l)
          have h4 : l.take (l.takeWhile q).length = l.takeWhile q := by
            have h5 := congrArg (List.take (l.takeWhile q).length) h1
            rw [List.take_left] at h5
            exact h5
          rw [h3, h4, hd]
        have e2 : (l.take ((l.takeWhile q).length + 1)).all q = true := by rw [← e1]; simp [takeWhile_allq q l, hq]
        have e3 : l.takeWhile q = l.take ((l.takeWhile q).length + 1) ++ (l.drop ((l.takeWhile q).length + 1)).takeWhile q := by
          conv => lhs; rw [← List.take_append_drop ((l.takeWhile q).length + 1) l]
          rw [List.takeWhile_append_of_pos]
          intro a ha2
          exact List.all_eq_true.1 e2 a ha2
        have := congrArg List.length e3
        simp at this
        omega
    have hA : (asks (fun _ c => q c) [] (l.takeWhile q)).1 = true := by rw [asks_plain]; exact takeWhile_allq q l
    simp only [Bool.false_eq_true, if_false, List.nil_append]
    rw [hd]
    exact cnt_no (fun _ c => q c) _ d hA hnd
  · simp only [if_true, List.nil_append]
    rw [cnt_all _ _ (by rw [asks_plain]; exact ha), takeWhile_all ha]

/-- What the closure leaves: the count is one more if the byte is so. -/
def Counted (R : World → Prop) (y : Addr) (m : Nat) (b : Bool) (w' : World) : Prop := ∃ W, R W ∧ w' = if b then W.setCell y (.int .i64 (m + 1 : Nat)) else W
set_option maxHeartbeats 400000 in
theorem While1_any (g : Nat) (first cap : Array Value) (b : Bool) (c : Int) (x y : Addr) (m : Nat) (R : World → Prop) (w : World)
    (eg : ∀ args w, (callFunc g args).run Tryd.prog w = .ok (.enter g args) w)
    (hx : w.cell? x = some (.func (.func g) first cap))
    (hm : m ≤ 1000000)
    (hR : ∀ W, R W → W.cell? y = some (.int .i64 m) ∧ W.frozen? y = false)
    (hcall : Calls Tryd.prog g (first ++ #[.int .u8 c] ++ cap) w fun e W => e = .returned (.bool b) ∧ R W) :
    Calls Tryd.prog 59 #[.int .u8 c, .pointer (some x), .pointer (some y)] w fun e w' => e = .returned (.bool b) ∧ Counted R y m b w' := by
  have HR := Lib.hid hR
  have HC := Lib.hid hcall
  clear hR hcall
  cases b
  · go_enter Tryd.func59, Tryd.ntmps59
    go_wp2_with fail
    refine HC.out.mono ?_
    rintro e W ⟨rfl, hW⟩
    have HW := Lib.hid hW
    clear hW
    go_wp2
    go_ret
    exact ⟨rfl, W, HW.out, by simp⟩
  · go_enter Tryd.func59, Tryd.ntmps59
    go_wp2_with fail
    refine HC.out.mono ?_
    rintro e W ⟨rfl, hW⟩
    obtain ⟨hc, hf⟩ := HR.out W hW
    have HW := Lib.hid hW
    clear hW
    go_wp2
    go_ret
    exact ⟨rfl, W, HW.out, by simp⟩
end Go.Proofs.YtchhjmdbjndckaaDoor
