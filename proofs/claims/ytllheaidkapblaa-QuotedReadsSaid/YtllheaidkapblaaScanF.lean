/- The scanner's methods at whatever scanner, nil or not; one deed of the law: contracts. -/
import Derived.Test.YtllheaidkapblaaScanE
namespace Go.Proofs.Ytllheaidkapblaa
open Go.RowKit

/-- A scanner of s, at k: nil, or a block. -/
def IsScan (v : Value) (s : ByteArray) (k : Nat) (w : World) : Prop := (v = .pointer none ∧ s = ByteArray.empty ∧ k = 0) ∨ ∃ t, v = .pointer (some ⟨t, 0, none⟩) ∧ Scn t s k w
def ownScan (v : Value) (j : Nat) : Prop := v = .pointer (some ⟨j, 0, none⟩)
theorem IsScan.le {v : Value} {s : ByteArray} {k : Nat} {w : World} (h : IsScan v s k w) : k ≤ s.size := by
  rcases h with ⟨_, rfl, rfl⟩ | ⟨t, _, h⟩
  · exact Nat.zero_le _
  · exact h.le
theorem IsScan.kept {P : Nat → Prop} {v : Value} {s : ByteArray} {k : Nat} {w w' : World} (h : IsScan v s k w) (hk : Kept P w w') (hp : ∀ j, ownScan v j → ¬ P j) : IsScan v s k w' := by
  rcases h with h | ⟨t, rfl, h⟩
  · exact .inl h
  · exact .inr ⟨t, rfl, h.kept hk (hp t rfl)⟩
theorem IsScan.below {v : Value} {s : ByteArray} {k : Nat} {w w' : World} (h : IsScan v s k w) (hk : Below w.heap.size w w') : IsScan v s k w' := h.kept (P := fun _ => False) (Kept.of_below hk) (fun _ _ x => x)
theorem IsScan.own_lt {v : Value} {s : ByteArray} {k : Nat} {w : World} (h : IsScan v s k w) {j : Nat} (hj : ownScan v j) : j < w.heap.size := by
  rcases h with ⟨rfl, _⟩ | ⟨t, rfl, h⟩
  · simp [ownScan] at hj
  · simp [ownScan] at hj; subst hj; exact h.lt
theorem runLen_empty (q : Int → Bool) : runLen q ByteArray.empty 0 = 0 := by unfold runLen; simp
theorem cut_empty : ByteArray.empty.extract 0 (0 + 0) = ByteArray.empty := by decide +kernel
theorem Token_v (v : Value) (s : ByteArray) (k : Nat) (w : World) (h : IsScan v s k w) (hs : s.size ≤ 100000) :
    Calls Try.prog 29 #[v] w fun e w' => e = .returned (.tuple #[.string (s.extract k (k + runLen B.tok s k)), .bool (decide (0 < runLen B.tok s k))]) ∧ IsScan v s (k + runLen B.tok s k) w' ∧ Kept (ownScan v) w w' := by
  rcases h with ⟨rfl, rfl, rfl⟩ | ⟨t, rfl, h⟩
  · refine (Token_nil w).mono ?_
    rintro e w' ⟨rfl, hb⟩
    rw [runLen_empty]
    exact ⟨by rw [cut_empty]; rfl, .inl ⟨rfl, rfl, rfl⟩, Kept.of_below hb⟩
  · refine (Token_some t s k w h hs).mono ?_
    rintro e w' ⟨rfl, hsc, hk⟩
    exact ⟨rfl, .inr ⟨t, rfl, hsc⟩, hk.mono fun j _ hj => by subst hj; rfl⟩
theorem WhileDig_v (v : Value) (s : ByteArray) (k : Nat) (w : World) (h : IsScan v s k w) (hs : s.size ≤ 100000) :
    Calls Try.prog 40 #[v, .func (.func 52) #[] #[]] w fun e w' => e = .returned (.string (s.extract k (k + runLen B.dig s k))) ∧ IsScan v s (k + runLen B.dig s k) w' ∧ Kept (ownScan v) w w' := by
  rcases h with ⟨rfl, rfl, rfl⟩ | ⟨t, rfl, h⟩
  · refine (While_nil _ w).mono ?_
    rintro e w' ⟨rfl, hb⟩
    rw [runLen_empty]
    exact ⟨by rw [cut_empty], .inl ⟨rfl, rfl, rfl⟩, Kept.of_below hb⟩
  · refine (While_plain 52 B.dig t s k w h hs enters_IsDigit (fun n w _ _ => IsDigit_any n w)).mono ?_
    rintro e w' ⟨rfl, hsc, hk⟩
    exact ⟨rfl, .inr ⟨t, rfl, hsc⟩, hk.mono fun j _ hj => by subst hj; rfl⟩
theorem Byte_v (v : Value) (s : ByteArray) (k : Nat) (b : Int) (w : World) (h : IsScan v s k w) (hs : s.size ≤ maxLen) :
    Calls Try.prog 42 #[v, .int .u8 b] w fun e w' => e = .returned (.bool (decide (k < s.size ∧ byteAt s k = b))) ∧ IsScan v s (if k < s.size ∧ byteAt s k = b then k + 1 else k) w' ∧ Kept (ownScan v) w w' := by
  rcases h with ⟨rfl, rfl, rfl⟩ | ⟨t, rfl, h⟩
  · refine (Byte_nil b w).mono ?_
    rintro e w' ⟨rfl, n, rfl⟩
    exact ⟨rfl, .inl ⟨rfl, rfl, rfl⟩, (Kept.refl _ _).drewN n⟩
  · refine (Byte_some t s k b w h hs).mono ?_
    rintro e w' ⟨rfl, hsc, hk⟩
    exact ⟨rfl, .inr ⟨t, rfl, hsc⟩, hk.mono fun j _ hj => by subst hj; rfl⟩
theorem Text_v (v : Value) (s : ByteArray) (k : Nat) (x : ByteArray) (w : World) (h : IsScan v s k w) (hs : s.size ≤ maxLen) (hx : x.size ≤ maxLen) :
    Calls Try.prog 17 #[v, .string x] w fun e w' => e = .returned (.bool (begAt s k x)) ∧ IsScan v s (if begAt s k x then k + x.size else k) w' ∧ Kept (ownScan v) w w' := by
  rcases h with ⟨rfl, rfl, rfl⟩ | ⟨t, rfl, h⟩
  · refine (Text_nil x w hx).mono ?_
    rintro e w' ⟨rfl, n, rfl⟩
    refine ⟨rfl, .inl ⟨rfl, rfl, ?_⟩, (Kept.refl _ _).drewN n⟩
    cases hb : begAt ByteArray.empty 0 x
    · rfl
    · have := begAt_le _ _ _ (Nat.zero_le _) hb
      have e : ByteArray.empty.size = 0 := rfl
      simp only [if_true]
      omega
  · refine (Text_some t s k x w h hs hx).mono ?_
    rintro e w' ⟨rfl, hsc, hk⟩
    exact ⟨rfl, .inr ⟨t, rfl, hsc⟩, hk.mono fun j _ hj => by subst hj; rfl⟩
theorem Back_v (v : Value) (s : ByteArray) (k : Nat) (j : Int) (w : World) (h : IsScan v s k w) :
    Calls Try.prog 33 #[v, .int .i64 j] w fun e w' => e = .returned (.bool (backOk j k)) ∧ IsScan v s (if backOk j k then j.toNat else k) w' ∧ Kept (ownScan v) w w' := by
  rcases h with ⟨rfl, rfl, rfl⟩ | ⟨t, rfl, h⟩
  · refine (Back_nil j w).mono ?_
    rintro e w' ⟨rfl, rfl⟩
    refine ⟨rfl, .inl ⟨rfl, rfl, ?_⟩, Kept.refl _ _⟩
    cases hb : backOk j 0
    · rfl
    · unfold backOk at hb
      simp at hb
      simp only [if_true]
      omega
  · refine (Back_some t s k j w h).mono ?_
    rintro e w' ⟨rfl, hsc, hk⟩
    exact ⟨rfl, .inr ⟨t, rfl, hsc⟩, hk.mono fun j _ hj => by subst hj; rfl⟩
theorem Peek_v (v : Value) (s : ByteArray) (k : Nat) (w : World) (h : IsScan v s k w) :
    Calls Try.prog 50 #[v] w fun e w' => e = .returned (.tuple #[.int .u8 (byteAt s k), .bool (decide (k < s.size))]) ∧ ∃ n, w' = w.drewN n := by
  rcases h with ⟨rfl, rfl, rfl⟩ | ⟨t, rfl, h⟩
  · exact Peek_nil w
  · exact Peek_some t s k w h
theorem End_v (v : Value) (s : ByteArray) (k : Nat) (w : World) (h : IsScan v s k w) :
    Calls Try.prog 15 #[v] w fun e w' => e = .returned (.bool (decide (k = s.size))) ∧ ∃ n, w' = w.drewN n := by
  rcases h with ⟨rfl, rfl, rfl⟩ | ⟨t, rfl, h⟩
  · exact End_nil w
  · exact End_some t s k w h
theorem Rest_v (v : Value) (s : ByteArray) (k : Nat) (w : World) (h : IsScan v s k w) :
    Calls Try.prog 30 #[v] w fun e w' => e = .returned (.string (restS s k)) ∧ ∃ n, w' = w.drewN n := by
  rcases h with ⟨rfl, rfl, rfl⟩ | ⟨t, rfl, h⟩
  · exact Rest_nil w
  · exact Rest_some t s k w h
theorem At_v (v : Value) (s : ByteArray) (k : Nat) (w : World) (h : IsScan v s k w) :
    Calls Try.prog 20 #[v] w fun e w' => e = .returned (.int .i64 k) ∧ w = w' := by
  rcases h with ⟨rfl, rfl, rfl⟩ | ⟨t, rfl, h⟩
  · exact At_nil w
  · exact At_some t s k w h
end Go.Proofs.Ytllheaidkapblaa
