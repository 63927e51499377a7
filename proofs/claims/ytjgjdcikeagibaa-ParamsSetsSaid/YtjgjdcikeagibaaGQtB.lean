/- Contracts and lemmas that the claim rests on: QtB. -/
import Derived.Test.YtjgjdcikeagibaaGQtA
import Derived.Test.YtjgjdcikeagibaaGBldB
/- Package quoted: isPlain, the reader's value; the document's Quote, Front, Word, Either: contracts. -/
namespace Go.Proofs.Ytjgjdcikeagibaa
open Go.RowKit

theorem isPlain_any (n : Int) (w : World) :
    Calls Try.prog 66 #[.int .u8 n] w fun e w' => e = .returned (.bool (Qd.pl n)) ∧ w = w' := by
  go_enter Try.func66, Try.ntmps66
  go_wp2_with (go_at_call 64; refine (IsValue_any _ _).mono ?_; rintro e w' ⟨rfl, rfl⟩)
  all_goals
    go_ret
    exact ⟨ret_bool (by rw [Bool.eq_iff_iff]; simp_all [Qd.pl]), rfl⟩
theorem enters_isPlain (args : Array Value) (w : World) : (callFunc 66 args).run Try.prog w = .ok (.enter 66 args) w := by
  exact enters_of Try.func66 (by kernel_rfl) rfl args w
theorem enters_IsValue (args : Array Value) (w : World) : (callFunc 64 args).run Try.prog w = .ok (.enter 64 args) w := by
  exact enters_of Try.func64 (by kernel_rfl) rfl args w
theorem WhilePl_v (v : Value) (s : ByteArray) (k : Nat) (w : World) (h : IsScan v s k w) (hs : s.size ≤ 100000) :
    Calls Try.prog 44 #[v, .func (.func 66) #[] #[]] w fun e w' => e = .returned (.string (s.extract k (k + runLen Qd.pl s k))) ∧ IsScan v s (k + runLen Qd.pl s k) w' ∧ Kept (ownScan v) w w' := by
  rcases h with ⟨rfl, rfl, rfl⟩ | ⟨t, rfl, h⟩
  · refine (While_nil _ w).mono ?_
    rintro e w' ⟨rfl, hb⟩
    rw [runLen_empty]
    exact ⟨by rw [cut_empty], .inl ⟨rfl, rfl, rfl⟩, Kept.of_below hb⟩
  · refine (While_plain 66 Qd.pl t s k w h hs enters_isPlain (fun n w _ _ => isPlain_any n w)).mono ?_
    rintro e w' ⟨rfl, hsc, hk⟩
    exact ⟨rfl, .inr ⟨t, rfl, hsc⟩, hk.mono fun j _ hj => by subst hj; rfl⟩
end Go.Proofs.Ytjgjdcikeagibaa
