/- Line: its contract. -/
import Derived.Test.YtcoconooagmepaaQuilD
namespace Go.Proofs.Ytcoconooagmepaa
open Go.RowKit

/-- A line's end. -/
def crlf : ByteArray := ⟨#[13, 10]⟩
theorem flat_line (ss : List ByteArray) (t : ByteArray) : (flat (ss ++ [t])).length = (flat ss).length + t.size := by
  unfold flat
  rw [List.flatMap_append, List.length_append, List.flatMap_cons, List.flatMap_nil, List.append_nil]
  rfl

theorem QLine_nil (a : Option Addr) (len cp : Nat) (ss : List ByteArray) (w : World) (hz : IsTexts w a len ss) (hcp : a = none → cp = 0) (hl : len ≤ 100000) :
    Calls Try.prog 10 #[.pointer none, .slice a len cp] w fun e w' => e = .returned (.int .i64 5) ∧ Below w.heap.size w w' := by
  have HZ := Lib.hid hz
  clear hz
  go_enter Try.func10, Try.ntmps10
  go_wp2_with fail
  refine (Concat_two (w.heap.size + 1) w.heap.size a len cp 1 2 ss crlf _ (HZ.out.below (by repeat (first | with_reducible exact Below.refl _ _ | with_reducible assumption | (with_reducible refine Below.setCell ?_ ?_ _; rotate_left; · (simp <;> omega)) | (with_reducible refine Below.alloc ?_ ?_ _; rotate_left; · (simp <;> omega)) | with_reducible refine Below.drew ?_))) hcp (by omega) (by simp [go_sem]) (by simp [go_sem]) (by simp [go_sem, crlf])).mono ?_
  rintro e w1 ⟨a1, n1, c1, rfl, ho1, hb1⟩
  have hb2 : Below w.heap.size w w1 := by
    refine Below.trans ?_ (hb1.mono (by simp; omega))
    exact (by repeat (first | with_reducible exact Below.refl _ _ | with_reducible assumption | (with_reducible refine Below.setCell ?_ ?_ _; rotate_left; · (simp <;> omega)) | (with_reducible refine Below.alloc ?_ ?_ _; rotate_left; · (simp <;> omega)) | with_reducible refine Below.drew ?_))
  clear hb1
  go_wp2_with fail
  refine (QPut_nil _ _ _ _).mono ?_
  rintro e w2 ⟨rfl, rfl⟩
  go_wp2_with fail
  go_ret
  exact ⟨rfl, hb2⟩

theorem QLine_some (b : Nat) (v : Value) (s : ByteArray) (most : Int) (a : Option Addr) (len cp : Nat) (ss : List ByteArray) (w : World) (hq : Quil b v s most w) (hz : IsTexts w a len ss) (hcp : a = none → cp = 0) (hl : len ≤ 100000)
    (hbig : s.size + (flat ss).length ≤ 100000000000000) :
    Calls Try.prog 10 #[.pointer (some ⟨b, 0, none⟩), .slice a len cp] w fun e w' => e = .returned (.int .i64 (putE most s (ss ++ [crlf]))) ∧ Put_ b v (putS most s (ss ++ [crlf])) most w w' := by
  have HZ := Lib.hid hz
  have HQ := Lib.hid hq
  have HBG : Hid (s.size + (flat (ss ++ [crlf])).length ≤ 140737488355328) := by
    show _ ≤ _
    have hcl : crlf.size = 2 := rfl
    rw [flat_line, hcl]
    omega
  have hlt := hq.lt
  obtain ⟨tt, htt⟩ : ∃ tt, ss ++ [crlf] = tt := ⟨_, rfl⟩
  obtain ⟨E, hE⟩ : ∃ E, putE most s tt = E := ⟨_, rfl⟩
  obtain ⟨S, hS⟩ : ∃ S, putS most s tt = S := ⟨_, rfl⟩
  rw [htt, hE, hS]
  have HT := Lib.hid htt
  have HE := Lib.hid hE
  have HS := Lib.hid hS
  clear hz hq hbig htt hE hS
  go_enter Try.func10, Try.ntmps10
  go_wp2_with fail
  refine (Concat_two (w.heap.size + 1) w.heap.size a len cp 1 2 ss crlf _ (HZ.out.below (by repeat (first | with_reducible exact Below.refl _ _ | with_reducible assumption | (with_reducible refine Below.setCell ?_ ?_ _; rotate_left; · (simp <;> omega)) | (with_reducible refine Below.alloc ?_ ?_ _; rotate_left; · (simp <;> omega)) | with_reducible refine Below.drew ?_))) hcp (by omega) (by simp [go_sem]) (by simp [go_sem]) (by simp [go_sem, crlf])).mono ?_
  rintro e w1 ⟨a1, n1, c1, rfl, ho1, hb1⟩
  have hb2 : Below w.heap.size w w1 := by
    refine Below.trans ?_ (hb1.mono (by simp; omega))
    exact (by repeat (first | with_reducible exact Below.refl _ _ | with_reducible assumption | (with_reducible refine Below.setCell ?_ ?_ _; rotate_left; · (simp <;> omega)) | (with_reducible refine Below.alloc ?_ ?_ _; rotate_left; · (simp <;> omega)) | with_reducible refine Below.drew ?_))
  have hnew : ∀ x, a1 = some x → w.heap.size ≤ x.block := by
    intro x hx
    have := (ho1.lt x.block (by rw [hx]; rfl)).1
    simp at this
    omega
  obtain rfl : n1 = len + 1 := by
    have := ho1.1
    have h2 := HZ.out.1
    simp at this
    omega
  have hs1 := own_strs ho1 (by omega)
  have HQ1 := Lib.hid (HQ.out.below hb2)
  have HB := Lib.hid hb2
  have hP := Lib.hid (QPut_some b v s most a1 (len + 1) c1 (ss ++ [crlf]) w1 HQ1.out hs1 (fun x hx ho => by have := HQ.out.lt_own ho; have := hnew x hx; omega) HBG.out)
  clear hb1 ho1 hb2 hnew hs1
  rw [HT.out, HE.out, HS.out] at hP
  go_wp2_with fail
  refine hP.out.mono ?_
  rintro e w2 ⟨rfl, v2, hq2, hk2, hn2⟩
  go_wp2_with fail
  go_ret
  exact ⟨rfl, v2, hq2, (Kept.of_below HB.out).trans hk2, hn2.later HB.out.size⟩
end Go.Proofs.Ytcoconooagmepaa
