/- Contracts and lemmas that the claim rests on: QtE. -/
import Derived.Test.YtjgjdcikeagibaaGQtD
/- Read, Word and Unquote: contracts. -/
namespace Go.Proofs.Ytjgjdcikeagibaa
open Go.RowKit

theorem Back_on (v : Value) (s : ByteArray) (k j : Nat) (w : World) (h : IsScan v s j w) (hkj : k ≤ j) :
    Calls Try.prog 62 #[v, .int .i64 k] w fun e w' => e = .returned (.bool true) ∧ IsScan v s k w' ∧ Kept (ownScan v) w w' := by
  have hb : backOk (k : Int) j = true := by unfold backOk; simp; omega
  refine (Back_v v s j k w h).mono ?_
  rintro e w' ⟨rfl, h1, h2⟩
  rw [hb] at h1 ⊢
  exact ⟨rfl, h1, h2⟩
theorem IsScan.form {v : Value} {s : ByteArray} {k : Nat} {w : World} (h : IsScan v s k w) : ∃ p, v = .pointer p := by
  rcases h with ⟨rfl, _⟩ | ⟨t, rfl, _⟩
  · exact ⟨_, rfl⟩
  · exact ⟨_, rfl⟩
theorem Read_v (v : Value) (s : ByteArray) (k : Nat) (w : World) (h : IsScan v s k w) (hs : s.size ≤ 100000) :
    Calls Try.prog 47 #[v] w fun e w' => e = .returned (.tuple #[.string (Qd.txt (Qd.fr s k)), .bool (Qd.fr s k).isSome]) ∧ IsScan v s (k + Qd.len (Qd.fr s k)) w' ∧ Kept (ownScan v) w w' := by
  obtain ⟨p, rfl⟩ := h.form
  have hown : ∀ i, ownScan (.pointer p) i → i < w.heap.size := fun i hi => h.own_lt hi
  have hA : ∀ o, IsScan (.pointer p) s k (w.alloc o) := fun o => h.below ((Below.refl _ _).alloc (Nat.le_refl _) _)
  have HA := Lib.hid hA
  have HO := Lib.hid hown
  clear h hA hown
  cases hf : Qd.fr s k with
  | none =>
    have HF := Lib.hid hf
    go_enter Try.func47, Try.ntmps47
    go_wp2_with fail
    refine (At_v (.pointer p) s k _ (HA.out _)).mono ?_
    rintro e w1 ⟨rfl, rfl⟩
    go_wp2_with fail
    refine (quoted_v (.pointer p) s k _ (HA.out _) hs).mono ?_
    rintro e w2 ⟨m, j, hkj, rfl, hs2, hk2, -⟩
    rw [HF.out]
    have box2 : w2.cell? ⟨w.heap.size, 0, none⟩ = some (.pointer p) := hk2.at_cell (by simp) (fun e => by have := HO.out _ e; omega) (by simp [go_sem])
    have HS2 := Lib.hid hs2
    have HK2 : Hid (Kept (ownScan (.pointer p)) w w2) := Kept.trans (by repeat (first | with_reducible exact Kept.refl _ _ | with_reducible assumption | (with_reducible refine Kept.setCellL ?_ ?_ _; rotate_left; · (simp <;> omega)) | with_reducible refine Kept.alloc ?_ _ | with_reducible refine Kept.drew ?_ | with_reducible refine Kept.drewN ?_ _)) hk2
    clear hs2 hk2 hf
    go_wp2_with fail
    refine (Back_on (.pointer p) s k j _ HS2.out hkj).mono ?_
    rintro e w3 ⟨rfl, hs3, hk3⟩
    have HK3 := Lib.hid (HK2.out.trans hk3)
    clear hk3 HS2 HK2
    go_wp2_with fail
    go_ret2
    exact ⟨rfl, hs3, HK3.out⟩
  | some x =>
    have HF := Lib.hid hf
    go_enter Try.func47, Try.ntmps47
    go_wp2_with fail
    refine (At_v (.pointer p) s k _ (HA.out _)).mono ?_
    rintro e w1 ⟨rfl, rfl⟩
    go_wp2_with fail
    refine (quoted_v (.pointer p) s k _ (HA.out _) hs).mono ?_
    rintro e w2 ⟨m, j, hkj, rfl, hs2, hk2, hm⟩
    rw [HF.out] at hm ⊢
    obtain ⟨rfl, rfl⟩ := hm rfl
    have HK2 : Hid (Kept (ownScan (.pointer p)) w w2) := Kept.trans (by repeat (first | with_reducible exact Kept.refl _ _ | with_reducible assumption | (with_reducible refine Kept.setCellL ?_ ?_ _; rotate_left; · (simp <;> omega)) | with_reducible refine Kept.alloc ?_ _ | with_reducible refine Kept.drew ?_ | with_reducible refine Kept.drewN ?_ _)) hk2
    have HS2 := Lib.hid hs2
    clear hk2 hf hs2
    go_wp2_with fail
    go_ret2
    exact ⟨rfl, HS2.out, HK2.out⟩
/-- Word. -/
def wtxt (s : ByteArray) (k : Nat) : ByteArray := if 0 < runLen B.tok s k then s.extract k (k + runLen B.tok s k) else Qd.txt (Qd.fr s k)
def wok (s : ByteArray) (k : Nat) : Bool := decide (0 < runLen B.tok s k) || (Qd.fr s k).isSome
def wlen (s : ByteArray) (k : Nat) : Nat := if 0 < runLen B.tok s k then runLen B.tok s k else Qd.len (Qd.fr s k)
theorem Word_v (v : Value) (s : ByteArray) (k : Nat) (w : World) (h : IsScan v s k w) (hs : s.size ≤ 100000) :
    Calls Try.prog 32 #[v] w fun e w' => e = .returned (.tuple #[.string (wtxt s k), .bool (wok s k)]) ∧ IsScan v s (k + wlen s k) w' ∧ Kept (ownScan v) w w' := by
  have HH := Lib.hid h
  clear h
  by_cases hp : 0 < runLen B.tok s k
  · have e1 : Hid (wtxt s k = s.extract k (k + runLen B.tok s k)) := by show _ = _; unfold wtxt; rw [if_pos hp]
    have e2 : Hid (wok s k = true) := by show _ = _; unfold wok; rw [decide_eq_true hp]; rfl
    have e3 : Hid (wlen s k = runLen B.tok s k) := by show _ = _; unfold wlen; rw [if_pos hp]
    have hd : Hid (decide (0 < runLen B.tok s k) = true) := decide_eq_true hp
    clear hp
    rw [e1.out, e2.out, e3.out]
    go_enter Try.func32, Try.ntmps32
    go_wp2_with fail
    refine (Token_v v s k _ HH.out hs).mono ?_
    rintro e w1 ⟨rfl, hs1, hk1⟩
    rw [hd.out]
    have HS1 := Lib.hid hs1
    clear hs1
    go_wp2_with fail
    go_ret2
    exact ⟨rfl, HS1.out, hk1⟩
  · have e1 : Hid (wtxt s k = Qd.txt (Qd.fr s k)) := by show _ = _; unfold wtxt; rw [if_neg hp]
    have e2 : Hid (wok s k = (Qd.fr s k).isSome) := by show _ = _; unfold wok; rw [decide_eq_false hp]; rfl
    have e3 : Hid (wlen s k = Qd.len (Qd.fr s k)) := by show _ = _; unfold wlen; rw [if_neg hp]
    have hd : Hid (decide (0 < runLen B.tok s k) = false) := decide_eq_false hp
    have hz : runLen B.tok s k = 0 := by omega
    have HZ := Lib.hid hz
    clear hp hz
    rw [e1.out, e2.out, e3.out]
    go_enter Try.func32, Try.ntmps32
    go_wp2_with fail
    refine (Token_v v s k _ HH.out hs).mono ?_
    rintro e w1 ⟨rfl, hs1, hk1⟩
    rw [hd.out]
    rw [HZ.out, Nat.add_zero] at hs1
    have HS1 := Lib.hid hs1
    have HK1 := Lib.hid hk1
    clear hs1 hk1
    go_wp2_with fail
    refine (Read_v v s k _ HS1.out hs).mono ?_
    rintro e w2 ⟨rfl, hs2, hk2⟩
    have HS2 := Lib.hid hs2
    have HK2 := Lib.hid (HK1.out.trans hk2)
    clear hs2 hk2
    go_wp2_with fail
    go_ret2
    exact ⟨rfl, HS2.out, HK2.out⟩
/-- Unquote. -/
def unq (s : ByteArray) : Bool := (Qd.fr s 0).isSome && decide (Qd.len (Qd.fr s 0) = s.size)
def unqT (s : ByteArray) : ByteArray := if unq s then Qd.txt (Qd.fr s 0) else ByteArray.empty
def unqE (s : ByteArray) : Int := if unq s then 0 else 2
end Go.Proofs.Ytjgjdcikeagibaa
