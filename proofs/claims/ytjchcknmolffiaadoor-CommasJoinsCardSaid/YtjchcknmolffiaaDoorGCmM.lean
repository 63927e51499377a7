/- Contracts and lemmas that the claim rests on: CmM. -/
import Derived.Test.YtjchcknmolffiaaDoorGCmL
/- What is joined is split again; what is put behind a list is split behind it. Nothing here speaks of the program's functions. -/
namespace Go.Proofs.YtjchcknmolffiaaDoor
open Go.RowKit
namespace Cm

theorem es_form {s : ByteArray} {A : List ByteArray} (h : es s 0 = some A) : ∃ a, S s.data.toList a ∧ A = a.map Qd.accB := by
  unfold es at h
  rw [List.drop_zero] at h
  cases hs : spl s.data.toList with
  | none => rw [hs] at h; cases h
  | some a =>
    rw [hs] at h
    simp only [Option.map_some, Option.some.injEq] at h
    exact ⟨a, spl_S _ _ a (Nat.le_refl _) hs, h.symm⟩
theorem es_of {s : ByteArray} {a : List (List UInt8)} (h : S s.data.toList a) : es s 0 = some (a.map Qd.accB) := by
  unfold es
  rw [List.drop_zero, S_spl h]
  rfl
theorem acc_list (a : List (List UInt8)) : (a.map Qd.accB).map (·.data.toList) = a := by
  rw [List.map_map]
  conv => rhs; rw [← List.map_id a]
  rfl
theorem join_list (a : List (List UInt8)) : (joinB cmB (a.map Qd.accB)).data.toList = Lib.join a [44, 32] := by
  rw [joinB_list, acc_list]
  rfl
theorem es_join {s : ByteArray} {A : List ByteArray} (h : es s 0 = some A) : es (joinB cmB A) 0 = some A := by
  obtain ⟨a, hS, rfl⟩ := es_form h
  exact es_of (by rw [join_list]; exact S_join a (S_good hS))
theorem all_sb (s : ByteArray) (h : bare s = true) : s.data.toList.all sb = true := by
  cases hb : s.data.toList.all sb
  · rw [bare_no s hb] at h
    cases h
  · rfl
theorem sb_bl (c : UInt8) : sb c = (bl c || decide ((c.toNat : Int) = 44)) := by rw [sb_is, bl_bla]
theorem es_app {s t : ByteArray} {A B' : List ByteArray} (hs : es s 0 = some A) (ht : es t 0 = some B') : es (app s B') 0 = some (A ++ B') := by
  obtain ⟨a, hS, rfl⟩ := es_form hs
  obtain ⟨b, hT, rfl⟩ := es_form ht
  have hj := S_join b (S_good hT)
  unfold app
  by_cases h0 : (b.map Qd.accB).length = 0
  · rw [if_pos h0, List.eq_nil_of_length_eq_zero h0, List.append_nil]
    exact es_of hS
  · rw [if_neg h0]
    cases hb : bare s
    · rw [if_neg (by simp), join_two, ← List.map_append]
      refine es_of ?_
      rw [list_append, list_append, join_list]
      have e : (trimRB [32, 9] s).data.toList ++ cmB.data.toList ++ Lib.join b [44, 32] = R bl s.data.toList ++ 44 :: 32 :: Lib.join b [44, 32] := by
        rw [List.append_assoc]
        rfl
      rw [e]
      exact S_append (S_trimR hS) 44 (by decide) (S_blank hj 32 (by decide))
    · rw [if_pos rfl]
      have hn : S s.data.toList [] := S_none _ (by
        have h2 := all_sb s hb
        rw [List.all_eq_true] at h2 ⊢
        intro c hc
        rw [← sb_bl]
        exact h2 c hc)
      have h3 := S_spl hS
      rw [S_spl hn] at h3
      cases h3
      exact es_of (by rw [join_list]; exact hj)
theorem join_le (s : ByteArray) (A : List ByteArray) (hs : s.size ≤ 80) (h : es s 0 = some A) : A.length ≤ 81 ∧ (flat A).length ≤ 6480 ∧ (joinB cmB A).size ≤ 6642 := by
  obtain ⟨h1, h2⟩ := es_len s A h
  have h3 := flat_bound 80 A (fun x hx => Nat.le_trans (h2 x hx) hs)
  have h4 := join_size A
  omega
theorem app_le (s t : ByteArray) (B' : List ByteArray) (hs : s.size ≤ 80) (ht : t.size ≤ 80) (h : es t 0 = some B') : (app s B').size ≤ 10000 := by
  obtain ⟨h1, h2, h3⟩ := join_le t B' ht h
  unfold app
  split
  · omega
  · split
    · omega
    · rw [join_two, size_append, size_append]
      have h4 := trimR_size s
      have e : cmB.size = 2 := rfl
      omega
end Cm
end Go.Proofs.YtjchcknmolffiaaDoor
