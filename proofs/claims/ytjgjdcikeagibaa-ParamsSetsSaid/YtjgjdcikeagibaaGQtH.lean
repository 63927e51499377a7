/- Contracts and lemmas that the claim rests on: QtH. -/
import Derived.Test.YtjgjdcikeagibaaGQtG
/- What the laws of quoted lean on: plain facts; awake and few. -/
namespace Go.Proofs.Ytjgjdcikeagibaa
open Go.RowKit

namespace Qd
theorem qT_data (s : ByteArray) (h : vals s.data.toList = true) : (qT s).data.toList = quoteL s.data.toList := by
  unfold qT
  rw [if_pos h]
theorem qT_len (s : ByteArray) (h : vals s.data.toList = true) : (qT s).size = (quoteL s.data.toList).length := by
  rw [← qT_data s h, Array.length_toList]; rfl
theorem quoteL_len (l : List UInt8) : 2 ≤ (quoteL l).length ∧ (quoteL l).length ≤ 2 * l.length + 2 := by
  unfold quoteL
  have := enc_len l
  simp
  omega
theorem qT_size (s : ByteArray) : (qT s).size ≤ 2 * s.size + 2 := by
  cases h : vals s.data.toList
  · unfold qT
    rw [h]
    show ByteArray.empty.size ≤ _
    have e : ByteArray.empty.size = 0 := rfl
    omega
  · rw [qT_len s h]
    have := (quoteL_len s.data.toList).2
    simpa using this
theorem fr_quote (s : ByteArray) (h : vals s.data.toList = true) : fr (qT s) 0 = some (s.data.toList, (qT s).size) := by
  unfold fr
  rw [qT_len s h, qT_data s h, List.drop_zero]
  exact front_quote _ h
theorem txt_self (s : ByteArray) (n : Nat) : txt (some (s.data.toList, n)) = s := rfl
theorem unq_quote (s : ByteArray) (h : vals s.data.toList = true) : unqT (qT s) = s ∧ unqE (qT s) = 0 := by
  have e : unq (qT s) = true := by
    unfold unq
    rw [fr_quote s h]
    simp [len]
  unfold unqT unqE
  rw [e, fr_quote s h]
  exact ⟨rfl, rfl⟩
theorem tok_mark : B.tok 34 = false := by decide +kernel
theorem run_quote (s : ByteArray) (h : vals s.data.toList = true) : runLen B.tok (qT s) 0 = 0 := by
  unfold runLen
  rw [qT_data s h, List.drop_zero]
  unfold quoteL
  rw [List.takeWhile_cons_of_neg]
  · rfl
  · rw [n34, tok_mark]; simp
theorem run_tok (s : ByteArray) (h : tokS s = true) : runLen B.tok s 0 = s.size ∧ 0 < s.size := by
  unfold tokS at h
  rw [Bool.and_eq_true] at h
  refine ⟨?_, by simpa using h.1⟩
  unfold runLen
  rw [List.drop_zero, takeWhile_all h.2]
  simp
theorem word_either (s : ByteArray) (h : vals s.data.toList = true) : wtxt (eT s) 0 = s ∧ wok (eT s) 0 = true ∧ 0 + wlen (eT s) 0 = (eT s).size := by
  cases ht : tokS s
  · have e : eT s = qT s := by unfold eT; rw [ht]; rfl
    rw [e]
    unfold wtxt wok wlen
    rw [run_quote s h, fr_quote s h]
    exact ⟨rfl, rfl, Nat.zero_add _⟩
  · have e : eT s = s := by unfold eT; rw [ht]; rfl
    obtain ⟨h1, h2⟩ := run_tok s ht
    rw [e]
    unfold wtxt wok wlen
    rw [h1, if_pos h2, if_pos h2, Nat.zero_add, decide_eq_true h2]
    exact ⟨B.extract_all s, rfl, rfl⟩
theorem eT_size (s : ByteArray) : (eT s).size ≤ 2 * s.size + 2 := by
  unfold eT
  split
  · omega
  · exact qT_size s
theorem fr_rest (s : ByteArray) (k : Nat) : fr (restS s k) 0 = fr s k := by
  unfold fr
  rw [restS_list, List.drop_zero]
theorem run_rest (q : Int → Bool) (s : ByteArray) (k : Nat) : runLen q (restS s k) 0 = runLen q s k := by
  unfold runLen
  rw [restS_list, List.drop_zero]
theorem cut_rest (s : ByteArray) (k n : Nat) : (restS s k).extract 0 (0 + n) = s.extract k (k + n) := by
  apply bytes_eq
  rw [ByteArray.data_extract, Array.toList_extract, List.extract_eq_take_drop, restS_list, ByteArray.data_extract, Array.toList_extract, List.extract_eq_take_drop]
  simp
theorem wtxt_rest (s : ByteArray) (k : Nat) : wtxt (restS s k) 0 = wtxt s k := by
  unfold wtxt
  rw [run_rest, fr_rest, cut_rest]
theorem wlen_rest (s : ByteArray) (k : Nat) : wlen (restS s k) 0 = wlen s k := by
  unfold wlen
  rw [run_rest, fr_rest]
theorem wok_len (s : ByteArray) (k : Nat) : wok s k = decide (0 < wlen s k) := by
  unfold wok wlen
  by_cases h : 0 < runLen B.tok s k
  · rw [if_pos h, decide_eq_true h]; rfl
  · rw [if_neg h, decide_eq_false h, len_pos (fr s k) s k rfl]; rfl
theorem some_len (s : ByteArray) (k : Nat) : (fr s k).isSome = decide (0 < len (fr s k)) := (len_pos _ s k rfl).symm
theorem beg_front (s : ByteArray) (k : Nat) (hk : k ≤ s.size) : begAt s 0 (s.extract 0 k) = true ∧ 0 + (s.extract 0 k).size = k := by
  have hz : (s.extract 0 k).size = k := by simp; omega
  refine ⟨?_, by omega⟩
  unfold begAt
  rw [← beg_cut, hz]
  have e : (restS s 0).extract 0 k = s.extract 0 k := by
    unfold restS
    rw [B.extract_all]
  rw [e]
  simp
theorem fr_cut (s : ByteArray) (k : Nat) (h : vals s.data.toList = true) (hk : k < (qT s).size) : unqT ((qT s).extract 0 k) = ByteArray.empty ∧ unqE ((qT s).extract 0 k) = 2 := by
  have e : fr ((qT s).extract 0 k) 0 = none := by
    unfold fr
    rw [ByteArray.data_extract, Array.toList_extract, List.extract_eq_take_drop, qT_data s h]
    simp only [List.drop_zero, Nat.sub_zero]
    exact front_cut _ _ h (by rw [← qT_len s h]; exact hk)
  have e0 : unq ((qT s).extract 0 k) = false := by
    unfold unq
    rw [e]; rfl
  unfold unqT unqE
  rw [e0]
  exact ⟨rfl, rfl⟩
end Qd
end Go.Proofs.Ytjgjdcikeagibaa
