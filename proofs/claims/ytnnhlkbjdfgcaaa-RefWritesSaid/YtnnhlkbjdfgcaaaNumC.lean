/- The document's own answer for numerals, second part: a text's plain digits, which number is the lesser one, a number's text, a text's number. -/
import Derived.Test.YtnnhlkbjdfgcaaaNumB
namespace Go.Proofs.Ytnnhlkbjdfgcaaa
open Go.RowKit

theorem ret_pair2 {a b c d : Value} (h : a = c) (k : b = d) : Ending.returned (.tuple #[a, b]) = .returned (.tuple #[c, d]) := by rw [h, k]
namespace Nu
def lessS (a c : ByteArray) : Bool := decide (a.size < c.size) || (decide (a.size = c.size) && Op.bytesLess a.toList c.toList)
theorem less_texts (b : Nat) (hb : 2 ≤ b) (hb' : b ≤ 16) (m n : Nat) : lessS (text b m) (text b n) = decide (m < n) := by
  have := less_text b hb hb' m n
  unfold lessS
  rw [ByteArray.toList_eq, ByteArray.toList_eq]
  simpa [text, ByteArray.size] using this
def canonB (b v : Nat) : ByteArray := ⟨(canon b v).toArray⟩
theorem canonB_zero (b : Nat) : canonB b 0 = ⟨#[]⟩ := rfl
theorem canonB_pos (b v : Nat) (h : v ≠ 0) : canonB b v = text b v := by unfold canonB canon; rw [if_neg h]; rfl
theorem canonB_step (b : Nat) (hb : 2 ≤ b) (v d : Nat) (hd : d < b) (h : v ≠ 0 ∨ d ≠ 0) : canonB b (v * b + d) = canonB b v ++ text b d := by
  unfold canonB text
  rw [canon_step b hb v d hd h]
  apply ByteArray.ext; simp
theorem canonB_empty (b : Nat) (hb : 2 ≤ b) (v : Nat) : (canonB b v).toList.isEmpty = decide (v = 0) := by
  rw [ByteArray.toList_eq]
  exact canon_ne b hb v
theorem text_zero (b : Nat) (hb : 2 ≤ b) : text b 0 = ⟨#[48]⟩ := by
  rw [text_small (by omega)]
  have : dc 0 = 48 := by decide +kernel
  rw [this]
/-- A text's digits without noughts ahead; false: it has none, or a byte that is none. -/
def plainS (b : Nat) (s : ByteArray) : ByteArray × Bool := if s.data.toList.all (isD b) then (text b (val b s.data.toList), !s.toList.isEmpty) else (⟨#[]⟩, false)
theorem plain_no (b : Nat) (s : ByteArray) (k : Nat) (h : k < s.size) (h1 : isD b s[k] = false) : plainS b s = (⟨#[]⟩, false) := by
  unfold plainS; rw [B.all_no _ s k h h1]; rfl
theorem plain_yes (b : Nat) (s : ByteArray) (h : s.data.toList.all (isD b) = true) : plainS b s = (text b (val b s.data.toList), !s.toList.isEmpty) := by
  unfold plainS; rw [h]; rfl
theorem val_take (b : Nat) (s : ByteArray) (k : Nat) (h : k < s.size) : val b (s.data.toList.take (k + 1)) = val b (s.data.toList.take k) * b + dv s[k] := by
  rw [B.take_snocB s k h, val_snoc]
theorem take_all (s : ByteArray) : s.data.toList.take s.size = s.data.toList := List.take_of_length_le (by simp)
theorem canon_size (b : Nat) (hb : 2 ≤ b) (l : List UInt8) : ∀ m, m = l.reverse → m.all (isD b) = true → (canon b (val b m)).length ≤ m.length := by
  induction l with
  | nil => rintro m rfl _; simp [val_nil, canon_zero]
  | cons c l ih =>
    rintro m rfl h
    rw [List.reverse_cons] at h ⊢
    rw [List.all_append, Bool.and_eq_true] at h
    have h1 := ih _ rfl h.1
    obtain ⟨-, -, hd⟩ := dv_of b c (by simpa using h.2)
    rw [val_snoc]
    by_cases hz : val b l.reverse ≠ 0 ∨ dv c ≠ 0
    · rw [canon_step b hb _ _ hd hz, textL_small hd]
      simp only [List.length_append, List.length_singleton]
      omega
    · have e1 : val b l.reverse = 0 := by omega
      have e2 : dv c = 0 := by omega
      rw [e1, e2]; simp [canon_zero]
theorem plain_size (b : Nat) (hb : 2 ≤ b) (s : ByteArray) (h : s.data.toList.all (isD b) = true) : (text b (val b s.data.toList)).size ≤ s.size + 1 := by
  have h1 := canon_size b hb s.data.toList.reverse s.data.toList (by simp) h
  have h2 : s.data.toList.length = s.size := by simp
  by_cases hv : val b s.data.toList = 0
  · rw [hv, text_zero b hb]; show 1 ≤ s.size + 1; omega
  · rw [← canonB_pos b _ hv]
    unfold canonB
    have e : (⟨(canon b (val b s.data.toList)).toArray⟩ : ByteArray).size = (canon b (val b s.data.toList)).length := by simp [ByteArray.size]
    omega
def tx (b : Nat) (n : Int) : ByteArray := if n < 0 then ⟨#[]⟩ else text b n.toNat
theorem rd_no (b : Nat) (most : Int) (s : ByteArray) (h : s.toList.isEmpty = true ∨ s.data.toList.all (isD b) = false) : rd b most s.data.toList = (0, 2) := by
  unfold rd
  rw [ByteArray.toList_eq] at h
  rw [if_pos]
  rcases h with h | h <;> rw [h] <;> simp
theorem rd_yes (b : Nat) (most : Int) (s : ByteArray) (h : s.toList.isEmpty = false) (h' : s.data.toList.all (isD b) = true) : rd b most s.data.toList = if most < (val b s.data.toList : Int) then (0, 7) else ((val b s.data.toList : Int), 0) := by
  unfold rd
  rw [ByteArray.toList_eq] at h
  rw [if_neg]
  rw [h, h']; simp
theorem text_list (b n : Nat) : (text b n).data.toList = textL b n := by unfold text; simp
theorem text_at (b : Nat) (hb : 2 ≤ b) (hb' : b ≤ 16) (n k : Nat) (h : k < (text b n).size) : isD b (text b n)[k] = true := by
  have h1 := textL_isD b hb hb' n
  rw [← text_list] at h1
  exact List.all_eq_true.1 h1 _ (by
    have : (text b n)[k] = (text b n).data.toList[k]'(by rw [Array.length_toList]; exact h) := by rfl
    rw [this]; exact List.getElem_mem _)
theorem text_take (b : Nat) (hb : 2 ≤ b) (hb' : b ≤ 16) (n k : Nat) : val b ((text b n).data.toList.take k) ≤ n := by
  have h := val_le b (by omega) ((text b n).data.toList.take k) ((text b n).data.toList.drop k)
  rw [List.take_append_drop, text_list, textL_val b hb hb'] at h
  exact h
theorem text_end (b : Nat) (hb : 2 ≤ b) (hb' : b ≤ 16) (n : Nat) : val b ((text b n).data.toList.take (text b n).size) = n := by
  rw [take_all, text_list]; exact textL_val b hb hb' n
end Nu

/-- A number that an int holds. -/
def SmallN (n : Nat) : Prop := n < 9223372036854775808
theorem wrap_step (a b d : Nat) (h : SmallN (a * b + d)) : wrap64 (wrap64 ((a : Int) * (b : Int)) + (d : Int)) = ((a * b + d : Nat) : Int) := by
  have e : (a : Int) * (b : Int) = ((a * b : Nat) : Int) := rfl
  rw [e]
  unfold SmallN at h
  generalize a * b = x at *
  unfold wrap64; omega
end Go.Proofs.Ytnnhlkbjdfgcaaa
