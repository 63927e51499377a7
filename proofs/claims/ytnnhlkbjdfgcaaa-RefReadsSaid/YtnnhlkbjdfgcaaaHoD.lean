/- Hosts, fourth part: a host's text; names under names; the library's cuts in these words. Nothing here speaks of the program. -/
import Derived.Test.YtnnhlkbjdfgcaaaHoC
import Derived.Lib.IndexMore
import Derived.Lib.LastIndexByte
namespace Go.Proofs.Ytnnhlkbjdfgcaaa
namespace Hp
def writeL (k : Int) (nm : List UInt8) (p : Int) : List UInt8 := (if k = 3 then 91 :: (nm ++ [93]) else nm) ++ (if p = -1 then [] else 58 :: (Nu.tx 10 p).data.toList)
theorem tx_list (n : Nat) : (Nu.tx 10 (n : Int)).data.toList = Nu.textL 10 n := by
  unfold Nu.tx
  rw [if_neg (by omega), Nu.text_list]; rfl
theorem write_back {l nm : List UInt8} {k p : Int} (h : prs l = some (k, nm, p)) : writeL k nm p = l := by
  obtain ⟨a, h0, h1, h2, h3⟩ := (prs_iff l _).1 h
  simp only at h1 h2 h3
  subst h1 h2
  have ha : (if (hostL a).1 = 3 then 91 :: ((hostL a).2 ++ [93]) else (hostL a).2) = a := by
    rcases host_kinds a h0 with ⟨m, rfl, -, e⟩ | ⟨-, e⟩ | ⟨-, -, e⟩ <;> rw [e] <;> simp
  unfold writeL
  rw [ha]
  rcases h3 with ⟨rfl, rfl⟩ | ⟨d, rfl, hd, rfl⟩
  · rw [if_pos rfl, List.append_nil]
  · obtain ⟨n, -, rfl, e⟩ := okD_form hd
    rw [e, if_neg (by simp), tx_list]
/-- The text of a host that is one. -/
def textH (k : Int) (nm : List UInt8) (p : Int) : Option (List UInt8) := if prs (writeL k nm p) = some (k, nm, p) then some (writeL k nm p) else none
def isN (l : List UInt8) : Bool := decide (prs l = some (1, l, -1))
theorem isN_eq (l : List UInt8) : isN l = (nameL l && !fourL l) := by
  unfold isN
  rw [Bool.eq_iff_iff]
  simp only [decide_eq_true_eq, Bool.and_eq_true, Bool.not_eq_true']
  constructor
  · intro h
    obtain ⟨a, h0, h1, h2, h3⟩ := (prs_iff l _).1 h
    simp only at h1 h2 h3
    rcases h3 with ⟨rfl, -⟩ | ⟨d, -, -, h3⟩
    · rcases host_kinds l h0 with ⟨m, -, -, e⟩ | ⟨-, e⟩ | ⟨e1, e2, -⟩
      · rw [e] at h1; cases h1
      · rw [e] at h1; cases h1
      · exact ⟨e2, e1⟩
    · have := rd_nonneg 65535 d; omega
  · rintro ⟨h1, h2⟩
    refine (prs_iff l _).2 ⟨l, ?_⟩
    have hi : inn l = none := by
      cases e : inn l with
      | none => rfl
      | some m => exact absurd rfl (name_bytes h1 91 (by rw [inn_some e]; exact List.mem_cons_self)).2.1
    have e : hostL l = (1, l) := by rw [host_rest (by rw [hi]; rfl), h2, h1]; rfl
    rw [e]
    exact ⟨by simp, rfl, rfl, .inl ⟨rfl, rfl⟩⟩
def belowN (A C : List UInt8) : Bool := decide (A = C) || (46 :: C).isSuffixOf A
def und (a b : List UInt8) : Bool := isN a && isN b && belowN (B.fold a) (B.fold b)
theorem below_iff (A C : List UInt8) : belowN A C = true ↔ (A = C ∨ ∃ t, A = t ++ 46 :: C) := by
  unfold belowN
  rw [Bool.or_eq_true, decide_eq_true_eq, List.isSuffixOf_iff_suffix]
  constructor
  · rintro (h | ⟨t, h⟩)
    · exact .inl h
    · exact .inr ⟨t, h.symm⟩
  · rintro (h | ⟨t, h⟩)
    · exact .inl h
    · exact .inr ⟨t, h.symm⟩
theorem below_trans {A C D : List UInt8} (h : belowN A C = true) (k : belowN C D = true) : belowN A D = true := by
  rw [below_iff] at *
  rcases h with rfl | ⟨t, rfl⟩
  · exact k
  · rcases k with rfl | ⟨u, rfl⟩
    · exact .inr ⟨t, rfl⟩
    · exact .inr ⟨t ++ 46 :: u, by simp⟩
theorem und_trans {a b c : List UInt8} (h : und a b = true) (k : und b c = true) : und a c = true := by
  unfold und at *
  simp only [Bool.and_eq_true] at *
  exact ⟨⟨h.1.1, k.1.2⟩, below_trans h.2 k.2⟩
theorem und_self (a : List UInt8) : und a a = isN a := by
  unfold und belowN
  simp
/-! The library's cuts. -/
theorem index_dc2 : ∀ l : List UInt8, match dc2 l with | none => Lib.index l [58, 58] = -1 | some (a, _) => Lib.index l [58, 58] = a.length
  | [] => by rw [dc2]; decide +kernel
  | c :: r => by
    have ih := index_dc2 r
    rw [dc2_cons]
    by_cases hc : c = 58 ∧ r.head? = some 58
    · rw [if_pos hc]
      obtain ⟨rfl, hr⟩ := hc
      cases r with
      | nil => cases hr
      | cons d r =>
        simp only [List.head?_cons, Option.some.injEq] at hr
        subst hr
        simp [Lib.index, List.isPrefixOf]
    · rw [if_neg hc]
      have hp : List.isPrefixOf [58, 58] (c :: r) = false := by
        cases hq : List.isPrefixOf [58, 58] (c :: r)
        · rfl
        · exfalso
          apply hc
          obtain ⟨t, ht⟩ := List.isPrefixOf_iff_prefix.1 hq
          simp only [List.cons_append, List.nil_append, List.cons.injEq] at ht
          obtain ⟨rfl, rfl⟩ := ht
          exact ⟨rfl, rfl⟩
      rw [Lib.index, hp]
      cases hd : dc2 r with
      | none =>
        rw [hd] at ih
        simp only at ih
        rw [ih]; rfl
      | some x =>
        obtain ⟨a, b⟩ := x
        rw [hd] at ih
        simp only at ih
        rw [ih]
        have : ((a.length : Int) == -1) = false := by rw [beq_eq_false_iff_ne]; omega
        simp [this]
theorem cut_dc2 (l : List UInt8) : Lib.cut l [58, 58] = match dc2 l with | none => (l, [], false) | some (a, b) => (a, b, true) := by
  have h := index_dc2 l
  unfold Lib.cut
  cases hd : dc2 l with
  | none =>
    rw [hd] at h
    simp only at h
    rw [h, if_neg (by omega)]
  | some x =>
    obtain ⟨a, b⟩ := x
    rw [hd] at h
    simp only at h
    rw [h, if_pos (by omega)]
    have e := dc2_some hd
    simp only [Int.toNat_natCast, Prod.mk.injEq, and_true]
    refine ⟨by rw [e, List.take_left], ?_⟩
    have e2 : a ++ 58 :: 58 :: b = (a ++ [58, 58]) ++ b := by simp
    rw [e, e2, List.drop_left' (by simp)]
theorem bang_list (s : ByteArray) (j : Nat) (h : j < s.size) : s.data[j]! = s.data.toList[j]'(by simpa using h) := by
  have h' : j < s.data.size := h
  rw [getElem!_pos s.data j h']
  simp
theorem last_index (s : ByteArray) : Lib.lastIndexByte s 58 + 1 = (lastC s.data.toList : Int) := by
  have hz : s.data.toList.length = s.size := by simp
  unfold Lib.lastIndexByte
  rcases last_cases s.data.toList with h | ⟨p, q, e, hq⟩
  · rw [lastC_none h]
    rcases Lib.lastIdx_spec s 58 s.size with ⟨h1, -⟩ | ⟨i, hi, -, h2, -⟩
    · rw [h1]; rfl
    · exfalso
      rw [bang_list s i hi] at h2
      have : s.data.toList[i]'(by simpa using hi) = 58 := UInt8.toNat_inj.1 (by have : ((58 : UInt8).toNat : Int) = 58 := rfl; omega)
      exact h (this ▸ List.getElem_mem _)
  · rw [e, lastC_at hq]
    have hl : p.length + 1 + q.length = s.size := by rw [← hz, e]; simp; omega
    have at0 : ∀ (i : Nat) (hi : i < s.size), s.data[i]! = (p ++ 58 :: q)[i]'(by simp; omega) := fun i hi => by
      rw [bang_list s i hi]; simp only [e]
    have hp : s.data[p.length]! = 58 := by rw [at0 _ (by omega)]; simp
    rcases Lib.lastIdx_spec s 58 s.size with ⟨-, h2⟩ | ⟨i, hi, h1, h2, h3⟩
    · exact absurd (by rw [hp]; rfl) (h2 p.length (by omega))
    · rw [h1]
      rcases Nat.lt_trichotomy i p.length with hlt | rfl | hgt
      · exact absurd (by rw [hp]; rfl) (h3 p.length hlt (by omega))
      · push_cast; rfl
      · exfalso
        rw [at0 i hi, List.getElem_append_right (by omega)] at h2
        have hne : i - p.length ≠ 0 := by omega
        obtain ⟨j, hj⟩ := Nat.exists_eq_succ_of_ne_zero hne
        simp only [hj, Nat.succ_eq_add_one, List.getElem_cons_succ] at h2
        have hjl : j < q.length := by omega
        have : q[j] = 58 := UInt8.toNat_inj.1 (by have : ((58 : UInt8).toNat : Int) = 58 := rfl; omega)
        exact hq (this ▸ List.getElem_mem _)
theorem ext_list (s : ByteArray) (a b : Nat) : (s.extract a b).data.toList = (s.data.toList.drop a).take (b - a) := by
  rw [ByteArray.data_extract, Array.toList_extract, List.extract_eq_take_drop]
theorem ext_end (s : ByteArray) (a : Nat) : (s.extract a s.size).data.toList = s.data.toList.drop a := by
  rw [ext_list, List.take_of_length_le]
  simp
theorem ext_start (s : ByteArray) (b : Nat) : (s.extract 0 b).data.toList = s.data.toList.take b := by
  rw [ext_list]; simp
theorem ofL (s : ByteArray) (l : List UInt8) (h : s.data.toList = l) : s = ⟨l.toArray⟩ := by
  subst h
  apply ByteArray.ext
  simp
theorem ofL_list (l : List UInt8) : (⟨l.toArray⟩ : ByteArray).data.toList = l := by simp
end Hp
end Go.Proofs.Ytnnhlkbjdfgcaaa
