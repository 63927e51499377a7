/- Hosts, third part: what a text is as a host, with its port; which names stand under which. Nothing here speaks of the program. -/
import Derived.Test.YtnnhlkbjdfgcaaaHoB
import Derived.Lib.IndexLaws
import Derived.Lib.Strings
namespace Go.Proofs.Ytnnhlkbjdfgcaaa
namespace Hp
theorem hx_byte (c : UInt8) (h : hx c = true) : c ≠ 91 ∧ c ≠ 93 := by
  have k : ∀ i : Fin 256, hx (UInt8.ofNat i.val) = true → (UInt8.ofNat i.val ≠ 91 ∧ UInt8.ofNat i.val ≠ 93) := by decide +kernel
  have := k ⟨c.toNat, c.toNat_lt⟩
  simp only [UInt8.ofNat_toNat] at this
  exact this h
theorem grs_bytes {l : List UInt8} {n : Nat} (h : grs l = some n) : ∀ c ∈ l, c = 58 ∨ hx c = true := by
  unfold grs at h
  split at h
  · rename_i hall
    intro c hc
    unfold As at hall
    split at hall
    · rename_i he; rw [he] at hc; cases hc
    · rcases parts_bytes 58 l c hc with e | ⟨p, hp, hcp⟩
      · exact .inl e
      · have h1 := List.all_eq_true.1 hall p hp
        unfold grp at h1
        rw [Bool.and_eq_true, List.all_eq_true] at h1
        exact .inr (h1.2 c hcp)
  · cases h
theorem sixT_bytes {t : List UInt8} (h : sixT t = true) : ∀ c ∈ t, c = 58 ∨ hx c = true := by
  unfold sixT at h
  cases hd : dc2 t with
  | none =>
    rw [hd] at h
    exact grs_bytes (by simpa using h)
  | some x =>
    obtain ⟨a, b⟩ := x
    rw [hd] at h
    simp only at h
    rw [dc2_some hd]
    cases ha : grs a with
    | none => rw [ha] at h; cases h
    | some m =>
      cases hb : grs b with
      | none => rw [ha, hb] at h; cases h
      | some n =>
        intro c hc
        simp only [List.mem_append, List.mem_cons] at hc
        rcases hc with hc | rfl | rfl | hc
        · exact grs_bytes ha c hc
        · exact .inl rfl
        · exact .inl rfl
        · exact grs_bytes hb c hc
theorem six_bytes {l : List UInt8} (h : sixC l = true) : ∀ c ∈ l, c ≠ 91 ∧ c ≠ 93 := by
  obtain ⟨p, q, rfl, hk, hq, hp⟩ := lastC_split l
  unfold sixC at h
  rw [tail4_eq hk] at h
  have hb := sixT_bytes h
  have h58 : ∀ c : UInt8, (c = 58 ∨ hx c = true) → c ≠ 91 ∧ c ≠ 93 := by
    rintro c (rfl | h)
    · decide
    · exact hx_byte c h
  intro c hc
  rcases List.mem_append.1 hc with hc | hc
  · exact h58 c (hb c (List.mem_append_left _ hc))
  · by_cases hf : fourL q = true
    · rcases four_bytes hf c hc with rfl | h
      · decide
      · exact ⟨(isD_byte c h).2.2.2.2.1, (isD_byte c h).2.2.2.2.2⟩
    · unfold rq at hb
      rw [if_neg hf] at hb
      exact h58 c (hb c (List.mem_append_right _ hc))
theorem six_nil : sixC [] = false := by decide +kernel
/-- What stands between a text's brackets. -/
def inn (l : List UInt8) : Option (List UInt8) := if l.head? = some 91 ∧ l.tail.getLast? = some 93 then some l.tail.dropLast else none
theorem inn_some {l m : List UInt8} (h : inn l = some m) : l = 91 :: (m ++ [93]) := by
  unfold inn at h
  split at h
  · rename_i hc
    cases l with
    | nil => cases hc.1
    | cons c r =>
      simp only [List.head?_cons, Option.some.injEq, List.tail_cons] at hc h
      obtain ⟨rfl, hr⟩ := hc
      rcases List.eq_nil_or_concat r with rfl | ⟨r', x, rfl⟩
      · cases hr
      · simp only [List.concat_eq_append, List.getLast?_append, List.getLast?_singleton, Option.some_or, Option.some.injEq] at hr
        subst hr
        simp at h
        rw [h, List.concat_eq_append]
  · cases h
theorem inn_of (m : List UInt8) : inn (91 :: (m ++ [93])) = some m := by unfold inn; simp
/-- What a text is as a host: of kind 0: none. -/
def hostL (l : List UInt8) : Int × List UInt8 :=
  if (inn l).any sixC then (3, (inn l).getD []) else if fourL l then (2, l) else if nameL l then (1, l) else (0, [])
theorem host_six {l m : List UInt8} (h : inn l = some m) (h6 : sixC m = true) : hostL l = (3, m) := by unfold hostL; rw [h]; simp [h6]
theorem host_rest {l : List UInt8} (h : (inn l).any sixC = false) : hostL l = if fourL l then (2, l) else if nameL l then (1, l) else (0, []) := by unfold hostL; rw [h]; rfl
theorem host_kinds (l : List UInt8) (h : (hostL l).1 ≠ 0) :
    (∃ m, l = 91 :: (m ++ [93]) ∧ sixC m = true ∧ hostL l = (3, m)) ∨ (fourL l = true ∧ hostL l = (2, l)) ∨ (fourL l = false ∧ nameL l = true ∧ hostL l = (1, l)) := by
  cases h6 : (inn l).any sixC
  · have e := host_rest h6
    cases hf : fourL l
    · cases hn : nameL l
      · rw [e, hf, hn] at h; exact absurd rfl h
      · exact .inr (.inr ⟨rfl, rfl, by rw [e, hf, hn]; rfl⟩)
    · exact .inr (.inl ⟨rfl, by rw [e, hf]; rfl⟩)
  · cases hi : inn l with
    | none => rw [hi] at h6; cases h6
    | some m =>
      rw [hi] at h6
      exact .inl ⟨m, inn_some hi, by simpa using h6, host_six hi (by simpa using h6)⟩
theorem host_shape (l : List UInt8) (h : (hostL l).1 ≠ 0) :
    (∃ m, l = 91 :: (m ++ [93]) ∧ ∀ c ∈ m, c ≠ 91 ∧ c ≠ 93) ∨ (l ≠ [] ∧ ∀ c ∈ l, c ≠ 58 ∧ c ≠ 91 ∧ c ≠ 93) := by
  have nm : nameL l = true → (l ≠ [] ∧ ∀ c ∈ l, c ≠ 58 ∧ c ≠ 91 ∧ c ≠ 93) := fun hn => ⟨(by rintro rfl; cases hn), name_bytes hn⟩
  rcases host_kinds l h with ⟨m, e, h6, -⟩ | ⟨hf, -⟩ | ⟨-, hn, -⟩
  · exact .inl ⟨m, e, six_bytes h6⟩
  · exact .inr (nm (four_name hf))
  · exact .inr (nm hn)

/-! The first place of a byte. -/
theorem idx_none : ∀ {l : List UInt8} {c : UInt8}, c ∉ l → Lib.indexByte l c = -1
  | [], _, _ => rfl
  | b :: l, c, h => by
    have hb : (b == c) = false := by rw [beq_eq_false_iff_ne]; rintro rfl; exact h List.mem_cons_self
    rw [Lib.indexByte, hb, idx_none (fun g => h (List.mem_cons_of_mem _ g))]; rfl
theorem idx_at {c : UInt8} (b : List UInt8) : ∀ {a : List UInt8}, c ∉ a → Lib.indexByte (a ++ c :: b) c = a.length
  | [], _ => by rw [List.nil_append, Lib.indexByte]; simp
  | d :: a, h => by
    have hb : (d == c) = false := by rw [beq_eq_false_iff_ne]; rintro rfl; exact h List.mem_cons_self
    rw [List.cons_append, Lib.indexByte, hb, idx_at b (fun g => h (List.mem_cons_of_mem _ g))]
    have : ((a.length : Int) == -1) = false := by rw [beq_eq_false_iff_ne]; omega
    rw [this]; simp
theorem first_cases (c : UInt8) : ∀ l : List UInt8, c ∉ l ∨ ∃ a b, l = a ++ c :: b ∧ c ∉ a
  | [] => .inl (by simp)
  | d :: r => by
    by_cases hd : d = c
    · exact .inr ⟨[], r, by rw [hd]; rfl, by simp⟩
    · rcases first_cases c r with h | ⟨a, b, rfl, h⟩
      · exact .inl (by intro g; rcases List.mem_cons.1 g with e | g; exact hd e.symm; exact h g)
      · exact .inr ⟨d :: a, b, rfl, by intro g; rcases List.mem_cons.1 g with e | g; exact hd e.symm; exact h g⟩
/-- The place behind the first closing bracket; the place at which a text's host ends. -/
def fromL (l : List UInt8) : Nat := (Lib.indexByte l 93 + 1).toNat
def hEnd (l : List UInt8) : Nat := if 0 ≤ Lib.indexByte (l.drop (fromL l)) 58 then fromL l + (Lib.indexByte (l.drop (fromL l)) 58).toNat else l.length
theorem fromL_le (l : List UInt8) : fromL l ≤ l.length := by
  unfold fromL
  rcases first_cases 93 l with h | ⟨a, b, rfl, h⟩
  · rw [idx_none h]; exact Nat.zero_le _
  · rw [idx_at b h]; simp
theorem fromL_eq (l : List UInt8) : Lib.indexByte l 93 + 1 = (fromL l : Int) := by
  unfold fromL
  have := Lib.indexByte_ge l 93
  omega
theorem hEnd_spec (l : List UInt8) : hEnd l ≤ l.length ∧ (l.drop (hEnd l) = [] ∨ ∃ d, l.drop (hEnd l) = 58 :: d) := by
  have hf := fromL_le l
  unfold hEnd
  rcases first_cases 58 (l.drop (fromL l)) with h | ⟨a, b, he, h⟩
  · rw [idx_none h, if_neg (by omega)]
    exact ⟨Nat.le_refl _, .inl (by simp)⟩
  · have hl := congrArg List.length he
    rw [List.length_drop, List.length_append, List.length_cons] at hl
    rw [he, idx_at b h, if_pos (by omega)]
    refine ⟨by omega, .inr ⟨b, ?_⟩⟩
    rw [← List.drop_drop, he]
    simp
/-- A host, with a port: parted as the code does. -/
def prs (l : List UInt8) : Option (Int × List UInt8 × Int) :=
  if (hostL (l.take (hEnd l))).1 = 0 then none else
  if l.drop (hEnd l) = [] then some ((hostL (l.take (hEnd l))).1, (hostL (l.take (hEnd l))).2, -1) else
  if okD 65535 (l.drop (hEnd l)).tail then some ((hostL (l.take (hEnd l))).1, (hostL (l.take (hEnd l))).2, (Nu.rd 10 65535 (l.drop (hEnd l)).tail).1) else none
/-- The same, parted as the document does. -/
def prsR (l : List UInt8) : Option (Int × List UInt8 × Int) :=
  if (hostL l).1 ≠ 0 then some ((hostL l).1, (hostL l).2, -1) else
  if 58 ∉ l then none else
  if (hostL (l.take (lastC l - 1))).1 = 0 ∨ smallV 65535 (l.drop (lastC l)) < 0 then none else
  some ((hostL (l.take (lastC l - 1))).1, (hostL (l.take (lastC l - 1))).2, smallV 65535 (l.drop (lastC l)))
def Is (l : List UInt8) (x : Int × List UInt8 × Int) : Prop :=
  ∃ a, (hostL a).1 ≠ 0 ∧ x.1 = (hostL a).1 ∧ x.2.1 = (hostL a).2 ∧ ((l = a ∧ x.2.2 = -1) ∨ ∃ d, l = a ++ 58 :: d ∧ okD 65535 d = true ∧ x.2.2 = (Nu.rd 10 65535 d).1)
theorem okD_free {most : Int} {d : List UInt8} (h : okD most d = true) : d ≠ [] ∧ 58 ∉ d ∧ 93 ∉ d ∧ 91 ∉ d := by
  obtain ⟨h0, h1⟩ := okD_isD h
  refine ⟨h0, fun g => ?_, fun g => ?_, fun g => ?_⟩
  · exact (isD_byte _ (h1 _ g)).2.2.2.1 rfl
  · exact (isD_byte _ (h1 _ g)).2.2.2.2.2 rfl
  · exact (isD_byte _ (h1 _ g)).2.2.2.2.1 rfl
theorem hEnd_of {a b : List UInt8} (h : (hostL a).1 ≠ 0) (hb : b = [] ∨ ∃ d, b = 58 :: d ∧ 93 ∉ d) : hEnd (a ++ b) = a.length := by
  have h93 : 93 ∉ b := by
    rcases hb with rfl | ⟨d, rfl, hd⟩
    · simp
    · intro g; rcases List.mem_cons.1 g with e | g
      · cases e
      · exact hd g
  have hend : ∀ k, k ≤ a.length → 58 ∉ a.drop k → fromL (a ++ b) = k → hEnd (a ++ b) = a.length := by
    intro k hk h58 hf
    unfold hEnd
    rw [hf, List.drop_append_of_le_length hk]
    rcases hb with rfl | ⟨d, rfl, -⟩
    · rw [List.append_nil, idx_none h58, if_neg (by omega)]; simp
    · rw [idx_at d h58, if_pos (by omega)]
      simp only [List.length_drop]
      omega
  rcases host_shape a h with ⟨m, rfl, hm⟩ | ⟨-, hm⟩
  · refine hend _ (Nat.le_refl _) (by simp) ?_
    unfold fromL
    have e : 91 :: (m ++ [93]) ++ b = (91 :: m) ++ 93 :: b := by simp
    rw [e, idx_at b (by intro g; rcases List.mem_cons.1 g with e | g; cases e; exact (hm _ g).2 rfl)]
    simp only [List.length_cons, List.length_append, List.length_nil]
    omega
  · refine hend 0 (Nat.zero_le _) (by intro g; exact (hm _ (by simpa using g)).1 rfl) ?_
    unfold fromL
    rw [idx_none (by intro g; rcases List.mem_append.1 g with g | g; exact (hm _ g).2.2 rfl; exact h93 g)]; rfl
theorem prs_iff (l : List UInt8) (x : Int × List UInt8 × Int) : prs l = some x ↔ Is l x := by
  obtain ⟨k, nm, p⟩ := x
  constructor
  · intro h
    obtain ⟨-, hs⟩ := hEnd_spec l
    unfold prs at h
    split at h
    · cases h
    · rename_i h0
      refine ⟨l.take (hEnd l), h0, ?_⟩
      split at h
      · rename_i h1
        injection h with h
        simp only [Prod.mk.injEq] at h
        obtain ⟨rfl, rfl, rfl⟩ := h
        refine ⟨rfl, rfl, .inl ⟨?_, rfl⟩⟩
        conv => lhs; rw [← List.take_append_drop (hEnd l) l, h1, List.append_nil]
      · rename_i h1
        split at h
        · rename_i h2
          injection h with h
          simp only [Prod.mk.injEq] at h
          obtain ⟨rfl, rfl, rfl⟩ := h
          obtain ⟨d, hd⟩ := hs.resolve_left h1
          refine ⟨rfl, rfl, .inr ⟨d, ?_, by rw [hd] at h2; exact h2, by rw [hd]; rfl⟩⟩
          rw [← hd, List.take_append_drop]
        · cases h
  · rintro ⟨a, h0, h1, h2, ⟨rfl, h3⟩ | ⟨d, rfl, hd, h3⟩⟩
    · have he := hEnd_of h0 (.inl rfl)
      rw [List.append_nil] at he
      simp only at h1 h2 h3
      subst h1 h2 h3
      unfold prs
      rw [he, List.take_length, if_neg h0, if_pos (by simp)]
    · obtain ⟨-, hd1, hd2, -⟩ := okD_free hd
      have he := hEnd_of h0 (b := 58 :: d) (.inr ⟨d, rfl, hd2⟩)
      simp only at h1 h2 h3
      subst h1 h2 h3
      unfold prs
      rw [he, List.take_left, List.drop_left, if_neg h0, if_neg (by simp), List.tail_cons, if_pos hd]
theorem prsR_iff (l : List UInt8) (x : Int × List UInt8 × Int) : prsR l = some x ↔ Is l x := by
  obtain ⟨k, nm, p⟩ := x
  constructor
  · intro h
    unfold prsR at h
    split at h
    · rename_i h0
      injection h with h
      simp only [Prod.mk.injEq] at h
      obtain ⟨rfl, rfl, rfl⟩ := h
      exact ⟨l, h0, rfl, rfl, .inl ⟨rfl, rfl⟩⟩
    · split at h
      · cases h
      · rename_i h58
        split at h
        · cases h
        · rename_i hc
          rw [not_or] at hc
          injection h with h
          simp only [Prod.mk.injEq] at h
          obtain ⟨rfl, rfl, rfl⟩ := h
          rcases last_cases l with h | ⟨p, q, rfl, hq⟩
          · exact absurd h h58
          · rw [lastC_at hq] at hc ⊢
            have e1 : (p ++ 58 :: q).take (p.length + 1 - 1) = p := by simp
            have e2 : (p ++ 58 :: q).drop (p.length + 1) = q := by
              have : p ++ 58 :: q = (p ++ [58]) ++ q := by simp
              rw [this, List.drop_left' (by simp)]
            rw [e1, e2] at hc ⊢
            have hok := (smallV_sign 65535 q).1 (by omega)
            exact ⟨p, hc.1, rfl, rfl, .inr ⟨q, rfl, hok, smallV_yes hok⟩⟩
  · rintro ⟨a, h0, h1, h2, ⟨rfl, h3⟩ | ⟨d, rfl, hd, h3⟩⟩
    · simp only at h1 h2 h3
      subst h1 h2 h3
      unfold prsR
      rw [if_pos h0]
    · obtain ⟨hd0, hd1, hd2, hd3⟩ := okD_free hd
      simp only at h1 h2 h3
      subst h1 h2 h3
      have hz : ¬ (hostL (a ++ 58 :: d)).1 ≠ 0 := by
        intro h
        rcases host_shape _ h with ⟨m, e, -⟩ | ⟨-, e⟩
        · obtain ⟨d', y, rfl⟩ := (List.eq_nil_or_concat d).resolve_left hd0
          have e2 : (a ++ 58 :: d') ++ [y] = (91 :: m) ++ [93] := by simpa using e
          have e3 := List.append_inj_right' e2 rfl
          simp only [List.cons.injEq, and_true] at e3
          subst e3
          exact hd2 (by simp)
        · exact (e 58 (by simp)).1 rfl
      unfold prsR
      rw [if_neg hz, if_neg (by simp), lastC_at hd1]
      have e1 : (a ++ 58 :: d).take (a.length + 1 - 1) = a := by simp
      have e2 : (a ++ 58 :: d).drop (a.length + 1) = d := by
        have : a ++ 58 :: d = (a ++ [58]) ++ d := by simp
        rw [this, List.drop_left' (by simp)]
      rw [e1, e2, smallV_yes hd, if_neg]
      have := rd_nonneg 65535 d
      rintro (h | h)
      · exact h0 h
      · omega
theorem prs_eq (l : List UInt8) : prsR l = prs l := by
  ext x
  rw [prsR_iff, prs_iff]
end Hp
end Go.Proofs.Ytnnhlkbjdfgcaaa
