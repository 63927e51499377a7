/- Contracts and lemmas that the claim rests on: PrA. -/
import Derived.Test.YtjgjdcikeagibaaGQtH
import Derived.Test.YtjgjdcikeagibaaGQuil
/- Rows of params as plain functions on texts: what a row's text means, and a row's text. Nothing here speaks of the program. -/
namespace Go.Proofs.Ytjgjdcikeagibaa
/-- A name and its value. -/
abbrev Pair := ByteArray × ByteArray
namespace Pm
/-- The param that stands at k: its name and value, and how many bytes it takes. -/
def pr (s : ByteArray) (k : Nat) : Option (Pair × Nat) :=
  if 0 < runLen B.tok s k ∧ (k + runLen B.tok s k < s.size ∧ byteAt s (k + runLen B.tok s k) = 61) ∧ wok s (k + runLen B.tok s k + 1) = true
  then some ((s.extract k (k + runLen B.tok s k), wtxt s (k + runLen B.tok s k + 1)), runLen B.tok s k + 1 + wlen s (k + runLen B.tok s k + 1)) else none
/-- The semicolon that stands at k, with the blanks about it: how many bytes. -/
def bt (s : ByteArray) (k : Nat) : Option Nat :=
  if k + runLen B.bla s k < s.size ∧ byteAt s (k + runLen B.bla s k) = 59 then some (runLen B.bla s k + 1 + runLen B.bla s (k + runLen B.bla s k + 1)) else none
def psF (s : ByteArray) : Nat → Nat → Option (List Pair)
  | 0, _ => none
  | f + 1, k => match pr s k with
    | none => none
    | some (p, n) => if k + n < s.size then (match bt s (k + n) with | none => none | some m => (psF s f (k + n + m)).map (p :: ·)) else some [p]
/-- The row that stands at k, up to the end. -/
def ps (s : ByteArray) (k : Nat) : Option (List Pair) := psF s (s.size + 1 - k) k
theorem run_out (q : Int → Bool) (s : ByteArray) (k : Nat) (h : s.size ≤ k) : runLen q s k = 0 := by
  unfold runLen
  rw [List.drop_eq_nil_of_le (by simpa using h)]
  rfl
theorem pr_pos {s : ByteArray} {k : Nat} {p : Pair} {n : Nat} (h : pr s k = some (p, n)) : k < s.size ∧ 2 ≤ n := by
  unfold pr at h
  split at h
  · rename_i h1
    simp only [Option.some.injEq, Prod.mk.injEq] at h
    refine ⟨?_, by omega⟩
    have := h1.1
    by_cases hk : s.size ≤ k
    · rw [run_out _ s k hk] at this; omega
    · omega
  · cases h
theorem bt_pos {s : ByteArray} {k m : Nat} (h : bt s k = some m) : 1 ≤ m ∧ k < s.size := by
  unfold bt at h
  split at h
  · simp only [Option.some.injEq] at h
    omega
  · cases h
theorem psF_eq (s : ByteArray) : ∀ (f g k : Nat), s.size + 1 - k ≤ f → s.size + 1 - k ≤ g → psF s f k = psF s g k
  | 0, 0, _, _, _ => rfl
  | 0, g + 1, k, h, _ => by
    unfold psF
    cases hp : pr s k with
    | none => rfl
    | some x => have := (pr_pos (p := x.1) (n := x.2) hp).1; omega
  | f + 1, 0, k, _, h => by
    unfold psF
    cases hp : pr s k with
    | none => rfl
    | some x => have := (pr_pos (p := x.1) (n := x.2) hp).1; omega
  | f + 1, g + 1, k, hf, hg => by
    unfold psF
    cases hp : pr s k with
    | none => rfl
    | some x =>
      obtain ⟨p, n⟩ := x
      have h1 := pr_pos hp
      show (if k + n < s.size then _ else _) = (if k + n < s.size then _ else _)
      split
      · cases hb : bt s (k + n) with
        | none => rfl
        | some m =>
          have h2 := bt_pos hb
          show Option.map _ _ = Option.map _ _
          rw [psF_eq s f g (k + n + m) (by omega) (by omega)]
      · rfl
theorem ps_bad {s : ByteArray} {k : Nat} (h : pr s k = none) : ps s k = none := by
  unfold ps
  cases e : s.size + 1 - k with
  | zero => rfl
  | succ f => unfold psF; rw [h]
theorem ps_step {s : ByteArray} {k : Nat} {p : Pair} {n : Nat} (h : pr s k = some (p, n)) : ps s k = if k + n < s.size then (match bt s (k + n) with | none => none | some m => (ps s (k + n + m)).map (p :: ·)) else some [p] := by
  have h1 := pr_pos h
  unfold ps
  obtain ⟨f, hf⟩ : ∃ f, s.size + 1 - k = f + 1 := ⟨s.size - k, by omega⟩
  rw [hf]
  conv => lhs; unfold psF
  rw [h]
  show (if k + n < s.size then _ else _) = _
  split
  · cases hb : bt s (k + n) with
    | none => rfl
    | some m =>
      have h2 := bt_pos hb
      show Option.map _ _ = Option.map _ _
      rw [psF_eq s f (s.size + 1 - (k + n + m)) (k + n + m) (by omega) (by omega)]
  · rfl
theorem ps_last {s : ByteArray} {k : Nat} {p : Pair} {n : Nat} (h : pr s k = some (p, n)) (hn : ¬ k + n < s.size) : ps s k = some [p] := by rw [ps_step h, if_neg hn]
theorem ps_odd {s : ByteArray} {k : Nat} {p : Pair} {n : Nat} (h : pr s k = some (p, n)) (hn : k + n < s.size) (hb : bt s (k + n) = none) : ps s k = none := by rw [ps_step h, if_pos hn, hb]
theorem ps_more {s : ByteArray} {k : Nat} {p : Pair} {n m : Nat} (h : pr s k = some (p, n)) (hn : k + n < s.size) (hb : bt s (k + n) = some m) : ps s k = (ps s (k + n + m)).map (p :: ·) := by rw [ps_step h, if_pos hn, hb]

/-- A value that has a text. -/
def okV (v : ByteArray) : Bool := tokS v || Qd.vals v.data.toList
def okP (p : Pair) : Bool := tokS p.1 && okV p.2
def okR (l : List Pair) : Bool := !l.isEmpty && l.all okP
def semi : ByteArray := ⟨#[59]⟩
def eqs : ByteArray := ⟨#[61]⟩
/-- A param's text, and a row's. -/
def one (p : Pair) : ByteArray := (p.1 ++ eqs) ++ eT p.2
def textR (l : List Pair) : ByteArray := joinB semi (l.map one)
theorem eE_ok (v : ByteArray) : eE v = if okV v then 0 else 2 := by
  unfold eE okV Qd.qE
  cases tokS v <;> cases Qd.vals v.data.toList <;> rfl

theorem run_of (q : Int → Bool) (s : ByteArray) (k : Nat) (t : ByteArray) (r : List UInt8) (hd : s.data.toList.drop k = t.data.toList ++ r) (ht : t.data.toList.all (fun c => q (c.toNat : Int)) = true) (hr : ∀ c r', r = c :: r' → q (c.toNat : Int) = false) : runLen q s k = t.size := by
  unfold runLen
  rw [hd, List.takeWhile_append_of_pos (fun a ha => List.all_eq_true.1 ht a ha)]
  cases r with
  | nil => simp
  | cons c r' =>
    rw [List.takeWhile_cons_of_neg (by rw [hr c r' rfl]; simp)]
    simp
theorem drop_len {s : ByteArray} {k : Nat} {t : ByteArray} {r : List UInt8} (hd : s.data.toList.drop k = t.data.toList ++ r) : s.data.toList.drop (k + t.size) = r := by
  rw [← List.drop_drop, hd]
  exact List.drop_left' (by simp)
theorem drop_lt {s : ByteArray} {k : Nat} {c : UInt8} {r : List UInt8} (hd : s.data.toList.drop k = c :: r) : k < s.size ∧ byteAt s k = (c.toNat : Int) ∧ s.data.toList.drop (k + 1) = r := by
  have hk : k < s.size := by
    by_cases h : k < s.size
    · exact h
    · rw [Qd.drop_out s k h] at hd; cases hd
  rw [Qd.drop_at s k hk] at hd
  injection hd with h1 h2
  refine ⟨hk, ?_, h2⟩
  unfold byteAt
  rw [h1]
theorem cut_of {s : ByteArray} {k : Nat} {t : ByteArray} {r : List UInt8} (hd : s.data.toList.drop k = t.data.toList ++ r) : s.extract k (k + t.size) = t := by
  apply bytes_eq
  rw [ByteArray.data_extract, Array.toList_extract, List.extract_eq_take_drop, Nat.add_sub_cancel_left, hd]
  exact List.take_left' (by simp)
/-- What follows a value's text in a row's text. -/
def Rest (r : List UInt8) : Prop := r = [] ∨ ∃ r', r = 59 :: r'
theorem tok59 : B.tok 59 = false := by decide +kernel
theorem tok61 : B.tok 61 = false := by decide +kernel
theorem n59 : (((59 : UInt8).toNat : Nat) : Int) = 59 := by decide
theorem n61 : (((61 : UInt8).toNat : Nat) : Int) = 61 := by decide
theorem Rest.tok {r : List UInt8} (h : Rest r) : ∀ c r', r = c :: r' → B.tok (c.toNat : Int) = false := by
  rintro c r' rfl
  rcases h with h | ⟨_, h⟩
  · cases h
  · cases h
    rw [n59, tok59]
theorem word_of (s : ByteArray) (k : Nat) (v : ByteArray) (r : List UInt8) (hv : okV v = true) (hr : Rest r) (hd : s.data.toList.drop k = (eT v).data.toList ++ r) : wtxt s k = v ∧ wok s k = true ∧ wlen s k = (eT v).size := by
  cases ht : tokS v
  · have e : eT v = Qd.qT v := by unfold eT; rw [ht]; rfl
    have hvals : Qd.vals v.data.toList = true := by unfold okV at hv; rw [ht] at hv; simpa using hv
    rw [e] at hd ⊢
    have h0 : runLen B.tok s k = 0 := by
      unfold runLen
      rw [hd, Qd.qT_data v hvals]
      unfold Qd.quoteL
      rw [List.cons_append, List.takeWhile_cons_of_neg (by rw [Qd.n34, Qd.tok_mark]; simp)]
      rfl
    have h1 : Qd.fr s k = some (v.data.toList, (Qd.qT v).size) := by
      unfold Qd.fr
      rw [hd, Qd.qT_len v hvals, Qd.qT_data v hvals]
      unfold Qd.quoteL
      rw [List.cons_append, Qd.front_cons, if_pos Qd.n34, List.append_assoc, List.cons_append, List.nil_append, Qd.inner_enc _ _ hvals]
      simp
    unfold wtxt wok wlen
    rw [h0, h1]
    exact ⟨rfl, rfl, rfl⟩
  · have e : eT v = v := by unfold eT; rw [ht]; rfl
    rw [e] at hd ⊢
    have ht2 := ht
    unfold tokS at ht2
    rw [Bool.and_eq_true] at ht2
    have h0 : runLen B.tok s k = v.size := run_of B.tok s k v r hd ht2.2 hr.tok
    have hp : 0 < v.size := by simpa using ht2.1
    unfold wtxt wok wlen
    rw [h0, if_pos hp, if_pos hp, decide_eq_true hp]
    exact ⟨cut_of hd, rfl, rfl⟩
theorem one_list (p : Pair) : (one p).data.toList = p.1.data.toList ++ 61 :: (eT p.2).data.toList := by
  unfold one
  rw [list_append, list_append]
  show (p.1.data.toList ++ [61]) ++ _ = _
  simp
theorem pr_of (s : ByteArray) (k : Nat) (p : Pair) (r : List UInt8) (hp : okP p = true) (hr : Rest r) (hd : s.data.toList.drop k = (one p).data.toList ++ r) : pr s k = some (p, (one p).size) := by
  unfold okP at hp
  rw [Bool.and_eq_true] at hp
  have ht2 := hp.1
  unfold tokS at ht2
  rw [Bool.and_eq_true] at ht2
  rw [one_list, List.append_assoc, List.cons_append] at hd
  have h0 : runLen B.tok s k = p.1.size := run_of B.tok s k p.1 _ hd ht2.2 (by
    intro c r' h
    injection h with h1 h2
    rw [← h1, n61, tok61])
  have hpos : 0 < p.1.size := by simpa using ht2.1
  have hd2 := drop_len hd
  obtain ⟨hlt, hb, hd3⟩ := drop_lt hd2
  obtain ⟨w1, w2, w3⟩ := word_of s _ p.2 r hp.2 hr hd3
  unfold pr
  rw [h0, w1, w2, w3, if_pos ⟨hpos, ⟨hlt, by rw [hb, n61]⟩, rfl⟩, cut_of hd]
  unfold one
  rw [size_append, size_append]
  rfl
theorem bla_tok : ∀ c : UInt8, B.tok (c.toNat : Int) = true → B.bla (c.toNat : Int) = false := by
  have h : (List.range 256).all (fun n => !(B.tok (n : Int)) || !(B.bla (n : Int))) = true := by decide +kernel
  intro c hc
  have hn := List.all_eq_true.1 h c.toNat (by rw [List.mem_range]; exact c.toNat_lt)
  rw [hc] at hn
  simpa using hn
theorem bla59 : B.bla 59 = false := by decide +kernel
theorem tok_head (t : ByteArray) (h : tokS t = true) : ∃ c r, t.data.toList = c :: r ∧ B.bla (c.toNat : Int) = false := by
  unfold tokS at h
  rw [Bool.and_eq_true] at h
  have hp : 0 < t.size := by simpa using h.1
  cases hl : t.data.toList with
  | nil =>
    have : t.data.toList.length = t.size := by simp
    rw [hl] at this
    simp at this
    omega
  | cons c r =>
    refine ⟨c, r, rfl, bla_tok c ?_⟩
    have := h.2
    rw [hl, List.all_cons, Bool.and_eq_true] at this
    exact this.1
theorem bt_of (s : ByteArray) (k : Nat) (c : UInt8) (r : List UInt8) (hc : B.bla (c.toNat : Int) = false) (hd : s.data.toList.drop k = 59 :: c :: r) : bt s k = some 1 := by
  obtain ⟨hlt, hb, hd2⟩ := drop_lt hd
  have h0 : runLen B.bla s k = 0 := by
    unfold runLen
    rw [hd, List.takeWhile_cons_of_neg (by rw [n59, bla59]; simp)]
    rfl
  have h1 : runLen B.bla s (k + 1) = 0 := by
    unfold runLen
    rw [hd2, List.takeWhile_cons_of_neg (by rw [hc]; simp)]
    rfl
  unfold bt
  rw [h0, Nat.add_zero, h1, if_pos ⟨hlt, by rw [hb, n59]⟩]
/-- A row's text, as a list. -/
def textL : List Pair → List UInt8
  | [] => []
  | p :: [] => (one p).data.toList
  | p :: q :: r => (one p).data.toList ++ 59 :: textL (q :: r)
theorem textL_two (p q : Pair) (r : List Pair) : textL (p :: q :: r) = (one p).data.toList ++ 59 :: textL (q :: r) := by
  conv => lhs; unfold textL
theorem textL_join : ∀ l : List Pair, (textR l).data.toList = textL l
  | [] => rfl
  | [p] => by
    unfold textR textL
    rw [joinB_list, List.map_cons, List.map_cons, List.map_nil, List.map_nil, Lib.join_one]
  | p :: q :: r => by
    have ih := textL_join (q :: r)
    unfold textR at ih ⊢
    unfold textL
    rw [← ih, joinB_list, joinB_list]
    simp only [List.map_cons]
    show List.intercalate _ _ = _ ++ 59 :: List.intercalate _ _
    rw [List.intercalate_cons_cons]
    show _ ++ [59] ++ _ = _
    simp
theorem textL_head (p : Pair) (r : List Pair) (h : okP p = true) : ∃ c t, textL (p :: r) = c :: t ∧ B.bla (c.toNat : Int) = false := by
  unfold okP at h
  rw [Bool.and_eq_true] at h
  obtain ⟨c, t, h1, h2⟩ := tok_head p.1 h.1
  cases r with
  | nil =>
    refine ⟨c, t ++ 61 :: (eT p.2).data.toList, ?_, h2⟩
    unfold textL
    rw [one_list, h1]; rfl
  | cons q r =>
    refine ⟨c, t ++ 61 :: (eT p.2).data.toList ++ 59 :: textL (q :: r), ?_, h2⟩
    rw [textL_two, one_list, h1]
    simp
theorem ps_of (s : ByteArray) : ∀ (l : List Pair) (k : Nat), l ≠ [] → l.all okP = true → s.data.toList.drop k = textL l → ps s k = some l
  | [], _, h, _, _ => absurd rfl h
  | [p], k, _, ha, hd => by
    rw [List.all_cons, Bool.and_eq_true] at ha
    unfold textL at hd
    have hp := pr_of s k p [] ha.1 (.inl rfl) (by rw [hd, List.append_nil])
    have h2 : s.data.toList.drop (k + (one p).size) = [] := drop_len (r := []) (by rw [hd, List.append_nil])
    refine ps_last hp ?_
    intro hlt
    rw [Qd.drop_at s _ hlt] at h2
    cases h2
  | p :: q :: r, k, _, ha, hd => by
    rw [List.all_cons, Bool.and_eq_true] at ha
    unfold textL at hd
    have hq : okP q = true := by
      have := ha.2
      rw [List.all_cons, Bool.and_eq_true] at this
      exact this.1
    obtain ⟨c, t, hc, hb⟩ := textL_head q r hq
    have hp := pr_of s k p _ ha.1 (.inr ⟨_, rfl⟩) hd
    have hd2 := drop_len hd
    have hd3 := hd2
    rw [hc] at hd3
    have hbt := bt_of s _ c t hb hd3
    obtain ⟨hlt, -, hd4⟩ := drop_lt hd2
    rw [ps_more hp hlt hbt, ps_of s (q :: r) _ (by simp) ha.2 hd4]
    rfl
theorem ps_text (l : List Pair) (h : okR l = true) : ps (textR l) 0 = some l := by
  unfold okR at h
  rw [Bool.and_eq_true] at h
  refine ps_of _ l 0 ?_ h.2 (by rw [List.drop_zero, textL_join])
  rintro rfl
  simp at h

theorem vals_tok : ∀ c : UInt8, B.tok (c.toNat : Int) = true → B.val (c.toNat : Int) = true := by
  have h : (List.range 256).all (fun n => !(B.tok (n : Int)) || (B.val (n : Int))) = true := by decide +kernel
  intro c hc
  have hn := List.all_eq_true.1 h c.toNat (by rw [List.mem_range]; exact c.toNat_lt)
  rw [hc] at hn
  simpa using hn
theorem inner_vals : ∀ (l : List UInt8) (m : List UInt8) (n : Nat), Qd.inner l = some (m, n) → Qd.vals m = true
  | [], m, n, h => by cases h
  | [c], m, n, h => by
    unfold Qd.inner at h
    split at h
    · cases h; rfl
    · cases h
  | c :: d :: r, m, n, h => by
    unfold Qd.inner at h
    split at h
    · cases h; rfl
    · split at h
      · split at h
        · rename_i hv
          rw [Qd.map_cons] at h
          obtain ⟨m', n', h1, rfl, rfl⟩ := Qd.map_le h
          have := inner_vals r m' n' h1
          unfold Qd.vals at this ⊢
          rw [List.all_append, this, Bool.and_true]
          simpa using hv
        · cases h
      · split at h
        · rename_i hv
          rw [Qd.map_cons] at h
          obtain ⟨m', n', h1, rfl, rfl⟩ := Qd.map_le h
          have := inner_vals (d :: r) m' n' h1
          unfold Qd.vals at this ⊢
          rw [List.all_append, this, Bool.and_true]
          simpa using hv
        · cases h
theorem front_vals (l m : List UInt8) (n : Nat) (h : Qd.front l = some (m, n)) : Qd.vals m = true := by
  cases l with
  | nil => cases h
  | cons c r =>
    rw [Qd.front_cons] at h
    split at h
    · rw [Qd.map_one] at h
      obtain ⟨m', n', h1, h2, rfl⟩ := Qd.map_le h
      rw [h2, List.nil_append]
      exact inner_vals r m' n' h1
    · cases h
theorem word_ok (s : ByteArray) (k : Nat) (hk : k ≤ s.size) (h : wok s k = true) : okV (wtxt s k) = true ∧ (wtxt s k).size ≤ wlen s k ∧ k + wlen s k ≤ s.size ∧ 0 < wlen s k := by
  by_cases hr : 0 < runLen B.tok s k
  · have hle := runLen_le B.tok s k hk
    have hz := cut_size s k _ hle
    unfold wtxt wlen okV
    rw [if_pos hr, if_pos hr]
    have ht : tokS (s.extract k (k + runLen B.tok s k)) = true := by
      unfold tokS
      rw [hz, decide_eq_true hr, cut_all]; rfl
    rw [ht, hz]
    exact ⟨rfl, Nat.le_refl _, hle, hr⟩
  · unfold wok at h
    rw [decide_eq_false hr, Bool.false_or] at h
    cases hf : Qd.fr s k with
    | none => rw [hf] at h; cases h
    | some x =>
      have h1 := front_vals _ x.1 x.2 hf
      have h2 := Qd.front_le _ x.1 x.2 hf
      unfold wtxt wlen okV
      rw [if_neg hr, if_neg hr, hf]
      refine ⟨?_, ?_, ?_, ?_⟩
      · show (_ || Qd.vals x.1) = true
        rw [h1, Bool.or_true]
      · show x.1.toArray.size ≤ x.2
        simpa using h2.2.2
      · have := h2.2.1
        simp at this
        show k + x.2 ≤ s.size
        omega
      · show 0 < x.2
        omega
theorem pr_ok {s : ByteArray} {k : Nat} {p : Pair} {n : Nat} (h : pr s k = some (p, n)) : okP p = true ∧ p.1.size + p.2.size + 1 ≤ n ∧ k + n ≤ s.size := by
  unfold pr at h
  split at h
  · rename_i hc
    obtain ⟨h1, ⟨h2, h3⟩, h4⟩ := hc
    simp only [Option.some.injEq, Prod.mk.injEq] at h
    obtain ⟨rfl, rfl⟩ := h
    have hz := cut_size s k (runLen B.tok s k) (by omega)
    obtain ⟨w1, w2, w3, w4⟩ := word_ok s _ (by omega) h4
    refine ⟨?_, ?_, by omega⟩
    · unfold okP
      have ht : tokS (s.extract k (k + runLen B.tok s k)) = true := by
        unfold tokS
        rw [hz, decide_eq_true h1, cut_all]; rfl
      rw [ht, w1]; rfl
    · show (s.extract k (k + runLen B.tok s k)).size + (wtxt s _).size + 1 ≤ _
      rw [hz]
      omega
  · cases h
theorem psF_ok (s : ByteArray) : ∀ (f k : Nat) (l : List Pair), psF s f k = some l → okR l = true ∧ (l.map fun p => p.1.size + p.2.size + 1).sum + k ≤ s.size
  | 0, _, _, h => by cases h
  | f + 1, k, l, h => by
    unfold psF at h
    cases hp : pr s k with
    | none => rw [hp] at h; cases h
    | some x =>
      obtain ⟨p, n⟩ := x
      obtain ⟨h1, h2, h3⟩ := pr_ok hp
      rw [hp] at h
      simp only at h
      split at h
      · cases hb : bt s (k + n) with
        | none => rw [hb] at h; cases h
        | some m =>
          rw [hb] at h
          simp only at h
          cases hr : psF s f (k + n + m) with
          | none => rw [hr] at h; cases h
          | some r =>
            rw [hr] at h
            simp only [Option.map_some, Option.some.injEq] at h
            subst h
            obtain ⟨i1, i2⟩ := psF_ok s f _ r hr
            have h5 := (bt_pos hb).1
            refine ⟨?_, ?_⟩
            · unfold okR at i1 ⊢
              rw [Bool.and_eq_true] at i1
              rw [List.all_cons, h1, i1.2]; rfl
            · rw [List.map_cons, List.sum_cons]
              omega
      · simp only [Option.some.injEq] at h
        subst h
        refine ⟨?_, ?_⟩
        · unfold okR
          rw [List.all_cons, h1]; rfl
        · rw [List.map_cons, List.sum_cons, List.map_nil, List.sum_nil]
          omega
theorem ps_ok {s : ByteArray} {k : Nat} {l : List Pair} (h : ps s k = some l) : okR l = true ∧ (l.map fun p => p.1.size + p.2.size + 1).sum + k ≤ s.size := psF_ok s _ k l h
/-- A row whose texts are together not longer than z. -/
def Sum (z : Nat) (l : List Pair) : Prop := (l.map fun p => p.1.size + p.2.size + 1).sum ≤ z
theorem Sum.len {z : Nat} {l : List Pair} (h : Sum z l) : l.length ≤ z := by
  induction l generalizing z with
  | nil => exact Nat.zero_le _
  | cons p r ih =>
    unfold Sum at h ih
    rw [List.map_cons, List.sum_cons] at h
    have := ih (z := z - 1) (by omega)
    rw [List.length_cons]
    omega
theorem Sum.mem {z : Nat} {l : List Pair} (h : Sum z l) : ∀ p ∈ l, p.1.size ≤ z ∧ p.2.size ≤ z := by
  induction l generalizing z with
  | nil => intro p hp; cases hp
  | cons q r ih =>
    unfold Sum at h ih
    rw [List.map_cons, List.sum_cons] at h
    intro p hp
    rcases List.mem_cons.1 hp with rfl | hp
    · omega
    · exact ih (by omega) p hp
theorem one_size (p : Pair) : (one p).size ≤ p.1.size + 2 * p.2.size + 3 := by
  unfold one
  rw [size_append, size_append]
  have := Qd.eT_size p.2
  have e : eqs.size = 1 := rfl
  omega
theorem Sum.flat {z : Nat} {l : List Pair} (h : Sum z l) : (flat (l.map one)).length ≤ 3 * z := by
  induction l generalizing z with
  | nil => exact Nat.zero_le _
  | cons q r ih =>
    unfold Sum at h ih
    rw [List.map_cons, List.sum_cons] at h
    have h1 := ih (z := z - (q.1.size + q.2.size + 1)) (by omega)
    have h2 := one_size q
    rw [List.map_cons]
    unfold Go.Proofs.Ytjgjdcikeagibaa.flat at h1 ⊢
    rw [List.flatMap_cons, List.length_append]
    have e : (one q).data.toList.length = (one q).size := by simp
    rw [e]
    omega
theorem Sum.text {z : Nat} {l : List Pair} (h : Sum z l) : (textR l).size ≤ 4 * z := by
  have h1 := h.flat
  have h2 := h.len
  have h3 := joinB_le semi (l.map one)
  rw [List.length_map] at h3
  have e : semi.size = 1 := rfl
  rw [e] at h3
  unfold textR
  omega
end Pm
end Go.Proofs.Ytjgjdcikeagibaa
