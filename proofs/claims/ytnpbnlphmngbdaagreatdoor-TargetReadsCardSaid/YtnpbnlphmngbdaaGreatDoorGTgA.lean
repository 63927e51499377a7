/- Contracts and lemmas that the claim rests on: TgA. -/
import Derived.Test.YtnpbnlphmngbdaaGreatDoorGPqA
import Derived.Lib.IndexAny
/- Targets of requests as plain functions on lists of bytes: what a text is by a method, as the code parts it and as the document does; what is written of a target, and what is sent on. Nothing here speaks of the program. -/
namespace Go.Proofs.YtnpbnlphmngbdaaGreatDoor
namespace Tg
/-- A target. -/
structure T where
  kind : Int
  scheme : List UInt8
  host : Int × List UInt8 × Int
  path : List UInt8
  query : List UInt8
  has : Bool
def T.zero : T := ⟨0, [], (0, [], 0), [], [], false⟩
def T.o1 : T := ⟨1, [], (0, [], 0), [], [], false⟩
def T.a2 (s : List UInt8) (h : Int × List UInt8 × Int) : T := ⟨2, s, h, [], [], false⟩
def T.a3 (h : Int × List UInt8 × Int) : T := ⟨3, [], h, [], [], false⟩
def T.a4 : T := ⟨4, [], (0, [], 0), [], [], false⟩
/-- The same with another path and query. -/
def T.put (t : T) (p q : List UInt8) (b : Bool) : T := ⟨t.kind, t.scheme, t.host, p, q, b⟩
instance : DecidableEq T := fun a b => decidable_of_iff (a.kind = b.kind ∧ a.scheme = b.scheme ∧ a.host = b.host ∧ a.path = b.path ∧ a.query = b.query ∧ a.has = b.has) (by
  cases a; cases b; simp)
def http : List UInt8 := [104, 116, 116, 112]
def https : List UInt8 := [104, 116, 116, 112, 115]
def sep : List UInt8 := [58, 47, 47]
def connect : List UInt8 := [67, 79, 78, 78, 69, 67, 84]
def options : List UInt8 := [79, 80, 84, 73, 79, 78, 83]
/-- What a parsed host is, of a text that is none: nothing. -/
def hostOf (o : Option (Int × List UInt8 × Int)) : Int × List UInt8 × Int := o.getD (0, [], 0)
/-! As the code parts a text. -/
def wp (t : T) (l : List UInt8) : T × Bool := (t.put (Pq.cutL l).1 (Pq.cutL l).2.1 (Pq.cutL l).2.2.1, decide ((Pq.cutL l).2.2.2 = 0))
def wr (t : T) (l : List UInt8) : T × Bool := if Lib.hasPrefix l [47] then wp t l else ((wp t (47 :: l)).1.put [] (wp t (47 :: l)).1.query (wp t (47 :: l)).1.has, (wp t (47 :: l)).2)
def au (l : List UInt8) : T × Bool := (T.a3 (hostOf (Hp.prs l)), (Hp.prs l).isSome && decide ((hostOf (Hp.prs l)).2.2 ≠ -1))
/-- The place at which the host ends that a text begins with. -/
def hostN : List UInt8 → Nat
  | [] => 0
  | c :: r => if c = 47 ∨ c = 63 then 0 else hostN r + 1
def ab (l : List UInt8) : T × Bool :=
  if B.fold (Lib.cut l sep).1 = http ∨ B.fold (Lib.cut l sep).1 = https then
    match Hp.prs ((Lib.cut l sep).2.1.take (hostN (Lib.cut l sep).2.1)) with
    | none => (T.zero, false)
    | some h => wr (T.a2 (B.fold (Lib.cut l sep).1) h) ((Lib.cut l sep).2.1.drop (hostN (Lib.cut l sep).2.1))
  else (T.zero, false)
def rd (m l : List UInt8) : T × Bool :=
  if m = connect then au l else
  if m = options ∧ l = [42] then (T.a4, true) else
  if Lib.hasPrefix l [47] then wp T.o1 l else ab l
def get (x : T × Bool) : Option T := if x.2 then some x.1 else none
def tg (m l : List UInt8) : Option T := get (rd m l)

/-! As the document parts it. -/
def orig (t : T) (l : List UInt8) : Option T := if Pq.pathL (l.take (Pq.markN l)) && Pq.queryL (l.drop (Pq.markN l + 1)) then some (t.put (l.take (Pq.markN l)) (l.drop (Pq.markN l + 1)) (decide (Pq.markN l < l.length))) else none
/-- Behind a host; behind a scheme. -/
def rest (t : T) : List UInt8 → Option T
  | [] => some (t.put [] [] false)
  | c :: q => if c = 63 then (if Pq.queryL q then some (t.put [] q true) else none) else orig t (c :: q)
def beh (sch r : List UInt8) : Option T :=
  match Hp.prs (r.take (hostN r)) with
  | none => none
  | some h => rest (T.a2 sch h) (r.drop (hostN r))
def tgR (m l : List UInt8) : Option T :=
  if m = connect then (match Hp.prs l with | none => none | some h => if h.2.2 < 0 then none else some (T.a3 h)) else
  if l = [42] ∧ m = options then some T.a4 else
  match orig T.o1 l with
  | some t => some t
  | none =>
    if B.fold (l.take 7) = http ++ sep then beh http (l.drop 7) else
    if B.fold (l.take 8) = https ++ sep then beh https (l.drop 8) else none

/-! They are the same. -/
theorem wp_get (t : T) (l : List UInt8) : get (wp t l) = orig t l := by
  unfold get wp orig Pq.cutL
  split <;> simp
theorem orig_path {t u : T} {l : List UInt8} (h : orig t l = some u) : Lib.hasPrefix l [47] = true := by
  unfold orig at h
  split at h
  · rename_i g
    rw [Bool.and_eq_true] at g
    obtain ⟨r, e, -⟩ := Pq.path_form g.1
    cases l with
    | nil => simp at e
    | cons c r' =>
      have : c = 47 := by
        have := congrArg List.head? e
        cases hm : Pq.markN (c :: r') with
        | zero => rw [hm] at e; cases e
        | succ n => rw [hm] at this; simpa using this
      subst this
      rw [Pq.pre_cons]; rfl
  · cases h
theorem prs_port {l : List UInt8} {h : Int × List UInt8 × Int} (e : Hp.prs l = some h) : h.2.2 < 0 ↔ h.2.2 = -1 := by
  obtain ⟨k, nm, p⟩ := h
  obtain ⟨a, -, -, -, h3⟩ := (Hp.prs_iff l _).1 e
  rcases h3 with ⟨-, h3⟩ | ⟨d, -, -, h3⟩
  · simp only at h3 ⊢; omega
  · have := Hp.rd_nonneg 65535 d
    simp only at h3 ⊢
    omega
theorem au_get (l : List UInt8) : get (au l) = match Hp.prs l with | none => none | some h => if h.2.2 < 0 then none else some (T.a3 h) := by
  unfold get au
  cases e : Hp.prs l with
  | none => rfl
  | some h =>
    have hp := prs_port e
    by_cases g : h.2.2 = -1
    · show (if (true && decide (h.2.2 ≠ -1)) = true then some (T.a3 h) else none) = _
      rw [decide_eq_false (by simpa using g), if_neg (by simp)]
      show _ = if h.2.2 < 0 then none else some (T.a3 h)
      rw [if_pos (hp.2 g)]
    · show (if (true && decide (h.2.2 ≠ -1)) = true then some (T.a3 h) else none) = _
      rw [decide_eq_true g, if_pos (by rfl)]
      show _ = if h.2.2 < 0 then none else some (T.a3 h)
      rw [if_neg (fun x => g (hp.1 x))]
theorem prs_nil : Hp.prs [] = none := by
  cases e : Hp.prs [] with
  | none => rfl
  | some h =>
    obtain ⟨a, h0, -, -, h3⟩ := (Hp.prs_iff [] _).1 e
    rcases h3 with ⟨h3, -⟩ | ⟨d, h3, -, -⟩
    · subst h3
      rcases Hp.host_shape [] h0 with ⟨m, e, -⟩ | ⟨e, -⟩
      · cases e
      · exact absurd rfl e
    · cases a <;> cases h3
theorem hostN_le : ∀ l : List UInt8, hostN l ≤ l.length
  | [] => Nat.le_refl _
  | c :: r => by
    have := hostN_le r
    unfold hostN
    split
    · exact Nat.zero_le _
    · simp only [List.length_cons]; omega
theorem hostN_drop : ∀ l : List UInt8, l.drop (hostN l) = [] ∨ (∃ q, l.drop (hostN l) = 47 :: q) ∨ ∃ q, l.drop (hostN l) = 63 :: q
  | [] => .inl rfl
  | c :: r => by
    have ih := hostN_drop r
    unfold hostN
    split
    · rename_i h
      rcases h with rfl | rfl
      · exact .inr (.inl ⟨r, rfl⟩)
      · exact .inr (.inr ⟨r, rfl⟩)
    · simpa using ih
theorem hostN_any : ∀ l : List UInt8, Lib.indexAny l [47, 63] = if hostN l < l.length then (hostN l : Int) else -1
  | [] => rfl
  | c :: r => by
    have ih := hostN_any r
    have hl := hostN_le r
    unfold Lib.indexAny hostN
    by_cases hc : c = 47 ∨ c = 63
    · rw [if_pos (by rcases hc with rfl | rfl <;> decide), if_pos hc, if_pos (by simp)]; rfl
    · rw [if_neg (by rw [not_or] at hc; simp [hc.1, hc.2]), if_neg hc, ih]
      by_cases hr : hostN r < r.length
      · have : ((hostN r : Int) == -1) = false := by rw [beq_eq_false_iff_ne]; omega
        rw [if_pos hr, this, if_neg (by simp), if_pos (by simpa using hr)]; rfl
      · rw [if_neg hr, if_pos (by decide), if_neg (by simpa using hr)]
/-- What stands behind a scheme: the code's way is the document's. -/
theorem mark_slash (l : List UInt8) : Pq.markN (47 :: l) = Pq.markN l + 1 := by rw [Pq.markN, if_neg (by decide)]
theorem path_one : Pq.pathL [47] = true := Pq.path_of (Pq.pcL_nil _)
theorem wr_get (t : T) (l : List UInt8) (h : l = [] ∨ (∃ q, l = 47 :: q) ∨ ∃ q, l = 63 :: q) : get (wr t l) = rest t l := by
  rcases h with rfl | ⟨q, rfl⟩ | ⟨q, rfl⟩
  · have e : Pq.cutL [47] = ([47], [], false, 0) := by decide +kernel
    unfold wr wp
    rw [Pq.pre_nil, if_neg (by simp), e]; rfl
  · unfold wr
    rw [Pq.pre_cons, if_pos (by decide), wp_get, rest, if_neg (by decide)]
  · have hm : Pq.markN (47 :: 63 :: q) = 1 := by rw [mark_slash, Pq.markN, if_pos rfl]
    have e : Pq.cutL (47 :: 63 :: q) = if Pq.queryL q then ([47], q, true, 0) else ([], [], false, 2) := by
      unfold Pq.cutL
      rw [hm]
      show (if Pq.pathL [47] && Pq.queryL q then ([47], q, decide (1 < (47 :: 63 :: q).length), 0) else _) = _
      rw [path_one, Bool.true_and, decide_eq_true (by simp)]
    unfold wr wp
    rw [Pq.pre_cons, if_neg (by decide), e, rest, if_pos rfl]
    cases hq : Pq.queryL q <;> rfl
theorem low_colon : ∀ c : UInt8, (B.lowU c = 58 ↔ c = 58) ∧ (B.lowU c = 47 ↔ c = 47) := by
  have k : ∀ i : Fin 256, (B.lowU (UInt8.ofNat i.val) = 58 ↔ UInt8.ofNat i.val = 58) ∧ (B.lowU (UInt8.ofNat i.val) = 47 ↔ UInt8.ofNat i.val = 47) := by decide +kernel
  intro c
  have := k ⟨c.toNat, c.toNat_lt⟩
  simpa only [UInt8.ofNat_toNat] using this
theorem fold_sep {a : List UInt8} (h : B.fold a = sep) : a = sep := by
  have hl := congrArg List.length h
  rw [B.fold_length] at hl
  match a, h, hl with
  | [x, y, z], h, _ =>
    simp only [B.fold, List.map_cons, List.map_nil, sep, List.cons.injEq, and_true] at h
    rw [(low_colon x).1.1 h.1, (low_colon y).2.1 h.2.1, (low_colon z).2.1 h.2.2]; rfl
  | [], _, hl => simp [sep] at hl
  | [_], _, hl => simp [sep] at hl
  | [_, _], _, hl => simp [sep] at hl
  | _ :: _ :: _ :: _ :: _, _, hl => simp [sep] at hl
theorem fold_append (a b : List UInt8) : B.fold (a ++ b) = B.fold a ++ B.fold b := by unfold B.fold; rw [List.map_append]
theorem fold_mem {a : List UInt8} {c : UInt8} (h : c ∈ a) : B.lowU c ∈ B.fold a := List.mem_map.2 ⟨c, h, rfl⟩
/-- A text's first sign, behind what has no colon. -/
theorem index_sep (b : List UInt8) : ∀ {a : List UInt8}, 58 ∉ a → Lib.index (a ++ (sep ++ b)) sep = a.length
  | [], _ => by
    show Lib.index (58 :: 47 :: 47 :: b) [58, 47, 47] = 0
    simp [Lib.index, List.isPrefixOf]
  | d :: a, h => by
    have hd : d ≠ 58 := fun e => h (e ▸ List.mem_cons_self)
    have ih := index_sep b (a := a) fun g => h (List.mem_cons_of_mem _ g)
    have hp : List.isPrefixOf sep (d :: (a ++ (sep ++ b))) = false := by
      show ((58 : UInt8) == d && _) = false
      rw [show ((58 : UInt8) == d) = false by rw [beq_eq_false_iff_ne]; exact fun e => hd e.symm]; rfl
    rw [List.cons_append, Lib.index, hp, ih]
    have : ((a.length : Int) == -1) = false := by rw [beq_eq_false_iff_ne]; omega
    simp [this]
theorem cut_sep {a : List UInt8} (b : List UInt8) (h : 58 ∉ a) : Lib.cut (a ++ (sep ++ b)) sep = (a, b, true) := by
  unfold Lib.cut
  rw [index_sep b h, if_pos (by omega)]
  have e2 : a ++ (sep ++ b) = (a ++ sep) ++ b := by simp
  simp only [Int.toNat_natCast, Prod.mk.injEq, and_true]
  refine ⟨List.take_left, ?_⟩
  rw [e2, List.drop_left' (by simp)]
theorem index_none : ∀ {l : List UInt8}, (∀ a b, l ≠ a ++ (sep ++ b)) → Lib.index l sep = -1
  | [], _ => by decide +kernel
  | c :: r, h => by
    have ih := index_none (l := r) fun a b e => h (c :: a) b (by rw [e]; rfl)
    have hp : List.isPrefixOf sep (c :: r) = false := by
      cases hq : List.isPrefixOf sep (c :: r)
      · rfl
      · obtain ⟨t, ht⟩ := List.isPrefixOf_iff_prefix.1 hq
        exact absurd ht.symm (h [] t)
    rw [Lib.index, hp, ih]; rfl
theorem has_http : 58 ∉ http ∧ 58 ∉ https := by decide
theorem free_of {a s : List UInt8} (h : B.fold a = s) (hs : 58 ∉ s) : 58 ∉ a := by
  intro g
  apply hs
  rw [← h]
  have := fold_mem g
  rwa [(low_colon 58).1.2 rfl] at this
theorem take_split {l s : List UInt8} {n : Nat} (hn : n = s.length + 3) (h : B.fold (l.take n) = s ++ sep) : ∃ a, B.fold a = s ∧ l = a ++ (sep ++ l.drop n) := by
  have hl : (l.take n).length = n := by
    have := congrArg List.length h
    rw [B.fold_length, List.length_append] at this
    rw [this, hn]; rfl
  have e : l.take n = (l.take n).take s.length ++ (l.take n).drop s.length := (List.take_append_drop _ _).symm
  rw [e, fold_append] at h
  have hz : (B.fold ((l.take n).take s.length)).length = s.length := by rw [B.fold_length, List.length_take]; omega
  obtain ⟨h1, h2⟩ := List.append_inj h hz
  refine ⟨(l.take n).take s.length, h1, ?_⟩
  rw [← List.append_assoc, ← fold_sep h2, List.take_append_drop, List.take_append_drop]
theorem ab_at {l s : List UInt8} {n : Nat} (hs : s = http ∨ s = https) (hn : n = s.length + 3) (h : B.fold (l.take n) = s ++ sep) : get (ab l) = beh s (l.drop n) := by
  obtain ⟨a, h1, h2⟩ := take_split hn h
  have h58 : 58 ∉ a := free_of h1 (by rcases hs with rfl | rfl; exact has_http.1; exact has_http.2)
  have e : Lib.cut l sep = (a, l.drop n, true) := by
    conv => lhs; rw [h2]
    exact cut_sep _ h58
  unfold ab beh
  rw [e]
  simp only
  rw [h1, if_pos hs]
  cases Hp.prs ((l.drop n).take (hostN (l.drop n))) with
  | none => rfl
  | some hh =>
    exact wr_get _ _ (hostN_drop _)
theorem fold_take {a s b : List UInt8} {n : Nat} (hn : n = s.length + 3) (h : B.fold a = s) : B.fold ((a ++ (sep ++ b)).take n) = s ++ sep := by
  have hz : a.length = s.length := by rw [← h, B.fold_length]
  have e : (a ++ (sep ++ b)).take n = a ++ sep := by
    rw [← List.append_assoc]
    exact List.take_left' (by rw [List.length_append, hn, hz]; rfl)
  rw [e, fold_append, h]; rfl
theorem ab_no {l : List UInt8} (h1 : B.fold (l.take 7) ≠ http ++ sep) (h2 : B.fold (l.take 8) ≠ https ++ sep) : get (ab l) = none := by
  by_cases hx : ∃ a b, l = a ++ (sep ++ b)
  · have hi : ∃ a b, l = a ++ (sep ++ b) ∧ Lib.cut l sep = (a, b, true) := by
      obtain ⟨x, y, e⟩ := hx
      clear h1 h2
      induction l generalizing x with
      | nil => cases x <;> cases e
      | cons c r ih =>
        by_cases hp : List.isPrefixOf sep (c :: r) = true
        · obtain ⟨t, ht⟩ := List.isPrefixOf_iff_prefix.1 hp
          exact ⟨[], t, ht.symm, by rw [← ht]; exact cut_sep (a := []) t (by simp)⟩
        · cases x with
          | nil => exact absurd (List.isPrefixOf_iff_prefix.2 ⟨y, e.symm⟩) hp
          | cons d x =>
            rw [List.cons_append, List.cons.injEq] at e
            obtain ⟨a, b, e2, e3⟩ := ih x e.2
            refine ⟨c :: a, b, by rw [e2]; rfl, ?_⟩
            unfold Lib.cut at e3 ⊢
            rw [Lib.index, Bool.eq_false_iff.2 hp]
            by_cases h0 : 0 ≤ Lib.index r sep
            · rw [if_pos h0] at e3
              have hne : ((Lib.index r sep) == -1) = false := by rw [beq_eq_false_iff_ne]; omega
              rw [hne]
              simp only [Bool.false_eq_true, if_false]
              rw [if_pos (by omega)]
              simp only [Prod.mk.injEq, and_true] at e3 ⊢
              have : (Lib.index r sep + 1).toNat = (Lib.index r sep).toNat + 1 := by omega
              rw [this]
              refine ⟨by rw [List.take_succ_cons, e3.1], ?_⟩
              rw [show (Lib.index r sep).toNat + 1 + sep.length = ((Lib.index r sep).toNat + sep.length) + 1 by omega, List.drop_succ_cons, e3.2]
            · rw [if_neg h0] at e3
              simp at e3
    obtain ⟨a, b, e, ec⟩ := hi
    unfold ab
    rw [ec]
    simp only
    rw [if_neg]
    · rfl
    · rintro (g | g)
      · exact h1 (by rw [e]; exact fold_take rfl g)
      · exact h2 (by rw [e]; exact fold_take rfl g)
  · have e : Lib.cut l sep = (l, [], false) := by
      unfold Lib.cut
      rw [index_none fun a b g => hx ⟨a, b, g⟩, if_neg (by omega)]
    unfold ab
    rw [e]
    simp only [List.take_nil, List.drop_nil]
    rw [prs_nil]
    split <;> rfl
theorem fold_slash {s : List UInt8} (q : List UInt8) (n : Nat) (hs : s.head? = some 104) : B.fold ((47 :: q).take (n + 1)) ≠ s ++ sep := by
  intro h
  have := congrArg List.head? h
  cases s with
  | nil => cases hs
  | cons c r =>
    simp only [List.head?_cons, Option.some.injEq] at hs
    subst hs
    have h47 : B.lowU 47 = 47 := (low_colon 47).2.2 rfl
    simp [B.fold, h47] at this
theorem tg_eq (m l : List UInt8) : tgR m l = tg m l := by
  unfold tg tgR rd
  by_cases hm : m = connect
  · rw [if_pos hm, if_pos hm, au_get]
  · rw [if_neg hm, if_neg hm]
    by_cases ha : m = options ∧ l = [42]
    · rw [if_pos ha, if_pos ⟨ha.2, ha.1⟩]; rfl
    · rw [if_neg ha, if_neg fun g => ha ⟨g.2, g.1⟩]
      cases hp : Lib.hasPrefix l [47]
      · cases ho : orig T.o1 l with
        | some t => rw [orig_path ho] at hp; cases hp
        | none =>
          show (if B.fold (l.take 7) = http ++ sep then beh http (l.drop 7) else if B.fold (l.take 8) = https ++ sep then beh https (l.drop 8) else none) = get (if false = true then wp T.o1 l else ab l)
          rw [if_neg (show ¬ false = true by simp)]
          by_cases h1 : B.fold (l.take 7) = http ++ sep
          · rw [if_pos h1, ab_at (s := http) (.inl rfl) rfl h1]; rfl
          · rw [if_neg h1]
            by_cases h2 : B.fold (l.take 8) = https ++ sep
            · rw [if_pos h2, ab_at (s := https) (.inr rfl) rfl h2]; rfl
            · rw [if_neg h2, ab_no h1 h2]
      · rw [if_pos rfl, wp_get]
        cases ho : orig T.o1 l with
        | some t => rfl
        | none =>
          show (if B.fold (l.take 7) = http ++ sep then beh http (l.drop 7) else if B.fold (l.take 8) = https ++ sep then beh https (l.drop 8) else none) = none
          cases l with
          | nil => rw [Pq.pre_nil] at hp; cases hp
          | cons c q =>
            rw [Pq.pre_cons, decide_eq_true_eq] at hp
            subst hp
            rw [if_neg (fold_slash q 6 rfl), if_neg (fold_slash q 7 rfl)]

/-! What is written, what is sent on. -/
def join (p q : List UInt8) (b : Bool) : List UInt8 := if b then p ++ 63 :: q else p
def wt (t : T) : List UInt8 :=
  if t.kind = 2 then t.scheme ++ (sep ++ ((Hp.textH t.host.1 t.host.2.1 t.host.2.2).getD [] ++ join t.path t.query t.has)) else
  if t.kind = 3 then (Hp.textH t.host.1 t.host.2.1 t.host.2.2).getD [] else
  if t.kind = 4 then [42] else join t.path t.query t.has
def meth (t : T) : List UInt8 := if t.kind = 3 then connect else options
def txt (t : T) : Option (List UInt8) := if tg (meth t) (wt t) = some t then some (wt t) else none
def og (t : T) : List UInt8 :=
  if t.kind = 4 then [42] else if t.kind = 3 then [] else join (if t.path = [] then [47] else t.path) t.query t.has
theorem join_cut (l : List UInt8) : join (l.take (Pq.markN l)) (l.drop (Pq.markN l + 1)) (decide (Pq.markN l < l.length)) = l := by
  unfold join
  by_cases h : Pq.markN l < l.length
  · rw [decide_eq_true h, if_pos rfl]
    have hm : ∀ l : List UInt8, (h : Pq.markN l < l.length) → l[Pq.markN l] = 63 := by
      intro l
      induction l with
      | nil => intro h; cases h
      | cons c r ih =>
        intro h
        by_cases hc : c = 63
        · subst hc; simp [Pq.markN]
        · have e : Pq.markN (c :: r) = Pq.markN r + 1 := by rw [Pq.markN, if_neg hc]
          simp only [e, List.getElem_cons_succ]
          exact ih (by rw [e] at h; simpa using h)
    rw [← hm l h, ← List.drop_eq_getElem_cons h, List.take_append_drop]
  · rw [decide_eq_false h, if_neg (by simp), List.take_of_length_le (by omega)]
theorem orig_form {t u : T} {l : List UInt8} (h : orig t l = some u) : u = t.put u.path u.query u.has ∧ join u.path u.query u.has = l ∧ u.path ≠ [] ∧ ∀ t' : T, orig t' l = some (t'.put u.path u.query u.has) := by
  have hp := h
  unfold orig at h
  split at h
  · rename_i g
    injection h with h
    subst h
    refine ⟨rfl, join_cut l, ?_, fun t' => by unfold orig; rw [if_pos g]; rfl⟩
    intro e
    change l.take (Pq.markN l) = [] at e
    rw [Bool.and_eq_true] at g
    obtain ⟨r, e2, -⟩ := Pq.path_form g.1
    rw [e] at e2; cases e2
  · cases h
theorem rest_form {t u : T} {l : List UInt8} (h : rest t l = some u) : u = t.put u.path u.query u.has ∧ join u.path u.query u.has = l ∧ ∀ x : T, orig x (if u.path = [] then 47 :: l else l) = some (x.put (if u.path = [] then [47] else u.path) u.query u.has) := by
  match l, h with
  | [], h =>
    rw [rest] at h
    injection h with h
    subst h
    refine ⟨rfl, rfl, fun x => ?_⟩
    show orig x [47] = some (x.put [47] [] false)
    have e : Pq.cutL [47] = ([47], [], false, 0) := by decide +kernel
    rw [← wp_get]
    unfold wp
    rw [e]; rfl
  | c :: q, h =>
    rw [rest] at h
    split at h
    · rename_i hc
      subst hc
      split at h
      · rename_i hq
        injection h with h
        subst h
        refine ⟨rfl, rfl, fun x => ?_⟩
        show orig x (47 :: 63 :: q) = some (x.put [47] q true)
        have hm : Pq.markN (47 :: 63 :: q) = 1 := by rw [mark_slash, Pq.markN, if_pos rfl]
        unfold orig
        rw [hm]
        show (if Pq.pathL [47] && Pq.queryL q then some (x.put [47] q (decide (1 < (47 :: 63 :: q).length))) else none) = _
        rw [path_one, hq, decide_eq_true (by simp)]; rfl
      · cases h
    · obtain ⟨h1, h2, h3, h4⟩ := orig_form h
      refine ⟨h1, h2, fun x => ?_⟩
      rw [if_neg h3, if_neg h3]
      exact h4 x
/-- What a target that was read has. -/
inductive Has (m l : List UInt8) (t : T) : Prop
  | auth (h : m = connect) (e : t = T.a3 t.host) (ep : Hp.prs l = some t.host)
  | star (h : m = options) (hm : m ≠ connect) (el : l = [42]) (e : t = T.a4)
  | orig (hm : m ≠ connect) (e : t = T.o1.put t.path t.query t.has) (eo : orig T.o1 l = some t)
  | abs (hm : m ≠ connect) (a r : List UInt8) (el : l = a ++ (sep ++ r)) (ea : B.fold a = t.scheme) (es : t.scheme = http ∨ t.scheme = https) (eb : beh t.scheme r = some t)
theorem tg_has {m l : List UInt8} {t : T} (h : tg m l = some t) : Has m l t := by
  rw [← tg_eq] at h
  unfold tgR at h
  split at h
  · rename_i hm
    cases e : Hp.prs l with
    | none => rw [e] at h; cases h
    | some x =>
      rw [e] at h
      simp only at h
      split at h
      · cases h
      · injection h with h
        subst h
        exact .auth hm rfl e
  · rename_i hm
    split at h
    · rename_i g
      injection h with h
      exact .star g.2 hm g.1 h.symm
    · split at h
      · rename_i u ho
        injection h with h
        subst h
        exact .orig hm (orig_form ho).1 ho
      · have hbs : ∀ {s r : List UInt8}, beh s r = some t → t.scheme = s := by
          intro s r h
          unfold beh at h
          split at h
          · cases h
          · rw [(rest_form h).1]; rfl
        split at h
        · rename_i g
          obtain ⟨a, h1, h2⟩ := take_split (s := http) rfl g
          have hs := hbs h
          exact .abs hm a (l.drop 7) h2 (by rw [h1, hs]) (.inl hs) (by rw [hs]; exact h)
        · split at h
          · rename_i g
            obtain ⟨a, h1, h2⟩ := take_split (s := https) rfl g
            have hs := hbs h
            exact .abs hm a (l.drop 8) h2 (by rw [h1, hs]) (.inr hs) (by rw [hs]; exact h)
          · cases h
/-- An origin's text by any method but one. -/
theorem tg_orig {m l : List UInt8} (hm : m ≠ connect) {u : T} (h : orig T.o1 l = some u) : tg m l = some u := by
  rw [← tg_eq]
  have hp := orig_path h
  unfold tgR
  rw [if_neg hm, if_neg (by rintro ⟨rfl, -⟩; rw [Pq.pre_cons] at hp; cases hp), h]
theorem tg_beh {m s r : List UInt8} (hm : m ≠ connect) (hs : s = http ∨ s = https) : tg m (s ++ (sep ++ r)) = beh s r := by
  have hf : B.fold s = s := by rcases hs with rfl | rfl <;> decide +kernel
  have hno : Lib.hasPrefix (s ++ (sep ++ r)) [47] = false := by rcases hs with rfl | rfl <;> (show Lib.hasPrefix (104 :: _) [47] = false; rw [Pq.pre_cons]; rfl)
  have h42 : s ++ (sep ++ r) ≠ [42] := by rcases hs with rfl | rfl <;> (intro e; cases e)
  unfold tg rd
  rw [if_neg hm, if_neg (fun g => h42 g.2), if_neg (by rw [hno]; simp), ab_at hs rfl (fold_take rfl hf)]
  rw [← List.append_assoc, List.drop_left' (by rw [List.length_append]; rfl)]
theorem beh_host {s r : List UInt8} {t : T} (h : beh s r = some t) : Hp.prs (r.take (hostN r)) = some t.host ∧ t.kind = 2 ∧ join t.path t.query t.has = r.drop (hostN r) ∧ (∀ u, orig u (if t.path = [] then 47 :: r.drop (hostN r) else r.drop (hostN r)) = some (u.put (if t.path = [] then [47] else t.path) t.query t.has)) := by
  unfold beh at h
  split at h
  · cases h
  · rename_i x hx
    obtain ⟨h1, h2, h3⟩ := rest_form h
    exact ⟨by rw [hx, h1]; rfl, by rw [h1]; rfl, h2, h3⟩
theorem text_host {l : List UInt8} {h : Int × List UInt8 × Int} (e : Hp.prs l = some h) : (Hp.textH h.1 h.2.1 h.2.2).getD [] = l := by
  obtain ⟨k, nm, p⟩ := h
  have eb := Hp.write_back e
  unfold Hp.textH
  simp only
  rw [if_pos (by rw [eb]; exact e), eb]; rfl
/-- P10.3: what is written of a target that was read is read as it. -/
theorem wt_back {m l : List UInt8} {t : T} (h : tg m l = some t) : tg m (wt t) = some t ∧ tg (meth t) (wt t) = some t := by
  have hco : options ≠ connect := by decide
  cases tg_has h with
  | auth hm e ep =>
    have e1 : wt t = l := by
      unfold wt
      have hk : t.kind = 3 := by rw [e]; rfl
      rw [if_neg (by rw [hk]; decide), if_pos hk, text_host ep]
    have e2 : meth t = m := by
      unfold meth
      rw [if_pos (by rw [e]; rfl), hm]
    rw [e1, e2]
    exact ⟨h, h⟩
  | star hm hc el e =>
    have e1 : wt t = l := by rw [e, el]; rfl
    have e2 : meth t = m := by rw [e, hm]; rfl
    rw [e1, e2]
    exact ⟨h, h⟩
  | orig hm e eo =>
    have e1 : wt t = l := by
      have hk : t.kind = 1 := by rw [e]; rfl
      unfold wt
      rw [if_neg (by rw [hk]; decide), if_neg (by rw [hk]; decide), if_neg (by rw [hk]; decide)]
      exact (orig_form eo).2.1
    have e2 : meth t = options := by
      unfold meth
      rw [if_neg (by rw [e]; show ¬ (1 : Int) = 3; decide)]
    rw [e1, e2]
    exact ⟨h, tg_orig hco eo⟩
  | abs hm a r el ea es eb =>
    obtain ⟨h1, h2, h3, -⟩ := beh_host eb
    have e1 : wt t = t.scheme ++ (sep ++ r) := by
      unfold wt
      rw [if_pos h2, text_host h1, h3, List.take_append_drop]
    have e2 : meth t = options := by
      unfold meth
      rw [if_neg (by rw [h2]; decide)]
    rw [e1, e2, tg_beh hm es, tg_beh hco es]
    exact ⟨eb, eb⟩
theorem txt_back {m l : List UInt8} {t : T} (h : tg m l = some t) : txt t = some (wt t) := by unfold txt; rw [if_pos (wt_back h).2]
/-- What is sent on of a target that was read. -/
theorem og_back {m l : List UInt8} {t : T} (h : tg m l = some t) (h3 : t.kind ≠ 3) : ∃ x, tg m (og t) = some x ∧ x.kind ≠ 2 ∧ x.query = t.query ∧ x.has = t.has ∧ og x = og t := by
  cases tg_has h with
  | auth hm e ep => exact absurd (by rw [e]; rfl) h3
  | star hm hc el e =>
    refine ⟨t, ?_, by rw [e]; decide, rfl, rfl, rfl⟩
    have : og t = l := by rw [e, el]; rfl
    rw [this]; exact h
  | orig hm e eo =>
    have hk : t.kind = 1 := by rw [e]; rfl
    obtain ⟨-, h2, h4, -⟩ := orig_form eo
    refine ⟨t, ?_, by rw [hk]; decide, rfl, rfl, rfl⟩
    have : og t = l := by
      unfold og
      rw [if_neg (by rw [hk]; decide), if_neg (by rw [hk]; decide), if_neg h4]
      exact h2
    rw [this]; exact h
  | abs hm a r el ea es eb =>
    obtain ⟨-, h2, h4, h5⟩ := beh_host eb
    have e : og t = if t.path = [] then 47 :: r.drop (hostN r) else r.drop (hostN r) := by
      unfold og
      rw [if_neg (by rw [h2]; decide), if_neg (by rw [h2]; decide)]
      split
      · rename_i hp
        rw [← h4]
        unfold join
        rw [hp]
        split <;> rfl
      · exact h4
    refine ⟨T.o1.put (if t.path = [] then [47] else t.path) t.query t.has, by rw [e]; exact tg_orig hm (h5 T.o1), (show (1 : Int) ≠ 2 by decide), rfl, rfl, ?_⟩
    have e3 : og t = join (if t.path = [] then [47] else t.path) t.query t.has := by
      unfold og
      rw [if_neg (by rw [h2]; decide), if_neg (by rw [h2]; decide)]
    rw [e3]
    unfold og T.put T.o1
    simp only
    rw [if_neg (by decide), if_neg (by decide)]
    congr 1
    by_cases hp : t.path = []
    · rw [if_pos hp, if_neg (by simp)]
    · rw [if_neg hp, if_neg hp]
theorem og_kind {m l : List UInt8} {t : T} (h : tg m l = some t) (h3 : t.kind = 3) : og t = [] ∧ m = connect := by
  refine ⟨by unfold og; rw [if_neg (by rw [h3]; decide), if_pos h3], ?_⟩
  cases tg_has h with
  | auth hm e ep => exact hm
  | star hm hc el e => rw [e] at h3; cases h3
  | orig hm e eo => rw [e] at h3; cases h3
  | abs hm a r el ea es eb => rw [(beh_host eb).2.1] at h3; cases h3
end Tg
end Go.Proofs.YtnpbnlphmngbdaaGreatDoor
