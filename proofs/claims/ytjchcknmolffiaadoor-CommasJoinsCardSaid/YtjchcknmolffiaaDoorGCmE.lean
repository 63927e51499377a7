/- Contracts and lemmas that the claim rests on: CmE. -/
import Derived.Test.YtjchcknmolffiaaDoorGCmD
import Derived.Test.YtjchcknmolffiaaDoorGQuil
/- A text appended to a row of texts that is the call's own; Tokens: contracts. -/
namespace Go.Proofs.YtjchcknmolffiaaDoor
open Go.RowKit

/-- Cells of a row, appended: what is owned then was owned, or is new. -/
theorem run_append_fresh {P : Program} (w : World) (base : Nat) (t ty e : TypeId) (i : TypeInfo) (z : Value) (size bytes : Nat) (ht : P.underlying t = some (.slice e)) (hi : P.info? e = some i) (hz : i.zero = some z)
    (hsize : i.size = size) (hby : i.bytes = bytes) (hzs : z.cells.size = size) (hsz : 0 < size)
    (v : Value) (n : Nat) (xs : List Value) (hown : w.ownsRow base e size v n xs)
    (a : Addr) (m c : Nat) (news : List Value) (hl : news.length = m * size) (hnews : ∀ j u, news[j]? = some u → w.cell? (a.add j) = some u) (h1 : ∀ u ∈ news, u.oneCell' = true)
    (h63 : n + m ≤ 9223372036854775807) (hbytes : (n + m) * bytes ≤ 140737488355328) (hbase : base ≤ w.heap.size) :
    ∃ v' w', (Builtin.append_ #[t, t] ty #[v, .slice (some a) m c]).run P w = .ok v' w' ∧ w'.ownsRow base e size v' (n + m) (xs ++ news) ∧ w.grownBy w' v.ownBlock ∧ NewOwn v v' w := by
  have hm : n + m ≤ maxLen := by unfold maxLen; omega
  obtain ⟨v', w', hr, h2, h3, _⟩ := run_append_own (P := P) w base t ty e i z size bytes ht hi hz hsize hby hzs hsz v n xs hown a m c news hl hnews h1 hm hbytes hbase
  refine ⟨v', w', hr, h2, h3, ?_⟩
  rcases hown.2 with ⟨rfl, rfl⟩ | ⟨g, cap, cur, rfl, hbg, hg, hnc, hcm, hcs, htake⟩
  · have hx : xs = [] := List.eq_nil_of_length_eq_zero (by have := hown.1; simpa using this)
    subst hx
    obtain ⟨v2, w2, hr2, h22, _, _⟩ := run_append_own (P := P) w w.heap.size t ty e i z size bytes ht hi hz hsize hby hzs hsz (.slice none 0 0) 0 [] (World.ownsRow_nil _ _ _ _) a m c news hl hnews h1 hm hbytes (Nat.le_refl _)
    rw [hr] at hr2
    injection hr2 with e1 e2
    subst e1
    subst e2
    exact fun k hk => .inr (h22.lt k hk).1
  · subst hsize
    subst hby
    by_cases hroom : n + m ≤ cap
    · have hr2 := run_append_room (P := P) w t ty e i ht hi g n cap cur hg a m c news hl hnews h1 hroom (by rw [hl, hcs, ← Nat.add_mul]; exact Nat.mul_le_mul_right _ hroom)
      rw [hr] at hr2
      injection hr2 with e1 e2
      subst e1
      exact fun k hk => .inl hk
    · have hr2 := run_append_grow (P := P) w t ty e i z ht hi hz ⟨g, 0, none⟩ n cap xs hown.1 (hown.cells (g := g) rfl) a m c news hl hnews (by omega) (by omega) (growslice_fits (by omega) hbytes)
      rw [hr] at hr2
      injection hr2 with e1 e2
      subst e1
      intro k hk
      simp only [Value.ownBlock, Option.some.injEq] at hk
      exact .inr (by omega)
/-- A text, appended to a row of texts that is the call's own. -/
theorem wpList_append_text (w : World) {ops : Array Oper} {rest : List Oper} {o : Oper} {a : Act} {Q : Exit → Act → World → Prop} (hgd : o.guard = none) (s x : Operand)
    (ho : o.op = .call { callee := .builtin .append, args := #[s, x], argTypes := #[22, 22] }) (base : Nat)
    (v : Value) (n : Nat) (l : List ByteArray) (hs : a.eval s = v) (hown : w.ownsRow base 9 1 v n (l.map Value.string))
    (b c : Nat) (y : ByteArray) (hx : a.eval x = .slice (some ⟨b, 0, none⟩) 1 c) (hc : w.cell? ⟨b, 0, none⟩ = some (.string y))
    (hn : n ≤ 200000000) (hbase : base ≤ w.heap.size)
    (h : ∀ a' c' w', w'.ownsRow base 9 1 (.slice a' (n + 1) c') (n + 1) ((l ++ [y]).map Value.string) → w.grownBy w' v.ownBlock → NewOwn v (.slice a' (n + 1) c') w → wpList Tryd.prog ops Q rest (a.put o.dst (.slice a' (n + 1) c')) w') : wpList Tryd.prog ops Q (o :: rest) a w := by
  obtain ⟨i0, hi, hz0, hz1, hz2⟩ := info_parts info_string
  refine wpList_plain hgd fun K hK => ?_
  obtain ⟨v', w', hr, h2, h3, h4⟩ := run_append_fresh (P := Tryd.prog) w base 22 o.type 9 i0 _ 1 16 Tryd.underlying22 hi hz0 hz1 hz2 rfl (by omega) v n _ hown ⟨b, 0, none⟩ 1 c [.string y] rfl (by intro j u hj; rcases j with _ | j <;> simp at hj; subst hj; exact hc) (by intro u hu; simp at hu; subst hu; rfl) (by omega) (by omega) hbase
  obtain ⟨a', c', rfl, _⟩ := own_form h2
  rw [texts_snoc] at h2
  unfold Oper.wp execOp
  simp only [ho, resolve, invoke, builtin, Sem.run_bind, Sem.run_pure, Result.andThen_ok, List.map_toArray, List.map_cons, List.map_nil, hs, hx, hr]
  exact hK _ _ (h a' c' w' h2 h3 h4)

namespace Cm
theorem el_len (p : List UInt8) : (el p).length ≤ 1 := by unfold el; split <;> simp
theorem el_size (p : List UInt8) : ∀ e ∈ el p, e.length ≤ p.length := by
  intro e he
  unfold el at he
  split at he
  · cases he
  · rw [List.mem_singleton] at he
    subst he
    exact trim_le p
theorem S_len {l : List UInt8} {a : List (List UInt8)} (h : S l a) : a.length ≤ l.length + 1 ∧ ∀ e ∈ a, e.length ≤ l.length := by
  induction h with
  | last p _ => exact ⟨by have := el_len p; omega, el_size p⟩
  | more p r c a _ _ _ ih =>
    refine ⟨?_, fun e he => ?_⟩
    · have := el_len p
      rw [List.length_append, List.length_append, List.length_cons]
      omega
    · rw [List.length_append, List.length_cons]
      rcases List.mem_append.1 he with h | h
      · have := el_size p e h
        omega
      · have := ih.2 e h
        omega
theorem es_len (s : ByteArray) (x : List ByteArray) (h : es s 0 = some x) : x.length ≤ s.size + 1 ∧ ∀ y ∈ x, y.size ≤ s.size := by
  unfold es at h
  rw [List.drop_zero] at h
  cases hs : spl s.data.toList with
  | none => rw [hs] at h; cases h
  | some a =>
    rw [hs] at h
    simp only [Option.map_some, Option.some.injEq] at h
    subst h
    have hS := S_len (spl_S _ _ a (Nat.le_refl _) hs)
    have e : s.data.toList.length = s.size := by simp
    rw [e] at hS
    refine ⟨by rw [List.length_map]; exact hS.1, fun y hy => ?_⟩
    obtain ⟨z, hz, rfl⟩ := List.mem_map.1 hy
    show z.toArray.size ≤ _
    simpa using hS.2 z hz
/-- The tokens of lists. -/
def toks : List ByteArray → Option (List ByteArray)
  | [] => some []
  | s :: r => match es s 0 with
    | none => none
    | some x => if x.all tokS then (toks r).map (x ++ ·) else none
theorem toks_bad (s : ByteArray) (r : List ByteArray) (h : es s 0 = none) : toks (s :: r) = none := by unfold toks; rw [h]
theorem toks_no (s : ByteArray) (r x : List ByteArray) (h : es s 0 = some x) (hx : x.all tokS = false) : toks (s :: r) = none := by unfold toks; rw [h]; simp [hx]
theorem toks_yes (s : ByteArray) (r x : List ByteArray) (h : es s 0 = some x) (hx : x.all tokS = true) : toks (s :: r) = (toks r).map (x ++ ·) := by
  conv => lhs; unfold toks
  rw [h]; simp [hx]
/-- The tokens so far, of the first k texts. -/
structure Tk (ss : List ByteArray) (k : Nat) (acc : List ByteArray) : Prop where
  few : acc.length ≤ 100001 * k
  eq : toks ss = (toks (ss.drop k)).map (acc ++ ·)
theorem Tk.start (ss : List ByteArray) : Tk ss 0 [] := ⟨by simp, by rw [List.drop_zero]; cases toks ss <;> rfl⟩
theorem drop_text (ss : List ByteArray) (k : Nat) (h : k < ss.length) : ss.drop k = ss.getD k ByteArray.empty :: ss.drop (k + 1) := by rw [getD_at ss k h]; exact List.drop_eq_getElem_cons h
theorem Tk.bad {ss : List ByteArray} {k : Nat} {acc : List ByteArray} (h : Tk ss k acc) (hk : k < ss.length) (he : es (ss.getD k ByteArray.empty) 0 = none) : toks ss = none := by
  rw [h.eq, drop_text ss k hk, toks_bad _ _ he]; rfl
theorem Tk.no {ss : List ByteArray} {k : Nat} {acc x : List ByteArray} (h : Tk ss k acc) (hk : k < ss.length) (he : es (ss.getD k ByteArray.empty) 0 = some x) (hx : x.all tokS = false) : toks ss = none := by
  rw [h.eq, drop_text ss k hk, toks_no _ _ x he hx]; rfl
theorem Tk.yes {ss : List ByteArray} {k : Nat} {acc x : List ByteArray} (h : Tk ss k acc) (hk : k < ss.length) (he : es (ss.getD k ByteArray.empty) 0 = some x) (hx : x.all tokS = true) (hz : x.length ≤ 100001) : Tk ss (k + 1) (acc ++ x) := by
  have hf := h.few
  refine ⟨by rw [List.length_append]; omega, ?_⟩
  rw [h.eq, drop_text ss k hk, toks_yes _ _ x he hx]
  cases toks (ss.drop (k + 1)) with
  | none => rfl
  | some a => simp
theorem Tk.done {ss : List ByteArray} {k : Nat} {acc : List ByteArray} (h : Tk ss k acc) (hk : ¬ k < ss.length) : toks ss = some acc := by
  rw [h.eq, List.drop_eq_nil_of_le (by omega)]
  simp [toks]
theorem all_take (x : List ByteArray) (q : Nat) (hq : q < x.length) (h0 : (x.take q).all tokS = true) (h1 : tokS (x.getD q ByteArray.empty) = true) : (x.take (q + 1)).all tokS = true := by
  rw [getD_at x q hq] at h1
  rw [List.take_succ_eq_append_getElem hq, List.all_append, h0]
  simp [h1]
theorem all_out (x : List ByteArray) (q : Nat) (hq : q < x.length) (h1 : tokS (x.getD q ByteArray.empty) = false) : x.all tokS = false := by
  rw [getD_at x q hq] at h1
  cases h : x.all tokS
  · rfl
  · rw [List.all_eq_true.1 h _ (List.getElem_mem hq)] at h1
    cases h1
theorem take_text (x : List ByteArray) (q : Nat) (hq : q < x.length) : x.take q ++ [x.getD q ByteArray.empty] = x.take (q + 1) := by
  rw [getD_at x q hq, List.take_succ_eq_append_getElem hq]
end Cm

/-- A call's own row of texts, beside another that it reads. -/
structure TkIn (w : World) (acc : List ByteArray) (a : Option Addr) (n c : Nat) (x : List ByteArray) (b : Option Addr) (m : Nat) (wr : World) : Prop where
  own : wr.ownsRow w.heap.size 9 1 (.slice a n c) n (acc.map Value.string)
  below : Below w.heap.size w wr
  els : IsTexts wr b m x
  apart : ∀ y, b = some y → (Value.slice a n c).ownBlock ≠ some y.block ∧ y.block < wr.heap.size
theorem TkIn.below_ {w : World} {acc : List ByteArray} {a : Option Addr} {n c : Nat} {x : List ByteArray} {b : Option Addr} {m : Nat} {wr w' : World} (h : TkIn w acc a n c x b m wr) (hb : Below wr.heap.size wr w') : TkIn w acc a n c x b m w' :=
  ⟨own_kept (P := fun _ => False) h.own (Kept.of_below hb) (fun _ _ h => h), below_then h.below hb, h.els.below hb, fun y hy => ⟨(h.apart y hy).1, Nat.lt_of_lt_of_le (h.apart y hy).2 hb.size⟩⟩
theorem TkIn.grow {w : World} {acc acc' : List ByteArray} {a a' : Option Addr} {n c n' c' : Nat} {x : List ByteArray} {b : Option Addr} {m : Nat} {wr w' : World} (h : TkIn w acc a n c x b m wr) (hk : Kept (fun k => (Value.slice a n c).ownBlock = some k) wr w')
    (ho : w'.ownsRow w.heap.size 9 1 (.slice a' n' c') n' (acc'.map Value.string)) (hn : NewOwn (.slice a n c) (.slice a' n' c') wr) : TkIn w acc' a' n' c' x b m w' := by
  refine ⟨ho, ?_, h.els.kept hk (fun y hy => (h.apart y hy).1), fun y hy => ?_⟩
  · exact h.below.trans ((hk.mono (Q := fun k => w.heap.size ≤ k) (fun i _ hi => (h.own.lt i hi).1)).below h.below.size)
  · obtain ⟨h1, h2⟩ := h.apart y hy
    refine ⟨fun e => ?_, Nat.lt_of_lt_of_le h2 hk.size⟩
    rcases hn _ e with h3 | h3
    · exact h1 h3
    · omega
theorem TkIn.first {w : World} {acc : List ByteArray} {a : Option Addr} {n c : Nat} {x : List ByteArray} {b : Option Addr} {m d : Nat} {wr w' : World} (h1 : wr.ownsRow w.heap.size 9 1 (.slice a n c) n (acc.map Value.string)) (h2 : Below w.heap.size w wr)
    (h3 : w'.ownsRow wr.heap.size 9 1 (.slice b m d) m (x.map Value.string)) (hm : m ≤ 1000000) (h4 : Below wr.heap.size wr w') : TkIn w acc a n c x b m w' := by
  refine ⟨own_kept (P := fun _ => False) h1 (Kept.of_below h4) (fun _ _ h => h), below_then h2 h4, own_strs h3 (by omega), fun y hy => ?_⟩
  subst hy
  obtain ⟨h5, h6⟩ := h3.lt y.block rfl
  exact ⟨fun e => by have := (h1.lt _ e).2; omega, h6⟩
theorem own_len {w : World} {B : Nat} {v : Value} {n : Nat} {x : List ByteArray} (h : w.ownsRow B 9 1 v n (x.map Value.string)) : x.length = n := by have := h.1; simpa using this

set_option maxHeartbeats 1000000 in
theorem Tokens_any (a : Option Addr) (len cp : Nat) (ss : List ByteArray) (w : World) (hz : IsTexts w a len ss) (hl : len ≤ 1000) (hss : ∀ s ∈ ss, s.size ≤ 100000) :
    Calls Tryd.prog 11 #[.slice a len cp] w (Lists_ (Cm.toks ss) w) := by
  have HZ := Lib.hid hz
  have HSS := Lib.hid hss
  clear hz hss
  go_enter Tryd.func11, Tryd.ntmps11
  go_wp2_with fail
  go_loopw [4, 13] (fun tok i wr => ∃ (k : Nat) (acc : List ByteArray) (a1 : Option Addr) (n1 c1 : Nat), k ≤ len ∧ i = .int .i64 k ∧ tok = .slice a1 n1 c1 ∧ wr.ownsRow w.heap.size 9 1 (.slice a1 n1 c1) n1 (acc.map Value.string) ∧ Below w.heap.size w wr ∧ Cm.Tk ss k acc) (fun _ i _ => len - (intOf i).toNat)
  case atStart => exact ⟨0, [], none, 0, 0, Nat.zero_le _, rfl, rfl, World.ownsRow_nil _ _ _ _, Below.refl _ _, Cm.Tk.start ss⟩
  case round =>
    obtain ⟨k, acc, a1, n1, c1, hk, rfl, rfl, ho, hb, htk⟩ := hrel
    have HO := Lib.hid ho
    have HB := Lib.hid hb
    have HT := Lib.hid htk
    have hfew := htk.few
    have hlen := own_len ho
    clear ho hb htk
    by_cases hlt : k < len
    · have hkl : k < ss.length := by rw [HZ.out.1]; exact hlt
      rcases (HZ.out.below HB.out).2 with ⟨rfl, rfl⟩ | ⟨x, rfl, hxl, hcells⟩
      · omega
      have hc := hcells k hlt
      obtain ⟨s, hs⟩ : ∃ s, ss.getD k ByteArray.empty = s := ⟨_, rfl⟩
      have hsz : s.size ≤ 100000 := by rw [← hs, getD_at ss k hkl]; exact HSS.out _ (List.getElem_mem _)
      rw [hs] at hc
      clear hcells
      cases he : Cm.es s 0 with
      | none =>
        have HE := Lib.hid (HT.out.bad hkl (by rw [hs]; exact he))
        have HN := Lib.hid he
        clear he hs
        go_wp2_with fail
        refine (Split_any s _ hsz).mono ?_
        rintro e w2 ⟨b, m, d, rfl, ho2, hb2⟩
        rw [HN.out]
        have HB2 := Lib.hid (below_then HB.out hb2)
        clear ho2 hb2
        go_wp2_with fail
        go_ret2
        exact Lists_.bad HE.out rfl HB2.out
      | some xs =>
        have HN := Lib.hid he
        obtain ⟨hxl2, hxz⟩ := Cm.es_len s xs he
        have HXZ := Lib.hid hxz
        have hT := HT.out
        have HS := Lib.hid hs
        clear he hxz hs
        go_wp2_with fail
        refine (Split_any s _ hsz).mono ?_
        rintro e w2 ⟨b, m, d, rfl, ho2, hb2⟩
        rw [HN.out] at ho2 ⊢
        have hm : xs.length = m := own_len ho2
        have HI : Hid (TkIn w acc a1 n1 c1 xs b m w2) := TkIn.first HO.out HB.out ho2 (by omega) hb2
        clear ho2 hb2 HO HB hc
        go_wp2_with fail
        go_loopw [4, 27] (fun tok i wi => ∃ (q : Nat) (a3 : Option Addr) (n3 c3 : Nat), q ≤ m ∧ i = .int .i64 q ∧ tok = .slice a3 n3 c3 ∧ (xs.take q).all tokS = true ∧ TkIn w (acc ++ xs.take q) a3 n3 c3 xs b m wi) (fun _ i _ => m - (intOf i).toNat)
        case atStart => exact ⟨0, a1, n1, c1, Nat.zero_le _, rfl, rfl, rfl, by rw [List.take_zero, List.append_nil]; exact HI.out⟩
        case round =>
          clear HI
          obtain ⟨q, a3, n3, c3, hq, rfl, rfl, hall, hin⟩ := hrel
          have HI := Lib.hid hin
          have HA := Lib.hid hall
          have hn3 := own_len hin.own
          rw [List.length_append, List.length_take] at hn3
          clear hin hall
          by_cases hlq : q < m
          · have hql : q < xs.length := by omega
            rcases HI.out.els.2 with ⟨rfl, rfl⟩ | ⟨y, rfl, hyl, hcells⟩
            · omega
            have hc := hcells q hlq
            obtain ⟨t, ht⟩ : ∃ t, xs.getD q ByteArray.empty = t := ⟨_, rfl⟩
            have htz : t.size ≤ 100000 := by
              have := HXZ.out (xs.getD q ByteArray.empty) (by rw [getD_at xs q hql]; exact List.getElem_mem _)
              rw [ht] at this
              omega
            rw [ht] at hc
            clear hcells
            cases hto : tokS t
            · have HE := Lib.hid (hT.no hkl (by rw [HS.out]; exact HN.out) (Cm.all_out xs q hql (by rw [ht]; exact hto)))
              have HTO := Lib.hid hto
              clear hto ht
              go_wp2_with fail
              refine (Token_any t _ htz).mono ?_
              rintro e w3 ⟨rfl, hb3⟩
              rw [HTO.out]
              have HI3 := Lib.hid (HI.out.below_ hb3)
              clear hb3
              go_wp2_with fail
              go_ret2
              exact Lists_.bad HE.out rfl HI3.out.below
            · have HTO := Lib.hid hto
              have hTT := Lib.hid (Cm.take_text xs q hql)
              rw [ht] at hTT
              have HAA := Lib.hid (Cm.all_take xs q hql HA.out (by rw [ht]; exact hto))
              clear hto ht
              go_wp2_with fail
              refine (Token_any t _ htz).mono ?_
              rintro e w3 ⟨rfl, hb3⟩
              rw [HTO.out]
              have HI3 := Lib.hid (HI.out.below_ hb3)
              clear hb3 hc HI
              go_wp2_with (at_builtin; refine wpList_append_text _ rfl _ _ rfl w.heap.size _ _ _ rfl (World.ownsRow.alloc (w := w3) HI3.out.own _) w3.heap.size 1 t rfl ?c1 ?c2 ?c3 ?_)
              case c1 => simp [go_sem]
              case c2 => omega
              case c3 => have := HI3.out.below.size; simp; omega
              intro a4 c4 w4 ho4 hg4 hn4
              have ho5 : w4.ownsRow w.heap.size 9 1 (.slice a4 (n3 + 1) c4) (n3 + 1) ((acc ++ xs.take (q + 1)).map Value.string) := by rw [← hTT.out]; simpa using ho4
              have HI4 : Hid (TkIn w (acc ++ xs.take (q + 1)) a4 (n3 + 1) c4 xs (some y) m w4) := HI3.out.grow (Kept.grown ((Kept.refl _ w3).alloc _) hg4 (fun k hk => .inl hk)) ho5 (hn4.later (by simp))
              clear ho4 ho5 hg4 hn4 HI3
              go_wp2_with fail
              go_roundw
              case rel => exact ⟨q + 1, a4, n3 + 1, c4, by omega, by go_num, rfl, HAA.out, HI4.out⟩
              case measure => simp [intOf]; omega
          · have hx : xs.take q = xs := List.take_of_length_le (by omega)
            rw [hx] at HI HA
            have HT2 := Lib.hid (hT.yes hkl (by rw [HS.out]; exact HN.out) HA.out (by omega))
            clear hx
            go_wp2_with fail
            go_roundw
            case rel => exact ⟨k + 1, acc ++ xs, a3, n3, c3, by omega, by go_num, rfl, HI.out.own, HI.out.below, HT2.out⟩
            case measure => simp [intOf]; omega
    · have HE := Lib.hid (HT.out.done (by rw [HZ.out.1]; exact hlt))
      go_wp2_with fail
      go_ret2
      exact Lists_.ok HE.out rfl HO.out (Nat.le_refl _) HB.out
end Go.Proofs.YtjchcknmolffiaaDoor
