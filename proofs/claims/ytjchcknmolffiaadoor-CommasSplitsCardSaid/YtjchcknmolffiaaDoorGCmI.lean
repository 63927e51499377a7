/- Contracts and lemmas that the claim rests on: CmI. -/
import Derived.Test.YtjchcknmolffiaaDoorGCmH
/- The document's Split: its contract. -/
namespace Go.Proofs.YtjchcknmolffiaaDoor
open Go.RowKit

namespace Cm
/-- Is a text not empty? -/
def ne (x : ByteArray) : Bool := !x.toList.isEmpty
theorem elB_filter (m : ByteArray) : elB m = [trimB [32, 9] m].filter ne := by
  cases h : (trimB [32, 9] m).toList.isEmpty
  · rw [elB_some m h]
    simp [ne, h]
  · rw [elB_none m h]
    simp [ne, h]
/-- Where the document's loop stands: the part that began at f, at i; what was taken before, the empty ones too. -/
structure Sr (s : ByteArray) (f i : Nat) (outs : List ByteArray) : Prop where
  on : In s f i
  few : outs.length ≤ f
  eq : es s 0 = (es s f).map (outs.filter ne ++ ·)
theorem Sr.start (s : ByteArray) : Sr s 0 0 [] := ⟨In.start s 0 (Nat.zero_le _), Nat.zero_le _, by cases es s 0 <;> rfl⟩
theorem Sr.unit {s : ByteArray} {f i n : Nat} {outs : List ByteArray} (h : Sr s f i outs) (hlt : i < s.size) (hb : byteAt s i = 34 ∨ byteAt s i = 40) (hu : un s i = some n) : Sr s f (i + n) outs ∧ 1 ≤ n ∧ i + n ≤ s.size := by
  obtain ⟨h1, h2, h3⟩ := pc_unit s i n hlt hb hu
  exact ⟨⟨h.on.on h3 h1, h.few, h.eq⟩, h2, h3⟩
theorem Sr.bad {s : ByteArray} {f i : Nat} {outs : List ByteArray} (h : Sr s f i outs) (hlt : i < s.size) (hb : byteAt s i = 34 ∨ byteAt s i = 40) (hu : un s i = none) : es s 0 = none := by
  rw [h.eq, es_bad s f (h.on.none (pc_bad s i hlt hb hu))]; rfl
theorem Sr.plain {s : ByteArray} {f i : Nat} {outs : List ByteArray} (h : Sr s f i outs) (hlt : i < s.size) (h1 : byteAt s i ≠ 44) (h2 : byteAt s i ≠ 34) (h3 : byteAt s i ≠ 40) : Sr s f (i + 1) outs :=
  ⟨h.on.on (by omega) (pc_plain s i hlt h1 h2 h3), h.few, h.eq⟩
theorem Sr.comma {s : ByteArray} {f i : Nat} {outs : List ByteArray} (h : Sr s f i outs) (hlt : i < s.size) (hb : byteAt s i = 44) : Sr s (i + 1) (i + 1) (outs ++ [trimB [32, 9] (s.extract f i)]) := by
  have hge := h.on.ge
  have hp := h.on.done (pc_comma s i hlt hb)
  have e : f + (i - f) = i := by omega
  have hm := es_more s f (i - f) hp (by omega)
  rw [e] at hm
  have hf := h.few
  refine ⟨In.start s (i + 1) (by omega), by rw [List.length_append, List.length_cons, List.length_nil]; omega, ?_⟩
  rw [h.eq, hm, elB_filter, List.filter_append]
  cases es s (i + 1) with
  | none => rfl
  | some a => simp
theorem Sr.last {s : ByteArray} {f i : Nat} {outs : List ByteArray} (h : Sr s f i outs) (hlt : ¬ i < s.size) : es s 0 = some ((outs ++ [trimB [32, 9] (s.extract f s.size)]).filter ne) := by
  have hge := h.on.ge
  have hle := h.on.le
  have hp := h.on.done (pc_end s i hlt)
  have e : f + (i - f) = s.size := by omega
  have hm := es_last s f (i - f) hp (by omega)
  rw [e] at hm
  rw [h.eq, hm, elB_filter, List.filter_append]
  rfl
theorem filter_take (l : List ByteArray) (q : Nat) (hq : q < l.length) (h : (l.getD q ByteArray.empty).toList.isEmpty = false) : (l.take (q + 1)).filter ne = (l.take q).filter ne ++ [l.getD q ByteArray.empty] := by
  rw [getD_at l q hq] at h ⊢
  rw [List.take_succ_eq_append_getElem hq, List.filter_append]
  simp [ne, h]
theorem filter_skip (l : List ByteArray) (q : Nat) (hq : q < l.length) (h : (l.getD q ByteArray.empty).toList.isEmpty = true) : (l.take (q + 1)).filter ne = (l.take q).filter ne := by
  rw [getD_at l q hq] at h
  rw [List.take_succ_eq_append_getElem hq, List.filter_append]
  simp [ne, h]
end Cm
/-- A call's own row of texts, behind a call and in a frame. -/
theorem row_grown {B : Nat} {w wr w' : World} {a : Option Addr} {n c : Nat} {l : List ByteArray} (h : wr.ownsRow B 9 1 (.slice a n c) n (l.map Value.string)) (hB : w.heap.size ≤ B) (hb : Below w.heap.size w wr) (o : Obj) (hg : (wr.alloc o).grownBy w' (Value.slice a n c).ownBlock) : Below w.heap.size w w' := by
  have hk : Kept (fun k => (Value.slice a n c).ownBlock = some k) wr w' := Kept.grown ((Kept.refl _ wr).alloc o) hg (fun k hk => .inl hk)
  exact hb.trans ((hk.mono (Q := fun k => w.heap.size ≤ k) (fun i _ hi => by have := (h.lt i hi).1; omega)).below hb.size)

set_option maxHeartbeats 1000000 in
theorem RSplit_any (s : ByteArray) (w : World) (hs : s.size ≤ 100000) :
    Calls Tryd.prog 9 #[.string s] w (Lists_ (Cm.es s 0) w) := by
  go_enter Tryd.func9, Tryd.ntmps9
  go_wp2_with fail
  go_loopw [4, 5, 6] (fun o f i wr => ∃ (fn k : Nat) (outs : List ByteArray) (a : Option Addr) (n c : Nat), o = .slice a n c ∧ f = .int .i64 (fn : Int) ∧ i = .int .i64 (k : Int) ∧ wr.ownsRow w.heap.size 9 1 (.slice a n c) n (outs.map Value.string) ∧ Below w.heap.size w wr ∧ Cm.Sr s fn k outs) (fun _ _ i _ => s.size - (intOf i).toNat)
  case atStart => exact ⟨0, 0, [], none, 0, 0, rfl, rfl, rfl, World.ownsRow_nil _ _ _ _, Below.refl _ _, Cm.Sr.start s⟩
  case round =>
    obtain ⟨fn, k, outs, a, n, c, rfl, rfl, rfl, ho, hb, hsr⟩ := hrel
    have HO := Lib.hid ho
    have HB := Lib.hid hb
    have HS := Lib.hid hsr
    have hge := hsr.on.ge
    have hle := hsr.on.le
    have hfew := hsr.few
    have hlen := own_len ho
    clear ho hb hsr
    by_cases hlt : k < s.size
    · have hby := B.toNat_le s[k]
      have hbk := Cm.byte_is s k hlt
      by_cases hu : (s[k].toNat : Int) = 34 ∨ (s[k].toNat : Int) = 40
      · have hub : byteAt s k = 34 ∨ byteAt s k = 40 := by rw [hbk]; exact hu
        obtain ⟨X, hX⟩ : ∃ X, s.extract k s.size = X := ⟨_, rfl⟩
        have hXr : restS s k = X := hX
        have hXz : X.size = s.size - k := by rw [← hXr]; exact restS_size s k hle
        have hX0 : 0 < X.size := by omega
        have hXb : (X[0].toNat : Int) = 34 ∨ (X[0].toNat : Int) = 40 := by
          subst hXr
          rw [Cm.byte_rest s k hlt hX0]
          exact hub
        have hinn : Cm.inn X 0 = (Cm.un s k).getD 0 := by
          subst hXr
          unfold Cm.inn
          rw [Cm.un_rest]
        have HXB := Lib.hid hXb
        have HU := Lib.hid hu
        clear hXb hbk hXr
        cases hun : Cm.un s k with
        | none =>
          have HE := Lib.hid (HS.out.bad hlt hub hun)
          rw [hun] at hinn
          have HI : Hid (Cm.inn X 0 = 0) := hinn
          clear hun hinn hub hu
          rcases HU.out with h34 | h40
          all_goals
            go_wp2_with fail
            refine (RInner_any X _ (by omega) hX0 HXB.out).mono ?_
            rintro e w1 ⟨rfl, m, rfl⟩
            rw [HI.out]
            go_wp2_with fail
            go_ret2
            exact Lists_.bad HE.out rfl (HB.out.trans (below_drewN _ _ m))
        | some x =>
          obtain ⟨hsr2, hx1, hx2⟩ := HS.out.unit hlt hub hun
          rw [hun] at hinn
          have HI : Hid (Cm.inn X 0 = x) := hinn
          have HS2 := Lib.hid hsr2
          have q0 : ((x : Int) == 0) = false := by rw [beq_eq_false_iff_ne]; omega
          clear hun hinn hub hu hsr2
          rcases HU.out with h34 | h40
          all_goals
            go_wp2_with fail
            refine (RInner_any X _ (by omega) hX0 HXB.out).mono ?_
            rintro e w1 ⟨rfl, m, rfl⟩
            rw [HI.out]
            go_wp2_with fail
            go_roundw
            case rel => exact ⟨fn, k + x, outs, a, n, c, rfl, rfl, by go_num, own_kept (P := fun _ => False) HO.out ((Kept.refl _ _).drewN m) (fun _ _ h => h), HB.out.trans (below_drewN _ _ m), HS2.out⟩
            case measure => simp [intOf]; omega
      · have h34 : ¬ (s[k].toNat : Int) = 34 := fun e => hu (.inl e)
        have h40 : ¬ (s[k].toNat : Int) = 40 := fun e => hu (.inr e)
        by_cases h44 : (s[k].toNat : Int) = 44
        · have HS2 := Lib.hid (HS.out.comma hlt (by rw [hbk]; exact h44))
          obtain ⟨m, hm⟩ : ∃ m, s.extract fn k = m := ⟨_, rfl⟩
          rw [hm] at HS2
          have hmz : m.size ≤ 100000 := by rw [← hm]; simp; omega
          obtain ⟨X, hX⟩ : ∃ X, trimB [32, 9] m = X := ⟨_, rfl⟩
          rw [hX] at HS2
          have HX := Lib.hid hX
          clear hbk hu hX
          go_wp2_with fail
          refine (RTrim_any m _ hmz).mono ?_
          rintro e w1 ⟨rfl, rfl⟩
          rw [HX.out]
          go_wp2_with (at_builtin; refine wpList_append_text _ rfl _ _ rfl w.heap.size _ _ _ rfl (World.ownsRow.alloc HO.out _) wr.heap.size 1 X rfl ?c1 ?c2 ?c3 ?_)
          case c1 => simp [go_sem]
          case c2 => omega
          case c3 => have := HB.out.size; simp; omega
          intro a4 c4 w4 ho4 hg4 hn4
          have ho5 : w4.ownsRow w.heap.size 9 1 (.slice a4 (n + 1) c4) (n + 1) ((outs ++ [X]).map Value.string) := by simpa using ho4
          have HB4 := Lib.hid (row_grown HO.out (Nat.le_refl _) HB.out _ hg4)
          have HO4 := Lib.hid ho5
          clear ho4 ho5 hg4 hn4
          go_wp2_with fail
          go_roundw
          case rel => exact ⟨k + 1, k + 1, _, a4, n + 1, c4, rfl, by go_num, by go_num, HO4.out, HB4.out, HS2.out⟩
          case measure => simp [intOf]; omega
        · have HS2 := Lib.hid (HS.out.plain hlt (by rw [hbk]; exact h44) (by rw [hbk]; exact h34) (by rw [hbk]; exact h40))
          clear hbk hu
          go_wp2_with fail
          go_roundw
          case rel => exact ⟨fn, k + 1, outs, a, n, c, rfl, rfl, by go_num, HO.out, HB.out, HS2.out⟩
          case measure => simp [intOf]; omega
    · have HE := Lib.hid (HS.out.last hlt)
      obtain ⟨m, hm⟩ : ∃ m, s.extract fn s.size = m := ⟨_, rfl⟩
      rw [hm] at HE
      have hmz : m.size ≤ 100000 := by rw [← hm]; simp; omega
      obtain ⟨X, hX⟩ : ∃ X, trimB [32, 9] m = X := ⟨_, rfl⟩
      rw [hX] at HE
      have HX := Lib.hid hX
      clear hX
      go_wp2_with fail
      refine (RTrim_any m _ hmz).mono ?_
      rintro e w1 ⟨rfl, rfl⟩
      rw [HX.out]
      go_wp2_with (at_builtin; refine wpList_append_text _ rfl _ _ rfl w.heap.size _ _ _ rfl (World.ownsRow.alloc HO.out _) wr.heap.size 1 X rfl ?c1 ?c2 ?c3 ?_)
      case c1 => simp [go_sem]
      case c2 => omega
      case c3 => have := HB.out.size; simp; omega
      intro a4 c4 w4 ho4 hg4 hn4
      obtain ⟨zs, hzs⟩ : ∃ zs, outs ++ [X] = zs := ⟨_, rfl⟩
      have ho5 : w4.ownsRow w.heap.size 9 1 (.slice a4 (n + 1) c4) (n + 1) (zs.map Value.string) := by rw [← hzs]; simpa using ho4
      have HB4 := Lib.hid (row_grown HO.out (Nat.le_refl _) HB.out _ hg4)
      have hzl := own_len ho5
      have hap : ∀ y, a4 = some y → (Value.slice none 0 0).ownBlock ≠ some y.block ∧ y.block < w4.heap.size := fun y hy => by
        subst hy
        exact ⟨by simp [Value.ownBlock], (ho5.lt y.block rfl).2⟩
      have HI : Hid (TkIn w4 [] none 0 0 zs a4 (n + 1) w4) := ⟨World.ownsRow_nil _ _ _ _, Below.refl _ _, own_strs ho5 (by omega), hap⟩
      rw [hzs] at HE
      clear ho4 ho5 hg4 hn4 hap hzs HO HB HS
      go_wp2_with fail
      go_loopw [8, 9] (fun l i wi => ∃ (q : Nat) (a3 : Option Addr) (n3 c3 : Nat), q ≤ n + 1 ∧ i = .int .i64 q ∧ l = .slice a3 n3 c3 ∧ TkIn w4 ((zs.take q).filter Cm.ne) a3 n3 c3 zs a4 (n + 1) wi) (fun _ i _ => n + 1 - (intOf i).toNat)
      case atStart => exact ⟨0, none, 0, 0, Nat.zero_le _, rfl, rfl, HI.out⟩
      case round =>
        clear HI
        obtain ⟨q, a3, n3, c3, hq, rfl, rfl, hin⟩ := hrel
        have HI := Lib.hid hin
        have hn3 := own_len hin.own
        have hfl := List.length_filter_le Cm.ne (zs.take q)
        rw [List.length_take] at hfl
        clear hin
        by_cases hlq : q < n + 1
        · have hql : q < zs.length := by omega
          rcases HI.out.els.2 with ⟨_, h0⟩ | ⟨y, rfl, hyl, hcells⟩
          · omega
          have hc := hcells q hlq
          obtain ⟨t, ht⟩ : ∃ t, zs.getD q ByteArray.empty = t := ⟨_, rfl⟩
          rw [ht] at hc
          clear hcells
          cases hte : t.toList.isEmpty
          · have hf := Cm.filter_take zs q hql (by rw [ht]; exact hte)
            rw [ht] at hf
            have HF := Lib.hid hf
            clear hf ht
            go_wp2_with (at_builtin; refine wpList_append_text _ rfl _ _ rfl w4.heap.size _ _ _ rfl (World.ownsRow.alloc HI.out.own _) wr.heap.size 1 t rfl ?c1 ?c2 ?c3 ?_)
            case c1 => simp [go_sem]
            case c2 => omega
            case c3 => have := HI.out.below.size; simp; omega
            intro a6 c6 w6 ho6 hg6 hn6
            have ho7 : w6.ownsRow w4.heap.size 9 1 (.slice a6 (n3 + 1) c6) (n3 + 1) (((zs.take (q + 1)).filter Cm.ne).map Value.string) := by rw [HF.out]; simpa using ho6
            have HI6 : Hid (TkIn w4 ((zs.take (q + 1)).filter Cm.ne) a6 (n3 + 1) c6 zs (some y) (n + 1) w6) := HI.out.grow (Kept.grown ((Kept.refl _ wr).alloc _) hg6 (fun k hk => .inl hk)) ho7 (hn6.later (by simp))
            clear ho6 ho7 hg6 hn6 HI
            go_wp2_with fail
            go_roundw
            case rel => exact ⟨q + 1, a6, n3 + 1, c6, by omega, by go_num, rfl, HI6.out⟩
            case measure => simp [intOf]; omega
          · have hf := Cm.filter_skip zs q hql (by rw [ht]; exact hte)
            have HI6 : Hid (TkIn w4 ((zs.take (q + 1)).filter Cm.ne) a3 n3 c3 zs (some y) (n + 1) wr) := by show TkIn _ _ _ _ _ _ _ _ _; rw [hf]; exact HI.out
            clear hf ht
            go_wp2_with fail
            go_roundw
            case rel => exact ⟨q + 1, a3, n3, c3, by omega, by go_num, rfl, HI6.out⟩
            case measure => simp [intOf]; omega
        · have hx : zs.take q = zs := List.take_of_length_le (by omega)
          rw [hx] at HI
          clear hx
          go_wp2_with fail
          go_ret2
          exact Lists_.ok HE.out rfl HI.out.own HB4.out.size (HB4.out.trans (HI.out.below.mono HB4.out.size))
end Go.Proofs.YtjchcknmolffiaaDoor
