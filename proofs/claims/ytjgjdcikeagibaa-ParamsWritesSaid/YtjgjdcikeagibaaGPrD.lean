/- Contracts and lemmas that the claim rests on: PrD. -/
import Derived.Test.YtjgjdcikeagibaaGPrC
/- Parse: its contract. -/
namespace Go.Proofs.Ytjgjdcikeagibaa
open Go.RowKit

theorem OwnP.alloc {w : World} {base : Nat} {v : Value} {n : Nat} {l : List Pair} (h : OwnP w base v n l) (o : Obj) : OwnP (w.alloc o) base v n l := h.below ((Below.refl _ _).alloc (Nat.le_refl _) _)
/-- Parse at work: its scanner in the first block behind w, its own struct in the second; its row. -/
structure PaAt (s : ByteArray) (w : World) (j : Nat) (acc : List Pair) (a : Option Addr) (n c : Nat) (wr : World) : Prop where
  scan : IsScan (.pointer (some ⟨w.heap.size, 0, none⟩)) s j wr
  box : wr.cell? ⟨w.heap.size + 1, 0, none⟩ = some (.pointer (some ⟨w.heap.size, 0, none⟩))
  own : OwnP wr (w.heap.size + 2) (.slice a n c) n acc
  below : Below w.heap.size w wr
  size : w.heap.size + 2 ≤ wr.heap.size
theorem own_pb {b i : Nat} (h : ownScan (.pointer (some ⟨b, 0, none⟩)) i) : i = b := by
  simp [ownScan] at h
  exact h.symm
theorem PaAt.scan_ {s : ByteArray} {w : World} {j j' : Nat} {acc : List Pair} {a : Option Addr} {n c : Nat} {wr w' : World} (h : PaAt s w j acc a n c wr) (hs : IsScan (.pointer (some ⟨w.heap.size, 0, none⟩)) s j' w') (hk : Kept (ownScan (.pointer (some ⟨w.heap.size, 0, none⟩))) wr w') : PaAt s w j' acc a n c w' := by
  refine ⟨hs, hk.at_cell (lt_of_cell h.box) (fun e => by have := own_pb e; omega) h.box, h.own.kept_ hk (fun k hk' e => by have h1 := own_pb e; have h2 := (World.ownsRow.lt h.own k hk').1; omega), ?_, Nat.le_trans h.size hk.size⟩
  exact h.below.trans ((hk.mono (Q := fun k => w.heap.size ≤ k) (fun i _ hi => by rw [own_pb hi]; exact Nat.le_refl _)).below (by have := h.size; omega))
theorem PaAt.below_ {s : ByteArray} {w : World} {j : Nat} {acc : List Pair} {a : Option Addr} {n c : Nat} {wr w' : World} (h : PaAt s w j acc a n c wr) (hb : Below wr.heap.size wr w') : PaAt s w j acc a n c w' :=
  ⟨h.scan.below hb, below_cell hb (lt_of_cell h.box) h.box, h.own.below hb, below_then h.below hb, Nat.le_trans h.size hb.size⟩
theorem PaAt.grow {s : ByteArray} {w : World} {j : Nat} {acc acc' : List Pair} {a a' : Option Addr} {n c n' c' : Nat} {wr w' : World} (h : PaAt s w j acc a n c wr) (hk : Kept (fun k => (Value.slice a n c).ownBlock = some k) wr w')
    (ho : OwnP w' (w.heap.size + 2) (.slice a' n' c') n' acc') : PaAt s w j acc' a' n' c' w' := by
  have hlt : ∀ k, (Value.slice a n c).ownBlock = some k → w.heap.size + 2 ≤ k := fun k hk' => (World.ownsRow.lt h.own k hk').1
  refine ⟨h.scan.kept hk (fun i hi hn => by have h1 := own_pb hi; have h2 := hlt i hn; omega), hk.at_cell (lt_of_cell h.box) (fun e => by have := hlt _ e; omega) h.box, ho, ?_, Nat.le_trans h.size hk.size⟩
  exact h.below.trans ((hk.mono (Q := fun k => w.heap.size ≤ k) (fun i _ hi => by have := hlt i hi; omega)).below (by have := h.size; omega))

namespace Pm
/-- The params so far, ahead of j. -/
structure On (s : ByteArray) (j : Nat) (acc : List Pair) : Prop where
  le : j ≤ s.size
  few : acc.length ≤ j
  eq : ps s 0 = (ps s j).map (acc ++ ·)
theorem On.start (s : ByteArray) : On s 0 [] := ⟨Nat.zero_le _, Nat.zero_le _, by cases ps s 0 <;> rfl⟩
theorem On.bad {s : ByteArray} {j : Nat} {acc : List Pair} (h : On s j acc) (hp : pr s j = none) : ps s 0 = none := by rw [h.eq, ps_bad hp]; rfl
theorem On.odd {s : ByteArray} {j n : Nat} {p : Pair} {acc : List Pair} (h : On s j acc) (hp : pr s j = some (p, n)) (hn : j + n < s.size) (hb : bt s (j + n) = none) : ps s 0 = none := by rw [h.eq, ps_odd hp hn hb]; rfl
theorem On.last {s : ByteArray} {j n : Nat} {p : Pair} {acc : List Pair} (h : On s j acc) (hp : pr s j = some (p, n)) (hn : ¬ j + n < s.size) : ps s 0 = some (acc ++ [p]) := by rw [h.eq, ps_last hp hn]; rfl
theorem bt_le {s : ByteArray} {k m : Nat} (h : bt s k = some m) : k + m ≤ s.size := by
  unfold bt at h
  split at h
  · rename_i h1
    simp only [Option.some.injEq] at h
    have := runLen_le B.bla s (k + runLen B.bla s k + 1) (by omega)
    omega
  · cases h
theorem On.more {s : ByteArray} {j n m : Nat} {p : Pair} {acc : List Pair} (h : On s j acc) (hp : pr s j = some (p, n)) (hn : j + n < s.size) (hb : bt s (j + n) = some m) : On s (j + n + m) (acc ++ [p]) := by
  have hf := h.few
  have h1 := (pr_pos hp).2
  refine ⟨bt_le hb, by rw [List.length_append, List.length_cons, List.length_nil]; omega, ?_⟩
  rw [h.eq, ps_more hp hn hb]
  cases ps s (j + n + m) with
  | none => rfl
  | some a => simp
end Pm

set_option maxHeartbeats 1000000 in
theorem Parse_any (s : ByteArray) (w : World) (hs : s.size ≤ 100000) :
    Calls Try.prog 7 #[.string s] w (Rows_ (Pm.ps s 0) w) := by
  go_enter Try.func7, Try.ntmps7
  go_wp2_with fail
  refine (New_any s _).mono ?_
  rintro e w1 ⟨rfl, hw1⟩
  have hsc : IsScan (.pointer (some ⟨w.heap.size, 0, none⟩)) s 0 w1 := .inr ⟨_, rfl, by rw [hw1]; exact scn_new s w⟩
  have hz : w1.heap.size = w.heap.size + 1 := by rw [hw1]; simp
  have hb1 : Below w.heap.size w w1 := by rw [hw1]; exact (by repeat (first | with_reducible exact Below.refl _ _ | with_reducible assumption | (with_reducible refine Below.setCell ?_ ?_ _; rotate_left; · (simp <;> omega)) | (with_reducible refine Below.alloc ?_ ?_ _; rotate_left; · (simp <;> omega)) | with_reducible refine Below.drew ?_))
  have hat : PaAt s w 0 [] none 0 0 (w1.alloc (.cells #[.pointer (some ⟨w.heap.size, 0, none⟩)] 47)) := by
    have hb2 : Below w1.heap.size w1 (w1.alloc (.cells #[.pointer (some ⟨w.heap.size, 0, none⟩)] 47)) := (Below.refl _ _).alloc (Nat.le_refl _) _
    refine ⟨hsc.below hb2, ?_, OwnP.nil _ _, hb1.trans (hb2.mono (by omega)), ?_⟩
    · rw [← hz]; simp [go_sem]
    · simp
      omega
  have HAT := Lib.hid hat
  clear hw1 hsc hb1 hat
  go_wp2_with fail
  go_loopw [5] (fun el wr => ∃ (j : Nat) (acc : List Pair) (a : Option Addr) (n c : Nat), el = .slice a n c ∧ PaAt s w j acc a n c wr ∧ Pm.On s j acc) (fun _ wr => s.size - placeOf (.pointer (some ⟨w.heap.size, 0, none⟩)) wr)
  case atStart => exact ⟨0, [], none, 0, 0, rfl, HAT.out, Pm.On.start s⟩
  case round =>
    clear HAT
    obtain ⟨j, acc, a, n, c, rfl, hat, hon⟩ := hrel
    have box := hat.box
    have HA := Lib.hid hat
    have hpl := Lib.hid hat.scan.place_
    have HN := Lib.hid hon
    have hjle := hon.le
    have hfew := hon.few
    have hlen := hat.own.len
    clear hat hon
    cases hp : Pm.pr s j with
    | none =>
      have HP := Lib.hid hp
      have HE := Lib.hid (HN.out.bad hp)
      clear hp
      go_wp2_with fail
      refine (param_v _ s j _ HA.out.scan hs).mono ?_
      rintro e w2 ⟨nm, vl, j2, rfl, hs2, hk2, -⟩
      rw [HP.out]
      have HB := Lib.hid (HA.out.scan_ hs2 hk2).below
      clear hs2 hk2
      go_wp2_with fail
      go_ret2
      exact Rows_.bad HE.out rfl (HB.out.alloc HB.out.size _)
    | some x =>
      obtain ⟨p, m⟩ := x
      have HP := Lib.hid hp
      obtain ⟨-, hm2⟩ := Pm.pr_pos hp
      obtain ⟨-, -, hmle⟩ := Pm.pr_ok hp
      clear hp
      go_wp2_with fail
      refine (param_v _ s j _ HA.out.scan hs).mono ?_
      rintro e w2 ⟨nm, vl, j2, rfl, hs2, hk2, hn2⟩
      obtain ⟨h1, rfl⟩ := hn2 p m HP.out
      subst h1
      rw [HP.out]
      have HA2 := Lib.hid (HA.out.scan_ hs2 hk2)
      clear hs2 hk2 hn2 box HA
      go_wp2_with (at_builtin; refine wpList_append_param _ rfl _ _ rfl (w.heap.size + 2) _ _ _ rfl ((HA2.out.own.alloc _).alloc _) _ 1 (nm, vl) rfl ?c1 ?c2 ?c3 (by have := HA2.out.size; simp; omega) ?_)
      case c3 => omega
      intro a4 c4 w4 ho4 hg4 _
      have HA4 := Lib.hid (HA2.out.grow (Kept.grown (((Kept.refl _ w2).alloc _).alloc _) hg4 (fun k hk => .inl hk)) ho4)
      have box4 := HA4.out.box
      clear ho4 hg4 HA2
      by_cases hlt : j + m < s.size
      · have hd : Hid (decide (j + m = s.size) = false) := by show _ = _; rw [decide_eq_false_iff_not]; omega
        go_wp2_with fail
        refine (End_v _ s _ _ HA4.out.scan).mono ?_
        rintro e w5 ⟨rfl, q, rfl⟩
        rw [hd.out]
        have HA5 := Lib.hid (HA4.out.below_ (below_drewN _ _ q))
        have box5 := HA5.out.box
        clear HA4 box4
        cases hb : Pm.bt s (j + m) with
        | none =>
          have HE := Lib.hid (HN.out.odd HP.out hlt hb)
          have HB := Lib.hid hb
          clear hb
          go_wp2_with fail
          refine (between_v _ s _ _ HA5.out.scan hs).mono ?_
          rintro e w6 ⟨j6, rfl, hs6, hk6, -⟩
          rw [HB.out]
          have HB6 := Lib.hid (HA5.out.scan_ hs6 hk6).below
          clear hs6 hk6 HA5
          go_wp2_with fail
          go_ret2
          exact Rows_.bad HE.out rfl HB6.out
        | some q2 =>
          have HE := Lib.hid (HN.out.more HP.out hlt hb)
          have HB := Lib.hid hb
          clear hb
          go_wp2_with fail
          refine (between_v _ s _ _ HA5.out.scan hs).mono ?_
          rintro e w6 ⟨j6, rfl, hs6, hk6, hj6⟩
          obtain rfl := hj6 q2 HB.out
          rw [HB.out]
          have HA6 := Lib.hid (HA5.out.scan_ hs6 hk6)
          have hpl6 := Lib.hid HA6.out.scan.place_
          clear hs6 hk6 HA5 hj6
          go_wp2_with fail
          go_roundw
          case rel => exact ⟨_, _, _, _, _, rfl, HA6.out, HE.out⟩
          case measure => rw [hpl.out, hpl6.out]; omega
      · have hd : Hid (decide (j + m = s.size) = true) := by show _ = _; rw [decide_eq_true_eq]; omega
        have HE := Lib.hid (HN.out.last HP.out hlt)
        go_wp2_with fail
        refine (End_v _ s _ _ HA4.out.scan).mono ?_
        rintro e w5 ⟨rfl, q, rfl⟩
        rw [hd.out]
        have HA5 := Lib.hid (HA4.out.below_ (below_drewN _ _ q))
        clear HA4 box4
        go_wp2_with fail
        go_ret2
        exact Rows_.ok HE.out rfl HA5.out.own (by omega) HA5.out.below
end Go.Proofs.Ytjgjdcikeagibaa
