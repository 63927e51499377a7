/- Contracts and lemmas that the claim rests on: CmD. -/
import Derived.Test.YtjchcknmolffiaaDoorGCmC
import Derived.Test.YtjchcknmolffiaaDoorGTrimA
import Derived.Test.YtjchcknmolffiaaDoorGQuil
/- Split: its contract. -/
namespace Go.Proofs.YtjchcknmolffiaaDoor
open Go.RowKit

theorem own_base {w : World} {B B' : Nat} {e : TypeId} {z : Nat} {v : Value} {n : Nat} {xs : List Value} (h : w.ownsRow B e z v n xs) (hb : B' ≤ B) : w.ownsRow B' e z v n xs := by
  refine ⟨h.1, ?_⟩
  rcases h.2 with hv | ⟨g, c, cur, hv, h0, hr⟩
  · exact .inl hv
  · exact .inr ⟨g, c, cur, hv, Nat.le_trans hb h0, hr⟩
/-- A row of texts that a call has made, and whether it is right. -/
def Lists_ (o : Option (List ByteArray)) (w : World) (e : Ending) (w' : World) : Prop :=
  ∃ a n c, e = .returned (.tuple #[.slice a n c, .int .i64 (if o.isSome then 0 else 2)]) ∧ w'.ownsRow w.heap.size 9 1 (.slice a n c) n ((o.getD []).map Value.string) ∧ Below w.heap.size w w'
theorem Lists_.bad {o : Option (List ByteArray)} {w w' : World} {e : Ending} (h : o = none) (he : e = .returned (.tuple #[.slice none 0 0, .int .i64 2])) (hb : Below w.heap.size w w') : Lists_ o w e w' := by
  subst h
  exact ⟨none, 0, 0, he, World.ownsRow_nil _ _ _ _, hb⟩
theorem Lists_.ok {o : Option (List ByteArray)} {l : List ByteArray} {w w' : World} {e : Ending} {a : Option Addr} {n c B : Nat} (h : o = some l) (he : e = .returned (.tuple #[.slice a n c, .int .i64 0])) (ho : w'.ownsRow B 9 1 (.slice a n c) n (l.map Value.string)) (hB : w.heap.size ≤ B) (hb : Below w.heap.size w w') : Lists_ o w e w' := by
  subst h
  exact ⟨a, n, c, he, own_base ho hB, hb⟩

namespace Cm
theorem cut_take (s : ByteArray) (k n : Nat) : (s.extract k (k + n)).data.toList = (s.data.toList.drop k).take n := by
  rw [ByteArray.data_extract, Array.toList_extract, List.extract_eq_take_drop, Nat.add_sub_cancel_left]
/-- A part's element as a text. -/
def elB (m : ByteArray) : List ByteArray := (el m.data.toList).map Qd.accB
/-- A list's elements from k on, as texts. -/
def es (s : ByteArray) (k : Nat) : Option (List ByteArray) := (spl (s.data.toList.drop k)).map (List.map Qd.accB)
theorem es_bad (s : ByteArray) (k : Nat) (h : pc s k = none) : es s k = none := by unfold es; rw [spl_bad _ h]; rfl
theorem es_last (s : ByteArray) (k n : Nat) (h : pc s k = some n) (hn : ¬ k + n < s.size) : es s k = some (elB (s.extract k (k + n))) := by
  unfold es elB
  rw [spl_last _ n h (by simp; omega), cut_take]
  rfl
theorem es_more (s : ByteArray) (k n : Nat) (h : pc s k = some n) (hn : k + n < s.size) : es s k = (es s (k + n + 1)).map (elB (s.extract k (k + n)) ++ ·) := by
  unfold es elB
  rw [spl_more _ n h (by simp; omega), cut_take, List.drop_drop, Nat.add_assoc]
  cases spl (s.data.toList.drop (k + (n + 1))) with
  | none => rfl
  | some a => simp
theorem pc_stop (s : ByteArray) (k n : Nat) (hk : k ≤ s.size) (h : pc s k = some n) : k + n ≤ s.size ∧ (k + n < s.size → byteAt s (k + n) = 44) := by
  obtain ⟨p, -, hn, hd, hc⟩ := piece_form _ _ n (Nat.le_refl _) h
  have hl := congrArg List.length hd
  rw [List.length_append, ← hn] at hl
  simp at hl
  refine ⟨by omega, fun hlt => ?_⟩
  rw [List.drop_drop, Qd.drop_at s (k + n) hlt] at hc
  exact hc _ _ rfl
theorem elB_some (m : ByteArray) (h : (trimB [32, 9] m).toList.isEmpty = false) : elB m = [trimB [32, 9] m] := by
  have hne : trim m.data.toList ≠ [] := by
    intro e
    have e2 : (trimB [32, 9] m).toList = [] := by
      rw [ByteArray.toList_eq]
      show ((trim m.data.toList).toArray).toList = []
      rw [e]
    rw [e2] at h
    cases h
  unfold elB el
  rw [if_neg hne]
  rfl
theorem elB_none (m : ByteArray) (h : (trimB [32, 9] m).toList.isEmpty = true) : elB m = [] := by
  have he : trim m.data.toList = [] := by
    have e : (trimB [32, 9] m).toList = trim m.data.toList := by
      rw [ByteArray.toList_eq]
      rfl
    rw [e] at h
    simpa using h
  unfold elB el
  rw [if_pos he]
  rfl
theorem elB_len (m : ByteArray) : (elB m).length ≤ 1 := by
  unfold elB el
  split <;> simp
/-- The elements so far, ahead of j. -/
structure Sp (s : ByteArray) (j : Nat) (acc : List ByteArray) : Prop where
  le : j ≤ s.size
  few : acc.length ≤ j
  eq : es s 0 = (es s j).map (acc ++ ·)
theorem Sp.start (s : ByteArray) : Sp s 0 [] := ⟨Nat.zero_le _, Nat.zero_le _, by cases es s 0 <;> rfl⟩
theorem Sp.bad {s : ByteArray} {j : Nat} {acc : List ByteArray} (h : Sp s j acc) (hp : pc s j = none) : es s 0 = none := by rw [h.eq, es_bad s j hp]; rfl
theorem Sp.last {s : ByteArray} {j n : Nat} {acc : List ByteArray} (h : Sp s j acc) (hp : pc s j = some n) (hn : ¬ j + n < s.size) : es s 0 = some (acc ++ elB (s.extract j (j + n))) := by rw [h.eq, es_last s j n hp hn]; rfl
theorem Sp.more {s : ByteArray} {j n : Nat} {acc : List ByteArray} (h : Sp s j acc) (hp : pc s j = some n) (hn : j + n < s.size) : Sp s (j + n + 1) (acc ++ elB (s.extract j (j + n))) := by
  have hf := h.few
  have hl := elB_len (s.extract j (j + n))
  refine ⟨by omega, by rw [List.length_append]; omega, ?_⟩
  rw [h.eq, es_more s j n hp hn]
  cases es s (j + n + 1) with
  | none => rfl
  | some a => simp
end Cm

/-- Split at work: its scanner in the first block behind w, its own struct in the second; its row. -/
structure SpAt (s : ByteArray) (w : World) (j : Nat) (acc : List ByteArray) (a : Option Addr) (n c : Nat) (wr : World) : Prop where
  scan : IsScan (.pointer (some ⟨w.heap.size, 0, none⟩)) s j wr
  box : wr.cell? ⟨w.heap.size + 1, 0, none⟩ = some (.pointer (some ⟨w.heap.size, 0, none⟩))
  own : wr.ownsRow (w.heap.size + 2) 9 1 (.slice a n c) n (acc.map Value.string)
  below : Below w.heap.size w wr
  size : w.heap.size + 2 ≤ wr.heap.size
theorem SpAt.kept {P : Nat → Prop} {s : ByteArray} {w : World} {j j' : Nat} {acc : List ByteArray} {a : Option Addr} {n c : Nat} {wr w' : World} (h : SpAt s w j acc a n c wr) (hk : Kept P wr w') (hn : ∀ i, P i → i = w.heap.size) (hs : IsScan (.pointer (some ⟨w.heap.size, 0, none⟩)) s j' w') : SpAt s w j' acc a n c w' := by
  refine ⟨hs, hk.at_cell (lt_of_cell h.box) (fun e => by have := hn _ e; omega) h.box, own_kept h.own hk (fun k hk' e => by have h1 := hn _ e; have h2 := (h.own.lt k hk').1; omega), ?_, Nat.le_trans h.size hk.size⟩
  exact h.below.trans ((hk.mono (Q := fun k => w.heap.size ≤ k) (fun i _ hi => by rw [hn i hi]; exact Nat.le_refl _)).below (by have := h.size; omega))
theorem own_is {b i : Nat} (h : ownScan (.pointer (some ⟨b, 0, none⟩)) i) : i = b := by
  simp [ownScan] at h
  exact h.symm
theorem SpAt.scan_ {s : ByteArray} {w : World} {j j' : Nat} {acc : List ByteArray} {a : Option Addr} {n c : Nat} {wr w' : World} (h : SpAt s w j acc a n c wr) (hs : IsScan (.pointer (some ⟨w.heap.size, 0, none⟩)) s j' w') (hk : Kept (ownScan (.pointer (some ⟨w.heap.size, 0, none⟩))) wr w') : SpAt s w j' acc a n c w' := h.kept hk (fun _ hi => own_is hi) hs
theorem SpAt.below_ {s : ByteArray} {w : World} {j : Nat} {acc : List ByteArray} {a : Option Addr} {n c : Nat} {wr w' : World} (h : SpAt s w j acc a n c wr) (hb : Below wr.heap.size wr w') : SpAt s w j acc a n c w' := h.kept (P := fun _ => False) (Kept.of_below hb) (fun _ hi => hi.elim) (h.scan.below hb)
theorem SpAt.grow {s : ByteArray} {w : World} {j : Nat} {acc acc' : List ByteArray} {a a' : Option Addr} {n c n' c' : Nat} {wr w' : World} (h : SpAt s w j acc a n c wr) (hk : Kept (fun k => (Value.slice a n c).ownBlock = some k) wr w') (ho : w'.ownsRow (w.heap.size + 2) 9 1 (.slice a' n' c') n' (acc'.map Value.string)) : SpAt s w j acc' a' n' c' w' := by
  have hne : ∀ i, (Value.slice a n c).ownBlock = some i → w.heap.size + 2 ≤ i := fun i hi => (h.own.lt i hi).1
  refine ⟨h.scan.kept hk (fun i hi e => by have h1 := own_is hi; have h2 := hne i e; omega), hk.at_cell (lt_of_cell h.box) (fun e => by have := hne _ e; omega) h.box, ho, ?_, Nat.le_trans h.size hk.size⟩
  exact h.below.trans ((hk.mono (Q := fun k => w.heap.size ≤ k) (fun i _ hi => by have := hne i hi; omega)).below (by have := h.size; omega))
theorem SpAt.len {s : ByteArray} {w : World} {j : Nat} {acc : List ByteArray} {a : Option Addr} {n c : Nat} {wr : World} (h : SpAt s w j acc a n c wr) : acc.length = n := by have := h.own.1; simpa using this
theorem texts_snoc (acc : List ByteArray) (x : ByteArray) : acc.map Value.string ++ [.string x] = (acc ++ [x]).map Value.string := by simp

set_option maxHeartbeats 1000000 in
theorem Split_any (s : ByteArray) (w : World) (hs : s.size ≤ 100000) :
    Calls Tryd.prog 8 #[.string s] w (Lists_ (Cm.es s 0) w) := by
  have hm : s.size ≤ maxLen := by unfold maxLen; omega
  have HM := Lib.hid hm
  clear hm
  obtain ⟨i0, hi, hz0, hz1, hz2⟩ := info_parts info_string
  go_enter Tryd.func8, Tryd.ntmps8
  go_wp2_with fail
  refine (New_any s _).mono ?_
  rintro e w1 ⟨rfl, hw1⟩
  have hsc : IsScan (.pointer (some ⟨w.heap.size, 0, none⟩)) s 0 w1 := .inr ⟨_, rfl, by rw [hw1]; exact scn_new s w⟩
  have hz : w1.heap.size = w.heap.size + 1 := by rw [hw1]; simp
  have hb1 : Below w.heap.size w w1 := by rw [hw1]; exact (by repeat (first | with_reducible exact Below.refl _ _ | with_reducible assumption | (with_reducible refine Below.setCell ?_ ?_ _; rotate_left; · (simp <;> omega)) | (with_reducible refine Below.alloc ?_ ?_ _; rotate_left; · (simp <;> omega)) | with_reducible refine Below.drew ?_))
  have hat : SpAt s w 0 [] none 0 0 (w1.alloc (.cells #[.pointer (some ⟨w.heap.size, 0, none⟩)] 43)) := by
    have hb2 : Below w1.heap.size w1 (w1.alloc (.cells #[.pointer (some ⟨w.heap.size, 0, none⟩)] 43)) := (Below.refl _ _).alloc (Nat.le_refl _) _
    refine ⟨hsc.below hb2, ?_, World.ownsRow_nil _ _ _ _, hb1.trans (hb2.mono (by omega)), ?_⟩
    · rw [← hz]; simp [go_sem]
    · simp
      omega
  have HAT := Lib.hid hat
  clear hw1 hsc hb1 hat
  go_wp2_with fail
  go_loopw [5] (fun el wr => ∃ (j : Nat) (acc : List ByteArray) (a : Option Addr) (n c : Nat), el = .slice a n c ∧ SpAt s w j acc a n c wr ∧ Cm.Sp s j acc) (fun _ wr => s.size - placeOf (.pointer (some ⟨w.heap.size, 0, none⟩)) wr)
  case atStart => exact ⟨0, [], none, 0, 0, rfl, HAT.out, Cm.Sp.start s⟩
  case round =>
    clear HAT
    obtain ⟨j, acc, a, n, c, rfl, hat, hsp⟩ := hrel
    have box := hat.box
    have HA := Lib.hid hat
    have hpl := Lib.hid hat.scan.place_
    have HS := Lib.hid hsp
    have hjle := hsp.le
    have hfew := hsp.few
    have hlen := hat.len
    clear hat hsp
    cases hp : Cm.pc s j with
    | none =>
      have HP := Lib.hid hp
      have HE := Lib.hid (HS.out.bad hp)
      clear hp
      go_wp2_with fail
      refine (piece_v _ s j _ HA.out.scan hs).mono ?_
      rintro e w2 ⟨j2, m, hj2, hj3, rfl, hs2, hk2, -⟩
      rw [HP.out]
      have HB := Lib.hid (HA.out.scan_ hs2 hk2).below
      clear hs2 hk2
      go_wp2_with fail
      go_ret2
      exact Lists_.bad HE.out rfl HB.out
    | some x =>
      have HP := Lib.hid hp
      obtain ⟨hjx, hcm⟩ := Cm.pc_stop s j x hjle hp
      obtain ⟨m, hm⟩ : ∃ m, s.extract j (j + x) = m := ⟨_, rfl⟩
      have hmz : m.size ≤ 100000 := by rw [← hm, cut_size s j x hjx]; omega
      obtain ⟨X, hX⟩ : ∃ X, trimB [32, 9] m = X := ⟨_, rfl⟩
      have HX := Lib.hid hX
      have HMM := Lib.hid hm
      have HC := Lib.hid hcm
      clear hm hX hcm hp
      by_cases hlt : j + x < s.size
      · have HN : Hid (j + x < s.size ∧ byteAt s (j + x) = 44) := ⟨hlt, HC.out hlt⟩
        have he := HS.out.more HP.out hlt
        rw [HMM.out] at he
        cases hX : X.toList.isEmpty
        · have hel := Cm.elB_some m (by rw [HX.out]; exact hX)
          rw [HX.out] at hel
          rw [hel] at he
          have HE := Lib.hid he
          clear he hel
          go_wp2_with fail
          refine (piece_v _ s j _ HA.out.scan hs).mono ?_
          rintro e w2 ⟨j2, m2, hj2, hj3, rfl, hs2, hk2, hn2⟩
          obtain ⟨rfl, h2⟩ := hn2 x HP.out
          rw [HMM.out] at h2
          subst h2
          rw [HP.out]
          have HA2 := Lib.hid (HA.out.scan_ hs2 hk2)
          have box2 := HA2.out.box
          clear hs2 hk2 hn2 box HA
          go_wp2_with fail
          refine (Trim_any ⟨#[32, 9]⟩ m2 [32, 9] rfl (by decide) (by decide) _ hmz).mono ?_
          rintro e w3 ⟨rfl, hb3⟩
          rw [HX.out]
          have HA3 := Lib.hid (HA2.out.below_ hb3)
          have box3 := HA3.out.box
          clear hb3 box2 HA2
          go_wp2_with (at_builtin; refine wpList_append_own _ rfl _ _ 22 rfl (w.heap.size + 2) 9 i0 _ 1 16 Tryd.underlying22 hi hz0 hz1 hz2 rfl (by omega) _ _ _ rfl (World.ownsRow.alloc (w := w3) HA3.out.own _) ⟨w3.heap.size, 0, none⟩ 1 1 [.string X] rfl rfl ?c1 ?c2 ?c3 ?c4 (by have := HA3.out.size; simp; omega) ?_)
          case c1 => intro j u hj; rcases j with _ | j <;> simp at hj; subst hj; simp [go_sem]
          case c2 => intro u hu; simp at hu; subst hu; rfl
          case c3 => unfold maxLen; omega
          case c4 => omega
          intro v4 w4 ho4 hg4 _
          obtain ⟨a4, c4, rfl, _⟩ := own_form ho4
          rw [texts_snoc] at ho4
          have HA4 := Lib.hid (HA3.out.grow (Kept.grown ((Kept.refl _ w3).alloc _) hg4 (fun k hk => .inl hk)) ho4)
          have box4 := HA4.out.box
          clear ho4 hg4 box3 HA3
          go_wp2_with fail
          refine (Byte_yes _ s (j + x) 44 _ HA4.out.scan HM.out HN.out.1 HN.out.2).mono ?_
          rintro e w5 ⟨rfl, hs5, hk5⟩
          have HA5 := Lib.hid (HA4.out.scan_ hs5 hk5)
          have hpl5 := Lib.hid HA5.out.scan.place_
          clear hs5 hk5
          go_wp2_with fail
          go_roundw
          case rel => exact ⟨_, _, _, _, _, rfl, HA5.out, HE.out⟩
          case measure => rw [hpl.out, hpl5.out]; omega
        · have hel := Cm.elB_none m (by rw [HX.out]; exact hX)
          rw [hel, List.append_nil] at he
          have HE := Lib.hid he
          clear he hel
          go_wp2_with fail
          refine (piece_v _ s j _ HA.out.scan hs).mono ?_
          rintro e w2 ⟨j2, m2, hj2, hj3, rfl, hs2, hk2, hn2⟩
          obtain ⟨rfl, h2⟩ := hn2 x HP.out
          rw [HMM.out] at h2
          subst h2
          rw [HP.out]
          have HA2 := Lib.hid (HA.out.scan_ hs2 hk2)
          have box2 := HA2.out.box
          clear hs2 hk2 hn2 box HA
          go_wp2_with fail
          refine (Trim_any ⟨#[32, 9]⟩ m2 [32, 9] rfl (by decide) (by decide) _ hmz).mono ?_
          rintro e w3 ⟨rfl, hb3⟩
          rw [HX.out]
          have HA3 := Lib.hid (HA2.out.below_ hb3)
          have box3 := HA3.out.box
          clear hb3 box2 HA2
          go_wp2_with fail
          refine (Byte_yes _ s (j + x) 44 _ HA3.out.scan HM.out HN.out.1 HN.out.2).mono ?_
          rintro e w5 ⟨rfl, hs5, hk5⟩
          have HA5 := Lib.hid (HA3.out.scan_ hs5 hk5)
          have hpl5 := Lib.hid HA5.out.scan.place_
          clear hs5 hk5
          go_wp2_with fail
          go_roundw
          case rel => exact ⟨_, _, _, _, _, rfl, HA5.out, HE.out⟩
          case measure => rw [hpl.out, hpl5.out]; omega
      · have HN : Hid (¬ (j + x < s.size ∧ byteAt s (j + x) = 44)) := fun h => hlt h.1
        have he := HS.out.last HP.out hlt
        rw [HMM.out] at he
        cases hX : X.toList.isEmpty
        · have hel := Cm.elB_some m (by rw [HX.out]; exact hX)
          rw [HX.out] at hel
          rw [hel] at he
          have HE := Lib.hid he
          clear he hel
          go_wp2_with fail
          refine (piece_v _ s j _ HA.out.scan hs).mono ?_
          rintro e w2 ⟨j2, m2, hj2, hj3, rfl, hs2, hk2, hn2⟩
          obtain ⟨rfl, h2⟩ := hn2 x HP.out
          rw [HMM.out] at h2
          subst h2
          rw [HP.out]
          have HA2 := Lib.hid (HA.out.scan_ hs2 hk2)
          have box2 := HA2.out.box
          clear hs2 hk2 hn2 box HA
          go_wp2_with fail
          refine (Trim_any ⟨#[32, 9]⟩ m2 [32, 9] rfl (by decide) (by decide) _ hmz).mono ?_
          rintro e w3 ⟨rfl, hb3⟩
          rw [HX.out]
          have HA3 := Lib.hid (HA2.out.below_ hb3)
          have box3 := HA3.out.box
          clear hb3 box2 HA2
          go_wp2_with (at_builtin; refine wpList_append_own _ rfl _ _ 22 rfl (w.heap.size + 2) 9 i0 _ 1 16 Tryd.underlying22 hi hz0 hz1 hz2 rfl (by omega) _ _ _ rfl (World.ownsRow.alloc (w := w3) HA3.out.own _) ⟨w3.heap.size, 0, none⟩ 1 1 [.string X] rfl rfl ?c1 ?c2 ?c3 ?c4 (by have := HA3.out.size; simp; omega) ?_)
          case c1 => intro j u hj; rcases j with _ | j <;> simp at hj; subst hj; simp [go_sem]
          case c2 => intro u hu; simp at hu; subst hu; rfl
          case c3 => unfold maxLen; omega
          case c4 => omega
          intro v4 w4 ho4 hg4 _
          obtain ⟨a4, c4, rfl, _⟩ := own_form ho4
          rw [texts_snoc] at ho4
          have HA4 := Lib.hid (HA3.out.grow (Kept.grown ((Kept.refl _ w3).alloc _) hg4 (fun k hk => .inl hk)) ho4)
          have box4 := HA4.out.box
          clear ho4 hg4 box3 HA3
          go_wp2_with fail
          refine (Byte_no _ s (j + x) 44 _ HA4.out.scan HM.out HN.out).mono ?_
          rintro e w5 ⟨rfl, hs5, hk5⟩
          have HA5 := Lib.hid (HA4.out.scan_ hs5 hk5)
          clear hs5 hk5
          go_wp2_with fail
          go_ret2
          exact Lists_.ok HE.out rfl HA5.out.own (by omega) HA5.out.below
        · have hel := Cm.elB_none m (by rw [HX.out]; exact hX)
          rw [hel, List.append_nil] at he
          have HE := Lib.hid he
          clear he hel
          go_wp2_with fail
          refine (piece_v _ s j _ HA.out.scan hs).mono ?_
          rintro e w2 ⟨j2, m2, hj2, hj3, rfl, hs2, hk2, hn2⟩
          obtain ⟨rfl, h2⟩ := hn2 x HP.out
          rw [HMM.out] at h2
          subst h2
          rw [HP.out]
          have HA2 := Lib.hid (HA.out.scan_ hs2 hk2)
          have box2 := HA2.out.box
          clear hs2 hk2 hn2 box HA
          go_wp2_with fail
          refine (Trim_any ⟨#[32, 9]⟩ m2 [32, 9] rfl (by decide) (by decide) _ hmz).mono ?_
          rintro e w3 ⟨rfl, hb3⟩
          rw [HX.out]
          have HA3 := Lib.hid (HA2.out.below_ hb3)
          have box3 := HA3.out.box
          clear hb3 box2 HA2
          go_wp2_with fail
          refine (Byte_no _ s (j + x) 44 _ HA3.out.scan HM.out HN.out).mono ?_
          rintro e w5 ⟨rfl, hs5, hk5⟩
          have HA5 := Lib.hid (HA3.out.scan_ hs5 hk5)
          clear hs5 hk5
          go_wp2_with fail
          go_ret2
          exact Lists_.ok HE.out rfl HA5.out.own (by omega) HA5.out.below
end Go.Proofs.YtjchcknmolffiaaDoor
