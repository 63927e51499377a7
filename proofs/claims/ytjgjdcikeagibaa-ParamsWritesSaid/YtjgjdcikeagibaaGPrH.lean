/- Contracts and lemmas that the claim rests on: PrH. -/
import Derived.Test.YtjgjdcikeagibaaGPrG
/- The document's Place and Same; Set of the program: contracts. -/
namespace Go.Proofs.Ytjgjdcikeagibaa
open Go.RowKit

set_option maxHeartbeats 1000000 in
theorem R7Place_any (t : ByteArray) (a : Option Addr) (len cp : Nat) (l : List Pair) (w : World) (hz : IsParams w a len l) (hl : len ≤ 1000) (hp : ∀ p ∈ l, p.1.size ≤ 1000 ∧ p.2.size ≤ 1000) (ht : t.size ≤ 1000) :
    Calls Try.prog 14 #[.slice a len cp, .string t, .int .i64 0] w fun e w' => e = .returned (.int .i64 (Pm.plc t l)) ∧ ∃ n, w' = w.drewN n := by
  have HZ := Lib.hid hz
  have HPP := Lib.hid hp
  clear hz hp
  obtain ⟨F, hF⟩ : ∃ F, B.foldS t = F := ⟨_, rfl⟩
  have HF := Lib.hid hF
  clear hF
  go_enter Try.func14, Try.ntmps14
  go_wp2_with fail
  go_loopw [7] (fun i wr => ∃ k : Nat, k ≤ len ∧ i = .int .i64 k ∧ (l.take k).any (Pm.sm t) = false ∧ ∃ n, wr = w.drewN n) (fun i _ => len - (intOf i).toNat)
  case atStart => exact ⟨0, Nat.zero_le _, rfl, rfl, 0, rfl⟩
  case round =>
    obtain ⟨k, hk, rfl, hno, n, rfl⟩ := hrel
    have HNO := Lib.hid hno
    clear hno
    by_cases hlt : k < len
    · have hkl : k < l.length := by rw [HZ.out.1]; exact hlt
      rcases HZ.out.2 with ⟨rfl, rfl⟩ | ⟨x, rfl, hxl, hcells⟩
      · omega
      obtain ⟨d0, d1⟩ := hcells k hlt
      obtain ⟨p, hpk⟩ : ∃ p, at_ l k = p := ⟨_, rfl⟩
      obtain ⟨nm, vl⟩ := p
      have hsz := HPP.out _ (at_mem l k hkl)
      rw [hpk] at d0 d1 hsz
      clear hcells
      have hsm := Pm.sm_yes (p := (nm, vl)) HF.out
      obtain ⟨G, hG⟩ : ∃ G, B.foldS nm = G := ⟨_, rfl⟩
      have hsm' : (G.toList == F.toList) = Pm.sm t (nm, vl) := by rw [← hG]; exact hsm
      have HG := Lib.hid hG
      clear hsm hG
      cases hs : Pm.sm t (nm, vl)
      · have HN := Lib.hid (Pm.none_next hkl HNO.out (by rw [hpk]; exact hs))
        rw [hs] at hsm'
        clear hs hpk
        go_wp2_with fail
        refine (RFold_any nm _ (by omega)).mono ?_
        rintro e w2 ⟨rfl, n2, rfl⟩
        rw [HG.out]
        go_wp2_with fail
        refine (RFold_any t _ (by omega)).mono ?_
        rintro e w2 ⟨rfl, n3, rfl⟩
        rw [HF.out]
        go_wp2_with fail
        go_roundw
        case rel => exact ⟨k + 1, by omega, by go_num, HN.out, n + n2 + n3, rfl⟩
        case measure => simp [intOf]; omega
      · have HR := Lib.hid (Pm.plc_at hkl HNO.out (by rw [hpk]; exact hs))
        rw [hs] at hsm'
        clear hs hpk
        go_wp2_with fail
        refine (RFold_any nm _ (by omega)).mono ?_
        rintro e w2 ⟨rfl, n2, rfl⟩
        rw [HG.out]
        go_wp2_with fail
        refine (RFold_any t _ (by omega)).mono ?_
        rintro e w2 ⟨rfl, n3, rfl⟩
        rw [HF.out]
        go_wp2_with fail
        go_ret
        rw [HR.out]
        exact ⟨rfl, n + n2 + n3, rfl⟩
    · have HR := Lib.hid (Pm.plc_end (by rw [HZ.out.1]; exact hlt) HNO.out)
      go_wp2_with fail
      go_ret
      rw [HR.out]
      exact ⟨rfl, n, rfl⟩

namespace Pm
/-- A row in which a name has a value: the first one gets it (unless one had it before), further ones go. -/
def stl (t v : ByteArray) : Bool → List Pair → List Pair
  | _, [] => []
  | f, p :: r => if sm t p then (if f then stl t v true r else (p.1, v) :: stl t v true r) else p :: stl t v f r
def setR (t v : ByteArray) (l : List Pair) : List Pair := if l.any (sm t) then stl t v false l else l ++ [(t, v)]
theorem stl_snoc (t v : ByteArray) : ∀ (f : Bool) (l : List Pair) (p : Pair), stl t v f (l ++ [p]) = stl t v f l ++ (if sm t p then (if f || l.any (sm t) then [] else [(p.1, v)]) else [p])
  | f, [], p => by
    unfold stl
    show stl t v f [p] = _
    unfold stl
    cases sm t p <;> cases f <;> rfl
  | f, q :: r, p => by
    have h1 := stl_snoc t v true r p
    have h2 := stl_snoc t v f r p
    show stl t v f (q :: (r ++ [p])) = _
    conv => lhs; unfold stl
    conv => rhs; unfold stl
    rw [h1, h2, List.any_cons]
    cases sm t q <;> cases f <;> simp <;> try rfl
theorem stl_none (t v : ByteArray) : ∀ (f : Bool) (l : List Pair), l.any (sm t) = false → stl t v f l = l
  | _, [], _ => rfl
  | f, p :: r, h => by
    rw [List.any_cons, Bool.or_eq_false_iff] at h
    unfold stl
    rw [h.1, stl_none t v f r h.2]
    rfl
theorem stl_len (t v : ByteArray) : ∀ (f : Bool) (l : List Pair), (stl t v f l).length ≤ l.length
  | _, [] => Nat.le_refl _
  | f, p :: r => by
    have h1 := stl_len t v true r
    have h2 := stl_len t v f r
    unfold stl
    rw [List.length_cons]
    split
    · split
      · omega
      · rw [List.length_cons]; omega
    · rw [List.length_cons]; omega
theorem stl_mem (t v : ByteArray) (Q : Pair → Prop) (hv : ∀ p, Q p → Q (p.1, v)) : ∀ (f : Bool) (l : List Pair), (∀ p ∈ l, Q p) → ∀ p ∈ stl t v f l, Q p
  | _, [], _, p, hp => by cases hp
  | f, q :: r, h, p, hp => by
    have h1 := stl_mem t v Q hv true r (fun p hp => h p (List.mem_cons_of_mem _ hp))
    have h2 := stl_mem t v Q hv f r (fun p hp => h p (List.mem_cons_of_mem _ hp))
    have h0 := h q (List.mem_cons_self ..)
    unfold stl at hp
    split at hp
    · split at hp
      · exact h1 p hp
      · rcases List.mem_cons.1 hp with rfl | hp
        · exact hv q h0
        · exact h1 p hp
    · rcases List.mem_cons.1 hp with rfl | hp
      · exact h0
      · exact h2 p hp
theorem setR_len (t v : ByteArray) (l : List Pair) : (setR t v l).length ≤ l.length + 1 := by
  unfold setR
  split
  · have := stl_len t v false l; omega
  · simp
theorem setR_size (t v : ByteArray) (l : List Pair) (ht : t.size ≤ 1000) (hv : v.size ≤ 1000) (h : ∀ p ∈ l, p.1.size ≤ 1000 ∧ p.2.size ≤ 1000) : ∀ p ∈ setR t v l, p.1.size ≤ 1000 ∧ p.2.size ≤ 1000 := by
  unfold setR
  split
  · exact stl_mem t v (fun p => p.1.size ≤ 1000 ∧ p.2.size ≤ 1000) (fun p hp => ⟨hp.1, hv⟩) false l h
  · intro p hp
    rcases List.mem_append.1 hp with hp | hp
    · exact h p hp
    · rw [List.mem_singleton] at hp
      subst hp
      exact ⟨ht, hv⟩
theorem stl_got (t v : ByteArray) : ∀ l : List Pair, l.any (sm t) = true → ∃ n, got t (stl t v false l) = some (n, v)
  | [], h => by cases h
  | p :: r, h => by
    unfold stl
    cases hs : sm t p
    · rw [List.any_cons, hs, Bool.false_or] at h
      obtain ⟨n, hn⟩ := stl_got t v r h
      refine ⟨n, ?_⟩
      show got t (p :: stl t v false r) = _
      unfold got at hn ⊢
      rw [List.find?_cons_of_neg (by rw [hs]; simp)]
      exact hn
    · refine ⟨p.1, ?_⟩
      show got t ((p.1, v) :: stl t v true r) = _
      unfold got
      rw [List.find?_cons_of_pos (show sm t (p.1, v) = true from hs)]
theorem setR_got (t v : ByteArray) (l : List Pair) : gV t (setR t v l) = v ∧ (got t (setR t v l)).isSome = true := by
  have h : ∃ n, got t (setR t v l) = some (n, v) := by
    unfold setR
    cases ha : l.any (sm t)
    · refine ⟨t, ?_⟩
      show got t (l ++ [(t, v)]) = _
      rw [List.any_eq_false] at ha
      unfold got
      rw [List.find?_append, List.find?_eq_none.2 (fun x hx => by have := ha x hx; exact this), List.find?_cons_of_pos (by unfold sm sameS; simp)]
      rfl
    · exact stl_got t v l ha
  obtain ⟨n, hn⟩ := h
  unfold gV
  rw [hn]
  exact ⟨rfl, rfl⟩
/-- The steps of a loop that makes the row. -/
theorem stl_other {t v : ByteArray} {l : List Pair} {k : Nat} (hk : k < l.length) (h : sm t (at_ l k) = false) : stl t v false (l.take k) ++ [at_ l k] = stl t v false (l.take (k + 1)) ∧ (l.take (k + 1)).any (sm t) = (l.take k).any (sm t) := by
  rw [← at_take l k hk, stl_snoc, h, List.any_append]
  simp [h]
theorem stl_first {t v : ByteArray} {l : List Pair} {k : Nat} (hk : k < l.length) (h : sm t (at_ l k) = true) (h0 : (l.take k).any (sm t) = false) : stl t v false (l.take k) ++ [((at_ l k).1, v)] = stl t v false (l.take (k + 1)) ∧ (l.take (k + 1)).any (sm t) = true := by
  rw [← at_take l k hk, stl_snoc, h, List.any_append, h0]
  simp [h]
theorem stl_again {t v : ByteArray} {l : List Pair} {k : Nat} (hk : k < l.length) (h : sm t (at_ l k) = true) (h0 : (l.take k).any (sm t) = true) : stl t v false (l.take k) = stl t v false (l.take (k + 1)) ∧ (l.take (k + 1)).any (sm t) = true := by
  rw [← at_take l k hk, stl_snoc, h, List.any_append, h0]
  simp
theorem setR_yes {t v : ByteArray} {l : List Pair} {k : Nat} (hk : ¬ k < l.length) (h : (l.take k).any (sm t) = true) : stl t v false (l.take k) = setR t v l := by
  rw [List.take_of_length_le (by omega)] at h ⊢
  unfold setR
  rw [h]; rfl
theorem setR_no {t v : ByteArray} {l : List Pair} {k : Nat} (hk : ¬ k < l.length) (h : (l.take k).any (sm t) = false) : stl t v false (l.take k) ++ [(t, v)] = setR t v l := by
  rw [List.take_of_length_le (by omega)] at h ⊢
  unfold setR
  rw [h, stl_none t v false l h]; rfl
end Pm

/-- Set at work: its closure's cell in block b; its row, made behind w1. -/
structure SetIn (w w1 : World) (b : Nat) (F : ByteArray) (acc : List Pair) (a : Option Addr) (n c : Nat) (wr : World) : Prop where
  own : OwnP wr w1.heap.size (.slice a n c) n acc
  cell : wr.cell? ⟨b, 0, none⟩ = some (.string F)
  below : Below w.heap.size w wr
  lt : b < w1.heap.size
  le : w.heap.size ≤ w1.heap.size
  size : w1.heap.size ≤ wr.heap.size
theorem SetIn.below_ {w w1 : World} {b : Nat} {F : ByteArray} {acc : List Pair} {a : Option Addr} {n c : Nat} {wr w' : World} (h : SetIn w w1 b F acc a n c wr) (hb : Below wr.heap.size wr w') : SetIn w w1 b F acc a n c w' :=
  ⟨h.own.below hb, below_cell hb (lt_of_cell h.cell) h.cell, below_then h.below hb, h.lt, h.le, Nat.le_trans h.size hb.size⟩
theorem SetIn.grow {w w1 : World} {b : Nat} {F : ByteArray} {acc acc' : List Pair} {a a' : Option Addr} {n n' c c' : Nat} {wr w' : World} (h : SetIn w w1 b F acc a n c wr) (o : Obj) (hg : (wr.alloc o).grownBy w' (Value.slice a n c).ownBlock)
    (ho : OwnP w' w1.heap.size (.slice a' n' c') n' acc') : SetIn w w1 b F acc' a' n' c' w' := by
  have hk : Kept (fun k => (Value.slice a n c).ownBlock = some k) wr w' := Kept.grown ((Kept.refl _ wr).alloc o) hg (fun k hk => .inl hk)
  have hlt := h.lt
  refine ⟨ho, hk.at_cell (lt_of_cell h.cell) (fun e => by have := (World.ownsRow.lt h.own _ e).1; omega) h.cell, h.own.grown h.le h.below o hg, h.lt, h.le, Nat.le_trans h.size hk.size⟩
/-- A row that a call has made. -/
def Made_ (l : List Pair) (w : World) (e : Ending) (w' : World) : Prop :=
  ∃ a n c, e = .returned (.slice a n c) ∧ OwnP w' w.heap.size (.slice a n c) n l ∧ Below w.heap.size w w'

set_option maxHeartbeats 1000000 in
theorem Set7_any (t v : ByteArray) (a : Option Addr) (len cp : Nat) (l : List Pair) (w : World) (hz : IsParams w a len l) (hl : len ≤ 1000) (hp : ∀ p ∈ l, p.1.size ≤ 1000 ∧ p.2.size ≤ 1000) (ht : t.size ≤ 1000) :
    Calls Try.prog 15 #[.slice a len cp, .string t, .string v] w (Made_ (Pm.setR t v l) w) := by
  have HZ := Lib.hid hz
  have HPP := Lib.hid hp
  clear hz hp
  obtain ⟨F, hF⟩ : ∃ F, B.foldS t = F := ⟨_, rfl⟩
  have HF := Lib.hid hF
  clear hF
  obtain ⟨i0, hi, hz0, hz1, hz2⟩ := info_parts info_param
  go_enter Try.func15, Try.ntmps15
  go_wp2_with fail
  refine (named_any t _ (by omega)).mono ?_
  rintro e w1 ⟨b, rfl, hbw, hcb, hb1⟩
  rw [HF.out] at hcb
  have hblt : b < w1.heap.size := lt_of_cell hcb
  have HB1 := Lib.hid hb1
  have HCB := Lib.hid hcb
  clear hb1 hcb hbw
  go_wp2_with (refine wpList_make_own _ rfl _ _ 23 rfl w1.heap.size 41 i0 _ 2 Try.underlying23 hi hz0 hz1 .i64 .i64 _ (len + 1) rfl rfl (by omega) (by rw [hz2]; omega) (by unfold maxLen; omega) (Nat.le_refl _) ?_)
  intro w2 ho2 hg2
  have hb2 : Below w1.heap.size w1 w2 := (Kept.grown (Kept.refl (fun k => w1.heap.size ≤ k) w1) hg2 (fun k hk => by cases hk)).below (Nat.le_refl _)
  have HI2 : Hid (SetIn w w1 b F [] (some ⟨w1.heap.size, 0, none⟩) 0 (len + 1) w2) := ⟨ho2, below_cell hb2 hblt HCB.out, below_then HB1.out hb2, hblt, HB1.out.size, hb2.size⟩
  clear ho2 hg2 hb2 HB1 HCB
  go_wp2_with fail
  go_loopw [8, 9, 20] (fun row fd i wr => ∃ (k : Nat) (a1 : Option Addr) (n1 c1 : Nat), k ≤ len ∧ i = .int .i64 k ∧ row = .slice a1 n1 c1 ∧ fd = .bool ((l.take k).any (Pm.sm t)) ∧ SetIn w w1 b F (Pm.stl t v false (l.take k)) a1 n1 c1 wr) (fun _ _ i _ => len - (intOf i).toNat)
  case atStart => exact ⟨0, _, _, _, Nat.zero_le _, rfl, rfl, rfl, HI2.out⟩
  case round =>
    clear HI2
    obtain ⟨k, a1, n1, c1, hk, rfl, rfl, rfl, hin⟩ := hrel
    have HI := Lib.hid hin
    have hn1 : n1 ≤ k := by
      have h1 := hin.own.len
      have h2 := Pm.stl_len t v false (l.take k)
      have h3 : (l.take k).length ≤ k := by rw [List.length_take]; omega
      omega
    clear hin
    by_cases hlt : k < len
    · have hkl : k < l.length := by rw [HZ.out.1]; exact hlt
      rcases (HZ.out.below HI.out.below).2 with ⟨rfl, rfl⟩ | ⟨x, rfl, hxl, hcells⟩
      · omega
      obtain ⟨d0, d1⟩ := hcells k hlt
      obtain ⟨p, hpk⟩ : ∃ p, at_ l k = p := ⟨_, rfl⟩
      obtain ⟨nm, vl⟩ := p
      have hsz := HPP.out _ (at_mem l k hkl)
      rw [hpk] at d0 d1 hsz
      clear hcells
      have HS := Lib.hid (Pm.sm_yes (p := (nm, vl)) HF.out)
      have hbr : b < wr.heap.size := lt_of_cell HI.out.cell
      obtain ⟨fd, hfd⟩ : ∃ fd, (l.take k).any (Pm.sm t) = fd := ⟨_, rfl⟩
      rw [hfd]
      cases hs : Pm.sm t (nm, vl)
      · have hst := Pm.stl_other (v := v) hkl (by rw [hpk]; exact hs)
        rw [hfd, hpk] at hst
        have HST := Lib.hid hst
        have HSS := Lib.hid hs
        clear hs hpk hst hfd
        go_wp2_with fail
        refine (named1_any nm vl F b _ ?hc1 (by omega)).mono ?_
        case hc1 => exact below_cell ((Below.refl _ _).alloc (Nat.le_refl _) _) hbr HI.out.cell
        rintro e w3 ⟨rfl, hb3⟩
        rw [HS.out, HSS.out]
        have HI3 := Lib.hid (HI.out.below_ (((Below.refl _ _).alloc (Nat.le_refl _) _).trans (hb3.mono (by simp))))
        have c2 := below_cell hb3 (b := wr.heap.size) (i := 0) (x := some (.string nm)) (by simp) (by simp [go_sem])
        have c3 := below_cell hb3 (b := wr.heap.size) (i := 1) (x := some (.string vl)) (by simp) (by simp [go_sem])
        clear hb3 HI
        go_wp2_with (at_builtin; refine wpList_append_param _ rfl _ _ rfl w1.heap.size _ _ _ rfl (HI3.out.own.alloc _) _ 1 (nm, vl) rfl (by simp [go_sem]) (by simp [go_sem]) (by omega) (by have := HI3.out.size; simp; omega) ?_)
        intro a4 c4 w4 ho4 hg4 _
        have HI4 := Lib.hid (HI3.out.grow _ hg4 ho4)
        rw [HST.out.1] at HI4
        clear ho4 hg4 HI3
        go_wp2_with fail
        go_roundw
        case rel => exact ⟨k + 1, _, _, _, by omega, by go_num, rfl, by rw [HST.out.2], HI4.out⟩
        case measure => simp [intOf]; omega
      · cases fd
        · have hst := Pm.stl_first (v := v) hkl (by rw [hpk]; exact hs) hfd
          rw [hpk] at hst
          have HST := Lib.hid hst
          have HSS := Lib.hid hs
          clear hs hpk hst hfd
          go_wp2_with fail
          refine (named1_any nm vl F b _ ?hc2 (by omega)).mono ?_
          case hc2 => exact below_cell ((Below.refl _ _).alloc (Nat.le_refl _) _) hbr HI.out.cell
          rintro e w3 ⟨rfl, hb3⟩
          rw [HS.out, HSS.out]
          have HI3 := Lib.hid (HI.out.below_ (((Below.refl _ _).alloc (Nat.le_refl _) _).trans (hb3.mono (by simp))))
          have c2 := below_cell hb3 (b := wr.heap.size) (i := 0) (x := some (.string nm)) (by simp) (by simp [go_sem])
          clear hb3 HI
          go_wp2_with (at_builtin; refine wpList_append_param _ rfl _ _ rfl w1.heap.size _ _ _ rfl (HI3.out.own.alloc _) _ 1 (nm, v) rfl (by simp [go_sem]) (by simp [go_sem]) (by omega) (by have := HI3.out.size; simp; omega) ?_)
          intro a4 c4 w4 ho4 hg4 _
          have HI4 := Lib.hid (HI3.out.grow _ hg4 ho4)
          rw [HST.out.1] at HI4
          clear ho4 hg4 HI3
          go_wp2_with fail
          go_roundw
          case rel => exact ⟨k + 1, _, _, _, by omega, by go_num, rfl, by rw [HST.out.2], HI4.out⟩
          case measure => simp [intOf]; omega
        · have hst := Pm.stl_again (v := v) hkl (by rw [hpk]; exact hs) hfd
          have HST := Lib.hid hst
          have HSS := Lib.hid hs
          clear hs hpk hst hfd
          go_wp2_with fail
          refine (named1_any nm vl F b _ ?hc3 (by omega)).mono ?_
          case hc3 => exact below_cell ((Below.refl _ _).alloc (Nat.le_refl _) _) hbr HI.out.cell
          rintro e w3 ⟨rfl, hb3⟩
          rw [HS.out, HSS.out]
          have HI3 := Lib.hid (HI.out.below_ (((Below.refl _ _).alloc (Nat.le_refl _) _).trans (hb3.mono (by simp))))
          rw [HST.out.1] at HI3
          clear hb3 HI
          go_wp2_with fail
          go_roundw
          case rel => exact ⟨k + 1, _, _, _, by omega, by go_num, rfl, by rw [HST.out.2], HI3.out⟩
          case measure => simp [intOf]; omega
    · have hkl : ¬ k < l.length := by rw [HZ.out.1]; exact hlt
      obtain ⟨fd, hfd⟩ : ∃ fd, (l.take k).any (Pm.sm t) = fd := ⟨_, rfl⟩
      rw [hfd]
      cases fd
      · have HR := Lib.hid (Pm.setR_no (v := v) hkl hfd)
        clear hfd
        go_wp2_with (at_builtin; refine wpList_append_param _ rfl _ _ rfl w1.heap.size _ _ _ rfl (HI.out.own.alloc _) _ 1 (t, v) rfl (by simp [go_sem]) (by simp [go_sem]) (by omega) (by have := HI.out.size; simp; omega) ?_)
        intro a4 c4 w4 ho4 hg4 _
        have HI4 := Lib.hid (HI.out.grow _ hg4 ho4)
        rw [HR.out] at HI4
        clear ho4 hg4 HI
        go_wp2_with fail
        go_ret
        exact ⟨_, _, _, rfl, HI4.out.own.base_ HI4.out.le, HI4.out.below⟩
      · have HR := Lib.hid (Pm.setR_yes (v := v) hkl hfd)
        rw [HR.out] at HI
        clear hfd
        go_wp2_with fail
        go_ret
        exact ⟨_, _, _, rfl, HI.out.own.base_ HI.out.le, HI.out.below⟩
end Go.Proofs.Ytjgjdcikeagibaa
