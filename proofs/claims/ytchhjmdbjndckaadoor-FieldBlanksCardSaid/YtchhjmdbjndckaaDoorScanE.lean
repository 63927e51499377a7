/- The scanner's While, Token, Blanks: contracts. -/
import Derived.Test.YtchhjmdbjndckaaDoorScanD
namespace Go.Proofs.YtchhjmdbjndckaaDoor
open Go.RowKit

theorem enters_While1 (args : Array Value) (w : World) : (callFunc 59 args).run Tryd.prog w = .ok (.enter 59 args) w := by
  exact enters_of Tryd.func59 (by kernel_rfl) rfl args w

/-- What All keeps while it asks for While: the closure's cells, its own cell, and what the caller keeps. -/
structure Asking (S : Nat → Prop) (Inv : List UInt8 → World → Prop) (p : List UInt8 → UInt8 → Bool) (f : Value) (rs : ByteArray) (w : World) (pre : List UInt8) (W : World) : Prop where
  kept : Kept S w W
  size : w.heap.size + 4 ≤ W.heap.size
  c0 : W.cell? ⟨w.heap.size, 0, none⟩ = some f
  c1 : W.cell? ⟨w.heap.size + 1, 0, none⟩ = some (.int .i64 (cnt p pre))
  f1 : W.frozen? ⟨w.heap.size + 1, 0, none⟩ = false
  c2 : W.cell? ⟨w.heap.size + 2, 0, none⟩ = some (.string rs)
  c3 : W.cell? ⟨w.heap.size + 3, 0, none⟩ = some (.bool false)
  f3 : W.frozen? ⟨w.heap.size + 3, 0, none⟩ = false
  inv : Inv pre W

/-- What While leaves. -/
structure Whiled (S : Nat → Prop) (Inv : List UInt8 → World → Prop) (p : List UInt8 → UInt8 → Bool) (t : Nat) (s : ByteArray) (k : Nat) (w w' : World) : Prop where
  inv : Inv (asks p [] (s.data.toList.drop k)).2 w'
  scn : Scn t s (k + took p (s.data.toList.drop k)) w'
  kept : Kept (fun j => S j ∨ j = t) w w'

theorem Asking.step {S : Nat → Prop} {Inv : List UInt8 → World → Prop} {p : List UInt8 → UInt8 → Bool} {f : Value} {rs : ByteArray} {w W w' : World} {pre : List UInt8} {c : UInt8} (h : Asking S Inv p f rs w pre W)
    (hS : ∀ j, S j → j < w.heap.size) (hst : ∀ pre W W', Inv pre W → Kept (fun j => w.heap.size ≤ j) W W' → Inv pre W') (hy : (asks p [] pre).1 = true)
    (hc : Counted (fun W2 => Inv (pre ++ [c]) W2 ∧ Kept S W W2) ⟨w.heap.size + 1, 0, none⟩ pre.length (p pre c) w') : Asking S Inv p f rs w (pre ++ [c]) w' := by
  obtain ⟨W2, ⟨hi, hk⟩, rfl⟩ := hc
  have hsz := h.size
  have hn : ∀ j, w.heap.size ≤ j → ¬ S j := fun j hj hs => by have := hS j hs; omega
  have e0 := (hk.cell (p := ⟨w.heap.size, 0, none⟩) (by show w.heap.size < _; omega) (hn _ (Nat.le_refl _))).trans h.c0
  have e1 := (hk.cell (p := ⟨w.heap.size + 1, 0, none⟩) (by show w.heap.size + 1 < _; omega) (hn _ (by show _ ≤ w.heap.size + 1; omega))).trans h.c1
  have g1 := (hk.frozen (p := ⟨w.heap.size + 1, 0, none⟩) (by show w.heap.size + 1 < _; omega) (hn _ (by show _ ≤ w.heap.size + 1; omega))).trans h.f1
  have e2 := (hk.cell (p := ⟨w.heap.size + 2, 0, none⟩) (by show w.heap.size + 2 < _; omega) (hn _ (by show _ ≤ w.heap.size + 2; omega))).trans h.c2
  have e3 := (hk.cell (p := ⟨w.heap.size + 3, 0, none⟩) (by show w.heap.size + 3 < _; omega) (hn _ (by show _ ≤ w.heap.size + 3; omega))).trans h.c3
  have g3 := (hk.frozen (p := ⟨w.heap.size + 3, 0, none⟩) (by show w.heap.size + 3 < _; omega) (hn _ (by show _ ≤ w.heap.size + 3; omega))).trans h.f3
  have hs2 : w.heap.size + 4 ≤ W2.heap.size := Nat.le_trans hsz hk.size
  cases hp : p pre c
  · have hcn := cnt_no p pre c hy hp
    rw [cnt_all p pre hy] at e1
    refine ⟨h.kept.trans hk, hs2, e0, by rw [hcn]; exact e1, g1, e2, e3, g3, hi⟩
  · have hcn := cnt_yes p pre c hy hp
    simp only [if_true]
    have hks : Kept (fun j => w.heap.size ≤ j) W2 (W2.setCell ⟨w.heap.size + 1, 0, none⟩ (.int .i64 (pre.length + 1 : Nat))) := (Kept.refl _ _).setCell (.inl (by show w.heap.size ≤ w.heap.size + 1; omega)) _
    refine ⟨?_, ?_, ?_, ?_, ?_, ?_, ?_, ?_, hst _ _ _ hi hks⟩
    · exact (h.kept.trans hk).setCell (.inr (by show w.heap.size ≤ w.heap.size + 1; omega)) _
    · rw [size_setCell]; exact hs2
    · rw [World.cell?_setCell_other _ _ _ _ (by simp)]; exact e0
    · rw [hcn]; exact World.cell?_setCell_same _ _ _ e1
    · rw [World.frozen?_setCell]; exact g1
    · rw [World.cell?_setCell_other _ _ _ _ (by simp)]; exact e2
    · rw [World.cell?_setCell_other _ _ _ _ (by simp)]; exact e3
    · rw [World.frozen?_setCell]; exact g3

theorem flat_single (s : ByteArray) : flat [s] = s.data.toList := by unfold flat; simp
set_option maxHeartbeats 1000000 in
theorem While_any (g : Nat) (first cap : Array Value) (p : List UInt8 → UInt8 → Bool) (Inv : List UInt8 → World → Prop) (S : Nat → Prop) (t : Nat) (s : ByteArray) (k : Nat) (w : World) (h : Scn t s k w) (hs : s.size ≤ 100000)
    (eg : ∀ args w, (callFunc g args).run Tryd.prog w = .ok (.enter g args) w)
    (hS : ∀ j, S j → j < w.heap.size) (hSt : ¬ S t) (h0 : Inv [] w)
    (hst : ∀ pre W W', Inv pre W → Kept (fun j => w.heap.size ≤ j ∨ j = t) W W' → Inv pre W')
    (hcall : ∀ pre c r W, s.data.toList.drop k = pre ++ c :: r → (asks p [] pre).1 = true → w.heap.size ≤ W.heap.size → Inv pre W → Calls Tryd.prog g (first ++ #[.int .u8 (c.toNat : Int)] ++ cap) W fun e W' => e = .returned (.bool (p pre c)) ∧ Inv (pre ++ [c]) W' ∧ Kept S W W') :
    Calls Tryd.prog 47 #[.pointer (some ⟨t, 0, none⟩), .func (.func g) first cap] w fun e w' => e = .returned (.string (s.extract k (k + took p (s.data.toList.drop k)))) ∧ Whiled S Inv p t s k w w' := by
  have hmf : ∀ (fn : Fn) (first cap : Array Value) (w : World), (Instr.makeFunc fn first cap).run Tryd.prog w = .ok (.func fn first cap) w := fun _ _ _ _ => rfl
  have hle := h.le
  have hlt := h.lt
  have htl := took_le p (s.data.toList.drop k)
  have hdl : (s.data.toList.drop k).length = s.size - k := by simp
  have HS := Lib.hid h
  have HT : Hid (k + took p (s.data.toList.drop k) ≤ s.size) := by show _ ≤ _; omega
  have hrz : (restS s k).size ≤ 100000 := by rw [restS_size s k hle]; omega
  have hrl := restS_list s k
  have hpl := h.place
  have htx := h.text
  have hA := All_any 59 #[] #[.pointer (some ⟨w.heap.size, 0, none⟩), .pointer (some ⟨w.heap.size + 1, 0, none⟩)] p (Asking S Inv p (.func (.func g) first cap) (restS s k) w) ⟨w.heap.size + 2, 0, none⟩ 1 1 [restS s k] rfl (by omega) (by simpa using hrz)
    (((w.alloc (.cells #[.func (.func g) first cap] 45)).alloc (.cells #[.int .i64 0] 3)).alloc (.cells #[.string (restS s k)] 9)) enters_While1
    (by
      refine ⟨?_, ?_, ?_, ?_, ?_, ?_, ?_, ?_, hst [] w _ h0 ?_⟩
      · exact ((((Kept.refl _ _).alloc _).alloc _).alloc _).alloc _
      · simp
      · simp [go_sem]
      · simp [go_sem, cnt, asks]
      · simp [go_sem]
      · simp [go_sem]
      · simp [go_sem]
      · simp [go_sem]
      · exact ((((Kept.refl _ _).alloc _).alloc _).alloc _).alloc _)
    (by
      intro pre W hW
      have e3 := hW.c3
      have g3 := hW.f3
      have e2 := hW.c2
      have hz : (((w.alloc (.cells #[.func (.func g) first cap] 45)).alloc (.cells #[.int .i64 0] 3)).alloc (.cells #[.string (restS s k)] 9)).heap.size = w.heap.size + 3 := by simp
      rw [hz]
      refine ⟨e3, g3, fun i hi => ?_⟩
      obtain rfl : i = 0 := by omega
      exact e2)
    (by
      intro pre c r W hpre hy hW
      rw [flat_single, hrl] at hpre
      have e1 := hW.c1
      rw [cnt_all p pre hy] at e1
      have hpl2 : pre.length ≤ 100000 := by
        have := congrArg List.length hpre
        simp at this
        omega
      have hsz := hW.size
      have g1 := hW.f1
      have hn : ∀ j, w.heap.size ≤ j → ¬ S j := fun j hj hs => by have := hS j hs; omega
      refine (While1_any g first cap (p pre c) (c.toNat : Int) ⟨w.heap.size, 0, none⟩ ⟨w.heap.size + 1, 0, none⟩ pre.length (fun W2 => Inv (pre ++ [c]) W2 ∧ Kept S W W2) W eg hW.c0 (by omega) ?_ (hcall pre c r W hpre hy (by omega) hW.inv)).mono ?_
      · rintro W2 ⟨_, hk⟩
        exact ⟨(hk.cell (p := ⟨w.heap.size + 1, 0, none⟩) (by show w.heap.size + 1 < _; omega) (hn _ (by show _ ≤ w.heap.size + 1; omega))).trans e1, (hk.frozen (p := ⟨w.heap.size + 1, 0, none⟩) (by show w.heap.size + 1 < _; omega) (hn _ (by show _ ≤ w.heap.size + 1; omega))).trans g1⟩
      · rintro e w' ⟨rfl, hc⟩
        exact ⟨rfl, hW.step hS (fun pre W W' hi hk => hst pre W W' hi (hk.mono fun j _ hj => .inl hj)) hy hc⟩)
  rw [flat_single, hrl] at hA
  have HA := Lib.hid hA
  have HST := Lib.hid hst
  have HSS := Lib.hid hS
  clear hA h htl hdl hrl hst hS hcall
  go_enter Tryd.func47, Tryd.ntmps47
  go_wp2_with fail
  refine HA.out.mono ?_
  rintro e w' ⟨W, rfl, hW, hw'⟩
  have hz3 : (((w.alloc (.cells #[.func (.func g) first cap] 45)).alloc (.cells #[.int .i64 0] 3)).alloc (.cells #[.string (restS s k)] 9)).heap.size = w.heap.size + 3 := by simp
  rw [hz3] at hw'
  subst hw'
  clear hz3
  have hsz := hW.size
  have hkw := hW.kept
  have hscn : Scn t s k (W.setCell ⟨w.heap.size + 3, 0, none⟩ (.bool (asks p [] (s.data.toList.drop k)).1)) := by
    refine HS.out.kept (hkw.setCell (p := ⟨w.heap.size + 3, 0, none⟩) (.inr (by show _ ≤ w.heap.size + 3; omega)) _) hSt
  have e1 : (W.setCell ⟨w.heap.size + 3, 0, none⟩ (.bool (asks p [] (s.data.toList.drop k)).1)).cell? ⟨w.heap.size + 1, 0, none⟩ = some (.int .i64 (took p (s.data.toList.drop k) : Nat)) := by
    rw [World.cell?_setCell_other _ _ _ _ (by simp)]; exact hW.c1
  have hkw2 : Kept S w (W.setCell ⟨w.heap.size + 3, 0, none⟩ (.bool (asks p [] (s.data.toList.drop k)).1)) := hkw.setCell (p := ⟨w.heap.size + 3, 0, none⟩) (.inr (by show _ ≤ w.heap.size + 3; omega)) _
  have hinv : Inv (asks p [] (s.data.toList.drop k)).2 (W.setCell ⟨w.heap.size + 3, 0, none⟩ (.bool (asks p [] (s.data.toList.drop k)).1)) :=
    HST.out _ _ _ hW.inv ((Kept.refl (fun j => w.heap.size ≤ j ∨ j = t) W).setCell (p := ⟨w.heap.size + 3, 0, none⟩) (.inl (.inl (by show _ ≤ w.heap.size + 3; omega))) _)
  clear hW hkw hsz hpl htx h0
  have HI := Lib.hid hinv
  clear hinv
  generalize W.setCell ⟨w.heap.size + 3, 0, none⟩ (.bool (asks p [] (s.data.toList.drop k)).1) = W2 at *
  have hp2 := hscn.place
  have hf2 := hscn.free1
  have ht2 := hscn.text
  have HC := Lib.hid hscn
  clear hscn
  have HF : ∀ nq, Whiled S Inv p t s k w ((W2.setCell ⟨t, 1, none⟩ (.int .i64 (k + took p (s.data.toList.drop k) : Nat))).drewN nq) := fun nq =>
    ⟨HST.out _ _ _ HI.out (((Kept.refl (fun j => w.heap.size ≤ j ∨ j = t) W2).setCell (p := ⟨t, 1, none⟩) (.inl (.inr rfl)) _).drewN nq), (HC.out.put _ HT.out).drewN nq, ((hkw2.mono fun j _ hj => .inl hj).setCell (p := ⟨t, 1, none⟩) (.inl (.inr rfl)) _).drewN nq⟩
  have HFH := Lib.hid HF
  clear HF hkw2 HI
  have htk := HT.out
  generalize hm : took p (s.data.toList.drop k) = m at *
  have HM := Lib.hid hm
  clear hm
  go_wp2
  go_quiet (fail)
  go_wp2
  go_ret
  exact ⟨by rw [HM.out]; rfl, HFH.out _⟩
theorem While_nil (f : Value) (w : World) :
    Calls Tryd.prog 47 #[.pointer none, f] w fun e w' => e = .returned (.string ByteArray.empty) ∧ Below w.heap.size w w' := by
  go_enter Tryd.func47, Tryd.ntmps47
  go_wp2
  all_goals
    go_ret
    exact ⟨rfl, (Below.refl _ _).alloc (Nat.le_refl _) _⟩

/-- While of a plain class. -/
theorem While_plain (g : Nat) (q : Int → Bool) (t : Nat) (s : ByteArray) (k : Nat) (w : World) (h : Scn t s k w) (hs : s.size ≤ 100000)
    (eg : ∀ args w, (callFunc g args).run Tryd.prog w = .ok (.enter g args) w)
    (hq : ∀ (n : Int) (w : World), 0 ≤ n → n ≤ 255 → Calls Tryd.prog g #[.int .u8 n] w fun e w' => e = .returned (.bool (q n)) ∧ w = w') :
    Calls Tryd.prog 47 #[.pointer (some ⟨t, 0, none⟩), .func (.func g) #[] #[]] w fun e w' => e = .returned (.string (s.extract k (k + runLen q s k))) ∧ Scn t s (k + runLen q s k) w' ∧ Kept (· = t) w w' := by
  have e : took (fun _ c => q (c.toNat : Int)) (s.data.toList.drop k) = runLen q s k := by rw [took_plain (fun c => q (c.toNat : Int))]; rfl
  rw [← e]
  refine (While_any g #[] #[] (fun _ c => q (c.toNat : Int)) (fun _ _ => True) (fun _ => False) t s k w h hs eg (fun _ h => h.elim) (fun h => h) trivial (fun _ _ _ _ _ => trivial) ?_).mono ?_
  · intro pre c r W _ _ _ _
    refine (hq (c.toNat : Int) W (by omega) (B.toNat_le c)).mono ?_
    rintro e w' ⟨rfl, rfl⟩
    exact ⟨rfl, trivial, Kept.refl _ _⟩
  · rintro e w' ⟨rfl, hw⟩
    exact ⟨rfl, hw.scn, hw.kept.mono fun j _ hj => hj.elim (fun h => h.elim) (fun h => h)⟩
theorem enters_IsBlank (args : Array Value) (w : World) : (callFunc 33 args).run Tryd.prog w = .ok (.enter 33 args) w := by
  exact enters_of Tryd.func33 (by kernel_rfl) rfl args w
theorem enters_IsDigit (args : Array Value) (w : World) : (callFunc 63 args).run Tryd.prog w = .ok (.enter 63 args) w := by
  exact enters_of Tryd.func63 (by kernel_rfl) rfl args w
theorem cut_size (s : ByteArray) (k n : Nat) (h : k + n ≤ s.size) : (s.extract k (k + n)).size = n := by simp; omega
theorem cut_all (q : Int → Bool) (s : ByteArray) (k : Nat) : (s.extract k (k + runLen q s k)).data.toList.all (fun c => q (c.toNat : Int)) = true := by
  have e : (s.extract k (k + runLen q s k)).data.toList = (s.data.toList.drop k).takeWhile fun c => q (c.toNat : Int) := by
    rw [ByteArray.data_extract, Array.toList_extract, List.extract_eq_take_drop]
    unfold runLen
    rw [Nat.add_sub_cancel_left]
    exact (List.prefix_iff_eq_take.1 (List.takeWhile_prefix _)).symm
  rw [e]
  exact takeWhile_allq _ _
theorem tokS_cut (s : ByteArray) (k : Nat) (hk : k ≤ s.size) : tokS (s.extract k (k + runLen B.tok s k)) = decide (0 < runLen B.tok s k) := by
  unfold tokS
  rw [cut_all, cut_size _ _ _ (runLen_le B.tok s k hk)]
  simp
theorem Token_some (t : Nat) (s : ByteArray) (k : Nat) (w : World) (h : Scn t s k w) (hs : s.size ≤ 100000) :
    Calls Tryd.prog 29 #[.pointer (some ⟨t, 0, none⟩)] w fun e w' => e = .returned (.tuple #[.string (s.extract k (k + runLen B.tok s k)), .bool (decide (0 < runLen B.tok s k))]) ∧ Scn t s (k + runLen B.tok s k) w' ∧ Kept (· = t) w w' := by
  have hr := runLen_le B.tok s k h.le
  have HT := Lib.hid (tokS_cut s k h.le)
  have HW := Lib.hid (While_plain 43 B.tok t s k w h hs enters_IsToken (fun n w _ _ => IsToken_any n w))
  have hz : (s.extract k (k + runLen B.tok s k)).size ≤ 100000 := by rw [cut_size _ _ _ hr]; omega
  clear h hr
  generalize runLen B.tok s k = m at *
  go_enter Tryd.func29, Tryd.ntmps29
  go_wp2_with fail
  refine HW.out.mono ?_
  rintro e w1 ⟨rfl, hsc, hk⟩
  go_wp2_with fail
  refine (Token_any _ _ hz).mono ?_
  rintro e w2 ⟨rfl, hb⟩
  rw [HT.out]
  have HSC := Lib.hid (hsc.kept (Kept.of_below (P := fun _ => False) hb) (fun h => h))
  go_wp2
  go_ret2
  exact ⟨rfl, HSC.out, hk.trans (Kept.of_below hb)⟩
theorem Token_nil (w : World) :
    Calls Tryd.prog 29 #[.pointer none] w fun e w' => e = .returned (.tuple #[.string ByteArray.empty, .bool false]) ∧ Below w.heap.size w w' := by
  have e0 : tokS ByteArray.empty = false := by decide +kernel
  have HT := Lib.hid e0
  clear e0
  go_enter Tryd.func29, Tryd.ntmps29
  go_wp2_with fail
  refine (While_nil _ _).mono ?_
  rintro e w1 ⟨rfl, hk⟩
  go_wp2_with fail
  refine (Token_any _ _ (by decide)).mono ?_
  rintro e w2 ⟨rfl, hb⟩
  rw [HT.out]
  go_wp2
  go_ret2
  exact ⟨rfl, below_then hk hb⟩
theorem Blanks_some (t : Nat) (s : ByteArray) (k : Nat) (w : World) (h : Scn t s k w) (hs : s.size ≤ 100000) :
    Calls Tryd.prog 28 #[.pointer (some ⟨t, 0, none⟩)] w fun e w' => e = .returned (.string (s.extract k (k + runLen B.bla s k))) ∧ Scn t s (k + runLen B.bla s k) w' ∧ Kept (· = t) w w' := by
  have HW := Lib.hid (While_plain 33 B.bla t s k w h hs enters_IsBlank (fun n w _ _ => IsBlank_any n w))
  clear h
  go_enter Tryd.func28, Tryd.ntmps28
  go_wp2_with fail
  refine HW.out.mono ?_
  rintro e w1 ⟨rfl, hsc, hk⟩
  go_wp2
  go_ret
  exact ⟨rfl, hsc, hk⟩
theorem Blanks_nil (w : World) :
    Calls Tryd.prog 28 #[.pointer none] w fun e w' => e = .returned (.string ByteArray.empty) ∧ Below w.heap.size w w' := by
  go_enter Tryd.func28, Tryd.ntmps28
  go_wp2_with fail
  refine (While_nil _ _).mono ?_
  rintro e w1 ⟨rfl, hk⟩
  go_wp2
  go_ret
  exact ⟨rfl, hk⟩
end Go.Proofs.YtchhjmdbjndckaaDoor
