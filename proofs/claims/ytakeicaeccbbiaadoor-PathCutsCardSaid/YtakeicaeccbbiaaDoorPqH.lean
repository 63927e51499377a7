/- pathq: Dots: its contract. -/
import Derived.Test.YtakeicaeccbbiaaDoorPqC
import Derived.Test.YtakeicaeccbbiaaDoorPqE
import Derived.Test.YtakeicaeccbbiaaDoorPqG
namespace Go.Proofs.YtakeicaeccbbiaaDoor
open Go.RowKit Go.Shelf
attribute [local go_sem] Oper.semAt_some

/-- Bytes of a text, appended to a row that is the call's own, within a fence. -/
theorem wpListIn_append_bytes {F : Fence} {n' : Nat} (w : World) {ops : Array Oper} {rest : List Oper} {o : Oper} {a : Act} {Q : Exit → Act → World → Prop} (hgd : o.guard = none) (sl x : Operand)
    (ho : o.op = .call { callee := .builtin .append, args := #[sl, x], argTypes := #[37, 9] }) (B : Nat) (v : Value) (s t : ByteArray) (hs : a.eval sl = v) (hown : OwnB B v s w) (hx : a.eval x = .string t)
    (hb : s.size + t.size ≤ 140737488355328) (hB : B ≤ w.heap.size)
    (h : ∀ a' c' w', OwnB B (.slice a' (s.size + t.size) c') (s ++ t) w' → Below B w w' → wpListIn F n' Tryd.prog ops Q rest (a.put o.dst (.slice a' (s.size + t.size) c')) w') : wpListIn F n' Tryd.prog ops Q (o :: rest) a w := by
  obtain ⟨i0, hi, hz0, hz1, hz2⟩ := info_parts info_byte9
  refine wpListIn_plain hgd fun K hK => ?_
  obtain ⟨v', w', hr, h2, h3, -⟩ := Lib.run_append_own_string (P := Tryd.prog) w B 37 9 o.type 5 i0 Tryd.underlying37 Tryd.underlying9 hi hz0 hz1 hz2 v s.size _ hown t (by unfold maxLen; omega) hb hB
  obtain ⟨a', c', rfl, -⟩ := own_form h2
  have ho2 : OwnB B (.slice a' (s.size + t.size) c') (s ++ t) w' := by
    unfold OwnB
    rw [size_append, ← cells_cat]
    exact h2
  unfold Oper.wpIn
  refine ⟨by simp [Oper.about, ho, resolve, Target.leads, Sem.run_pure], ?_⟩
  rw [Oper.semAt_plain F _ _ (by rw [ho]; intro c hc'; cases hc')]
  simp [execOp, ho, resolve, invoke, builtin, hs, hx, hr, Result.andThen]
  exact hK _ _ (h a' c' w' ho2 (below_grow hown hB h3))
/-- The row's text, read. -/
theorem bytes_run {B : Nat} {v : Value} {s : ByteArray} {w : World} (h : OwnB B v s w) : (convert 37 9 v).run Tryd.prog w = .ok (.string s) w := by
  have hsz : s.size = s.data.toList.length := by simp
  have hc := h
  rcases h.2 with ⟨rfl, h0⟩ | ⟨g, c, cur, rfl, -⟩
  · obtain rfl : s = ByteArray.empty := bytes_eq (List.eq_nil_of_length_eq_zero (by omega))
    rw [run_convert_bytes_string w _ _ _ none 0 0 Tryd.underlying37 Tryd.underlying5 Tryd.underlying9]
    simp [Conv.bytesToString]
  · have h3 := run_convert_bytes_back (P := Tryd.prog) w 37 9 5 ⟨g, 0, none⟩ c s.data.toList Tryd.underlying37 Tryd.underlying5 Tryd.underlying9 (fun j hj => World.ownsRow.cells hc (g := g) rfl j _ (by unfold Lib.strCells; rw [List.getElem?_map, List.getElem?_eq_getElem (by simpa using hj)]; rfl))
    rw [← hsz] at h3
    simpa using h3
theorem splitSeq_any (s : ByteArray) (w : World) :
    Calls Tryd.prog 22 #[.string s, .string ⟨#[47]⟩] w fun e w' => e = .returned (.func (.func 43) #[] #[.pointer (some ⟨w.heap.size + 1, 0, none⟩), .pointer (some ⟨w.heap.size, 0, none⟩), .pointer (some ⟨w.heap.size + 1 + 1, 0, none⟩)]) ∧
      w' = ((w.alloc (.cells #[.string s] 9)).alloc (.cells #[.string ⟨#[47]⟩] 9)).alloc (.cells #[.int .i64 0] 3) := by
  have HS : Calls Tryd.prog 32 #[.string s, .string ⟨#[47]⟩, .int .i64 0] w fun e w' => e = .returned (.func (.func 43) #[] #[.pointer (some ⟨w.heap.size + 1, 0, none⟩), .pointer (some ⟨w.heap.size, 0, none⟩), .pointer (some ⟨w.heap.size + 1 + 1, 0, none⟩)]) ∧
      w' = ((w.alloc (.cells #[.string s] 9)).alloc (.cells #[.string ⟨#[47]⟩] 9)).alloc (.cells #[.int .i64 0] 3) := by
    go_enter Tryd.func32, Tryd.ntmps32
    go_wp2_with fail
    go_ret
    exact ⟨rfl, rfl⟩
  have H := Lib.hid HS
  clear HS
  go_enter Tryd.func22, Tryd.ntmps22
  go_wp2_with (go_at_call 32; refine H.out.mono ?_; rintro e w1 ⟨rfl, rfl⟩)
  go_ret
  exact ⟨rfl, rfl⟩
/-- The bytes of texts. -/
def preL (pre : List Txt) : List (List UInt8) := pre.map fun x => x.1.data.toList
theorem preL_snoc (pre : List Txt) (x : Txt) : preL (pre ++ [x]) = preL pre ++ [x.1.data.toList] := by unfold preL; simp
namespace Pq
theorem txts_map (m : UInt8) (t : ByteArray) (ht : t.size ≤ 1000) : (Hp.txts m t).map (fun x => x.1.data.toList) = Hp.parts m t.data.toList := by
  rw [← Hp.ptxt_parts m t ht]
  unfold Hp.ptxt
  rw [List.map_map]; rfl
theorem pre_facts {t : ByteArray} (ht : t.size ≤ 1000) {pre : List Txt} (h : pre <+: Hp.txts 47 t) : (∀ g ∈ (runK ([], false) (preL pre)).1, 47 ∉ g) ∧ (flatK (runK ([], false) (preL pre)).1).length ≤ 1001 := by
  have h2 : preL pre <+: Hp.parts 47 t.data.toList := by
    rw [← txts_map 47 t ht]; unfold preL; exact List.IsPrefix.map _ h
  refine ⟨run_free _ (fun g hg => parts_none 47 _ g (h2.subset hg)) _ (by simp), ?_⟩
  have := run_take_len _ _ h2
  have hl : t.data.toList.length = t.size := by simp
  omega
end Pq
/-- What Dots answers, as a value. -/
def dotsV (l : List UInt8) : Value := .tuple #[.string ⟨(Pq.dotsR l).1.toArray⟩, .int .i64 (Pq.dotsR l).2]
/-- Between two rounds of Dots. -/
structure DotsAt (c0 : Nat) (w1 : World) (pre : List Txt) (W : World) : Prop where
  row : ∃ v s, OwnB (c0 + 7) v s W ∧ s.data.toList = Pq.flatK (Pq.runK ([], false) (preL pre)).1 ∧ W.cell? ⟨c0, 0, none⟩ = some v
  free : W.frozen? ⟨c0, 0, none⟩ = false
  last : W.cell? ⟨c0 + 1, 0, none⟩ = some (.bool (Pq.runK ([], false) (preL pre)).2)
  free2 : W.frozen? ⟨c0 + 1, 0, none⟩ = false
  below : Below c0 w1 W
theorem DotsAt.kept {c0 : Nat} {w1 : World} {pre : List Txt} {A B : World} (h : DotsAt c0 w1 pre A) (hw : c0 ≤ w1.heap.size) {P : Nat → Prop} (hk : Kept P A B) (hP : ∀ k, P k → c0 + 2 ≤ k ∧ k < c0 + 7) : DotsAt c0 w1 pre B := by
  obtain ⟨⟨v, s, h1, h2, h3⟩, h4, h5, h6, h7⟩ := h
  have l0 := lt_of_cell h3
  have l1 := lt_of_cell h5
  have n0 : ¬ P c0 := fun g => by have := hP _ g; omega
  have n1 : ¬ P (c0 + 1) := fun g => by have := hP _ g; omega
  refine ⟨⟨v, s, own_kept h1 hk fun k e g => ?_, h2, hk.at_cell l0 n0 h3⟩, hk.at_frozen l0 n0 h4, hk.at_cell l1 n1 h5, hk.at_frozen l1 n1 h6, ?_⟩
  · have := (World.ownsRow.lt h1 k e).1
    have := hP _ g
    omega
  · exact h7.trans ((hk.mono (Q := fun k => c0 ≤ k) fun k _ g => by have := hP _ g; omega).below (Nat.le_trans hw h7.size))
set_option maxRecDepth 100000 in
set_option maxHeartbeats 2000000 in
theorem PDots_any (s : ByteArray) (w : World) (hs : s.size ≤ 1000) :
    Calls Tryd.prog 15 #[.string s] w fun e w' => e = .returned (dotsV s.data.toList) ∧ Below w.heap.size w w' := by
  have HP := Lib.hid (PPath_any s w hs)
  cases hp : Pq.pathL s.data.toList
  · have HR : Hid (dotsV s.data.toList = .tuple #[.string ⟨#[]⟩, .int .i64 2]) := by show _ = _; unfold dotsV Pq.dotsR; rw [hp]; rfl
    rw [hp] at HP
    rw [HR.out]
    clear hp
    refine (callsIn_wide (n := 6)).1 ?_
    refine callsIn_of_wp_marks Tryd.func15 rfl trivial ?_ rfl
    simp only [Tryd.ntmps15, List.size_toArray, List.length_cons, List.length_nil, Nat.reduceAdd, Nat.reduceSub, Array.replicate_succ, Array.replicate_zero, List.push_toArray, List.append_toArray, List.nil_append, List.cons_append]
    gi_wp2_with (refine ⟨trivial, ?_⟩; gi_at_call 8; refine (callsIn_wide.2 HP.out).mono ?_; rintro e w1 ⟨rfl, hb1⟩)
    exact ⟨_, results_tmp2 rfl _ _ _, rfl, hb1⟩
  · have HR : Hid (dotsV s.data.toList = .tuple #[.string ⟨(Pq.dotsL s.data.toList).toArray⟩, .int .i64 0]) := by show _ = _; unfold dotsV Pq.dotsR; rw [hp]; rfl
    rw [hp] at HP
    rw [HR.out]
    have h1 : (1 : Int) ≤ s.size := by
      obtain ⟨r, hr, -⟩ := Pq.path_form hp
      have : s.data.toList.length = s.size := by simp
      rw [hr] at this
      simp only [List.length_cons] at this
      omega
    refine (callsIn_wide (n := 6)).1 ?_
    refine callsIn_of_wp_marks Tryd.func15 rfl trivial ?_ rfl
    simp only [Tryd.ntmps15, List.size_toArray, List.length_cons, List.length_nil, Nat.reduceAdd, Nat.reduceSub, Array.replicate_succ, Array.replicate_zero, List.push_toArray, List.append_toArray, List.nil_append, List.cons_append]
    gi_wp2_with (first | (refine ⟨trivial, ?_⟩; gi_at_call 8; refine (callsIn_wide.2 HP.out).mono ?_; rintro e w1 ⟨rfl, hb1⟩; have HB1 := Lib.hid hb1; clear hb1) | (refine ⟨trivial, ?_⟩; gi_at_call 22; refine (callsIn_wide.2 (splitSeq_any _ _)).mono ?_; rintro e w' ⟨rfl, rfl⟩))
    obtain ⟨t, ht⟩ : ∃ t, s.extract 1 s.size = t := ⟨_, rfl⟩
    rw [ht]
    have htz : t.size ≤ 1000 := by rw [← ht]; exact Hp.ext_size s 1 s.size hs
    have htl : t.data.toList = s.data.toList.drop 1 := by rw [← ht]; exact Hp.ext_end s 1
    obtain ⟨W0, hW0⟩ : ∃ W0, ((((w1.alloc (.cells #[.slice none 0 0] 37)).alloc (.cells #[.bool false] 4)).alloc (.cells #[.string t] 9)).alloc (.cells #[.string ⟨#[47]⟩] 9)).alloc (.cells #[.int .i64 0] 3) = W0 := ⟨_, rfl⟩
    rw [hW0]
    have hB0 : Below w1.heap.size w1 W0 := by rw [← hW0]; exact (by repeat (first | with_reducible exact Below.refl _ _ | with_reducible assumption | (with_reducible refine Below.setCell ?_ ?_ _; rotate_left; · (simp <;> omega)) | (with_reducible refine Below.alloc ?_ ?_ _; rotate_left; · (simp <;> omega)) | with_reducible refine Below.drew ?_))
    have hsz : W0.heap.size = w1.heap.size + 5 := by rw [← hW0]; simp
    have k0 : W0.cell? ⟨w1.heap.size, 0, none⟩ = some (.slice none 0 0) := by rw [← hW0]; simp [go_sem]
    have f0 : W0.frozen? ⟨w1.heap.size, 0, none⟩ = false := by rw [← hW0]; simp [go_sem]
    have k1 : W0.cell? ⟨w1.heap.size + 1, 0, none⟩ = some (.bool false) := by rw [← hW0]; simp [go_sem]
    have f1 : W0.frozen? ⟨w1.heap.size + 1, 0, none⟩ = false := by rw [← hW0]; simp [go_sem]
    have k2 : W0.cell? ⟨w1.heap.size + 1 + 1, 0, none⟩ = some (.string t) := by rw [← hW0]; simp [go_sem]
    have f2 : W0.frozen? ⟨w1.heap.size + 1 + 1, 0, none⟩ = false := by rw [← hW0]; simp [go_sem]
    have k3 : W0.cell? ⟨w1.heap.size + 1 + 1 + 1, 0, none⟩ = some (.string ⟨#[47]⟩) := by rw [← hW0]; simp [go_sem]
    have k4 : W0.cell? ⟨w1.heap.size + 1 + 1 + 1 + 1, 0, none⟩ = some (.int .i64 0) := by rw [← hW0]; simp [go_sem]
    clear hW0
    have HT := Lib.hid htl
    refine wpIn_range_hands (by omega) (gf := 43) (lb := #[.pointer (some ⟨w1.heap.size + 1 + 1 + 1, 0, none⟩), .pointer (some ⟨w1.heap.size + 1 + 1, 0, none⟩), .pointer (some ⟨w1.heap.size + 1 + 1 + 1 + 1, 0, none⟩)]) rfl (enters_of Tryd.func43 (by kernel_rfl) rfl)
      (split_hands 5 (by omega) (w1.heap.size + 1 + 1 + 1) (w1.heap.size + 1 + 1) (w1.heap.size + 1 + 1 + 1 + 1) (by omega) (by omega) t htz W0 k3 k2 f2 k4) (by rintro k (rfl | rfl | rfl) <;> omega) (fun _ => rfl)
      (DotsAt w1.heap.size w1)
      (fun pre A B hd hk => hd.kept (Nat.le_refl _) hk (by rintro k ((rfl | rfl | rfl) | rfl) <;> omega))
      ⟨⟨_, ByteArray.empty, ownB_nil _ _, rfl, k0⟩, f0, k1, f1, hB0⟩
      (fun x => { tmps := #[.string s, undef, .string ⟨#[]⟩, .int .i64 0, .pointer (some ⟨w1.heap.size, 0, none⟩), .pointer (some ⟨w1.heap.size + 1, 0, none⟩), .string x.1, .string s, .bool true, .bool false, .string s, .string t, .func (.func 43) #[] #[.pointer (some ⟨w1.heap.size + 1 + 1 + 1, 0, none⟩), .pointer (some ⟨w1.heap.size + 1 + 1, 0, none⟩), .pointer (some ⟨w1.heap.size + 1 + 1 + 1 + 1, 0, none⟩)], .string x.1, undef, undef, undef, undef, undef, undef, undef, undef, undef, undef, undef, undef], defers := [] }) ?assign ?body ?done
    case assign =>
      intro l x W K hK
      gi_wp2
      exact hK
    case body =>
      rintro l pre x W hsize ⟨⟨v, u, ho, hu, hc0⟩, hf0, hc1, hf1, hB⟩ hlen
      obtain ⟨hfree, hflat⟩ := Pq.pre_facts htz (List.IsPrefix.trans (List.prefix_append pre [x]) hlen)
      have hul : u.size ≤ 1001 := by
        have e : u.data.toList.length = u.size := by simp
        rw [← e, hu]; exact hflat
      have HS := Lib.hid (step_any (w1.heap.size + 7) v _ u x.1 W hu hfree ho (by omega) (by omega) (by have := x.2; omega))
      have hnext : Pq.runK ([], false) (preL (pre ++ [x])) = Pq.stepK (Pq.runK ([], false) (preL pre)).1 x.1.data.toList := by rw [preL_snoc]; exact Pq.run_snoc _ _ _
      have HN := Lib.hid hnext
      have HB := Lib.hid hB
      have hl0 := lt_of_cell hc0
      have hl1 := lt_of_cell hc1
      simp only at hl0 hl1
      obtain ⟨a1, q1, rfl, -⟩ := own_form ho
      clear hB ho hu hfree hflat hnext k0 f0 k1 f1 k2 f2 k3 k4 hB0
      gi_wp2_with (refine ⟨trivial, ?_⟩; gi_at_call 23; refine (CallsIn.inRound l (callsIn_wide.2 HS.out)).mono ?_; rintro e w2 ⟨v2, s2, rfl, hs2, ho2, hb2⟩; obtain ⟨a2, q2, rfl, -⟩ := own_form ho2; have d0 := (hb2.cell (p := ⟨w1.heap.size, 0, none⟩) (by simp)).trans hc0; have g0 := (hb2.frozen (p := ⟨w1.heap.size, 0, none⟩) (by simp)).trans hf0; have d1 := (hb2.cell (p := ⟨w1.heap.size + 1, 0, none⟩) (by simp)).trans hc1; have g1 := (hb2.frozen (p := ⟨w1.heap.size + 1, 0, none⟩) (by simp)).trans hf1; have HB2 := Lib.hid hb2; have HO2 := Lib.hid ho2; have HS2 := Lib.hid hs2; clear hb2 ho2 hs2)
      refine ⟨?_, ⟨_, s2, own_kept (P := fun k => k = w1.heap.size ∨ k = w1.heap.size + 1) HO2.out (((Kept.refl _ _).setCellL (p := ⟨w1.heap.size, 0, none⟩) (.inl rfl) _).setCellL (p := ⟨w1.heap.size + 1, 0, none⟩) (.inr rfl) _) (fun k e g => by have := (World.ownsRow.lt HO2.out k e).1; omega), by rw [HN.out]; exact HS2.out, ?_⟩, ?_, ?_, ?_, ?_⟩
      · refine ((Kept.of_below' HB2.out fun k hk => ?_).setCellL (p := ⟨w1.heap.size, 0, none⟩) ?_ _).setCellL (p := ⟨w1.heap.size + 1, 0, none⟩) ?_ _
        · omega
        · dsimp only; omega
        · dsimp only; omega
      · rw [World.cell?_setCell_other _ _ _ _ (by simp)]; exact World.cell?_setCell_same' _ _ _ (by rw [d0]; rfl)
      · simp [go_sem, g0]
      · rw [HN.out]; exact World.cell?_setCell_same' _ _ _ (by rw [World.cell?_setCell_other _ _ _ _ (by simp), d1]; rfl)
      · simp [go_sem, g1]
      · exact ((HB.out.trans (HB2.out.mono (by omega))).setCell (p := ⟨w1.heap.size, 0, none⟩) (Nat.le_refl _) _).setCell (p := ⟨w1.heap.size + 1, 0, none⟩) (by simp) _
    case done =>
      rintro W hsize ⟨⟨v, u, ho, hu, hc0⟩, hf0, hc1, hf1, hB⟩ hK
      have hseg : preL (Hp.txts 47 t) = Pq.segs s.data.toList := by
        unfold preL
        rw [Pq.txts_map 47 t htz, HT.out]; rfl
      have hflat : u.size ≤ 1001 := by
        have e : u.data.toList.length = u.size := by simp
        rw [← e, hu]; exact (Pq.pre_facts htz (List.prefix_refl _)).2
      have hres := Pq.dots_eq s.data.toList
      rw [hseg] at hu hc1
      rw [← hu] at hres
      generalize (Pq.runK ([], false) (Pq.segs s.data.toList)).2 = b at *
      have HRE := Lib.hid hres
      have HO := Lib.hid ho
      have HB := Lib.hid hB
      have HK := Lib.hid hK
      have hl0 := lt_of_cell hc0
      have hl1 := lt_of_cell hc1
      simp only at hl0 hl1
      obtain ⟨a1, q1, rfl, -⟩ := own_form ho
      have hbr := bytes_run ho
      clear hres ho hB hu hseg hK k0 f0 k1 f1 k2 f2 k3 k4 hB0
      cases b
      · have HQ : Hid ((⟨(Pq.dotsL s.data.toList).toArray⟩ : ByteArray) = u ++ ⟨#[47]⟩) := by
          show _ = _
          apply bytes_eq
          rw [HRE.out, list_append]; simp
        have hz1 : (⟨#[47]⟩ : ByteArray).size = 1 := rfl
        clear HRE hbr
        gi_wp2_with (gi_at_builtin; refine wpListIn_append_bytes _ rfl _ _ rfl (w1.heap.size + 7) _ u ⟨#[47]⟩ rfl HO.out rfl ?c1 ?c2 ?_)
        case c1 => omega
        case c2 => omega
        intro a2 q2 w2 ho2 hb2
        have d0 := (hb2.cell (p := ⟨w1.heap.size, 0, none⟩) (by simp)).trans hc0
        have g0 := (hb2.frozen (p := ⟨w1.heap.size, 0, none⟩) (by simp)).trans hf0
        have hk2 : w2.heap[W0.heap.size]? = some (.deferred (some [])) := (hb2.block _ (by omega)).trans HK.out
        have HK2 : Hid ((w2.setCell ⟨w1.heap.size, 0, none⟩ (.slice a2 (u.size + 1) q2)).heap[W0.heap.size]? = some (.deferred (some []))) := (KeepsOthers.setCell w2 _ _).same _ _ hk2 rfl
        have HB2 := Lib.hid ((HB.out.trans (hb2.mono (by omega))).setCell (p := ⟨w1.heap.size, 0, none⟩) (Nat.le_refl _) (.slice a2 (u.size + 1) q2))
        have ho3 : OwnB (w1.heap.size + 7) (.slice a2 (u.size + 1) q2) (u ++ ⟨#[47]⟩) (w2.setCell ⟨w1.heap.size, 0, none⟩ (.slice a2 (u.size + 1) q2)) := own_kept (P := fun k => k = w1.heap.size) ho2 ((Kept.refl (fun k => k = w1.heap.size) w2).setCellL (p := ⟨w1.heap.size, 0, none⟩) rfl (.slice a2 (u.size + 1) q2)) (fun k e g => by have := (World.ownsRow.lt ho2 k e).1; omega)
        have hbr := bytes_run ho3
        clear ho2 ho3 hb2 hk2
        gi_wp2
        refine ⟨by simp, .inl ⟨_, _, rfl, run_takeDeferred (by first | exact HK2.out | (rw [← hsz]; exact HK2.out)), ?_⟩⟩
        refine ⟨_, results_tmp2 rfl _ _ _, ?_, HB1.out.trans ((HB2.out.trans (belowK_b (w := w1) (Nat.le_refl _) _ _ _ _ (by omega) (by first | exact HK2.out | (rw [← hsz]; exact HK2.out)) rfl rfl)).mono HB1.out.size)⟩
        exact ret_pair (congrArg Value.string HQ.out.symm) rfl
      · have HQ : Hid ((⟨(Pq.dotsL s.data.toList).toArray⟩ : ByteArray) = u) := by
          show _ = _
          apply bytes_eq
          rw [HRE.out]; simp
        clear HRE
        gi_wp2
        refine ⟨by simp, .inl ⟨_, _, rfl, run_takeDeferred (by first | exact HK.out | (rw [← hsz]; exact HK.out)), ?_⟩⟩
        refine ⟨_, results_tmp2 rfl _ _ _, ?_, HB1.out.trans ((HB.out.trans (belowK_b (w := w1) (Nat.le_refl _) W _ _ _ (by omega) (by first | exact HK.out | (rw [← hsz]; exact HK.out)) rfl rfl)).mono HB1.out.size)⟩
        exact ret_pair (congrArg Value.string HQ.out.symm) rfl
end Go.Proofs.YtakeicaeccbbiaaDoor
