/- Contracts and lemmas that the claim rests on: PrE. -/
import Derived.Test.YtjgjdcikeagibaaGPrD
/- The document's Left and Parse: contracts. -/
namespace Go.Proofs.Ytjgjdcikeagibaa
open Go.RowKit

namespace Pm
theorem rest_two (s : ByteArray) (a b : Nat) : restS (restS s a) b = restS s (a + b) := by
  apply bytes_eq
  rw [restS_list, restS_list, restS_list, List.drop_drop]
theorem rest_zero (s : ByteArray) : restS s 0 = s := B.extract_all s
theorem run_two (q : Int → Bool) (s : ByteArray) (k j : Nat) : runLen q (restS s k) j = runLen q s (k + j) := by
  unfold runLen
  rw [restS_list, List.drop_drop]
theorem byte_two (s : ByteArray) (k j : Nat) : byteAt (restS s k) j = byteAt s (k + j) := by
  unfold byteAt
  rw [restS_list, List.getD_eq_getElem?_getD, List.getD_eq_getElem?_getD, List.getElem?_drop]
theorem fr_two (s : ByteArray) (k j : Nat) : Qd.fr (restS s k) j = Qd.fr s (k + j) := by
  unfold Qd.fr
  rw [restS_list, List.drop_drop]
theorem cut_two (s : ByteArray) (k j n : Nat) : (restS s k).extract j (j + n) = s.extract (k + j) (k + j + n) := by
  apply bytes_eq
  rw [ByteArray.data_extract, Array.toList_extract, List.extract_eq_take_drop, restS_list, ByteArray.data_extract, Array.toList_extract, List.extract_eq_take_drop, List.drop_drop, Nat.add_sub_cancel_left, Nat.add_sub_cancel_left]
theorem word_two (s : ByteArray) (k j : Nat) : wtxt (restS s k) j = wtxt s (k + j) ∧ wok (restS s k) j = wok s (k + j) ∧ wlen (restS s k) j = wlen s (k + j) := by
  unfold wtxt wok wlen
  rw [run_two, fr_two, cut_two]
  exact ⟨rfl, rfl, rfl⟩
theorem lt_two (s : ByteArray) (k j : Nat) (hk : k ≤ s.size) : j < (restS s k).size ↔ k + j < s.size := by
  rw [restS_size s k hk]
  omega
theorem pr_rest (s : ByteArray) (k : Nat) (hk : k ≤ s.size) : pr (restS s k) 0 = pr s k := by
  obtain ⟨n, hn⟩ : ∃ n, runLen B.tok s k = n := ⟨_, rfl⟩
  have h1 := word_two s k (n + 1)
  have e0 : runLen B.tok (restS s k) 0 = n := by rw [run_two, Nat.add_zero, hn]
  have e1 : (restS s k).extract 0 n = s.extract k (k + n) := by have := cut_two s k 0 n; rwa [Nat.zero_add, Nat.add_zero] at this
  unfold pr
  rw [e0, hn, Nat.zero_add, h1.1, h1.2.1, h1.2.2, byte_two, e1, ← Nat.add_assoc]
  simp only [lt_two s k n hk]
theorem bt_rest (s : ByteArray) (k : Nat) (hk : k ≤ s.size) : bt (restS s k) 0 = bt s k := by
  obtain ⟨n, hn⟩ : ∃ n, runLen B.bla s k = n := ⟨_, rfl⟩
  have e0 : runLen B.bla (restS s k) 0 = n := by rw [run_two, Nat.add_zero, hn]
  unfold bt
  rw [e0, hn, Nat.zero_add, byte_two, run_two, ← Nat.add_assoc]
  simp only [lt_two s k n hk]
/-- Without blanks at its beginning. -/
def lf (s : ByteArray) : ByteArray := restS s (runLen B.bla s 0)
theorem lf_le (s : ByteArray) : (lf s).size ≤ s.size := by
  unfold lf
  rw [restS_size s _ (by have := runLen_le B.bla s 0 (Nat.zero_le _); omega)]
  omega
theorem lf_no (s : ByteArray) (h : ∀ h : 0 < s.size, B.bla (s[0].toNat : Int) = false) : lf s = s := by
  unfold lf
  by_cases h0 : 0 < s.size
  · rw [runLen_no B.bla s 0 h0 (h h0), rest_zero]
  · rw [runLen_end B.bla s 0 h0, rest_zero]
theorem lf_yes (s : ByteArray) (h0 : 0 < s.size) (h : B.bla (s[0].toNat : Int) = true) : lf (s.extract 1 s.size) = lf s := by
  have e : s.extract 1 s.size = restS s 1 := rfl
  unfold lf
  rw [e, run_two, rest_two, runLen_yes B.bla s 0 h0 h]
  show restS s (1 + runLen B.bla s 1) = restS s (runLen B.bla s 1 + 1)
  rw [Nat.add_comm]
theorem byte0 (s : ByteArray) (h : 0 < s.size) : byteAt s 0 = (s[0].toNat : Int) := by
  unfold byteAt
  rw [Qd.byteAt_at s 0 h]
theorem semi_no (s : ByteArray) (h : bt s 0 = none) : (lf s).size = 0 ∨ ∃ h : 0 < (lf s).size, ((lf s)[0].toNat : Int) ≠ 59 := by
  have hle := runLen_le B.bla s 0 (Nat.zero_le _)
  rw [Nat.zero_add] at hle
  by_cases h0 : 0 < (lf s).size
  · refine .inr ⟨h0, fun e => ?_⟩
    rw [← byte0 _ h0] at e
    unfold lf at h0 e
    rw [restS_size s _ hle] at h0
    rw [byte_two, Nat.add_zero] at e
    unfold bt at h
    rw [Nat.zero_add, if_pos ⟨by omega, e⟩] at h
    cases h
  · exact .inl (by omega)
theorem semi_yes (s : ByteArray) (m : Nat) (h : bt s 0 = some m) : ∃ h : 0 < (lf s).size, ((lf s)[0].toNat : Int) = 59 ∧ lf ((lf s).extract 1 (lf s).size) = restS s m := by
  have hle := runLen_le B.bla s 0 (Nat.zero_le _)
  rw [Nat.zero_add] at hle
  unfold bt at h
  rw [Nat.zero_add] at h
  split at h
  · rename_i hc
    simp only [Option.some.injEq] at h
    have h0 : 0 < (lf s).size := by
      unfold lf
      rw [restS_size s _ hle]
      omega
    refine ⟨h0, ?_, ?_⟩
    · rw [← byte0 _ h0]
      unfold lf
      rw [byte_two, Nat.add_zero]
      exact hc.2
    · have e : (lf s).extract 1 (lf s).size = restS s (runLen B.bla s 0 + 1) := by
        show restS (lf s) 1 = _
        unfold lf
        rw [rest_two]
      rw [e]
      unfold lf
      rw [run_two, rest_two, Nat.add_zero, h]
  · cases h
theorem empty_is (s : ByteArray) : s.toList.isEmpty = decide (s.size = 0) := by
  rw [ByteArray.toList_eq]
  have e : s.data.toList.length = s.size := by simp
  cases h : s.data.toList with
  | nil =>
    rw [h] at e
    simp only [List.length_nil] at e
    simp [← e]
  | cons a r =>
    rw [h] at e
    simp only [List.length_cons] at e
    rw [← e]
    simp
end Pm

theorem OwnP.grown {B : Nat} {w wr w' : World} {a : Option Addr} {n c : Nat} {l : List Pair} (h : OwnP wr B (.slice a n c) n l) (hB : w.heap.size ≤ B) (hb : Below w.heap.size w wr) (o : Obj) (hg : (wr.alloc o).grownBy w' (Value.slice a n c).ownBlock) : Below w.heap.size w w' := by
  have hk : Kept (fun k => (Value.slice a n c).ownBlock = some k) wr w' := Kept.grown ((Kept.refl _ wr).alloc o) hg (fun k hk => .inl hk)
  exact hb.trans ((hk.mono (Q := fun k => w.heap.size ≤ k) (fun i _ hi => Nat.le_trans hB (World.ownsRow.lt h i hi).1)).below hb.size)
theorem R7Left_any (s : ByteArray) (w : World) (_hs : s.size ≤ 100000) :
    Calls Try.prog 23 #[.string s] w fun e w' => e = .returned (.string (Pm.lf s)) ∧ w = w' := by
  go_enter Try.func23, Try.ntmps23
  go_wp2_with fail
  go_loop [0] (fun v => ∃ t : ByteArray, v = .string t ∧ t.size ≤ s.size ∧ Hid (Pm.lf t = Pm.lf s)) (fun v => strLen v)
  case atStart => exact ⟨s, rfl, Nat.le_refl _, rfl⟩
  case round =>
    obtain ⟨t, rfl, htz, HT⟩ := hrel
    by_cases h0 : 0 < t.size
    · have hby := B.toNat_le t[0]
      cases hb : B.bla (t[0].toNat : Int)
      · have HU : Hid (t = Pm.lf s) := by
          show _ = _
          rw [← HT.out, Pm.lf_no t (fun _ => hb)]
        have HB := Lib.hid hb
        clear hb
        go_wp2_with fail
        refine (RBlank_any _ _).mono ?_
        rintro e w' ⟨rfl, rfl⟩
        rw [HB.out]
        go_wp2_with fail
        go_ret
        rw [← HU.out]
        exact ⟨rfl, rfl⟩
      · have HU : Hid (Pm.lf (t.extract 1 t.size) = Pm.lf s) := by
          show _ = _
          rw [← HT.out, Pm.lf_yes t h0 hb]
        have HB := Lib.hid hb
        clear hb
        go_wp2_with fail
        refine (RBlank_any _ _).mono ?_
        rintro e w' ⟨rfl, rfl⟩
        rw [HB.out]
        go_wp2_with fail
        exact ⟨⟨_, rfl, by simp; omega, HU⟩, by simp [strLen]; omega⟩
    · have HU : Hid (t = Pm.lf s) := by
        show _ = _
        rw [← HT.out, Pm.lf_no t (fun h => absurd h h0)]
      go_wp2_with fail
      go_ret
      rw [← HU.out]
      exact ⟨rfl, rfl⟩

namespace Pm
/-- Where the document's loop stands: what is left is t. -/
structure Lo (s : ByteArray) (k : Nat) (acc : List Pair) (t : ByteArray) : Prop where
  on : On s k acc
  eq : restS s k = t
theorem Lo.size {s t : ByteArray} {k : Nat} {acc : List Pair} (h : Lo s k acc t) : t.size = s.size - k := by rw [← h.eq, restS_size s k h.on.le]
theorem Lo.bad {s t : ByteArray} {k : Nat} {acc : List Pair} (h : Lo s k acc t) (hp : pr t 0 = none) : ps s 0 = none := by
  rw [← h.eq, pr_rest s k h.on.le] at hp
  exact h.on.bad hp
theorem Lo.step {s t : ByteArray} {k : Nat} {acc : List Pair} {p : Pair} {n : Nat} (h : Lo s k acc t) (hp : pr t 0 = some (p, n)) : n ≤ t.size ∧ 2 ≤ n ∧ (restS t n).size = t.size - n ∧
    (t.size ≤ n → ps s 0 = some (acc ++ [p])) ∧ (n < t.size → bt (restS t n) 0 = none → ps s 0 = none) ∧ (n < t.size → ∀ m, bt (restS t n) 0 = some m → Lo s (k + n + m) (acc ++ [p]) (restS (restS t n) m)) := by
  have hz := h.size
  have hkle := h.on.le
  have h1 := (pr_ok hp).2.2
  have h2 := (pr_pos hp).2
  have hp2 := hp
  rw [← h.eq, pr_rest s k h.on.le] at hp2
  have hb : bt (restS t n) 0 = bt s (k + n) := by
    rw [← h.eq, rest_two, bt_rest s _ (by omega)]
  refine ⟨by omega, h2, restS_size t n (by omega), fun hn => h.on.last hp2 (by omega), fun hn hb2 => ?_, fun hn m hm => ?_⟩
  · rw [hb] at hb2
    exact h.on.odd hp2 (by omega) hb2
  · rw [hb] at hm
    exact ⟨h.on.more hp2 (by omega) hm, by rw [← h.eq, rest_two, rest_two, Nat.add_assoc]⟩
theorem pr_at (t : ByteArray) (n : Nat) (hn : runLen B.tok t 0 = n) (h0 : 0 < n) (hlt : n < t.size) (hb : (t[n].toNat : Int) = 61) :
    pr t 0 = if 0 < wlen t (n + 1) then some ((t.extract 0 n, wtxt t (n + 1)), n + 1 + wlen t (n + 1)) else none := by
  have e : byteAt t n = 61 := by unfold byteAt; rw [Qd.byteAt_at t n hlt]; exact hb
  have hw := Qd.wok_len t (n + 1)
  unfold pr
  rw [hn, Nat.zero_add, hw]
  by_cases hm : 0 < wlen t (n + 1)
  · rw [if_pos ⟨h0, ⟨hlt, e⟩, decide_eq_true hm⟩, if_pos hm]
  · rw [if_neg (fun h => hm (of_decide_eq_true h.2.2)), if_neg hm]
theorem pr_off (t : ByteArray) (n : Nat) (hn : runLen B.tok t 0 = n) (h : n = 0 ∨ ¬ n < t.size ∨ ∃ h : n < t.size, (t[n].toNat : Int) ≠ 61) : pr t 0 = none := by
  unfold pr
  rw [hn, Nat.zero_add, if_neg]
  rintro ⟨h0, ⟨hlt, hb⟩, -⟩
  rcases h with h | h | ⟨h1, h2⟩
  · omega
  · exact h hlt
  · unfold byteAt at hb
    rw [Qd.byteAt_at t n hlt] at hb
    exact h2 hb
end Pm
set_option maxHeartbeats 1000000 in
theorem R7Parse_any (s : ByteArray) (w : World) (hs : s.size ≤ 100000) :
    Calls Try.prog 8 #[.string s] w (Rows_ (Pm.ps s 0) w) := by
  go_enter Try.func8, Try.ntmps8
  go_wp2_with fail
  go_loopw [0, 4] (fun v el wr => ∃ (k : Nat) (acc : List Pair) (t : ByteArray) (a : Option Addr) (n c : Nat), v = .string t ∧ el = .slice a n c ∧ OwnP wr w.heap.size (.slice a n c) n acc ∧ Below w.heap.size w wr ∧ Pm.Lo s k acc t) (fun v _ _ => strLen v)
  case atStart => exact ⟨0, [], s, none, 0, 0, rfl, rfl, OwnP.nil _ _, Below.refl _ _, ⟨Pm.On.start s, Pm.rest_zero s⟩⟩
  case round =>
    obtain ⟨k, acc, t, a, n, c, rfl, rfl, ho, hb, hlo⟩ := hrel
    have HO := Lib.hid ho
    have HB := Lib.hid hb
    have HL := Lib.hid hlo
    have htz : t.size ≤ s.size := by have := hlo.size; omega
    have HTZ := Lib.hid hlo.size
    have hlen := ho.len
    have hfew := hlo.on.few
    have hkle := hlo.on.le
    clear ho hb hlo
    go_wp2_with fail
    go_loopw [5] (fun i wi => ∃ q : Nat, q ≤ t.size ∧ i = .int .i64 q ∧ runLen B.tok t 0 = q + runLen B.tok t q ∧ wi = wr) (fun i _ => t.size - (intOf i).toNat)
    case atStart => exact ⟨0, Nat.zero_le _, rfl, by simp, rfl⟩
    case round =>
      obtain ⟨q, hq, rfl, hsum, rfl⟩ := hrel
      have HS := Lib.hid hsum
      clear hsum
      by_cases hlt : q < t.size
      · have hby := B.toNat_le t[q]
        cases htk : B.tok (t[q].toNat : Int)
        · have hz := runLen_no B.tok t q hlt htk
          have HE : Hid (runLen B.tok t 0 = q) := by show _ = _; rw [HS.out, hz]; rfl
          have HQ := Lib.hid htk
          clear hz htk HS
          by_cases hoff : 0 < q ∧ (t[q].toNat : Int) = 61
          · have hpa := Pm.pr_at t q HE.out hoff.1 hlt hoff.2
            obtain ⟨X, hX⟩ : ∃ X, t.extract (q + 1) t.size = X := ⟨_, rfl⟩
            have hXr : restS t (q + 1) = X := hX
            have hXz : X.size ≤ 100000 := by rw [← hXr, restS_size t _ (by omega)]; omega
            obtain ⟨hw1, -, hw3⟩ := Pm.word_two t (q + 1) 0
            rw [hXr, Nat.add_zero] at hw1 hw3
            rw [← hw1, ← hw3] at hpa
            obtain ⟨vl, hvl⟩ : ∃ vl, wtxt X 0 = vl := ⟨_, rfl⟩
            obtain ⟨m, hm⟩ : ∃ m, wlen X 0 = m := ⟨_, rfl⟩
            rw [hvl, hm] at hpa
            have HPA := Lib.hid hpa
            have HVL := Lib.hid hvl
            have HM := Lib.hid hm
            have HOF := Lib.hid hoff
            have hq0 : 0 < q := hoff.1
            have h61 : ((t[q].toNat : Int) != 61) = false := by rw [HOF.out.2]; rfl
            clear hpa hvl hm hw1 hw3 hoff hXr HE
            go_wp2_with fail
            refine (RTok_any _ _ (by omega) (by omega)).mono ?_
            rintro e w' ⟨rfl, rfl⟩
            rw [HQ.out]
            by_cases hm0 : 0 < m
            · have hpa := HPA.out
              rw [if_pos hm0] at hpa
              obtain ⟨h1, h2, h3, h4, h5, h6⟩ := HL.out.step hpa
              obtain ⟨X2, hX2⟩ : ∃ X2, t.extract (q + 1 + m) t.size = X2 := ⟨_, rfl⟩
              have hXr : restS t (q + 1 + m) = X2 := hX2
              rw [hXr] at h3 h5 h6
              obtain ⟨nm, hnm⟩ : ∃ nm, t.extract 0 q = nm := ⟨_, rfl⟩
              rw [hnm] at h4 h6
              have H4 := Lib.hid h4
              have H5 := Lib.hid h5
              have H6 := Lib.hid h6
              have H3 := Lib.hid h3
              have h3' : X2.size ≤ 100000 := by omega
              have hE2 := Pm.empty_is X2
              clear h4 h5 h6 hXr hpa h3
              by_cases he2 : X2.size = 0
              · rw [decide_eq_true he2] at hE2
                have HR := Lib.hid (H4.out (by have := H3.out; omega))
                go_wp2_with fail
                refine (RWord_any X _ hXz).mono ?_
                rintro e w3 ⟨rfl, hb3⟩
                rw [HVL.out, HM.out]
                have HB3 := Lib.hid (below_then HB.out hb3)
                have HO3 := Lib.hid (HO.out.below hb3)
                clear hb3 HO HB
                go_wp2_with (at_builtin; refine wpList_append_param _ rfl _ _ rfl w.heap.size _ _ _ rfl (HO3.out.alloc _) _ 1 (nm, vl) rfl (by simp [go_sem]) (by simp [go_sem]) (by omega) (by have := HB3.out.size; simp; omega) ?_)
                intro a4 c4 w4 ho4 hg4 _
                have HB4 := Lib.hid (HO3.out.grown (Nat.le_refl _) HB3.out _ hg4)
                have HO4 := Lib.hid ho4
                clear ho4 hg4 HO3 HB3
                go_wp2_with fail
                go_ret2
                exact Rows_.ok HR.out rfl HO4.out (Nat.le_refl _) HB4.out
              · rw [decide_eq_false he2] at hE2
                have hlt2 : q + 1 + m < t.size := by have := H3.out; omega
                have h7 := Pm.lf_le X2
                obtain ⟨X3, hX3⟩ : ∃ X3, Pm.lf X2 = X3 := ⟨_, rfl⟩
                have HX3 := Lib.hid hX3
                rw [hX3] at h7
                have hE3 := Pm.empty_is X3
                cases hbt : Pm.bt X2 0 with
                | none =>
                  have HR := Lib.hid (H5.out hlt2 hbt)
                  have hno := Pm.semi_no X2 hbt
                  rw [hX3] at hno
                  clear hbt hX3
                  rcases hno with h0 | ⟨h0, h59⟩
                  · rw [decide_eq_true h0] at hE3
                    go_wp2_with fail
                    refine (RWord_any X _ hXz).mono ?_
                    rintro e w3 ⟨rfl, hb3⟩
                    rw [HVL.out, HM.out]
                    have HB3 := Lib.hid (below_then HB.out hb3)
                    have HO3 := Lib.hid (HO.out.below hb3)
                    clear hb3 HO HB
                    go_wp2_with (at_builtin; refine wpList_append_param _ rfl _ _ rfl w.heap.size _ _ _ rfl (HO3.out.alloc _) _ 1 (nm, vl) rfl (by simp [go_sem]) (by simp [go_sem]) (by omega) (by have := HB3.out.size; simp; omega) ?_)
                    intro a4 c4 w4 ho4 hg4 _
                    have HB4 := Lib.hid (HO3.out.grown (Nat.le_refl _) HB3.out _ hg4)
                    have HO4 := Lib.hid ho4
                    clear ho4 hg4 HO3 HB3
                    go_wp2_with fail
                    refine (R7Left_any X2 _ h3').mono ?_
                    rintro e w5 ⟨rfl, rfl⟩
                    rw [HX3.out]
                    go_wp2_with fail
                    go_ret2
                    exact Rows_.bad HR.out rfl HB4.out
                  · have he3 : ¬ X3.size = 0 := by omega
                    rw [decide_eq_false he3] at hE3
                    have h59' : ((X3[0].toNat : Int) != 59) = true := by simpa using h59
                    go_wp2_with fail
                    refine (RWord_any X _ hXz).mono ?_
                    rintro e w3 ⟨rfl, hb3⟩
                    rw [HVL.out, HM.out]
                    have HB3 := Lib.hid (below_then HB.out hb3)
                    have HO3 := Lib.hid (HO.out.below hb3)
                    clear hb3 HO HB
                    go_wp2_with (at_builtin; refine wpList_append_param _ rfl _ _ rfl w.heap.size _ _ _ rfl (HO3.out.alloc _) _ 1 (nm, vl) rfl (by simp [go_sem]) (by simp [go_sem]) (by omega) (by have := HB3.out.size; simp; omega) ?_)
                    intro a4 c4 w4 ho4 hg4 _
                    have HB4 := Lib.hid (HO3.out.grown (Nat.le_refl _) HB3.out _ hg4)
                    have HO4 := Lib.hid ho4
                    clear ho4 hg4 HO3 HB3
                    go_wp2_with fail
                    refine (R7Left_any X2 _ h3').mono ?_
                    rintro e w5 ⟨rfl, rfl⟩
                    rw [HX3.out]
                    go_wp2_with fail
                    go_ret2
                    exact Rows_.bad HR.out rfl HB4.out
                | some M =>
                  have HR := Lib.hid (H6.out hlt2 M hbt)
                  obtain ⟨h0, h59, hX5⟩ := Pm.semi_yes X2 M hbt
                  rw [hX3] at hX5
                  have h0' : 0 < X3.size := by subst hX3; exact h0
                  have h59' : ((X3[0].toNat : Int) != 59) = false := by subst hX3; rw [h59]; rfl
                  clear h59 hX3 hbt
                  have he3 : ¬ X3.size = 0 := by omega
                  rw [decide_eq_false he3] at hE3
                  obtain ⟨X4, hX4⟩ : ∃ X4, X3.extract 1 X3.size = X4 := ⟨_, rfl⟩
                  have h8 : X4.size = X3.size - 1 := by rw [← hX4]; simp
                  rw [hX4] at hX5
                  have h9 := Pm.lf_le X4
                  rw [hX5] at h9
                  have HX5 := Lib.hid hX5
                  clear hX5
                  go_wp2_with fail
                  refine (RWord_any X _ hXz).mono ?_
                  rintro e w3 ⟨rfl, hb3⟩
                  rw [HVL.out, HM.out]
                  have HB3 := Lib.hid (below_then HB.out hb3)
                  have HO3 := Lib.hid (HO.out.below hb3)
                  clear hb3 HO HB
                  go_wp2_with (at_builtin; refine wpList_append_param _ rfl _ _ rfl w.heap.size _ _ _ rfl (HO3.out.alloc _) _ 1 (nm, vl) rfl (by simp [go_sem]) (by simp [go_sem]) (by omega) (by have := HB3.out.size; simp; omega) ?_)
                  intro a4 c4 w4 ho4 hg4 _
                  have HB4 := Lib.hid (HO3.out.grown (Nat.le_refl _) HB3.out _ hg4)
                  have HO4 := Lib.hid ho4
                  clear ho4 hg4 HO3 HB3
                  go_wp2_with fail
                  refine (R7Left_any X2 _ h3').mono ?_
                  rintro e w5 ⟨rfl, rfl⟩
                  rw [HX3.out]
                  go_wp2_with fail
                  refine (R7Left_any X4 _ (by omega)).mono ?_
                  rintro e w5 ⟨rfl, rfl⟩
                  rw [HX5.out]
                  go_wp2_with fail
                  go_roundw
                  case rel => exact ⟨_, _, _, _, _, _, rfl, rfl, HO4.out, HB4.out, HR.out⟩
                  case measure => have := H3.out; simp only [strLen]; omega
            · have hm1 : m = 0 := by omega
              have hpa := HPA.out
              rw [if_neg hm0] at hpa
              have HR := Lib.hid (HL.out.bad hpa)
              subst hm1
              clear hpa
              go_wp2_with fail
              refine (RWord_any X _ hXz).mono ?_
              rintro e w3 ⟨rfl, hb3⟩
              rw [HVL.out, HM.out]
              have HB3 := Lib.hid (below_then HB.out hb3)
              clear hb3
              go_wp2_with fail
              go_ret2
              exact Rows_.bad HR.out rfl HB3.out
          · have HX := Lib.hid (HL.out.bad (Pm.pr_off t q HE.out (by
              by_cases h0 : 0 < q
              · exact .inr (.inr ⟨hlt, fun e => hoff ⟨h0, e⟩⟩)
              · exact .inl (by omega))))
            have HOF := Lib.hid hoff
            clear hoff
            go_wp2_with fail
            refine (RTok_any _ _ (by omega) (by omega)).mono ?_
            rintro e w' ⟨rfl, rfl⟩
            rw [HQ.out]
            go_wp2_with fail
            · go_ret2
              exact Rows_.bad HX.out rfl HB.out
            · go_ret2
              exact Rows_.bad HX.out rfl HB.out
            · exfalso
              have h61 : ((t[q].toNat : Int) != 61) = false := by assumption
              exact HOF.out ⟨by omega, by simpa using h61⟩
        · have hz := runLen_yes B.tok t q hlt htk
          have HE : Hid (runLen B.tok t 0 = q + 1 + runLen B.tok t (q + 1)) := by show _ = _; rw [HS.out, hz]; omega
          have HQ := Lib.hid htk
          clear hz htk
          go_wp2_with fail
          refine (RTok_any _ _ (by omega) (by omega)).mono ?_
          rintro e w' ⟨rfl, rfl⟩
          rw [HQ.out]
          go_wp2_with fail
          go_roundw
          case rel => exact ⟨q + 1, by omega, by go_num, HE.out, trivial⟩
          case measure => simp [intOf]; omega
      · have hz := runLen_end B.tok t q hlt
        have HE : Hid (runLen B.tok t 0 = q) := by show _ = _; rw [HS.out, hz]; rfl
        have HX := Lib.hid (HL.out.bad (Pm.pr_off t q HE.out (.inr (.inl hlt))))
        clear hz HS HE
        obtain rfl : q = t.size := by omega
        go_wp2_with fail
        all_goals
          go_ret2
          exact Rows_.bad HX.out rfl HB.out
end Go.Proofs.Ytjgjdcikeagibaa
