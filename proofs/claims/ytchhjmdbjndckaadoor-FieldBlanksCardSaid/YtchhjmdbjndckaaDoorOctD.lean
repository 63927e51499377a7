/- All, over any function value that answers a byte and keeps what All keeps: its contract. -/
import Derived.Test.YtchhjmdbjndckaaDoorOctC
import Derived.Shelf.Abstract
namespace Go.Proofs.YtchhjmdbjndckaaDoor
open Go.RowKit

/-- The bytes that are asked, one behind the other, until one is not so: the answer, and what was asked. -/
def asks (p : List UInt8 → UInt8 → Bool) (pre : List UInt8) : List UInt8 → Bool × List UInt8
  | [] => (true, pre)
  | c :: r => if p pre c then asks p (pre ++ [c]) r else (false, pre ++ [c])
theorem asks_append (p : List UInt8 → UInt8 → Bool) : ∀ (l m : List UInt8) (pre : List UInt8), (asks p pre l).1 = true → asks p pre (l ++ m) = asks p (pre ++ l) m
  | [], m, pre, _ => by simp
  | c :: l, m, pre, h => by
    simp only [asks, List.cons_append] at h ⊢
    by_cases hp : p pre c = true
    · rw [if_pos hp] at h ⊢; rw [asks_append p l m _ h]; simp
    · rw [if_neg hp] at h; simp at h
theorem asks_pre (p : List UInt8 → UInt8 → Bool) : ∀ (l pre : List UInt8), (asks p pre l).1 = true → (asks p pre l).2 = pre ++ l
  | [], pre, _ => by simp [asks]
  | c :: l, pre, h => by
    simp only [asks] at h ⊢
    by_cases hp : p pre c = true
    · rw [if_pos hp] at h ⊢; rw [asks_pre p l _ h]; simp
    · rw [if_neg hp] at h; simp at h

theorem asks_go (p : List UInt8 → UInt8 → Bool) (q : List UInt8) (c : UInt8) (h : (asks p [] q).1 = true) (hc : p q c = true) : (asks p [] (q ++ [c])).1 = true := by
  rw [asks_append p q [c] [] h]; simp [asks, hc]
theorem asks_stop (p : List UInt8 → UInt8 → Bool) (q : List UInt8) (c : UInt8) (r : List UInt8) (h : (asks p [] q).1 = true) (hc : p q c = false) : asks p [] (q ++ c :: r) = (false, q ++ [c]) := by
  rw [asks_append p q (c :: r) [] h]; simp [asks, hc]
/-- The bytes of texts, one behind the other. -/
def flat (ss : List ByteArray) : List UInt8 := ss.flatMap (·.data.toList)
theorem flat_cut (ss : List ByteArray) (k : Nat) (h : k < ss.length) : flat ss = flat (ss.take k) ++ (ss[k].data.toList ++ flat (ss.drop (k + 1))) := by
  have e : ss = ss.take k ++ (ss[k] :: ss.drop (k + 1)) := by rw [← List.drop_eq_getElem_cons h, List.take_append_drop]
  unfold flat
  conv => lhs; rw [e]
  rw [List.flatMap_append, List.flatMap_cons]
theorem flat_snoc (ss : List ByteArray) (k : Nat) (h : k < ss.length) : flat (ss.take (k + 1)) = flat (ss.take k) ++ ss[k].data.toList := by
  unfold flat
  rw [List.take_succ_eq_append_getElem h, List.flatMap_append, List.flatMap_cons, List.flatMap_nil, List.append_nil]
theorem asks_end {p : List UInt8 → UInt8 → Bool} {f pre sl rest t d : List UInt8} {c : UInt8} (hf : f = pre ++ (sl ++ rest)) (hs : sl = t ++ c :: d) (hy : (asks p [] (pre ++ t)).1 = true) (hc : p (pre ++ t) c = false) : asks p [] f = (false, pre ++ t ++ [c]) := by
  rw [← asks_stop p (pre ++ t) c (d ++ rest) hy hc, hf, hs]
  congr 1
  simp

theorem cut_at {f pre sl rest t d : List UInt8} {c : UInt8} (hf : f = pre ++ (sl ++ rest)) (hs : sl = t ++ c :: d) : f = (pre ++ t) ++ c :: (d ++ rest) := by rw [hf, hs]; simp
theorem catch_idle (p : Addr) (w : World) :
    CallsD Tryd.prog 31 #[.pointer (some p)] .returning w fun e u' w' => e = .returned (.tuple #[]) ∧ u' = .returning ∧ w' = w := by
  refine callsD_of_wpS Tryd.func31 rfl fun c₀ cs hu => ?_
  apply wpS_seq
  apply wpS_region
  simp [wpOpsS, go_sem, recoverD, hu, Tryd.ntmps31, Exit.thenS]
  refine wpS_cond (t := false) (by simp [Act.eval, Array.replicate]) ?_
  simp only [Bool.false_eq_true, if_false]
  refine wpS_of_wp (wp_skip ?_)
  cases c₀
  simp_all [bodyPostS, results, Tryd.results31]

set_option maxHeartbeats 400000 in
theorem All_any (g : Nat) (first cap : Array Value) (p : List UInt8 → UInt8 → Bool) (Inv : List UInt8 → World → Prop) (x : Addr) (len cp : Nat) (ss : List ByteArray) (hlen : ss.length = len) (hm : len ≤ 100000) (hss : ∀ s ∈ ss, s.size ≤ 100000) (w : World)
    (eg : ∀ args w, (callFunc g args).run Tryd.prog w = .ok (.enter g args) w)
    (h0 : Inv [] (w.alloc (.cells #[.bool false] 4)))
    (hcell : ∀ pre W, Inv pre W → W.cell? ⟨w.heap.size, 0, none⟩ = some (.bool false) ∧ W.frozen? ⟨w.heap.size, 0, none⟩ = false ∧ ∀ i, i < len → W.cell? (x.add i) = some (.string (ss.getD i ByteArray.empty)))
    (hcall : ∀ pre c r W, flat ss = pre ++ c :: r → (asks p [] pre).1 = true → Inv pre W → Calls Tryd.prog g (first ++ #[.int .u8 (c.toNat : Int)] ++ cap) W fun e W' => e = .returned (.bool (p pre c)) ∧ Inv (pre ++ [c]) W') :
    Calls Tryd.prog 18 #[.func (.func g) first cap, .slice (some x) len cp] w fun e w' => ∃ W, e = .returned (.bool (asks p [] (flat ss)).1) ∧ Inv (asks p [] (flat ss)).2 W ∧ w' = W.setCell ⟨w.heap.size, 0, none⟩ (.bool (asks p [] (flat ss)).1) := by
  have hmf : ∀ (fn : Fn) (first cap : Array Value) (w : World), (Instr.makeFunc fn first cap).run Tryd.prog w = .ok (.func fn first cap) w := fun _ _ _ _ => rfl
  have hcallH := Lib.hid hcall
  have hcellH := Lib.hid hcell
  have hssH := Lib.hid hss
  have hlenH := Lib.hid hlen
  clear hcall hcell hss hlen
  go_enter_defers Tryd.func18, Tryd.ntmps18
  go_wp2
  go_loopw [6, 7, 11, 15, 16, 17] (fun _ _ i _ _ _ wr => ∃ k : Nat, k ≤ len ∧ i = .int .i64 k ∧ (asks p [] (flat (ss.take k))).1 = true ∧ Inv (flat (ss.take k)) wr) (fun _ _ i _ _ _ _ => len - (intOf i).toNat)
  case atStart => exact ⟨0, Nat.zero_le _, rfl, rfl, h0⟩
  case round =>
    obtain ⟨k, hk, rfl, hyes, hinv⟩ := hrel
    have HY := Lib.hid hyes
    clear hyes h0
    by_cases hlt : k < len
    · have hkl : k < ss.length := by rw [hlenH.out]; exact hlt
      obtain ⟨s, hs⟩ : ∃ s, s = ss[k] := ⟨_, rfl⟩
      have hcut : flat ss = flat (ss.take k) ++ (s.data.toList ++ flat (ss.drop (k + 1))) := by rw [hs]; exact flat_cut ss k hkl
      have hsn : flat (ss.take (k + 1)) = flat (ss.take k) ++ s.data.toList := by rw [hs]; exact flat_snoc ss k hkl
      have hsz : s.size ≤ 100000 := by rw [hs]; exact hssH.out _ (List.getElem_mem _)
      have hc4 : wr.cell? (x.add k) = some (.string s) := by rw [(hcellH.out _ _ hinv).2.2 k hlt, hs]; simp [List.getD, hkl]
      have HC := Lib.hid hcut
      have HN := Lib.hid hsn
      clear hcut hsn hkl hs
      generalize hpre : flat (ss.take k) = pre at *
      clear hpre
      go_wp2
      go_loopw [7, 17] (fun _ j wi => ∃ n : Nat, n ≤ s.size ∧ j = .int .i64 n ∧ (asks p [] (pre ++ s.data.toList.take n)).1 = true ∧ Inv (pre ++ s.data.toList.take n) wi) (fun _ j _ => s.size - (intOf j).toNat)
      case atStart => exact ⟨0, Nat.zero_le _, rfl, by simpa using HY.out, by simpa using hinv⟩
      case round =>
        clear hc4 hinv
        obtain ⟨n, hn, rfl, hyn, hinv⟩ := hrel
        have HYN := Lib.hid hyn
        clear hyn
        by_cases hnt : n < s.size
        · have hT := B.take_snocB s n hnt
          have hD := B.cutB s n hnt
          by_cases hp : p (pre ++ s.data.toList.take n) s[n] = true
          · have HG := Lib.hid (asks_go p _ _ HYN.out hp)
            have HP := Lib.hid hp
            have HT := Lib.hid hT
            have hcl := Lib.hid (cut_at HC.out hD)
            clear hp hT hD
            go_wp2_with fail
            refine (hcallH.out _ s[n] _ _ hcl.out HYN.out hinv).mono ?_
            rintro e w2 ⟨rfl, hinv2⟩
            rw [HP.out]
            rw [List.append_assoc, ← HT.out] at hinv2
            go_wp2
            go_roundw
            case rel => exact ⟨n + 1, by omega, by go_num, by rw [HT.out, ← List.append_assoc]; exact HG.out, hinv2⟩
            case measure => simp [intOf]; omega
          · have hp' : p (pre ++ s.data.toList.take n) s[n] = false := by simpa using hp
            have hend := Lib.hid (asks_end HC.out hD HYN.out hp')
            have HP := Lib.hid hp'
            have hcl := Lib.hid (cut_at HC.out hD)
            clear hp hp' hT hD
            go_wp2_with fail
            refine (hcallH.out _ s[n] _ _ hcl.out HYN.out hinv).mono ?_
            rintro e w2 ⟨rfl, hinv2⟩
            rw [HP.out]
            obtain ⟨hc1, hc2, -⟩ := hcellH.out _ _ hinv2
            go_wp2
            refine leaves_cons (f := 31) (args := #[.pointer (some ⟨w.heap.size, 0, none⟩)]) (by simp) (by simp [go_sem]) ?_
            refine (catch_idle ⟨w.heap.size, 0, none⟩ _).mono ?_
            rintro e u' w'' ⟨rfl, rfl, rfl⟩
            have hc3 : (w2.setCell ⟨w.heap.size, 0, none⟩ (.bool false)).cell? ⟨w.heap.size, 0, none⟩ = some (.bool false) := by simp [go_sem, hc1]
            simp [Leaves, settle, results, Tryd.results18, go_sem, hc3]
            rw [hend.out]
            exact ⟨rfl, w2, hinv2, rfl⟩
        · have hT : s.data.toList.take n = s.data.toList := List.take_of_length_le (by simp; omega)
          have HT := Lib.hid hT
          clear hT
          go_wp2
          go_roundw
          case rel => exact ⟨k + 1, by omega, by go_num, by rw [HN.out, ← HT.out]; exact HYN.out, by rw [HN.out, ← HT.out]; exact hinv⟩
          case measure => simp [intOf]; omega
    · have hT : ss.take k = ss := List.take_of_length_le (by rw [hlenH.out]; omega)
      rw [hT] at hinv
      obtain ⟨hc1, hc2, -⟩ := hcellH.out _ _ hinv
      have HE : Hid (asks p [] (flat ss) = (true, flat ss)) := by
        show _ = _
        have h1 := HY.out
        rw [hT] at h1
        exact Prod.ext h1 (by rw [asks_pre p _ _ h1]; rfl)
      clear hT
      go_wp2
      refine leaves_cons (f := 31) (args := #[.pointer (some ⟨w.heap.size, 0, none⟩)]) (by simp) (by simp [go_sem]) ?_
      refine (catch_idle ⟨w.heap.size, 0, none⟩ _).mono ?_
      rintro e u' w'' ⟨rfl, rfl, rfl⟩
      have hc3 : (wr.setCell ⟨w.heap.size, 0, none⟩ (.bool true)).cell? ⟨w.heap.size, 0, none⟩ = some (.bool true) := by simp [go_sem, hc1]
      simp [Leaves, settle, results, Tryd.results18, go_sem, hc3]
      rw [HE.out]
      exact ⟨rfl, wr, hinv, rfl⟩

set_option maxHeartbeats 400000 in
theorem All_nil (f : Value) (w : World) :
    Calls Tryd.prog 18 #[f, .slice none 0 0] w fun e w' => e = .returned (.bool true) ∧ w' = (w.alloc (.cells #[.bool false] 4)).setCell ⟨w.heap.size, 0, none⟩ (.bool true) := by
  have hmf : ∀ (fn : Fn) (first cap : Array Value) (w : World), (Instr.makeFunc fn first cap).run Tryd.prog w = .ok (.func fn first cap) w := fun _ _ _ _ => rfl
  go_enter_defers Tryd.func18, Tryd.ntmps18
  go_wp2
  refine wp_loop_rounds 1 ?_
  rw [rounds_succ]
  go_wp2
  refine leaves_cons (f := 31) (args := #[.pointer (some ⟨w.heap.size, 0, none⟩)]) (by simp) (by simp [go_sem]) ?_
  refine (catch_idle ⟨w.heap.size, 0, none⟩ _).mono ?_
  rintro e u' w'' ⟨rfl, rfl, rfl⟩
  simp [Leaves, settle, results, Tryd.results18, go_sem]

/-! Token: All of IsToken. -/
theorem asks_pure (q : UInt8 → Bool) : ∀ (l pre : List UInt8), (asks (fun _ c => q c) pre l).1 = l.all q
  | [], _ => rfl
  | c :: l, pre => by
    simp only [asks, List.all_cons]
    by_cases h : q c = true
    · rw [if_pos h, h, asks_pure q l]; rfl
    · rw [if_neg h]; simp at h; simp [h]
theorem alloc2_cell (w : World) (o : Value) (v : Value) (t u : TypeId) : ((w.alloc (.cells #[o] t)).alloc (.cells #[v] u)).cell? ⟨w.heap.size, 0, none⟩ = some o := by
  simp [go_sem]
end Go.Proofs.YtchhjmdbjndckaaDoor
