/- The first loop of the law OctetAll: the texts, cut, are gathered. -/
import Derived.Test.YtddobbgpfdoamaaAllA
namespace Go.Proofs.Ytddobbgpfdoamaa
namespace all
open Go.RowKit

/-- What is told of a row of texts that came in. -/
def IsStrs (w : World) (a : Option Addr) (len cap : Nat) (ss : List ByteArray) : Prop :=
  (a = none ∧ len = 0 ∧ cap = 0 ∧ ss = []) ∨
  ∃ x, a = some x ∧ len ≤ cap ∧ cap ≤ maxLen ∧ ss.length = cap ∧ (∀ i, i < ss.length → w.cell? (x.add i) = some (.string (ss.getD i ByteArray.empty))) ∧ ∀ s ∈ ss, s.size ≤ maxLen
def strs (l : List ByteArray) : List Value := l.map .string
def gath (ss : List ByteArray) (k : Nat) : List ByteArray := (ss.take k).map fewS
theorem info_str : (Try.prog.info? 9).map (fun i => (i.zero, i.size, i.bytes)) = some (some (.string ByteArray.empty), 1, 16) := by kernel_rfl
theorem gath_snoc (ss : List ByteArray) (k : Nat) (h : k < ss.length) : gath ss (k + 1) = gath ss k ++ [fewS (ss.getD k ByteArray.empty)] := by
  unfold gath
  rw [List.take_succ_eq_append_getElem h, List.map_append]
  simp [List.getD, h]
theorem gath_length (ss : List ByteArray) (k : Nat) (h : k ≤ ss.length) : (gath ss k).length = k := by simp [gath]; omega
theorem gath_size (ss : List ByteArray) (k : Nat) : ∀ s ∈ gath ss k, s.size ≤ 300 := by
  intro s hs
  unfold gath at hs
  obtain ⟨x, _, rfl⟩ := List.mem_map.1 hs
  exact fewS_size x
theorem flat_length : ∀ (l : List ByteArray), (∀ s ∈ l, s.size ≤ 300) → (flat l).length ≤ l.length * 300
  | [], _ => by simp [flat]
  | s :: r, h => by
    have h1 := flat_length r fun x hx => h x (List.mem_cons_of_mem _ hx)
    have h2 := h s (List.mem_cons_self ..)
    have h3 : s.data.toList.length = s.size := by simp
    unfold flat at *
    rw [List.flatMap_cons, List.length_append, h3, List.length_cons]
    omega
theorem flat_append (l m : List ByteArray) : flat (l ++ m) = flat l ++ flat m := by unfold flat; rw [List.flatMap_append]
theorem flat_one (s : ByteArray) : flat [s] = s.data.toList := by unfold flat; simp
theorem concat_flat (l : List ByteArray) (s : ByteArray) : (⟨(flat l).toArray⟩ : ByteArray) ++ s = ⟨(flat (l ++ [s])).toArray⟩ := by
  rw [flat_append, flat_one]
  apply ByteArray.ext; apply Array.ext'
  simp

theorem lt_of_cell {w : World} {a : Addr} {v : Value} (h : w.cell? a = some v) : a.block < w.heap.size := by
  unfold World.cell? at h
  rcases hx : w.heap[a.block]? with _ | o
  · rw [hx] at h; simp at h
  · exact (Array.getElem?_eq_some_iff.1 hx).1
theorem owns_below {w w' : World} {base : Nat} {e : TypeId} {size : Nat} {v : Value} {n : Nat} {xs : List Value} (h : w.ownsRow base e size v n xs) (hb : Below w.heap.size w w') : w'.ownsRow base e size v n xs := by
  refine ⟨h.1, ?_⟩
  rcases h.2 with h2 | ⟨g, cap, cur, hv, hg, hh, r⟩
  · exact Or.inl h2
  · have hlt : g < w.heap.size := by obtain ⟨h1, _⟩ := Array.getElem?_eq_some_iff.1 hh; exact h1
    exact Or.inr ⟨g, cap, cur, hv, hg, (hb.block g hlt).trans hh, r⟩

theorem asks_count (M : Nat) : ∀ (l pre : List UInt8), pre.length ≤ M → asks (fun q _ => decide (((q.length + 1 : Nat) : Int) ≤ (M : Int))) pre l = (decide (pre.length + l.length ≤ M), pre ++ l.take (M + 1 - pre.length))
  | [], pre, h => by simp [asks]; omega
  | c :: l, pre, h => by
    simp only [asks]
    by_cases hp : pre.length + 1 ≤ M
    · rw [if_pos (by simp; omega), asks_count M l (pre ++ [c]) (by simp; omega)]
      rw [show M + 1 - pre.length = (M - pre.length) + 1 from by omega, List.take_succ_cons]
      refine Prod.ext ?_ ?_
      · simp; omega
      · simp [show M + 1 - (pre.length + 1) = M - pre.length by omega]
    · rw [if_neg (by simp; omega)]
      obtain rfl : M = pre.length := by omega
      refine Prod.ext ?_ ?_
      · simp
      · simp [show pre.length + 1 - pre.length = 1 by omega]
theorem conv_owns {w : World} {base : Nat} {v : Value} {l : List UInt8} (h : w.ownsRow base 5 1 v l.length (u8s l)) (nq : Nat) :
    (convert 25 9 v).run Try.prog (w.drewN nq) = .ok (.string ⟨l.toArray⟩) (w.drewN nq) := by
  rcases h.2 with ⟨rfl, h2⟩ | ⟨g, cap, cur, rfl, hg, hh, hn, hm, hcs, htk⟩
  · obtain rfl : l = [] := by simpa using h2
    exact run_convert_bytes_nil (P := Try.prog) _ 25 5 Try.underlying25 Try.underlying5 0 0 9 Try.underlying9
  · have hr := run_convert_bytes_arg (P := Try.prog) (w.drewN nq) 25 5 Try.underlying25 Try.underlying5 g 0 l.length cap (l.map fun c => (c.toNat : Int)) (by simp) (fun i hi => by
      rw [Nat.zero_add, World.cell?_drewN, h.cellAt i (by omega)]
      simp [u8s, List.getD, hi]) 9 Try.underlying9
    rw [hr]
    simp [strOfNums, List.map_map, Function.comp_def]

/-- What All, handed the taker's method, leaves. -/
def Seen (t : Nat) (m : Int) (F : List UInt8) (w w' : World) : Prop :=
  Below t w w' ∧ ∃ u, w'.cell? ⟨t, 0, none⟩ = some u ∧ ∀ nq, (convert 25 9 u).run Try.prog (w'.drewN nq) = .ok (.string ⟨(F.take (m.toNat + 1)).toArray⟩) (w'.drewN nq)
theorem enters_is (args : Array Value) (w : World) : (callFunc 35 args).run Try.prog w = .ok (.enter 35 args) w := by
  exact enters_of Try.func35 (by kernel_rfl) rfl args w

theorem seen_any (wr : World) (v : Value) (k base : Nat) (gs : List ByteArray) (m : Int) (h0 : 0 ≤ m) (hown : wr.ownsRow base 9 1 v k (strs gs)) (hnil : k = 0 → v = .slice none 0 0) (hk : k ≤ 10) (hgl : gs.length = k) (hgs : ∀ s ∈ gs, s.size ≤ 300) :
    Calls Try.prog 34 #[.func (.func 35) #[.pointer (some ⟨wr.heap.size, 0, none⟩)] #[], v] (wr.alloc (.cells #[.slice none 0 0, .int .i64 m] 33)) fun e w' => e = .returned (.bool (decide (((flat gs).length : Int) ≤ m))) ∧ Seen wr.heap.size m (flat gs) wr w' := by
  rcases Nat.eq_zero_or_pos k with rfl | hpos
  · obtain rfl : gs = [] := by simpa using hgl
    rw [hnil rfl]
    refine (All_nil _ _).mono ?_
    rintro e w' ⟨rfl, rfl⟩
    have hR : (wr.alloc (.cells #[.slice none 0 0, .int .i64 m] 33)).heap.size = wr.heap.size + 1 := by simp
    refine ⟨ret_bool (by simp [flat]; omega), (((Below.refl _ _).alloc (Nat.le_refl _) _).alloc (by omega) _).setCell (by show wr.heap.size ≤ (wr.alloc _).heap.size; omega) _, .slice none 0 0, ?_, fun nq => ?_⟩
    · rw [World.cell?_setCell_other _ _ _ _ (by rw [hR]; simp)]
      simp [go_sem]
    · simpa [flat] using conv_owns (l := []) (World.ownsRow_nil (w := ((wr.alloc (.cells #[.slice none 0 0, .int .i64 m] 33)).alloc (.cells #[.bool false] 4)).setCell ⟨(wr.alloc (.cells #[.slice none 0 0, .int .i64 m] 33)).heap.size, 0, none⟩ (.bool true)) 0 5 1) nq
  · obtain ⟨k, rfl⟩ : ∃ j, k = j + 1 := ⟨k - 1, by omega⟩
    obtain ⟨g, cp, rfl⟩ := slice_of_owns hown
    obtain ⟨M, rfl⟩ := Int.eq_ofNat_of_zero_le h0
    generalize hW4 : wr.alloc (.cells #[.slice none 0 0, .int .i64 (M : Int)] 33) = W4
    have hR : W4.heap.size = wr.heap.size + 1 := by rw [← hW4]; simp
    have hB4 : Below wr.heap.size wr W4 := by rw [← hW4]; exact (Below.refl _ _).alloc (Nat.le_refl _) _
    have hg : g < wr.heap.size := by
      rcases hown.2 with ⟨h2, _⟩ | ⟨g', cap', cur, h2, _, hh, _⟩
      · simp at h2
      · simp at h2
        obtain ⟨rfl, _⟩ := h2
        exact (Array.getElem?_eq_some_iff.1 hh).1
    have hfl : (flat gs).length ≤ 3000 := by
      have := flat_length gs hgs
      omega
    refine (All_any 35 #[.pointer (some ⟨wr.heap.size, 0, none⟩)] #[] (fun q _ => decide (((q.length + 1 : Nat) : Int) ≤ (M : Int)))
      (fun pre W => Taker wr.heap.size (wr.heap.size + 2) M pre W ∧ Below wr.heap.size wr W ∧ W.cell? ⟨W4.heap.size, 0, none⟩ = some (.bool false) ∧ W.frozen? ⟨W4.heap.size, 0, none⟩ = false) ⟨g, 0, none⟩ (k + 1) cp gs hgl (by omega) (fun s hs => by have := hgs s hs; omega) W4 enters_is ?_ ?_ ?_).mono ?_
    · subst hW4
      refine ⟨⟨⟨.slice none 0 0, ?_, World.ownsRow_nil _ _ _ _⟩, ?_, ?_, ?_, by omega, by simp⟩, hB4.alloc (by omega) _, ?_, ?_⟩
      all_goals simp [go_sem]
    · rintro pre W ⟨-, hb, hc, hf⟩
      refine ⟨hc, hf, fun i hi => ?_⟩
      have e1 : (⟨g, 0, none⟩ : Addr).add i = ⟨g, i, none⟩ := by simp [Addr.add]; omega
      rw [e1, hb.cell (p := ⟨g, i, none⟩) hg, hown.cellAt i (by omega)]
      simp [strs, List.getD, show i < gs.length by omega]
    · rintro pre c r W hpre ⟨hT, hb, hc, hf⟩
      have hpl : pre.length ≤ 3000 := by
        rw [hpre] at hfl
        simp at hfl
        omega
      refine (is_any wr.heap.size (wr.heap.size + 2) M pre c W hT (by omega)).mono ?_
      rintro e W' ⟨rfl, hT', ho, ht, hou, hs, hk⟩
      have hRb : W'.heap[W4.heap.size]? = W.heap[W4.heap.size]? := hk _ (by omega) (by omega)
      refine ⟨rfl, hT', ⟨ho.trans hb.os, ht.trans hb.tape, hou.trans hb.output, Nat.le_trans hb.size hs, fun i hi => (hk i (by omega) (by omega)).trans (hb.block i hi)⟩, ?_, ?_⟩
      · rw [World.cell?_of_block (w := W) (a := ⟨W4.heap.size, 0, none⟩) hRb]; exact hc
      · rw [World.frozen?_of_block (w := W) (a := ⟨W4.heap.size, 0, none⟩) hRb]; exact hf
    · rintro e w' ⟨W, rfl, ⟨hT, hb, hc, hf⟩, rfl⟩
      rw [asks_count M (flat gs) [] (Nat.zero_le _)] at hT ⊢
      obtain ⟨u, hu, ho⟩ := hT.row
      refine ⟨ret_bool (by simp), hb.setCell (by show wr.heap.size ≤ W4.heap.size; omega) _, u, ?_, fun nq => ?_⟩
      · rw [World.cell?_setCell_other _ _ _ _ (by rw [hR]; simp)]; exact hu
      · have ho2 := ownsRow_setCell_below ho (a := ⟨W4.heap.size, 0, none⟩) (by show W4.heap.size < _; omega) (.bool (decide (([] : List UInt8).length + (flat gs).length ≤ M)))
        have := conv_owns ho2 nq
        simpa using this
end all
end Go.Proofs.Ytddobbgpfdoamaa
