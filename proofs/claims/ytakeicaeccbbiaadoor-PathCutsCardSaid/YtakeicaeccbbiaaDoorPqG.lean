/- strings.SplitSeq at a mark of one byte: what it hands on. -/
import Derived.Test.YtakeicaeccbbiaaDoorPqF
namespace Go.Proofs.YtakeicaeccbbiaaDoor
open Go.RowKit Go.Shelf
attribute [local go_sem] Oper.semAt_some

namespace Pq
theorem txts_cut {m : UInt8} {t : ByteArray} (ht : t.size ≤ 1000) {i : Nat} (h : Lib.indexByte t.data.toList m = (i : Int)) : i < t.size ∧ Hp.txts m t = ⟨t.extract 0 i, Hp.ext_size t 0 i ht⟩ :: Hp.txts m (t.extract (i + 1) t.size) := by
  have hl : t.data.toList.length = t.size := by simp
  obtain ⟨h1, h2⟩ := Lib.indexByte_some h
  obtain ⟨hi, h3⟩ := List.getElem?_eq_some_iff.1 h1
  refine ⟨by omega, ?_⟩
  have hf : m ∉ t.data.toList.take i := by
    intro g
    obtain ⟨k, hk, e⟩ := List.getElem_of_mem g
    rw [List.getElem_take] at e
    rw [List.length_take] at hk
    exact h2 k (by omega) (by rw [List.getElem?_eq_getElem (by omega), e])
  have e : t.data.toList = t.data.toList.take i ++ m :: t.data.toList.drop (i + 1) := by
    conv => lhs; rw [← List.take_append_drop i t.data.toList, List.drop_eq_getElem_cons hi, h3]
  unfold Hp.txts
  conv => lhs; rw [e, Hp.parts_cut _ hf, List.map_cons]
  rw [Hp.ext_end]
  congr 1
  have := Hp.mkT_eq (a := 0) (b := i) ht (Hp.ext_size t 0 i ht)
  rw [← this, List.drop_zero]; rfl
theorem txts_last {m : UInt8} {t : ByteArray} (ht : t.size ≤ 1000) (h : Lib.indexByte t.data.toList m = -1) : Hp.txts m t = [⟨t, ht⟩] := by
  have hf : m ∉ t.data.toList := by
    intro g
    obtain ⟨k, hk, e⟩ := List.getElem_of_mem g
    exact Lib.indexByte_none h k (by rw [List.getElem?_eq_getElem hk, e])
  unfold Hp.txts
  rw [Hp.parts_free hf, List.map_singleton]
  congr 1
  apply Subtype.ext
  show (⟨(t.data.toList.take 1000).toArray⟩ : ByteArray) = t
  rw [List.take_of_length_le (by rw [Array.length_toList]; exact ht)]
end Pq
def restLen (b : Nat) (w : World) : Nat := match w.cell? ⟨b, 0, none⟩ with
  | some (.string x) => x.size
  | _ => 0
theorem restLen_eq {b : Nat} {w : World} {x : ByteArray} (h : w.cell? ⟨b, 0, none⟩ = some (.string x)) : restLen b w = x.size := by unfold restLen; rw [h]
set_option maxRecDepth 100000 in
set_option maxHeartbeats 2000000 in
theorem split_hands (n : Nat) (hn : 1 ≤ n) (Bm Bs Bv : Nat) (h12 : Bs ≠ Bm) (h13 : Bs ≠ Bv) (s : ByteArray) (hs : s.size ≤ 1000) (w : World)
    (cm : w.cell? ⟨Bm, 0, none⟩ = some (.string ⟨#[47]⟩)) (cs : w.cell? ⟨Bs, 0, none⟩ = some (.string s)) (fs : w.frozen? ⟨Bs, 0, none⟩ = false) (cv : w.cell? ⟨Bv, 0, none⟩ = some (.int .i64 0)) :
    Hands n Tryd.prog 43 #[.pointer (some ⟨Bm, 0, none⟩), .pointer (some ⟨Bs, 0, none⟩), .pointer (some ⟨Bv, 0, none⟩)] (fun x : Txt => #[Value.string x.1]) (fun k => k = Bs ∨ k = Bm ∨ k = Bv) (Hp.txts 47 s) w := by
  intro l J W hW hJ hY h0
  have dm := below_cell hW (lt_of_cell cm) cm
  have ds := below_cell hW (lt_of_cell cs) cs
  have es := below_frozen hW (lt_of_cell cs) fs
  have dv := below_cell hW (lt_of_cell cv) cv
  clear cm cs fs cv hW
  refine callsIn_of_wp Tryd.func43 rfl trivial ?_ rfl
  simp only [Tryd.ntmps43, List.size_toArray, List.length_cons, List.length_nil, Nat.reduceAdd, Nat.reduceSub, Array.replicate_succ, Array.replicate_zero, List.push_toArray, List.append_toArray, List.nil_append, List.cons_append]
  gi_wp2
  gi_loopw [7, 8] (fun _ _ wr => ∃ (t : Txt) (pre : List Txt), Hp.txts 47 s = pre ++ Hp.txts 47 t.1 ∧ J pre wr ∧ wr.cell? ⟨Bs, 0, none⟩ = some (.string t.1) ∧ wr.frozen? ⟨Bs, 0, none⟩ = false ∧ wr.cell? ⟨Bm, 0, none⟩ = some (.string ⟨#[47]⟩) ∧ wr.cell? ⟨Bv, 0, none⟩ = some (.int .i64 0))
    (fun _ _ wr => restLen Bs wr)
  case atStart => exact ⟨⟨s, hs⟩, [], rfl, h0, ds, es, dm, dv⟩
  case round =>
    clear dm ds es dv h0
    obtain ⟨⟨t, ht⟩, pre, heq, hJs, ds, es, dm, dv⟩ := hrel
    have HQ := Lib.hid heq
    clear heq
    simp only at ds
    have HI := Lib.hid (Index_any t 47 wr)
    have HM := Lib.hid (restLen_eq ds)
    by_cases hno : Lib.indexByte t.data.toList 47 = -1
    · rw [hno] at HI
      have HT := Lib.hid (Pq.txts_last ht hno)
      clear hno
      have hlen : pre ++ [(⟨t, ht⟩ : Txt)] <+: Hp.txts 47 s := by rw [HQ.out, show Hp.txts 47 (⟨t, ht⟩ : Txt).1 = [⟨t, ht⟩] from HT.out]; exact List.prefix_refl _
      obtain ⟨fn, tmps, assign, body, hy, hR⟩ := hY pre ⟨t, ht⟩ wr hJs hlen
      dsimp only at hy
      have HR := Lib.hid hR
      have HJS := Lib.hid hJs
      clear hR hJs
      gi_wp2_with (refine ⟨trivial, ?_⟩; gi_at_call 37; refine (callsIn_wide.2 HI.out).mono ?_; rintro e w' ⟨rfl, rfl⟩)
      refine HR.out.mono ?_
      rintro e W3 ⟨rfl, hJ3, hk3⟩
      gi_wp2
      go_end0
      refine ⟨⟨_, rfl⟩, ?_⟩
      rw [HQ.out, show Hp.txts 47 (⟨t, ht⟩ : Txt).1 = [⟨t, ht⟩] from HT.out]
      exact hJ3
    · obtain ⟨i, hi⟩ : ∃ i : Nat, Lib.indexByte t.data.toList 47 = (i : Int) := by
        have := Lib.indexByte_ge t.data.toList 47
        exact ⟨(Lib.indexByte t.data.toList 47).toNat, by omega⟩
      rw [hi] at HI
      obtain ⟨hlt, hc⟩ := Pq.txts_cut ht hi
      have HT := Lib.hid hc
      clear hno hi hc
      have hlen : pre ++ [(⟨t.extract 0 i, Hp.ext_size t 0 i ht⟩ : Txt)] <+: Hp.txts 47 s := by rw [HQ.out, show Hp.txts 47 (⟨t, ht⟩ : Txt).1 = _ from HT.out]; exact ⟨_, by simp; rfl⟩
      obtain ⟨fn, tmps, assign, body, hy, hR⟩ := hY pre ⟨t.extract 0 i, Hp.ext_size t 0 i ht⟩ wr hJs hlen
      dsimp only at hy
      have HR := Lib.hid hR
      have HJS := Lib.hid hJs
      clear hR hJs
      gi_wp2_with (refine ⟨trivial, ?_⟩; gi_at_call 37; refine (callsIn_wide.2 HI.out).mono ?_; rintro e w' ⟨rfl, rfl⟩)
      refine HR.out.mono ?_
      rintro e W3 ⟨rfl, hJ3, hk3⟩
      have ds3 := hk3.at_cell (lt_of_cell ds) (fun h => h (.inl rfl)) ds
      have es3 := hk3.at_frozen (lt_of_cell ds) (fun h => h (.inl rfl)) es
      have dm3 := hk3.at_cell (lt_of_cell dm) (fun h => h (.inr (.inl rfl))) dm
      have dv3 := hk3.at_cell (lt_of_cell dv) (fun h => h (.inr (.inr rfl))) dv
      have hb3 : Bs < W3.heap.size := lt_of_cell ds3
      clear hk3 ds es dm dv
      gi_wp2
      go_roundw
      case rel =>
        refine ⟨⟨t.extract (i + 1) t.size, Hp.ext_size t _ _ ht⟩, pre ++ [⟨t.extract 0 i, Hp.ext_size t 0 i ht⟩], ?_, hJ _ _ _ hJ3 ((Kept.refl _ _).setCellL (p := ⟨Bs, 0, none⟩) (.inl rfl) _), ?_, ?_, ?_, ?_⟩
        · rw [HQ.out, show Hp.txts 47 (⟨t, ht⟩ : Txt).1 = _ from HT.out]; simp
        · exact World.cell?_setCell_same' _ _ _ (by rw [ds3]; rfl)
        · simp [go_sem, es3]
        · rw [World.cell?_setCell_other _ _ _ _ (by simp)]; exact dm3
        · rw [World.cell?_setCell_other _ _ _ _ (by simp)]; exact dv3
      case measure =>
        rw [restLen_eq (x := t.extract (i + 1) t.size) (World.cell?_setCell_same' _ _ _ (by rw [ds3]; rfl))]
        rw [HM.out]
        simp [ByteArray.size_extract]; omega
end Go.Proofs.YtakeicaeccbbiaaDoor
