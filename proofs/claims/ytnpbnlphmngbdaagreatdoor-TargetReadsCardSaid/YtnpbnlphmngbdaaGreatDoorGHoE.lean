/- Contracts and lemmas that the claim rests on: HoE. -/
import Derived.RangeFuncNested
import Derived.RangeFuncBound
import Derived.RangeFuncCalls
import Derived.RangeFuncLeaves
import Derived.Shelf.Abstract
import Derived.Shelf.RegionOpen
import Derived.WalkKit
import Derived.OwnWalkIn
import Derived.TacticsInMore
import Derived.LoopNIn
import Derived.LoopIn
import Derived.Test.YtnpbnlphmngbdaaGreatDoorRows
import Derived.Test.YtnpbnlphmngbdaaGreatDoorGHoMath
import Derived.Test.YtnpbnlphmngbdaaGreatDoorGScan
/- numbers: what it hands back yields the parts of a text, one by one: the iterator's contract. -/
namespace Go.Proofs.YtnpbnlphmngbdaaGreatDoor
open Go.RowKit Go.Shelf
attribute [local go_sem] Oper.semAt_some

/-- A text that is not long. -/
abbrev Txt := { x : ByteArray // x.size ≤ 1000 }
namespace Hp
def mkT (p : List UInt8) : Txt := ⟨⟨(p.take 1000).toArray⟩, by show (p.take 1000).toArray.size ≤ 1000; simp; omega⟩
theorem mkT_eq {s : ByteArray} {a b : Nat} (_h : s.size ≤ 1000) (h2 : (s.extract a b).size ≤ 1000) : mkT ((s.data.toList.drop a).take (b - a)) = ⟨s.extract a b, h2⟩ := by
  apply Subtype.ext
  show (⟨(List.take 1000 ((s.data.toList.drop a).take (b - a))).toArray⟩ : ByteArray) = s.extract a b
  rw [← ext_list]
  have h3 : (s.extract a b).data.toList.length ≤ 1000 := by rw [Array.length_toList]; exact h2
  rw [List.take_of_length_le h3]
theorem ext_size (s : ByteArray) (a b : Nat) (h : s.size ≤ 1000) : (s.extract a b).size ≤ 1000 := by
  simp [ByteArray.size_extract]; omega
def txts (m : UInt8) (s : ByteArray) : List Txt := (parts m s.data.toList).map mkT
/-- What has come, and what is to come, at k, the part at hand beginning at j. -/
structure At (m : UInt8) (s : ByteArray) (j k : Nat) (pre : List Txt) : Prop where
  le : j ≤ k
  ke : k ≤ s.size
  free : m ∉ (s.data.toList.drop j).take (k - j)
  eq : txts m s = pre ++ (parts m (s.data.toList.drop j)).map mkT
theorem At.start (m : UInt8) (s : ByteArray) : At m s 0 0 [] := ⟨Nat.le_refl _, Nat.zero_le _, by simp, rfl⟩
theorem At.len {m : UInt8} {s : ByteArray} {j k : Nat} {pre : List Txt} (h : At m s j k pre) : pre.length < (txts m s).length := by
  rw [h.eq, List.length_append, List.length_map]
  have := List.length_pos_iff.2 (parts_ne m (s.data.toList.drop j))
  omega
theorem take_more (l : List UInt8) (j k : Nat) (h : j ≤ k) (hk : k < l.length) : (l.drop j).take (k + 1 - j) = (l.drop j).take (k - j) ++ [l[k]] := by
  have e : k + 1 - j = (k - j) + 1 := by omega
  rw [e, List.take_succ_eq_append_getElem (by rw [List.length_drop]; omega), List.getElem_drop]
  congr 2
  congr 1
  omega
theorem At.go {m : UInt8} {s : ByteArray} {j k : Nat} {pre : List Txt} (h : At m s j k pre) (hk : k < s.size) (hb : s[k] ≠ m) : At m s j (k + 1) pre := by
  refine ⟨by have := h.le; omega, hk, ?_, h.eq⟩
  rw [take_more _ _ _ h.le (by simpa using hk)]
  intro g
  rcases List.mem_append.1 g with g | g
  · exact h.free g
  · rw [List.mem_singleton] at g
    exact hb g.symm
theorem At.yes {m : UInt8} {s : ByteArray} {j k : Nat} {pre : List Txt} (h : At m s j k pre) (hs : s.size ≤ 1000) (hk : k < s.size) (hb : s[k] = m) : At m s (k + 1) (k + 1) (pre ++ [⟨s.extract j k, ext_size s j k hs⟩]) := by
  refine ⟨Nat.le_refl _, hk, by simp, ?_⟩
  rw [h.eq]
  have hle := h.le
  have e : s.data.toList.drop j = (s.data.toList.drop j).take (k - j) ++ m :: s.data.toList.drop (k + 1) := by
    conv => lhs; rw [← List.take_append_drop (k - j) (s.data.toList.drop j), List.drop_drop]
    congr 1
    have e2 : j + (k - j) = k := by omega
    rw [e2, List.drop_eq_getElem_cons (by simpa using hk)]
    congr 1
  conv => lhs; rw [e, parts_cut _ h.free, List.map_cons, mkT_eq hs (ext_size s j k hs)]
  rw [List.append_assoc]; rfl
theorem At.pre_le {m : UInt8} {s : ByteArray} {j k : Nat} {pre : List Txt} (h : At m s j k pre) : pre <+: txts m s := ⟨_, h.eq.symm⟩
theorem At.stop {m : UInt8} {s : ByteArray} {j : Nat} {pre : List Txt} (h : At m s j s.size pre) (hs : s.size ≤ 1000) : txts m s = pre ++ [⟨s.extract j s.size, ext_size s j s.size hs⟩] := by
  rw [h.eq]
  have e : s.data.toList.drop j = (s.data.toList.drop j).take (s.size - j) := by
    rw [List.take_of_length_le]; simp
  have hf := h.free
  rw [← e] at hf
  rw [parts_free hf, List.map_singleton]
  conv => lhs; rw [e]
  rw [mkT_eq hs (ext_size s j s.size hs)]
end Hp

set_option maxRecDepth 100000 in
set_option maxHeartbeats 2000000 in
theorem numbers1_in (n : Nat) (hn : 1 ≤ n) (l Bs Bm : Nat) (s : ByteArray) (m : UInt8) (hs : s.size ≤ 1000) (J Jx : List Txt → World → Prop)
    (hY : ∀ pre x W, J pre W → pre.length < (Hp.txts m s).length → YieldAt Fence.wide (n - 1) Tryz.prog l #[.string x.1] W fun e W' =>
      (e = .returned (.bool true) ∧ J (pre ++ [x]) W' ∧ Kept (fun k => k ≠ Bs ∧ k ≠ Bm) W W') ∨ (e = .returned (.bool false) ∧ Jx (pre ++ [x]) W'))
    (hJd : ∀ pre W n, J pre W → J pre (W.drewN n))
    (W : World) (hcs : W.cell? ⟨Bs, 0, none⟩ = some (.string s)) (hcm : W.cell? ⟨Bm, 0, none⟩ = some (.string ⟨#[m]⟩)) (h0 : J [] W) :
    CallsIn Fence.wide n Tryz.prog 113 #[.func (.yield l) #[] #[], .pointer (some ⟨Bs, 0, none⟩), .pointer (some ⟨Bm, 0, none⟩)] W fun e W' => (∃ v, e = .returned v) ∧
      ((∃ ys, ys = Hp.txts m s ∧ J ys W') ∨ (∃ pre, pre <+: Hp.txts m s ∧ Jx pre W')) := by
  refine callsIn_of_wp Tryz.func113 rfl trivial ?_ rfl
  simp only [Tryz.ntmps113, List.size_toArray, List.length_cons, List.length_nil, Nat.reduceAdd, Nat.reduceSub, Array.replicate_succ, Array.replicate_zero, List.push_toArray, List.append_toArray, List.nil_append, List.cons_append]
  gi_wp2
  gi_loopw [4, 8] (fun fr i wr => ∃ (j k : Nat) (pre : List Txt), fr = .int .i64 j ∧ i = .int .i64 k ∧ Hp.At m s j k pre ∧ J pre wr ∧ Kept (fun k => k ≠ Bs ∧ k ≠ Bm) W wr)
    (fun _ i _ => s.size - (intOf i).toNat)
  case atStart => exact ⟨0, 0, [], rfl, rfl, Hp.At.start m s, h0, Kept.refl _ _⟩
  case round =>
    have hmx : Tryz.prog.follows .mixedOrders = true := by kernel_rfl
    obtain ⟨j, k, pre, rfl, rfl, hat, hJs, hnx⟩ := hrel
    have cs : wr.cell? ⟨Bs, 0, none⟩ = some (.string s) := hnx.at_cell (lt_of_cell hcs) (fun h => h.1 rfl) hcs
    have cm : wr.cell? ⟨Bm, 0, none⟩ = some (.string ⟨#[m]⟩) := hnx.at_cell (lt_of_cell hcm) (fun h => h.2 rfl) hcm
    have hjk := hat.le
    have hks := hat.ke
    have hJd' := hJd pre wr 1 hJs
    have HX := Lib.hid hnx
    clear hnx
    by_cases hlt : k < s.size
    · by_cases hb : s[k] = m
      · have HN := Lib.hid (hat.yes hs hlt hb)
        have e1 : s.extract k (k + 1) = ⟨#[m]⟩ := by rw [B.extract_one s k hlt, hb]
        obtain ⟨fn, tmps, assign, body, hy, hR⟩ := hY pre ⟨s.extract j k, Hp.ext_size s j k hs⟩ wr.drew hJd' hat.len
        dsimp only at hy
        have HR := Lib.hid hR
        have HJS := Lib.hid hJs
        clear hR hJs hJd' hat
        gi_wp2
        gi_region_o
        gi_wp2
        refine HR.out.mono ?_
        rintro e W3 (⟨rfl, hJ3, hk3⟩ | ⟨rfl, hJx3⟩)
        · gi_wp2
          go_roundw
          case rel => exact ⟨k + 1, k + 1, _, by go_num, by go_num, HN.out, hJ3, (HX.out.drewN 1).trans hk3⟩
          case measure => simp [intOf]; omega
        · gi_wp2
          refine bodyPost_ret (results_none rfl _ _ _) rfl ?_
          exact ⟨⟨_, rfl⟩, .inr ⟨_, HN.out.pre_le, hJx3⟩⟩
      · have HN := Lib.hid (hat.go hlt hb)
        have e1 : ((s.extract k (k + 1)).toList == [m]) = false := by
          rw [B.extract_one s k hlt, beq_eq_false_iff_ne]
          intro g
          rw [ByteArray.toList_eq] at g
          simp at g
          exact hb g
        clear hat
        gi_wp2
        gi_region_o
        gi_wp2
        go_roundw
        case rel => exact ⟨j, k + 1, pre, rfl, by go_num, HN.out, hJd', HX.out.drewN 1⟩
        case measure => simp [intOf]; omega
    · obtain rfl : k = s.size := by omega
      have HN := Lib.hid (hat.stop hs)
      obtain ⟨fn, tmps, assign, body, hy, hR⟩ := hY pre ⟨s.extract j s.size, Hp.ext_size s j s.size hs⟩ wr hJs hat.len
      dsimp only at hy
      clear hat
      gi_wp2
      refine hR.mono ?_
      rintro e W3 (⟨rfl, hJ3, hk3⟩ | ⟨rfl, hJx3⟩)
      · gi_wp2
        go_end0
        exact ⟨⟨_, rfl⟩, .inl ⟨_, HN.out.symm, hJ3⟩⟩
      · gi_wp2
        go_end0
        exact ⟨⟨_, rfl⟩, .inr ⟨_, by rw [HN.out]; exact List.prefix_refl _, hJx3⟩⟩
theorem Kept.putObj {P : Nat → Prop} (W : World) (l : Nat) (o : Obj) (hp : P l) : Kept P W (W.putObj l o) := by
  refine ⟨rfl, rfl, rfl, by simp [World.putObj], fun k hk hn => ?_⟩
  exact World.putObj_heap_other (by rintro rfl; exact hn hp)
theorem KeepsOthers.of_below {W W' : World} (h : Below W.heap.size W W') : KeepsOthers W W' :=
  ⟨h.size, fun k _ hk _ => (h.block k (Array.getElem?_eq_some_iff.1 hk).1).trans hk⟩
theorem numbers_any (s m : ByteArray) (w : World) :
    Calls Tryz.prog 92 #[.string s, .string m] w fun e w' => e = .returned (.func (.func 113) #[] #[.pointer (some ⟨w.heap.size, 0, none⟩), .pointer (some ⟨w.heap.size + 1, 0, none⟩)]) ∧
      w' = (w.alloc (.cells #[.string s] 9)).alloc (.cells #[.string m] 9) := by
  go_enter Tryz.func92, Tryz.ntmps92
  go_wp2_with fail
  go_ret
  exact ⟨rfl, rfl⟩
theorem numbers_stops (n : Nat) (hn : 1 ≤ n) (Bs Bm : Nat) (s : ByteArray) (m : UInt8) (hs : s.size ≤ 1000) (w : World) (hcs : w.cell? ⟨Bs, 0, none⟩ = some (.string s)) (hcm : w.cell? ⟨Bm, 0, none⟩ = some (.string ⟨#[m]⟩)) :
    SeqStopsK Fence.wide n Tryz.prog 113 #[.pointer (some ⟨Bs, 0, none⟩), .pointer (some ⟨Bm, 0, none⟩)] (fun x : Txt => #[Value.string x.1]) (Kept (fun k => k ≠ Bs ∧ k ≠ Bm)) (fun ys => ys = Hp.txts m s) (fun pre => pre <+: Hp.txts m s) (Hp.txts m s).length w := fun l J Jx W hW hJ _ hY h0 =>
  numbers1_in n hn l Bs Bm s m hs J Jx hY (fun pre W1 k hj => hJ pre W1 (W1.drewN k) none hj ⟨rfl, rfl, rfl, Nat.le_refl _, fun _ _ _ => rfl⟩ (fun r e => by cases e)) W (below_cell hW (lt_of_cell hcs) hcs) (below_cell hW (lt_of_cell hcm) hcm) h0
end Go.Proofs.YtnpbnlphmngbdaaGreatDoor
