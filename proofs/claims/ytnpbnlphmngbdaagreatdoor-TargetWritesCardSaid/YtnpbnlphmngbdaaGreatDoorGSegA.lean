/- Contracts and lemmas that the claim rests on: SegA. -/
import Derived.Test.YtnpbnlphmngbdaaGreatDoorGHoE
import Derived.Test.YtnpbnlphmngbdaaGreatDoorGOct
import Derived.Test.YtnpbnlphmngbdaaGreatDoorGQuil
/- A text's parts between marks: what a row of them holds; octet's All of hexadecimal digits: contracts. -/
namespace Go.Proofs.YtnpbnlphmngbdaaGreatDoor
open Go.RowKit Go.Shelf

theorem enters_IsHexS (args : Array Value) (w : World) : (callFunc 117 args).run Tryz.prog w = .ok (.enter 117 args) w := by
  exact enters_of Tryz.func117 (by kernel_rfl) rfl args w
theorem AllHex_any (t : ByteArray) (w : World) (hs : t.size ≤ 1000) :
    Calls Tryz.prog 116 #[.func (.func 117) #[] #[], .slice (some ⟨w.heap.size, 0, none⟩) 1 1] (w.alloc (.cells #[.string t] 9)) fun e w' => e = .returned (.bool (t.data.toList.all Hp.hx)) ∧ Below w.heap.size w w' := by
  have hfl : (asks (fun _ c => Hp.hx c) [] (flat [t])).1 = t.data.toList.all Hp.hx := by rw [asks_pure]; unfold flat; simp
  have hA := All_any 117 #[] #[] (fun _ c => Hp.hx c) (fun _ W => W = (w.alloc (.cells #[.string t] 9)).alloc (.cells #[.bool false] 4)) ⟨w.heap.size, 0, none⟩ 1 1 [t] rfl (by omega) (by simpa using (by omega : t.size ≤ 100000)) (w.alloc (.cells #[.string t] 9)) enters_IsHexS rfl
    (by
      rintro pre W rfl
      refine ⟨by simp [go_sem], by simp [go_sem], fun i hi => ?_⟩
      obtain rfl : i = 0 := by omega
      exact alloc2_cell _ _ _ _ _)
    (by
      rintro pre c r W - - rfl
      have := B.toNat_le c
      refine (IsHex_any (c.toNat : Int) _ (by omega) (by omega)).mono ?_
      rintro e w' ⟨rfl, rfl⟩
      exact ⟨rfl, rfl⟩)
  rw [hfl] at hA
  refine hA.mono ?_
  rintro e w' ⟨W, rfl, rfl, rfl⟩
  exact ⟨rfl, (by repeat (first | with_reducible exact Below.refl _ _ | with_reducible assumption | (with_reducible refine Below.setCell ?_ ?_ _; rotate_left; · (simp <;> omega)) | (with_reducible refine Below.alloc ?_ ?_ _; rotate_left; · (simp <;> omega)) | with_reducible refine Below.drew ?_))⟩
namespace Hp
theorem mkT_list {p : List UInt8} (h : p.length ≤ 1000) : (mkT p).1.data.toList = p := by
  show (⟨(p.take 1000).toArray⟩ : ByteArray).data.toList = p
  rw [List.take_of_length_le h]
theorem part_small {m : UInt8} {s : ByteArray} (hs : s.size ≤ 1000) {p : List UInt8} (hp : p ∈ parts m s.data.toList) : p.length ≤ 1000 := by
  have := parts_size m _ p hp
  rw [Array.length_toList] at this
  exact Nat.le_trans this hs
theorem txts_all (f : List UInt8 → Bool) (m : UInt8) (s : ByteArray) (hs : s.size ≤ 1000) : (txts m s).all (fun x => f x.1.data.toList) = (parts m s.data.toList).all f := by
  unfold txts
  rw [List.all_map, Bool.eq_iff_iff, List.all_eq_true, List.all_eq_true]
  constructor
  · intro h p hp
    have := h p hp
    simp only [Function.comp] at this
    rwa [mkT_list (part_small hs hp)] at this
  · intro h p hp
    simp only [Function.comp]
    rw [mkT_list (part_small hs hp)]
    exact h p hp
theorem txts_len (m : UInt8) (s : ByteArray) : (txts m s).length = (parts m s.data.toList).length := by unfold txts; simp
theorem txts_few (m : UInt8) (s : ByteArray) (hs : s.size ≤ 1000) : (txts m s).length ≤ 1001 := by
  rw [txts_len]
  have := parts_length m s.data.toList
  have h2 : s.data.toList.length = s.size := by simp
  have h3 : (parts m s.data.toList).length ≤ s.size + 1 := by rw [← h2]; exact this
  exact Nat.le_trans h3 (by omega)
/-- How a question about all texts is answered where one is not so. -/
theorem txts_no {f : List UInt8 → Bool} {m : UInt8} {s : ByteArray} {pre : List Txt} (hs : s.size ≤ 1000) (hp : pre <+: txts m s) (h : pre.all (fun x => f x.1.data.toList) = false) : (parts m s.data.toList).all f = false := by
  rw [← txts_all f m s hs]
  obtain ⟨r, hr⟩ := hp
  rw [← hr, List.all_append, h]; rfl
end Hp

namespace Hp
def ptxt (m : UInt8) (s : ByteArray) : List ByteArray := (txts m s).map fun x => x.1
theorem ptxt_parts (m : UInt8) (s : ByteArray) (hs : s.size ≤ 1000) : (ptxt m s).map (fun x => x.data.toList) = parts m s.data.toList := by
  unfold ptxt txts
  rw [List.map_map, List.map_map]
  conv => rhs; rw [← List.map_id (parts m s.data.toList)]
  refine List.map_congr_left fun p hp => ?_
  simp only [Function.comp]
  exact mkT_list (part_small hs hp)
theorem ptxt_len (m : UInt8) (s : ByteArray) (hs : s.size ≤ 1000) : (ptxt m s).length = (parts m s.data.toList).length := by
  rw [← ptxt_parts m s hs]; simp
theorem ptxt_few (m : UInt8) (s : ByteArray) (hs : s.size ≤ 1000) : (ptxt m s).length ≤ 1001 := by
  unfold ptxt; rw [List.length_map]; exact txts_few m s hs
theorem ptxt_small (m : UInt8) (s : ByteArray) : ∀ x ∈ ptxt m s, x.size ≤ 1000 := by
  intro x hx
  unfold ptxt at hx
  obtain ⟨y, -, rfl⟩ := List.mem_map.1 hx
  exact y.2
theorem At.few {m : UInt8} {s : ByteArray} {j k : Nat} {pre : List Txt} (h : At m s j k pre) (hs : s.size ≤ 1000) : pre.length ≤ 1001 := by
  have h1 := h.len
  have h2 := txts_few m s hs
  omega
end Hp
/-- A row of texts that a call has made. -/
def PartsR (l : List ByteArray) (w : World) (e : Ending) (w' : World) : Prop :=
  ∃ a n c, e = .returned (.slice a n c) ∧ w'.ownsRow w.heap.size 9 1 (.slice a n c) n (l.map Value.string) ∧ Below w.heap.size w w'
set_option maxHeartbeats 1600000 in
theorem Parts_any (s : ByteArray) (m : UInt8) (c : Int) (hc : (m.toNat : Int) = c) (w : World) (hs : s.size ≤ 1000) :
    Calls Tryz.prog 61 #[.string s, .int .u8 c] w (PartsR (Hp.ptxt m s) w) := by
  subst hc
  go_enter Tryz.func61, Tryz.ntmps61
  go_wp2_with fail
  go_loopw [5, 6, 7] (fun o f i wr => ∃ (j k : Nat) (pre : List Txt) (a : Option Addr) (n c : Nat), o = .slice a n c ∧ f = .int .i64 (j : Int) ∧ i = .int .i64 (k : Int) ∧ wr.ownsRow w.heap.size 9 1 (.slice a n c) n ((pre.map fun x => x.1).map Value.string) ∧ Below w.heap.size w wr ∧ Hp.At m s j k pre) (fun _ _ i _ => s.size - (intOf i).toNat)
  case atStart => exact ⟨0, 0, [], none, 0, 0, rfl, rfl, rfl, World.ownsRow_nil _ _ _ _, Below.refl _ _, Hp.At.start m s⟩
  case round =>
    obtain ⟨j, k, pre, a, n, c, rfl, rfl, rfl, ho, hb, hat⟩ := hrel
    have HO := Lib.hid ho
    have HB := Lib.hid hb
    have HS := Lib.hid hat
    have hjk := hat.le
    have hks := hat.ke
    have hfew := hat.few hs
    have hlen := own_len ho
    rw [List.length_map] at hlen
    clear ho hb hat
    by_cases hlt : k < s.size
    · by_cases hq : s[k] = m
      · have HN := Lib.hid (HS.out.yes hs hlt hq)
        have hq' : ((s[k].toNat : Int) == (m.toNat : Int)) = true := by rw [hq]; simp
        obtain ⟨X, hX⟩ : ∃ X, s.extract j k = X := ⟨_, rfl⟩
        clear hq
        go_wp2_with (at_builtin; refine wpList_append_text _ rfl _ _ rfl w.heap.size _ _ _ rfl (World.ownsRow.alloc HO.out _) wr.heap.size 1 X rfl ?c1 ?c2 ?c3 ?_)
        case c1 => simp [go_sem]
        case c2 => omega
        case c3 => have := HB.out.size; simp; omega
        intro a4 c4 w4 ho4 hg4 hn4
        have ho5 : w4.ownsRow w.heap.size 9 1 (.slice a4 (n + 1) c4) (n + 1) (((pre ++ [(⟨s.extract j k, Hp.ext_size s j k hs⟩ : Txt)]).map fun x => x.1).map Value.string) := by
          have e5 : (pre ++ [(⟨s.extract j k, Hp.ext_size s j k hs⟩ : Txt)]).map (fun x => x.1) = pre.map (fun x => x.1) ++ [X] := by rw [List.map_append, List.map_singleton, ← hX]
          rw [e5]
          simpa using ho4
        have HB4 := Lib.hid (row_grown HO.out (Nat.le_refl _) HB.out _ hg4)
        have HO4 := Lib.hid ho5
        clear ho4 ho5 hg4 hn4
        go_wp2_with fail
        go_roundw
        case rel => exact ⟨k + 1, k + 1, _, a4, n + 1, c4, rfl, by go_num, by go_num, HO4.out, HB4.out, HN.out⟩
        case measure => simp [intOf]; omega
      · have HN := Lib.hid (HS.out.go hlt hq)
        have hq' : ((s[k].toNat : Int) == (m.toNat : Int)) = false := by
          rw [beq_eq_false_iff_ne]
          intro e
          exact hq (UInt8.toNat_inj.1 (by omega))
        clear hq
        go_wp2_with fail
        go_roundw
        case rel => exact ⟨j, k + 1, pre, a, n, c, rfl, rfl, by go_num, HO.out, HB.out, HN.out⟩
        case measure => simp [intOf]; omega
    · obtain rfl : k = s.size := by omega
      have HN := Lib.hid (HS.out.stop hs)
      obtain ⟨X, hX⟩ : ∃ X, s.extract j s.size = X := ⟨_, rfl⟩
      go_wp2_with (at_builtin; refine wpList_append_text _ rfl _ _ rfl w.heap.size _ _ _ rfl (World.ownsRow.alloc HO.out _) wr.heap.size 1 X rfl ?d1 ?d2 ?d3 ?_)
      case d1 => simp [go_sem]
      case d2 => omega
      case d3 => have := HB.out.size; simp; omega
      intro a4 c4 w4 ho4 hg4 hn4
      have ho5 : w4.ownsRow w.heap.size 9 1 (.slice a4 (n + 1) c4) (n + 1) ((Hp.ptxt m s).map Value.string) := by
        have e5 : Hp.ptxt m s = pre.map (fun x => x.1) ++ [X] := by
          unfold Hp.ptxt
          rw [HN.out, List.map_append, List.map_singleton, ← hX]
        rw [e5]
        simpa using ho4
      have HB4 := Lib.hid (row_grown HO.out (Nat.le_refl _) HB.out _ hg4)
      have HO4 := Lib.hid ho5
      clear ho4 ho5 hg4 hn4
      go_wp2_with fail
      go_ret
      exact ⟨a4, n + 1, c4, rfl, HO4.out, HB4.out⟩
namespace Hp
theorem ptxt_at (m : UInt8) (s : ByteArray) (hs : s.size ≤ 1000) (k : Nat) (h : k < (ptxt m s).length) : ((ptxt m s).getD k ByteArray.empty).data.toList = (parts m s.data.toList).getD k [] := by
  rw [getD_at _ k h, ← ptxt_parts m s hs]
  simp [h]
theorem getD_is {α : Type} (P : List α) (d : α) (k : Nat) (h : k < P.length) : P.getD k d = P[k] := by simp [h]
end Hp
end Go.Proofs.YtnpbnlphmngbdaaGreatDoor
