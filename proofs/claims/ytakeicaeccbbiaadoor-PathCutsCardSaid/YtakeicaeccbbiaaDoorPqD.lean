/- The last place of a byte in a row of bytes that is the call's own; step, the segments that stay: contracts. -/
import Derived.Test.YtakeicaeccbbiaaDoorPqA
import Derived.Test.YtakeicaeccbbiaaDoorRowA
import Derived.Lib.SlBytesConst
import Derived.OwnWalk
namespace Go.Proofs.YtakeicaeccbbiaaDoor
open Go.RowKit

theorem info_byte9 : (Tryd.prog.info? 5).map (fun i => (i.zero, i.size, i.bytes)) = some (some (.int .u8 0), 1, 1) := by kernel_rfl
/-- A row of bytes that is the call's own: the text s. -/
def OwnB (B : Nat) (v : Value) (s : ByteArray) (w : World) : Prop := w.ownsRow B 5 1 v s.size (Lib.strCells s)
theorem ownB_nil (B : Nat) (w : World) : OwnB B (.slice none 0 0) ByteArray.empty w := World.ownsRow_nil _ _ _ _
theorem ownB_cells {B : Nat} {v : Value} {s : ByteArray} {w : World} (h : OwnB B v s w) : ∃ a c, v = .slice a s.size c ∧ s.size ≤ c ∧ c ≤ 9223372036854775807 ∧ ∀ k (hk : k < s.size), ∃ g, a = some ⟨g, 0, none⟩ ∧ w.cell? ⟨g, k, none⟩ = some (.int .u8 (s[k].toNat : Int)) := by
  have hc := h
  rcases h.2 with ⟨rfl, h0⟩ | ⟨g, c, cur, rfl, h0, h1, h2, h3, h4⟩
  · exact ⟨none, 0, by rw [h0], by omega, by omega, fun k hk => by omega⟩
  · refine ⟨_, c, rfl, h2, by unfold maxLen at h3; omega, fun k hk => ⟨g, rfl, ?_⟩⟩
    have hx := World.ownsRow.cells hc (g := g) rfl k (.int .u8 (s[k].toNat : Int)) (by
      unfold Lib.strCells
      rw [List.getElem?_map, List.getElem?_eq_getElem (by simpa using hk)]
      rfl)
    have ha : (⟨g, 0, none⟩ : Addr).add k = ⟨g, k, none⟩ := by unfold Addr.add; simp; exact fun h => h.symm
    rwa [ha] at hx
/-- The row, cut shorter. -/
theorem ownB_cut {B : Nat} {a : Option Addr} {n c : Nat} {s : ByteArray} {w : World} (h : OwnB B (.slice a n c) s w) (m : Nat) (hm : m ≤ s.size) : OwnB B (.slice a m c) (s.extract 0 m) w := by
  have hsz : (s.extract 0 m).size = m := by simp [ByteArray.size_extract]; omega
  unfold OwnB
  rw [hsz]
  have hcells : Lib.strCells (s.extract 0 m) = (Lib.strCells s).take m := by
    unfold Lib.strCells
    rw [Hp.ext_start, List.map_take]
  rw [hcells]
  have hlen : (Lib.strCells s).length = s.size := Lib.strCells_length s
  refine ⟨by rw [List.length_take, hlen]; omega, ?_⟩
  rcases h.2 with ⟨h1, h0⟩ | ⟨g, c', cur, h1, h0, hg, h2, h3, h4, h5⟩
  · cases h1
    obtain rfl : m = 0 := by omega
    exact .inl ⟨rfl, rfl⟩
  · cases h1
    refine .inr ⟨g, c, cur, rfl, h0, hg, by omega, h3, h4, ?_⟩
    rw [← h5, List.take_take]
    congr 1
    omega
set_option maxHeartbeats 800000 in
theorem LastIndexByte_any (B : Nat) (v : Value) (s : ByteArray) (x : UInt8) (c : Int) (hx : (x.toNat : Int) = c) (w : World) (ho : OwnB B v s w) :
    Calls Tryd.prog 45 #[v, .int .u8 c] w fun e w' => ∃ z, e = .returned (.int .i64 z) ∧ Pq.LastAt s.data.toList x z ∧ ∃ m, w' = w.drewN m := by
  subst hx
  obtain ⟨a, c, rfl, h1, h2, hc⟩ := ownB_cells ho
  have hl : s.data.toList.length = s.size := by simp
  have HC := Lib.hid hc
  clear ho hc
  go_enter Tryd.func45, Tryd.ntmps45
  go_wp2_with fail
  go_loopw [5] (fun i wr => ∃ k : Int, -1 ≤ k ∧ k < s.size ∧ i = .int .i64 k ∧ (∀ j : Nat, k < (j : Int) → s.data.toList[j]? ≠ some x) ∧ ∃ m, wr = w.drewN m) (fun i _ => (intOf i + 1).toNat)
  case atStart => exact ⟨(s.size : Int) - 1, by omega, by omega, rfl, fun j hj => by rw [List.getElem?_eq_none (by omega)]; simp, 0, rfl⟩
  case round =>
    obtain ⟨k, hk0, hk1, rfl, hno, m, rfl⟩ := hrel
    have HN := Lib.hid hno
    clear hno
    by_cases hz : k = -1
    · subst hz
      go_wp2_with fail
      go_ret
      refine ⟨_, rfl, .inl ⟨fun hm => ?_, rfl⟩, m, rfl⟩
      obtain ⟨j, hj, he⟩ := List.getElem_of_mem hm
      exact HN.out j (by omega) (by rw [List.getElem?_eq_getElem hj, he])
    · obtain ⟨i, rfl⟩ := Int.eq_ofNat_of_zero_le (show 0 ≤ k by omega)
      have hi : i < s.size := by omega
      obtain ⟨g, rfl, hcell⟩ := HC.out i hi
      have hat : s.data.toList[i]? = some s[i] := by rw [List.getElem?_eq_getElem (by omega)]; rfl
      have HA := Lib.hid hat
      clear hat
      by_cases hb : s[i] = x
      · have hq : ((s[i].toNat : Int) == (x.toNat : Int)) = true := by rw [hb]; simp
        go_wp2_with fail
        go_ret
        refine ⟨_, rfl, .inr ⟨s.data.toList.take i, s.data.toList.drop (i + 1), ?_, ?_, ?_⟩, m, rfl⟩
        · conv => lhs; rw [← List.take_append_drop i s.data.toList, List.drop_eq_getElem_cons (by omega)]
          rw [show s.data.toList[i] = x from hb]
        · intro hm
          obtain ⟨j, hj, he⟩ := List.getElem_of_mem hm
          rw [List.getElem_drop] at he
          exact HN.out (i + 1 + j) (by omega) (by rw [List.getElem?_eq_getElem (by rw [List.length_drop] at hj; omega), he])
        · rw [List.length_take]; omega
      · have hq : ((s[i].toNat : Int) == (x.toNat : Int)) = false := by
          rw [beq_eq_false_iff_ne]
          intro e
          exact hb (UInt8.toNat_inj.1 (by omega))
        go_wp2_with fail
        go_roundw
        case rel =>
          refine ⟨(i : Int) - 1, by omega, by omega, by go_num, fun j hj => ?_, m, rfl⟩
          by_cases e : j = i
          · subst e
            rw [HA.out]
            exact fun h => hb (Option.some.inj h)
          · exact HN.out j (by omega)
        case measure => simp [intOf]
/-- A byte's last place, by the library. -/
theorem LastIndex9_any (B : Nat) (v : Value) (s : ByteArray) (b : Nat) (w : World) (ho : OwnB B v s w) (hb : w.cell? ⟨b, 0, none⟩ = some (.int .u8 47)) :
    Calls Tryd.prog 33 #[v, .slice (some ⟨b, 0, none⟩) 1 1] w fun e w' => ∃ z, e = .returned (.int .i64 z) ∧ Pq.LastAt s.data.toList 47 z ∧ ∃ m, w' = w.drewN m := by
  have HL := Lib.hid (LastIndexByte_any B v s 47 47 rfl w ho)
  obtain ⟨a, c, rfl, h1, h2, -⟩ := ownB_cells ho
  clear ho
  go_enter Tryd.func33, Tryd.ntmps33
  go_wp2_with (go_at_call 45; refine HL.out.mono ?_; rintro e w1 ⟨z, rfl, hz, m, rfl⟩)
  go_ret
  exact ⟨z, rfl, hz, _, rfl⟩
end Go.Proofs.YtakeicaeccbbiaaDoor
