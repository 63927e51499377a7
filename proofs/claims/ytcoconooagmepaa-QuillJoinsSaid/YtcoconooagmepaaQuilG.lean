/- What the laws of layer 4 call besides: contracts. -/
import Derived.Test.YtcoconooagmepaaQuilE
import Derived.Deep.RegionLaw
namespace Go.Proofs.Ytcoconooagmepaa
open Go.RowKit

/-- A text, cut40. -/
def cut40 (s : ByteArray) : ByteArray := s.extract 0 (min (s.size : Int) 40).toNat
/-- Texts, not more and not longer than the law looks. -/
def fewQ (ss : List ByteArray) : List ByteArray := (ss.take 6).map cut40
theorem cut40_size (s : ByteArray) : (cut40 s).size ≤ 40 := by
  unfold cut40
  simp
  omega
theorem few_snoc (ss : List ByteArray) (k : Nat) (h : k < ss.length) : ((ss.take k).map cut40).map Value.string ++ [.string (cut40 (ss.getD k ByteArray.empty))] = ((ss.take (k + 1)).map cut40).map Value.string := by
  rw [List.take_succ_eq_append_getElem h, getD_at ss k h]
  simp only [List.map_append, List.map_cons, List.map_nil]
theorem few_length (ss : List ByteArray) : (fewQ ss).length ≤ 6 := by
  unfold fewQ
  simp
  omega
theorem flat_cuts : ∀ (l : List ByteArray), (flat (l.map cut40)).length ≤ 40 * l.length
  | [] => by simp [flat]
  | s :: l => by
    have h1 := flat_cuts l
    have h2 := cut40_size s
    have h3 : (flat ((s :: l).map cut40)).length = (cut40 s).size + (flat (l.map cut40)).length := by
      unfold flat
      rw [List.map_cons, List.flatMap_cons, List.length_append]
      rfl
    rw [h3, List.length_cons]
    omega
theorem flat_few (ss : List ByteArray) : (flat (fewQ ss)).length ≤ 240 := by
  have h1 := flat_cuts (ss.take 6)
  have h2 : (ss.take 6).length ≤ 6 := by simp; omega
  show (flat ((ss.take 6).map cut40)).length ≤ 240
  omega

/-- append onto a row of the call's own, as one step of a region that draws. -/
theorem step_append_own {P : Program} {ops : Array Oper} {o : Oper} {a : Act} {w : World} {K : Act → World → Prop} {Q : Exit → Act → World → Prop} {E : Prop}
    (hg : o.guard = none) (s x : Operand) (t : TypeId) (hop : o.op = Op.call { callee := Callee.builtin Builtin.append, args := #[s, x], argTypes := #[t, t] })
    (base : Nat) (e : TypeId) (i : TypeInfo) (z : Value) (size bytes : Nat) (h1 : P.underlying t = some (.slice e)) (h2 : P.info? e = some i) (h3 : i.zero = some z) (h4 : i.size = size) (h5 : i.bytes = bytes) (h6 : z.cells.size = size) (h7 : 0 < size)
    (v : Value) (n : Nat) (xs : List Value) (hs : a.eval s = v) (hown : w.ownsRow base e size v n xs)
    (ad : Addr) (m c : Nat) (news : List Value) (hx : a.eval x = .slice (some ad) m c) (hn : news.length = m * size) (hc : ∀ j u, news[j]? = some u → w.cell? (ad.add j) = some u) (h1c : ∀ u ∈ news, u.oneCell' = true)
    (b1 : n + m ≤ maxLen) (b2 : (n + m) * bytes ≤ 140737488355328) (hb : base ≤ w.heap.size)
    (hK : ∀ v' w', w'.ownsRow base e size v' (n + m) (xs ++ news) → w.grownBy w' v.ownBlock → K (a.put o.dst v') w') :
    if Region.wanted o (yielded ops a.tmps) = true then Oper.wp P o a w K Q else E := by
  have hw : Region.wanted o (yielded ops a.tmps) = true := by simp [Region.wanted, hg]
  rw [if_pos hw]
  obtain ⟨v', w', hrun, r1, r2, _⟩ := run_append_own (P := P) w base t o.type e i z size bytes h1 h2 h3 h4 h5 h6 h7 v n xs hown ad m c news hn hc h1c b1 b2 hb
  unfold Oper.wp
  simp [execOp, hop, resolve, invoke, builtin, hs, hx, hrun, Result.andThen]
  exact hK v' w' r1 r2

set_option maxHeartbeats 400000 in
theorem few4_any (a : Option Addr) (len cp : Nat) (ss : List ByteArray) (w : World) (hz : IsTexts w a len ss) :
    Calls Try.prog 9 #[.slice a len cp] w (Row_ (fewQ ss) w) := by
  have hl := hz.small
  have HZ := Lib.hid hz
  clear hz
  obtain ⟨i0, hi, hz0, hz1, hz2⟩ := info_parts info_string
  go_enter Try.func9, Try.ntmps9
  go_wp2_with fail
  go_loopw [3, 4] (fun o i wr => ∃ (k : Nat) (a1 : Option Addr) (c1 : Nat), k ≤ len ∧ k ≤ 6 ∧ i = .int .i64 k ∧ o = .slice a1 k c1 ∧ Hid (wr.ownsRow w.heap.size 9 1 (.slice a1 k c1) k (((ss.take k).map cut40).map Value.string)) ∧ Hid (Below w.heap.size w wr)) (fun _ i _ => len - (intOf i).toNat)
  case atStart => exact ⟨0, none, 0, Nat.zero_le _, Nat.zero_le _, rfl, rfl, World.ownsRow_nil _ _ _ _, Below.refl _ _⟩
  case round =>
    obtain ⟨k, a1, c1, hk, hk6, rfl, rfl, HO, HB⟩ := hrel
    by_cases hlt : k < len ∧ k < 6
    · obtain ⟨hlt, h6⟩ := hlt
      rcases (HZ.out.below HB.out).2 with ⟨rfl, rfl⟩ | ⟨x, rfl, hxl, hcells⟩
      · omega
      have hc := hcells k hlt
      have hsn := Lib.hid (few_snoc ss k (by rw [HZ.out.1]; exact hlt))
      clear hcells
      generalize ss.getD k ByteArray.empty = y at *
      obtain ⟨t, ht⟩ : ∃ t, y.extract 0 (min (y.size : Int) 40).toNat = t := ⟨_, rfl⟩
      have hcut : cut40 y = t := ht
      rw [hcut] at hsn
      clear hcut
      have hbs := HB.out.size
      have hm0 : (0 : Int) ≤ min (y.size : Int) 40 := by omega
      have hm1 : min (y.size : Int) 40 ≤ (y.size : Int) := by omega
      go_wp2_with fail
      go_region_law (refine step_append_own rfl (.tmp 15) (.tmp 27) 26 rfl w.heap.size 9 i0 _ 1 16 Try.underlying26 hi hz0 hz1 hz2 rfl (by omega) _ k _ (by simp [Act.eval, Act.put]) (World.ownsRow.alloc (w := wr.drew) HO.out _) ⟨wr.heap.size, 0, none⟩ 1 1 [.string t] (by simp [Act.eval, Act.put]) rfl (by intro j u hj; rcases j with _ | j <;> simp at hj; subst hj; simp [go_sem]) (by intro u hu; simp at hu; subst hu; rfl) (by unfold maxLen; omega) (by omega) (by simp; omega) ?_; intro v2 w2 ho2 hg2; obtain ⟨a2, c2, rfl, _⟩ := own_form ho2)
      all_goals
        have hb2 : Below w.heap.size w w2 := (HB.out.drew.alloc (by simp; omega) _).grown hg2 (by simp; omega) (fun k hk => (HO.out.lt k hk).1)
        rw [hsn.out] at ho2
        clear hg2 HB HO hc
        go_wp2
        exact ⟨⟨k + 1, a2, c2, by omega, by omega, by go_num, rfl, ho2, hb2⟩, by simp [intOf]; omega⟩
    · have hex : ¬ k < len ∨ (k < len ∧ ¬ k < 6) := by omega
      have hE : Hid (((ss.take k).map cut40).map Value.string = (fewQ ss).map Value.string) := by
        show _ = _
        have hl2 := HZ.out.1
        unfold fewQ
        rcases hex with h1 | ⟨h1, h2⟩
        · rw [List.take_of_length_le (by omega), List.take_of_length_le (by omega)]
        · rw [show k = 6 from by omega]
      rw [hE.out] at HO
      rcases hex with h1 | ⟨h1, h2⟩
      all_goals
        go_wp2_with fail
        go_ret
        exact ⟨a1, k, c1, rfl, HO.out, HB.out⟩
end Go.Proofs.Ytcoconooagmepaa
