/- What the laws of layer 4 call besides: contracts. -/
import Derived.Test.YtnnhlkbjdfgcaaaQuilE
import Derived.Deep.RegionLaw
namespace Go.Proofs.Ytnnhlkbjdfgcaaa
open Go.RowKit

/-- A text, cut40. -/
def cut40 (s : ByteArray) : ByteArray := s.extract 0 (min (s.size : Int) 40).toNat
/-- Texts, not more and not longer than the law looks. -/
def fewQ (ss : List ByteArray) : List ByteArray := (ss.take 6).map cut40
theorem cut40_size (s : ByteArray) : (cut40 s).size ≤ 40 := by
  unfold cut40
  simp
  omega
theorem few_snoc (ss : List ByteArray) (k : Nat) (h : k < ss.length) : ((ss.take k).map cut40).map Value.string ++ [.string (cut40 (ss.getD k ByteArray.empty))] = ((ss.take (k + 1)).map cut40).map Value.string := by
  rw [List.take_succ_eq_append_getElem h, getD_at ss k h]
  simp only [List.map_append, List.map_cons, List.map_nil]
theorem few_length (ss : List ByteArray) : (fewQ ss).length ≤ 6 := by
  unfold fewQ
  simp
  omega
theorem flat_cuts : ∀ (l : List ByteArray), (flat (l.map cut40)).length ≤ 40 * l.length
  | [] => by simp [flat]
  | s :: l => by
    have h1 := flat_cuts l
    have h2 := cut40_size s
    have h3 : (flat ((s :: l).map cut40)).length = (cut40 s).size + (flat (l.map cut40)).length := by
      unfold flat
      rw [List.map_cons, List.flatMap_cons, List.length_append]
      rfl
    rw [h3, List.length_cons]
    omega
theorem flat_few (ss : List ByteArray) : (flat (fewQ ss)).length ≤ 240 := by
  have h1 := flat_cuts (ss.take 6)
  have h2 : (ss.take 6).length ≤ 6 := by simp; omega
  show (flat ((ss.take 6).map cut40)).length ≤ 240
  omega

/-- append onto a row of the call's own, as one step of a region that draws. -/
theorem step_append_own {P : Program} {ops : Array Oper} {o : Oper} {a : Act} {w : World} {K : Act → World → Prop} {Q : Exit → Act → World → Prop} {E : Prop}
    (hg : o.guard = none) (s x : Operand) (t : TypeId) (hop : o.op = Op.call { callee := Callee.builtin Builtin.append, args := #[s, x], argTypes := #[t, t] })
    (base : Nat) (e : TypeId) (i : TypeInfo) (z : Value) (size bytes : Nat) (h1 : P.underlying t = some (.slice e)) (h2 : P.info? e = some i) (h3 : i.zero = some z) (h4 : i.size = size) (h5 : i.bytes = bytes) (h6 : z.cells.size = size) (h7 : 0 < size)
    (v : Value) (n : Nat) (xs : List Value) (hs : a.eval s = v) (hown : w.ownsRow base e size v n xs)
    (ad : Addr) (m c : Nat) (news : List Value) (hx : a.eval x = .slice (some ad) m c) (hn : news.length = m * size) (hc : ∀ j u, news[j]? = some u → w.cell? (ad.add j) = some u) (h1c : ∀ u ∈ news, u.oneCell' = true)
    (b1 : n + m ≤ maxLen) (b2 : (n + m) * bytes ≤ 140737488355328) (hb : base ≤ w.heap.size)
    (hK : ∀ v' w', w'.ownsRow base e size v' (n + m) (xs ++ news) → w.grownBy w' v.ownBlock → K (a.put o.dst v') w') :
    if Region.wanted o (yielded ops a.tmps) = true then Oper.wp P o a w K Q else E := by
  have hw : Region.wanted o (yielded ops a.tmps) = true := by simp [Region.wanted, hg]
  rw [if_pos hw]
  obtain ⟨v', w', hrun, r1, r2, _⟩ := run_append_own (P := P) w base t o.type e i z size bytes h1 h2 h3 h4 h5 h6 h7 v n xs hown ad m c news hn hc h1c b1 b2 hb
  unfold Oper.wp
  simp [execOp, hop, resolve, invoke, builtin, hs, hx, hrun, Result.andThen]
  exact hK v' w' r1 r2

end Go.Proofs.Ytnnhlkbjdfgcaaa
