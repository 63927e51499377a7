/- Put: its contract. -/
import Derived.Test.YtcoconooagmepaaQuilB
import Derived.OwnWalk
namespace Go.Proofs.Ytcoconooagmepaa
open Go.RowKit

/-- What Put does: the text behind it, and the error. -/
def putS (most : Int) (s : ByteArray) (ss : List ByteArray) : ByteArray := if fits (most - s.size) ss = true then s ++ cat ss else s
def putE (most : Int) (s : ByteArray) (ss : List ByteArray) : Int := if fits (most - s.size) ss = true then 0 else 10
/-- A quill that has the text s', and was turned as a call may turn it. -/
def Put_ (b : Nat) (v : Value) (s' : ByteArray) (most : Int) (w w' : World) : Prop := ∃ v', Quil b v' s' most w' ∧ Kept (ownQ b v) w w' ∧ NewOwn v v' w
theorem info_byte : (Try.prog.info? 5).map (fun i => (i.zero, i.size, i.bytes)) = some (some (.int .u8 0), 1, 1) := by kernel_rfl

theorem QPut_nil (a : Option Addr) (len cp : Nat) (w : World) :
    Calls Try.prog 11 #[.pointer none, .slice a len cp] w fun e w' => e = .returned (.int .i64 5) ∧ w = w' := by
  go_enter Try.func11, Try.ntmps11
  go_wp2_with fail
  go_ret
  exact ⟨rfl, rfl⟩

set_option maxHeartbeats 400000 in
theorem QPut_some (b : Nat) (v : Value) (s : ByteArray) (most : Int) (a : Option Addr) (len cp : Nat) (ss : List ByteArray) (w : World) (hq : Quil b v s most w) (hz : IsTexts w a len ss)
    (hna : ∀ x, a = some x → ¬ ownQ b v x.block) (hbig : s.size + (flat ss).length ≤ 140737488355328) :
    Calls Try.prog 11 #[.pointer (some ⟨b, 0, none⟩), .slice a len cp] w fun e w' => e = .returned (.int .i64 (putE most s ss)) ∧ Put_ b v (putS most s ss) most w w' := by
  have hle := hq.le
  have hsm := hq.small
  have HQ := Lib.hid hq
  have HZ := Lib.hid hz
  have HB := Lib.hid hbig
  have HA := Lib.hid hna
  have hlen := hz.small
  have hL := Lib.hid (QLeft_some b v s most w hq)
  have hF := Lib.hid (fun n => fit_any (most - s.size) (by omega) (by omega) a len cp ss (w.drewN n) (hz.below (below_drewN _ _ n)) (by omega))
  clear hq hz hna hbig
  cases hf : fits (most - s.size) ss with
  | false =>
    have HS : Hid (putS most s ss = s ∧ putE most s ss = 10) := by constructor <;> simp [putS, putE, hf]
    rw [hf] at hF
    clear hf
    go_enter Try.func11, Try.ntmps11
    go_wp2_with fail
    refine hL.out.mono ?_
    rintro e w1 ⟨rfl, n, rfl⟩
    go_wp2_with fail
    refine (hF.out n).mono ?_
    rintro e w2 ⟨rfl, rfl⟩
    go_wp2_with fail
    go_ret
    rw [HS.out.1, HS.out.2]
    exact ⟨rfl, v, HQ.out.drewN n, (Kept.refl _ _).drewN n, NewOwn.refl _ _⟩
  | true =>
    have HS : Hid (putS most s ss = s ++ cat ss ∧ putE most s ss = 0) := by constructor <;> simp [putS, putE, hf]
    have HF : Hid (s.size + (flat ss).length ≤ most) := by
      show _ ≤ _
      unfold fits at hf
      have := of_decide_eq_true hf
      omega
    rw [hf] at hF
    clear hf
    go_enter Try.func11, Try.ntmps11
    go_wp2_with fail
    refine hL.out.mono ?_
    rintro e w1 ⟨rfl, n, rfl⟩
    go_wp2_with fail
    refine (hF.out n).mono ?_
    rintro e w2 ⟨rfl, rfl⟩
    go_wp2_with fail
    go_loopw [16] (fun i wr => ∃ k : Nat, k ≤ len ∧ i = .int .i64 k ∧ Hid (Put_ b v (s ++ cat (ss.take k)) most w wr)) (fun i _ => len - (intOf i).toNat)
    case atStart => exact ⟨0, Nat.zero_le _, rfl, by show Put_ _ _ _ _ _ _; rw [cat_nil]; exact ⟨v, HQ.out.drewN n, (Kept.refl _ _).drewN n, NewOwn.refl _ _⟩⟩
    case round =>
      clear hL hF
      obtain ⟨k, hk, rfl, HP⟩ := hrel
      obtain ⟨v1, hq1, hk1, hn1⟩ := HP.out
      by_cases hlt : k < len
      · rcases HZ.out.2 with ⟨rfl, rfl⟩ | ⟨x, rfl, hl, hc⟩
        · omega
        have hck := hc k hlt
        have hxb : (x.add k).block = x.block := by unfold Addr.add; split <;> rfl
        have hxl : x.block < w.heap.size := by rw [← hxb]; exact lt_of_cell hck
        have hcell : wr.cell? (x.add k) = some (.string (ss.getD k ByteArray.empty)) := (hk1.cell (p := x.add k) (by rw [hxb]; exact hxl) (by rw [hxb]; exact HA.out x rfl)).trans hck
        have hkl := Lib.hid (show k < ss.length by rw [HZ.out.1]; exact hlt)
        have hst := Lib.hid (cat_on s ss k hkl.out)
        have hsz : (s ++ cat (ss.take k)).size + (ss.getD k ByteArray.empty).size ≤ 140737488355328 ∧ ((s ++ cat (ss.take k)).size : Int) + (ss.getD k ByteArray.empty).size ≤ most := by
          have h1 := flat_le ss k hkl.out
          have h2 := HB.out
          have h3 := HF.out
          rw [size_append, cat_size]
          omega
        obtain ⟨hsz1, hsz2⟩ := hsz
        have hq0 := hq1.c0
        have hqf := hq1.f0
        have hown := hq1.own
        have HQ1 := Lib.hid hq1
        have HK1 := Lib.hid hk1
        have HN1 := Lib.hid hn1
        clear hq1 hk1 hn1 HP hck hc
        generalize ss.getD k ByteArray.empty = y at *
        generalize s ++ cat (ss.take k) = z at *
        obtain ⟨i0, hi, hz0, hz1, hz2⟩ := info_parts info_byte
        go_wp2_with (at_builtin; refine wpList_append_new _ rfl _ _ 42 9 rfl 5 i0 Try.underlying42 Try.underlying9 hi hz0 hz1 hz2 _ _ _ rfl hown y rfl hsz1 ?_)
        intro v2 w2 ho2 hg2 hn2
        have hq2 := HQ1.out.put (s' := z ++ y) (by rw [size_append, ← cells_cat]; exact ho2) hg2 (by rw [size_append]; omega)
        have hb2 : w2.heap[b]? = some (.cells #[v1, .int .i64 most] 44 (0, 0)) := by
          rw [hg2.block b HQ1.out.lt (fun e => HQ1.out.ne e.symm)]; exact HQ1.out.at_
        have d0 : w2.cell? ⟨b, 0, none⟩ = some v1 := by rw [Lib.cell_of_heap hb2]; rfl
        have f0 : w2.frozen? ⟨b, 0, none⟩ = false := Lib.frozen_of_heap hb2 0
        have hk2 : Kept (ownQ b v) w (w2.setCell ⟨b, 0, none⟩ v2) := by
          refine (HK1.out.grown hg2 ?_).setCellL (.inl rfl) _
          intro j hj
          rcases HN1.out j hj with h | h
          · exact .inl (.inr h)
          · exact .inr h
        have hn3 : NewOwn v v2 w := HN1.out.trans hn2 HK1.out.size
        obtain ⟨a2, c2, rfl, _⟩ := own_form ho2
        have HP2 : Hid (Put_ b v (z ++ y) most w (w2.setCell ⟨b, 0, none⟩ (.slice a2 (z.size + y.size) c2))) := ⟨_, hq2, hk2, hn3⟩
        clear hq2 hk2 hn3 ho2 hg2 hn2 hb2 hown
        go_wp2
        refine ⟨⟨k + 1, by omega, by go_num, ?_⟩, by simp [intOf]; omega⟩
        rw [hst.out] at HP2
        exact HP2
      · have hE := Lib.hid (cat_all ss k (by rw [HZ.out.1]; omega))
        go_wp2_with fail
        go_ret
        rw [HS.out.1, HS.out.2]
        refine ⟨rfl, ?_⟩
        have := HP.out
        rw [hE.out] at this
        exact this
end Go.Proofs.Ytcoconooagmepaa
