/- The document's own answer for numerals, second part: a text's plain digits, which number is the lesser one, a number's text, a text's number. -/
import Derived.Test.YtfjklhfmecjjkaaDoorNumB
namespace Go.Proofs.YtfjklhfmecjjkaaDoor
open Go.RowKit

theorem ret_pair2 {a b c d : Value} (h : a = c) (k : b = d) : Ending.returned (.tuple #[a, b]) = .returned (.tuple #[c, d]) := by rw [h, k]
namespace Nu
def lessS (a c : ByteArray) : Bool := decide (a.size < c.size) || (decide (a.size = c.size) && Op.bytesLess a.toList c.toList)
theorem less_texts (b : Nat) (hb : 2 ≤ b) (hb' : b ≤ 16) (m n : Nat) : lessS (text b m) (text b n) = decide (m < n) := by
  have := less_text b hb hb' m n
  unfold lessS
  rw [ByteArray.toList_eq, ByteArray.toList_eq]
  simpa [text, ByteArray.size] using this
def canonB (b v : Nat) : ByteArray := ⟨(canon b v).toArray⟩
theorem canonB_zero (b : Nat) : canonB b 0 = ⟨#[]⟩ := rfl
theorem canonB_pos (b v : Nat) (h : v ≠ 0) : canonB b v = text b v := by unfold canonB canon; rw [if_neg h]; rfl
theorem canonB_step (b : Nat) (hb : 2 ≤ b) (v d : Nat) (hd : d < b) (h : v ≠ 0 ∨ d ≠ 0) : canonB b (v * b + d) = canonB b v ++ text b d := by
  unfold canonB text
  rw [canon_step b hb v d hd h]
  apply ByteArray.ext; simp
theorem canonB_empty (b : Nat) (hb : 2 ≤ b) (v : Nat) : (canonB b v).toList.isEmpty = decide (v = 0) := by
  rw [ByteArray.toList_eq]
  exact canon_ne b hb v
theorem text_zero (b : Nat) (hb : 2 ≤ b) : text b 0 = ⟨#[48]⟩ := by
  rw [text_small (by omega)]
  have : dc 0 = 48 := by decide +kernel
  rw [this]
/-- A text's digits without noughts ahead; false: it has none, or a byte that is none. -/
def plainS (b : Nat) (s : ByteArray) : ByteArray × Bool := if s.data.toList.all (isD b) then (text b (val b s.data.toList), !s.toList.isEmpty) else (⟨#[]⟩, false)
theorem plain_no (b : Nat) (s : ByteArray) (k : Nat) (h : k < s.size) (h1 : isD b s[k] = false) : plainS b s = (⟨#[]⟩, false) := by
  unfold plainS; rw [B.all_no _ s k h h1]; rfl
theorem plain_yes (b : Nat) (s : ByteArray) (h : s.data.toList.all (isD b) = true) : plainS b s = (text b (val b s.data.toList), !s.toList.isEmpty) := by
  unfold plainS; rw [h]; rfl
theorem val_take (b : Nat) (s : ByteArray) (k : Nat) (h : k < s.size) : val b (s.data.toList.take (k + 1)) = val b (s.data.toList.take k) * b + dv s[k] := by
  rw [B.take_snocB s k h, val_snoc]
theorem take_all (s : ByteArray) : s.data.toList.take s.size = s.data.toList := List.take_of_length_le (by simp)
theorem canon_size (b : Nat) (hb : 2 ≤ b) (l : List UInt8) : ∀ m, m = l.reverse → m.all (isD b) = true → (canon b (val b m)).length ≤ m.length := by
  induction l with
  | nil => rintro m rfl _; simp [val_nil, canon_zero]
  | cons c l ih =>
    rintro m rfl h
    rw [List.reverse_cons] at h ⊢
    rw [List.all_append, Bool.and_eq_true] at h
    have h1 := ih _ rfl h.1
    obtain ⟨-, -, hd⟩ := dv_of b c (by simpa using h.2)
    rw [val_snoc]
    by_cases hz : val b l.reverse ≠ 0 ∨ dv c ≠ 0
    · rw [canon_step b hb _ _ hd hz, textL_small hd]
      simp only [List.length_append, List.length_singleton]
      omega
    · have e1 : val b l.reverse = 0 := by omega
      have e2 : dv c = 0 := by omega
      rw [e1, e2]; simp [canon_zero]
theorem plain_size (b : Nat) (hb : 2 ≤ b) (s : ByteArray) (h : s.data.toList.all (isD b) = true) : (text b (val b s.data.toList)).size ≤ s.size + 1 := by
  have h1 := canon_size b hb s.data.toList.reverse s.data.toList (by simp) h
  have h2 : s.data.toList.length = s.size := by simp
  by_cases hv : val b s.data.toList = 0
  · rw [hv, text_zero b hb]; show 1 ≤ s.size + 1; omega
  · rw [← canonB_pos b _ hv]
    unfold canonB
    have e : (⟨(canon b (val b s.data.toList)).toArray⟩ : ByteArray).size = (canon b (val b s.data.toList)).length := by simp [ByteArray.size]
    omega
def tx (b : Nat) (n : Int) : ByteArray := if n < 0 then ⟨#[]⟩ else text b n.toNat
theorem rd_no (b : Nat) (most : Int) (s : ByteArray) (h : s.toList.isEmpty = true ∨ s.data.toList.all (isD b) = false) : rd b most s.data.toList = (0, 2) := by
  unfold rd
  rw [ByteArray.toList_eq] at h
  rw [if_pos]
  rcases h with h | h <;> rw [h] <;> simp
theorem rd_yes (b : Nat) (most : Int) (s : ByteArray) (h : s.toList.isEmpty = false) (h' : s.data.toList.all (isD b) = true) : rd b most s.data.toList = if most < (val b s.data.toList : Int) then (0, 7) else ((val b s.data.toList : Int), 0) := by
  unfold rd
  rw [ByteArray.toList_eq] at h
  rw [if_neg]
  rw [h, h']; simp
theorem text_list (b n : Nat) : (text b n).data.toList = textL b n := by unfold text; simp
theorem text_at (b : Nat) (hb : 2 ≤ b) (hb' : b ≤ 16) (n k : Nat) (h : k < (text b n).size) : isD b (text b n)[k] = true := by
  have h1 := textL_isD b hb hb' n
  rw [← text_list] at h1
  exact List.all_eq_true.1 h1 _ (by
    have : (text b n)[k] = (text b n).data.toList[k]'(by rw [Array.length_toList]; exact h) := by rfl
    rw [this]; exact List.getElem_mem _)
theorem text_take (b : Nat) (hb : 2 ≤ b) (hb' : b ≤ 16) (n k : Nat) : val b ((text b n).data.toList.take k) ≤ n := by
  have h := val_le b (by omega) ((text b n).data.toList.take k) ((text b n).data.toList.drop k)
  rw [List.take_append_drop, text_list, textL_val b hb hb'] at h
  exact h
theorem text_end (b : Nat) (hb : 2 ≤ b) (hb' : b ≤ 16) (n : Nat) : val b ((text b n).data.toList.take (text b n).size) = n := by
  rw [take_all, text_list]; exact textL_val b hb hb' n
end Nu

theorem Less_any (a c : ByteArray) (w : World) (_ha : a.size ≤ 100000) (_hc : c.size ≤ 100000) :
    Calls Tryd.prog 61 #[.string a, .string c] w fun e w' => e = .returned (.bool (Nu.lessS a c)) ∧ w = w' := by
  go_enter Tryd.func61, Tryd.ntmps61
  go_wp2
  all_goals
    go_ret
    exact ⟨ret_bool (by unfold Nu.lessS; by_cases h1 : a.size < c.size <;> by_cases h2 : a.size = c.size <;> first | omega | simp [h1, h2]), rfl⟩

set_option maxHeartbeats 400000 in
theorem Plain_any (b : Nat) (hb : 2 ≤ b) (hb' : b ≤ 16) (s : ByteArray) (w : World) (hs : s.size ≤ 100000) :
    Calls Tryd.prog 60 #[.string s, .int .i64 b] w fun e w' => e = .returned (.tuple #[.string (Nu.plainS b s).1, .bool (Nu.plainS b s).2]) ∧ ∃ m, w' = w.drewN m := by
  go_enter Tryd.func60, Tryd.ntmps60
  go_wp2
  go_loopw [6, 7] (fun o i wr => ∃ k : Nat, k ≤ s.size ∧ i = .int .i64 k ∧ o = .string (Nu.canonB b (Nu.val b (s.data.toList.take k))) ∧ (Nu.canonB b (Nu.val b (s.data.toList.take k))).size ≤ k ∧ (s.data.toList.take k).all (Nu.isD b) = true ∧ ∃ m, wr = w.drewN m) (fun _ i _ => s.size - (intOf i).toNat)
  case atStart => exact ⟨0, Nat.zero_le _, rfl, rfl, Nat.le_refl _, rfl, 0, by simp [World.drewN_zero]⟩
  case round =>
    obtain ⟨k, hk, rfl, rfl, hz, hall, m, rfl⟩ := hrel
    have HA := Lib.hid hall
    clear hall
    have hE := Lib.hid (Nu.canonB_empty b hb (Nu.val b (s.data.toList.take k)))
    by_cases hlt : k < s.size
    · have hV := Lib.hid (Nu.val_take b s k hlt)
      cases hc : Nu.isD b s[k] with
      | true =>
        obtain ⟨hw, -, hd⟩ := Nu.dv_of b s[k] hc
        have hA := Lib.hid (B.all_snoc (Nu.isD b) s k hlt HA.out hc)
        have hs1 : (Nu.text b (Nu.dv s[k])).size = 1 := by rw [text_small hd]; rfl
        generalize Nu.dv s[k] = d at *
        have HW := Lib.hid hw
        clear hw hc
        generalize hv : Nu.val b (s.data.toList.take k) = v at *
        clear hv
        have hst := Lib.hid (Nu.canonB_step b hb v d hd)
        have hDg := Lib.hid (Digits_any b hb hb' d (by omega))
        by_cases hv0 : v = 0
        · subst hv0
          by_cases hd0 : d = 0
          · subst hd0
            rw [Nu.canonB_zero]
            go_wp2_with fail
            refine (worth_any _ b _ hb').mono ?_
            rintro e w' ⟨rfl, rfl⟩
            rw [HW.out]
            go_wp2_with fail
            go_roundw
            case rel => exact ⟨k + 1, by omega, by go_num, by rw [hV.out]; simp [Nu.canonB_zero], by rw [hV.out]; simp [Nu.canonB_zero, ByteArray.size], hA.out, _, rfl⟩
            case measure => simp [intOf]; omega
          · have hT := Lib.hid (hst.out (Or.inr hd0))
            have hd1 : (0 : Int) < (d : Int) := by omega
            rw [Nu.canonB_zero]
            go_wp2_with fail
            refine (worth_any _ b _ hb').mono ?_
            rintro e w' ⟨rfl, rfl⟩
            rw [HW.out]
            go_wp2_with fail
            refine (hDg.out _).mono ?_
            rintro e w' ⟨rfl, m2, rfl⟩
            go_wp2_with fail
            go_roundw
            case rel =>
              have hT' := hT.out
              exact ⟨k + 1, by omega, by go_num, by rw [hV.out, hT', Nu.canonB_zero], by rw [hV.out, hT', Nu.canonB_zero, ByteArray.size_append, hs1]; simp [ByteArray.size], hA.out, _, rfl⟩
            case measure => simp [intOf]; omega
        · have hT := Lib.hid (hst.out (Or.inl hv0))
          have hE' : (Nu.canonB b v).toList.isEmpty = false := by rw [hE.out]; simpa using hv0
          generalize hq : Nu.canonB b v = q at *
          clear hq
          go_wp2_with fail
          refine (worth_any _ b _ hb').mono ?_
          rintro e w' ⟨rfl, rfl⟩
          rw [HW.out]
          go_wp2_with fail
          refine (hDg.out _).mono ?_
          rintro e w' ⟨rfl, m2, rfl⟩
          go_wp2_with fail
          go_roundw
          case rel =>
            have hT' := hT.out
            exact ⟨k + 1, by omega, by go_num, by rw [hV.out, hT'], by rw [hV.out, hT', ByteArray.size_append, hs1]; omega, hA.out, _, rfl⟩
          case measure => simp [intOf]; omega
      | false =>
        have hP := Lib.hid (Nu.plain_no b s k hlt hc)
        have hw : Nu.wor b (s[k].toNat : Int) < 0 := by simpa [Nu.isD] using hc
        generalize hq : Nu.canonB b (Nu.val b (s.data.toList.take k)) = q at *
        clear hq hc hV hE
        go_wp2_with fail
        refine (worth_any _ b _ hb').mono ?_
        rintro e w' ⟨rfl, rfl⟩
        generalize Nu.wor b (s[k].toNat : Int) = x at *
        go_wp2_with fail
        go_ret2
        rw [hP.out]
        exact ⟨rfl, _, rfl⟩
    · obtain rfl : k = s.size := by omega
      rw [Nu.take_all] at *
      have hP := Lib.hid (Nu.plain_yes b s HA.out)
      generalize hv : Nu.val b s.data.toList = v at *
      clear hv
      by_cases hv0 : v = 0
      · subst hv0
        have hz := Lib.hid (Nu.text_zero b hb)
        rw [Nu.canonB_zero]
        go_wp2_with fail
        go_ret2
        rw [hP.out]
        exact ⟨ret_pair2 (congrArg Value.string hz.out.symm) rfl, _, rfl⟩
      · have hE' : (Nu.canonB b v).toList.isEmpty = false := by rw [hE.out]; simpa using hv0
        have hz := Lib.hid (Nu.canonB_pos b v hv0)
        generalize hq : Nu.canonB b v = q at *
        clear hq
        go_wp2_with fail
        go_ret2
        rw [hP.out]
        exact ⟨ret_pair2 (congrArg Value.string hz.out) rfl, _, rfl⟩

theorem RText_any (b : Nat) (hb : 2 ≤ b) (hb' : b ≤ 16) (n : Int) (h1 : n < 9223372036854775808) (w : World) :
    Calls Tryd.prog 44 #[.int .i64 n, .int .i64 b] w fun e w' => e = .returned (.string (Nu.tx b n)) ∧ ∃ m, w' = w.drewN m := by
  by_cases h : n < 0
  · have ht := Lib.hid (show Nu.tx b n = ⟨#[]⟩ by unfold Nu.tx; rw [if_pos h])
    go_enter Tryd.func44, Tryd.ntmps44
    go_wp2_with fail
    go_ret
    exact ⟨ret_str ht.out.symm, 0, by simp [World.drewN_zero]⟩
  · have ht := Lib.hid (show Nu.tx b n = Nu.text b n.toNat by unfold Nu.tx; rw [if_neg h])
    obtain ⟨k, rfl⟩ := Int.eq_ofNat_of_zero_le (by omega : 0 ≤ n)
    have hD := Lib.hid (Digits_any b hb hb' k (by omega))
    go_enter Tryd.func44, Tryd.ntmps44
    go_wp2_with fail
    refine (hD.out _).mono ?_
    rintro e w' ⟨rfl, m, rfl⟩
    go_wp2_with fail
    go_ret
    exact ⟨ret_str ht.out.symm, _, rfl⟩

/-- A number that an int holds. -/
def SmallN (n : Nat) : Prop := n < 9223372036854775808
theorem wrap_step (a b d : Nat) (h : SmallN (a * b + d)) : wrap64 (wrap64 ((a : Int) * (b : Int)) + (d : Int)) = ((a * b + d : Nat) : Int) := by
  have e : (a : Int) * (b : Int) = ((a * b : Nat) : Int) := rfl
  rw [e]
  unfold SmallN at h
  generalize a * b = x at *
  unfold wrap64; omega
set_option maxHeartbeats 400000 in
theorem RRead_any (b : Nat) (hb : 2 ≤ b) (hb' : b ≤ 16) (most : Int) (h1 : most < 9223372036854775808) (s : ByteArray) (w : World) (hs : s.size ≤ 90000) :
    Calls Tryd.prog 43 #[.string s, .int .i64 b, .int .i64 most] w fun e w' => e = .returned (.tuple #[.int .i64 (Nu.rd b most s.data.toList).1, .int .i64 (Nu.rd b most s.data.toList).2]) ∧ ∃ m, w' = w.drewN m := by
  by_cases hok : s.toList.isEmpty = true ∨ s.data.toList.all (Nu.isD b) = false
  · have hR := Lib.hid (Nu.rd_no b most s hok)
    have hp : Hid ((Nu.plainS b s).2 = false) := by
      show _ = _
      rcases hok with h | h
      · unfold Nu.plainS; rw [h]; split <;> rfl
      · unfold Nu.plainS; rw [h]; rfl
    clear hok
    go_enter Tryd.func43, Tryd.ntmps43
    go_wp2_with fail
    refine (Plain_any b hb hb' s _ (by omega)).mono ?_
    rintro e w' ⟨rfl, m, rfl⟩
    rw [hp.out]
    go_wp2_with fail
    go_ret2
    rw [hR.out]
    exact ⟨rfl, _, rfl⟩
  · have hne : s.toList.isEmpty = false := by
      cases h : s.toList.isEmpty
      · rfl
      · exact absurd (Or.inl h) hok
    have hall : s.data.toList.all (Nu.isD b) = true := by
      cases h : s.data.toList.all (Nu.isD b)
      · exact absurd (Or.inr h) hok
      · rfl
    have hR := Nu.rd_yes b most s hne hall
    have hP := Nu.plain_yes b s hall
    have hsz := Nu.plain_size b hb s hall
    rw [hne] at hP
    have HP := Lib.hid hP
    clear hok hne hall hP
    generalize Nu.val b s.data.toList = v at *
    by_cases hm : most < 0
    · have HR : Hid (Nu.rd b most s.data.toList = (0, 7)) := by show _ = _; rw [hR, if_pos (by omega)]
      clear hR
      go_enter Tryd.func43, Tryd.ntmps43
      go_wp2_with fail
      refine (Plain_any b hb hb' s _ (by omega)).mono ?_
      rintro e w' ⟨rfl, m, rfl⟩
      rw [HP.out]
      go_wp2_with fail
      go_ret2
      rw [HR.out]
      exact ⟨rfl, _, rfl⟩
    · obtain ⟨q, rfl⟩ := Int.eq_ofNat_of_zero_le (by omega : 0 ≤ most)
      have hD := Lib.hid (Digits_any b hb hb' q (by omega))
      have hq := Nu.text_size b hb q (by omega)
      have hL := Lib.hid (Nu.less_texts b hb hb' q v)
      have H1 : SmallN q := by unfold SmallN; omega
      clear h1
      by_cases hv : q < v
      · have HR : Hid (Nu.rd b (q : Int) s.data.toList = (0, 7)) := by show _ = _; rw [hR, if_pos (by omega)]
        clear hR
        have hd : Hid (decide (q < v) = true) := by show _ = _; simpa using hv
        go_enter Tryd.func43, Tryd.ntmps43
        go_wp2_with fail
        refine (Plain_any b hb hb' s _ (by omega)).mono ?_
        rintro e w' ⟨rfl, m, rfl⟩
        rw [HP.out]
        go_wp2_with fail
        refine (hD.out _).mono ?_
        rintro e w' ⟨rfl, m2, rfl⟩
        go_wp2_with fail
        refine (Less_any _ _ _ (by omega) (by omega)).mono ?_
        rintro e w' ⟨rfl, rfl⟩
        rw [hL.out, hd.out]
        go_wp2_with fail
        go_ret2
        rw [HR.out]
        exact ⟨rfl, _, rfl⟩
      · have HR : Hid (Nu.rd b (q : Int) s.data.toList = ((v : Int), 0)) := by show _ = _; rw [hR, if_neg (by omega)]
        clear hR
        have hd : Hid (decide (q < v) = false) := by show _ = _; simpa using hv
        have hqb : v ≤ q := by omega
        have hAt := Lib.hid (Nu.text_at b hb hb' v)
        have hTk := Lib.hid (Nu.text_take b hb hb' v)
        have hEnd := Lib.hid (Nu.text_end b hb hb' v)
        have hvq : SmallN v := by unfold SmallN at *; omega
        generalize Nu.text b v = p at *
        go_enter Tryd.func43, Tryd.ntmps43
        go_wp2_with fail
        refine (Plain_any b hb hb' s _ (by omega)).mono ?_
        rintro e w' ⟨rfl, m, rfl⟩
        rw [HP.out]
        go_wp2_with fail
        refine (hD.out _).mono ?_
        rintro e w' ⟨rfl, m2, rfl⟩
        go_wp2_with fail
        refine (Less_any _ _ _ (by omega) (by omega)).mono ?_
        rintro e w' ⟨rfl, rfl⟩
        rw [hL.out, hd.out]
        go_wp2_with fail
        go_loopw [10, 11] (fun a i wr => ∃ k : Nat, k ≤ p.size ∧ i = .int .i64 k ∧ a = .int .i64 (Nu.val b (p.data.toList.take k) : Nat) ∧ ∃ m, wr = w.drewN m) (fun _ i _ => p.size - (intOf i).toNat)
        case atStart => exact ⟨0, Nat.zero_le _, rfl, rfl, _, rfl⟩
        case round =>
          obtain ⟨k, hk, rfl, rfl, m3, rfl⟩ := hrel
          by_cases hlt : k < p.size
          · have hV := Nu.val_take b p k hlt
            have hle := hTk.out (k + 1)
            obtain ⟨hw, -, -⟩ := Nu.dv_of b p[k] (hAt.out k hlt)
            have HW := Lib.hid hw
            clear hw
            generalize Nu.val b (p.data.toList.take k) = a at *
            have hT : SmallN (a * b + Nu.dv p[k]) := by unfold SmallN at *; omega
            have HV := Lib.hid hV
            clear hV hle
            generalize Nu.dv p[k] = d at *
            go_wp2_with fail
            refine (worth_any _ b _ hb').mono ?_
            rintro e w' ⟨rfl, rfl⟩
            rw [HW.out]
            go_wp2_with fail
            go_roundw
            case rel => exact ⟨k + 1, by omega, by go_num, by rw [HV.out, wrap_step a b d hT], _, rfl⟩
            case measure => simp [intOf]; omega
          · obtain rfl : k = p.size := by omega
            rw [hEnd.out]
            go_wp2_with fail
            go_ret2
            rw [HR.out]
            exact ⟨rfl, _, rfl⟩
end Go.Proofs.YtfjklhfmecjjkaaDoor
