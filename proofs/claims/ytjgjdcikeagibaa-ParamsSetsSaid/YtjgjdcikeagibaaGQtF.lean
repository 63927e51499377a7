/- Contracts and lemmas that the claim rests on: QtF. -/
import Derived.Test.YtjgjdcikeagibaaGQtE
/- The document's Quote, Front, Word, Either: contracts. -/
namespace Go.Proofs.Ytjgjdcikeagibaa
open Go.RowKit

namespace Qd
/-- The first mark, and a text's bytes behind it. -/
def qtB (l : List UInt8) : ByteArray := ⟨(34 :: enc l).toArray⟩
theorem qtB_size (l : List UInt8) : (qtB l).size ≤ 2 * l.length + 1 := by
  show (34 :: enc l).toArray.size ≤ _
  have := enc_len l
  simp
  omega
theorem enc_append (l m : List UInt8) : enc (l ++ m) = enc l ++ enc m := by unfold enc; rw [List.flatMap_append]
theorem qtB_snoc (s : ByteArray) (k : Nat) (h : k < s.size) : qtB (s.data.toList.take (k + 1)) = ⟨((34 :: enc (s.data.toList.take k)) ++ (if pl (s[k].toNat : Int) then [s[k]] else [92, s[k]])).toArray⟩ := by
  unfold qtB
  rw [B.take_snocB s k h, enc_append]
  congr 2
  rw [List.cons_append]
  congr 2
  unfold enc
  simp
theorem qtB_plain (s : ByteArray) (k : Nat) (h : k < s.size) (hp : pl (s[k].toNat : Int) = true) : qtB (s.data.toList.take k) ++ s.extract k (k + 1) = qtB (s.data.toList.take (k + 1)) := by
  rw [qtB_snoc s k h, if_pos hp, B.extract_one s k h]
  apply bytes_eq
  rw [list_append]
  rfl
theorem qtB_esc (s : ByteArray) (k : Nat) (h : k < s.size) (hp : pl (s[k].toNat : Int) = false) : (qtB (s.data.toList.take k) ++ ⟨#[92]⟩) ++ s.extract k (k + 1) = qtB (s.data.toList.take (k + 1)) := by
  rw [qtB_snoc s k h, if_neg (by simp [hp]), B.extract_one s k h]
  apply bytes_eq
  rw [list_append, list_append, List.append_assoc]
  rfl
/-- A text in quotes, and the error. -/
def qT (s : ByteArray) : ByteArray := if vals s.data.toList then ⟨(quoteL s.data.toList).toArray⟩ else ByteArray.empty
def qE (s : ByteArray) : Int := if vals s.data.toList then 0 else 2
theorem qtB_done (s : ByteArray) (h : vals s.data.toList = true) : qtB (s.data.toList) ++ ⟨#[34]⟩ = qT s := by
  unfold qT
  rw [if_pos h]
  apply bytes_eq
  rw [list_append]
  rfl
theorem pl_val {n : Int} (h : B.val n = true) : pl n = (decide (n ≠ 34) && decide (n ≠ 92)) := by unfold pl; rw [h]; rfl
theorem qE_no (s : ByteArray) (k : Nat) (h : k < s.size) (hv : B.val (s[k].toNat : Int) = false) : qT s = ByteArray.empty ∧ qE s = 2 := by
  have e : vals s.data.toList = false := B.all_no (fun c => B.val (c.toNat : Int)) s k h hv
  unfold qT qE
  rw [e]
  exact ⟨rfl, rfl⟩
/-- Where the document's reader stands: behind acc, at j. -/
structure OnF (s : ByteArray) (j : Nat) (acc : List UInt8) : Prop where
  le : j ≤ s.size
  few : acc.length ≤ j
  eq : fr s 0 = (inner (s.data.toList.drop j)).map fun x => (acc ++ x.1, j + x.2)
theorem byteAt_at (s : ByteArray) (k : Nat) (h : k < s.size) : s.data.toList.getD k 0 = s[k] := by
  rw [List.getD_eq_getElem?_getD, List.getElem?_eq_getElem (by simpa using h)]
  rfl
theorem OnF.first (s : ByteArray) (h : 0 < s.size) (hb : (s[0].toNat : Int) = 34) : OnF s 1 [] := by
  refine ⟨h, by simp, ?_⟩
  unfold fr
  rw [drop_at s 0 h, byteAt_at s 0 h, front_cons, if_pos hb, map_one]
theorem fr_no (s : ByteArray) (h : ¬ 0 < s.size) : fr s 0 = none := by unfold fr; rw [drop_out s 0 h]; rfl
theorem fr_other (s : ByteArray) (h : 0 < s.size) (hb : (s[0].toNat : Int) ≠ 34) : fr s 0 = none := by
  unfold fr
  rw [drop_at s 0 h, byteAt_at s 0 h, front_cons, if_neg hb]
theorem OnF.plain {s : ByteArray} {j : Nat} {acc : List UInt8} (h : OnF s j acc) (hj : j < s.size) (h0 : (s[j].toNat : Int) ≠ 34) (h1 : (s[j].toNat : Int) ≠ 92) (h2 : B.val (s[j].toNat : Int) = true) : OnF s (j + 1) (acc ++ [s[j]]) := by
  have hf := h.few
  refine ⟨hj, by simp; omega, ?_⟩
  rw [h.eq, drop_at s j hj, byteAt_at s j hj, inner_plain _ _ (by rw [pl_val h2]; simp [h0, h1]), map_cons, map_map]
theorem OnF.esc {s : ByteArray} {j : Nat} {acc : List UInt8} (h : OnF s j acc) (hj : j + 1 < s.size) (h0 : (s[j].toNat : Int) = 92) (h2 : B.val (s[j + 1].toNat : Int) = true) : OnF s (j + 2) (acc ++ [s[j + 1]]) := by
  have hf := h.few
  refine ⟨hj, by simp; omega, ?_⟩
  rw [h.eq, drop_at s j (by omega), drop_at s (j + 1) hj, byteAt_at s j (by omega), byteAt_at s (j + 1) hj, inner_esc _ _ _ h0 h2, map_cons, map_map]
theorem OnF.done {s : ByteArray} {j : Nat} {acc : List UInt8} (h : OnF s j acc) (hj : j < s.size) (h0 : (s[j].toNat : Int) = 34) : fr s 0 = some (acc, j + 1) := by
  rw [h.eq, drop_at s j hj, byteAt_at s j hj, inner_mark _ _ h0]
  simp
theorem OnF.out {s : ByteArray} {j : Nat} {acc : List UInt8} (h : OnF s j acc) (hj : ¬ j < s.size) : fr s 0 = none := by
  rw [h.eq, drop_out s j hj]; rfl
theorem OnF.cut {s : ByteArray} {j : Nat} {acc : List UInt8} (h : OnF s j acc) (hj : j < s.size) (hj2 : ¬ j + 1 < s.size) (h0 : (s[j].toNat : Int) = 92) : fr s 0 = none := by
  rw [h.eq, drop_at s j hj, byteAt_at s j hj, drop_out s (j + 1) hj2, inner_end _ h0]; rfl
theorem OnF.bad {s : ByteArray} {j : Nat} {acc : List UInt8} (h : OnF s j acc) (hj : j + 1 < s.size) (h0 : (s[j].toNat : Int) = 92) (h2 : B.val (s[j + 1].toNat : Int) = false) : fr s 0 = none := by
  rw [h.eq, drop_at s j (by omega), drop_at s (j + 1) hj, byteAt_at s j (by omega), byteAt_at s (j + 1) hj, inner_bad _ _ _ h0 h2]; rfl
theorem OnF.no {s : ByteArray} {j : Nat} {acc : List UInt8} (h : OnF s j acc) (hj : j < s.size) (h2 : B.val (s[j].toNat : Int) = false) : fr s 0 = none := by
  rw [h.eq, drop_at s j hj, byteAt_at s j hj, inner_no _ _ h2]; rfl
def accB (l : List UInt8) : ByteArray := ⟨l.toArray⟩
theorem accB_size (l : List UInt8) : (accB l).size = l.length := by show l.toArray.size = _; simp
theorem accB_snoc (s : ByteArray) (j : Nat) (h : j < s.size) (l : List UInt8) : accB l ++ s.extract j (j + 1) = accB (l ++ [s[j]]) := by
  rw [B.extract_one s j h]
  apply bytes_eq
  rw [list_append]
  rfl
end Qd

set_option maxHeartbeats 1000000 in
theorem RQuote_any (s : ByteArray) (w : World) (hs : s.size ≤ 100000) :
    Calls Try.prog 41 #[.string s] w fun e w' => e = .returned (.tuple #[.string (Qd.qT s), .int .i64 (Qd.qE s)]) ∧ ∃ n, w' = w.drewN n := by
  go_enter Try.func41, Try.ntmps41
  go_wp2
  go_loopw [4, 5] (fun out i wr => ∃ k : Nat, k ≤ s.size ∧ i = .int .i64 k ∧ out = .string (Qd.qtB (s.data.toList.take k)) ∧ Qd.vals (s.data.toList.take k) = true ∧ ∃ n, wr = w.drewN n) (fun _ i _ => s.size - (intOf i).toNat)
  case atStart => exact ⟨0, Nat.zero_le _, rfl, rfl, rfl, 0, rfl⟩
  case round =>
    obtain ⟨k, hk, rfl, rfl, hv, n, rfl⟩ := hrel
    have hz := Qd.qtB_size (s.data.toList.take k)
    have hz2 : (s.data.toList.take k).length ≤ s.size := by simp; omega
    by_cases hlt : k < s.size
    · have hby := B.toNat_le s[k]
      cases hval : B.val (s[k].toNat : Int)
      · have HV := Lib.hid hval
        have HE := Lib.hid (Qd.qE_no s k hlt hval)
        clear hval hv
        generalize Qd.qtB (s.data.toList.take k) = X at *
        go_wp2_with fail
        refine (RValue_any _ _ (by omega) (by omega)).mono ?_
        rintro e w' ⟨rfl, rfl⟩
        rw [HV.out]
        go_wp2_with fail
        go_ret2
        rw [HE.out.1, HE.out.2]
        exact ⟨rfl, n, rfl⟩
      · have HV := Lib.hid hval
        have HVS := Lib.hid (B.all_snoc (fun c => B.val (c.toNat : Int)) s k hlt hv hval)
        cases hp : Qd.pl (s[k].toNat : Int)
        · have HF := Lib.hid (Qd.qtB_esc s k hlt hp)
          have hor : (s[k].toNat : Int) = 34 ∨ (s[k].toNat : Int) = 92 := by
            rw [Qd.pl_val hval] at hp
            by_cases h34 : (s[k].toNat : Int) = 34
            · exact .inl h34
            · right; simp [h34] at hp; simpa using hp
          have HO := Lib.hid hor
          clear hval hv hp hor
          generalize Qd.qtB (s.data.toList.take k) = X at *
          go_wp2_with fail
          refine (RValue_any _ _ (by omega) (by omega)).mono ?_
          rintro e w' ⟨rfl, rfl⟩
          rw [HV.out]
          go_wp2_with fail
          · go_roundw
            case rel => exact ⟨k + 1, by omega, by go_num, by rw [HF.out], HVS.out, n, rfl⟩
            case measure => simp [intOf]; omega
          · go_roundw
            case rel => exact ⟨k + 1, by omega, by go_num, by rw [HF.out], HVS.out, n, rfl⟩
            case measure => simp [intOf]; omega
          · have h2 : ((s[k].toNat : Int) == 92) = false := by assumption
            exfalso
            rcases HO.out with h | h
            · exact absurd h (by assumption)
            · rw [h] at h2; cases h2
        · have HF := Lib.hid (Qd.qtB_plain s k hlt hp)
          obtain ⟨-, h34, h92⟩ := Qd.pl_parts hp
          clear hval hv hp
          generalize Qd.qtB (s.data.toList.take k) = X at *
          go_wp2_with fail
          refine (RValue_any _ _ (by omega) (by omega)).mono ?_
          rintro e w' ⟨rfl, rfl⟩
          rw [HV.out]
          go_wp2_with fail
          go_roundw
          case rel => exact ⟨k + 1, by omega, by go_num, by rw [HF.out], HVS.out, n, rfl⟩
          case measure => simp [intOf]; omega
    · have hT : s.data.toList.take k = s.data.toList := List.take_of_length_le (by simp; omega)
      rw [hT] at hv hz ⊢
      have HF := Lib.hid (Qd.qtB_done s hv)
      have HE : Hid (Qd.qE s = 0) := by show _ = _; unfold Qd.qE; rw [if_pos hv]
      have hl : s.data.toList.length = s.size := by simp
      clear hT hv
      generalize Qd.qtB s.data.toList = X at *
      go_wp2_with fail
      go_ret2
      rw [HE.out, HF.out]
      exact ⟨rfl, n, rfl⟩

set_option maxHeartbeats 1000000 in
theorem RFront_any (s : ByteArray) (w : World) (hs : s.size ≤ 100000) :
    Calls Try.prog 36 #[.string s] w fun e w' => e = .returned (.tuple #[.string (Qd.txt (Qd.fr s 0)), .int .i64 (Qd.len (Qd.fr s 0))]) ∧ ∃ n, w' = w.drewN n := by
  by_cases h0 : 0 < s.size
  · by_cases h34 : (s[0].toNat : Int) = 34
    · have HO := Lib.hid (Qd.OnF.first s h0 h34)
      go_enter Try.func36, Try.ntmps36
      go_wp2
      go_loopw [4, 5] (fun out i wr => ∃ (j : Nat) (acc : List UInt8), i = .int .i64 j ∧ out = .string (Qd.accB acc) ∧ Qd.OnF s j acc ∧ ∃ n, wr = w.drewN n) (fun _ i _ => s.size - (intOf i).toNat)
      case atStart => exact ⟨1, [], rfl, rfl, HO.out, 0, rfl⟩
      case round =>
        clear HO
        obtain ⟨j, acc, rfl, rfl, hon, n, rfl⟩ := hrel
        have hjle := hon.le
        have hfew := hon.few
        have hz := Qd.accB_size acc
        by_cases hlt : j < s.size
        · have hby := B.toNat_le s[j]
          by_cases b34 : (s[j].toNat : Int) = 34
          · have HD := Lib.hid (hon.done hlt b34)
            clear hon
            go_wp2_with fail
            go_ret2
            rw [HD.out]
            exact ⟨rfl, n, rfl⟩
          · by_cases b92 : (s[j].toNat : Int) = 92
            · by_cases hlt2 : j + 1 < s.size
              · have hby2 := B.toNat_le s[j + 1]
                have q1 : (((j : Int) + 1) == (s.size : Int)) = false := by rw [beq_eq_false_iff_ne]; omega
                cases hval : B.val (s[j + 1].toNat : Int)
                · have HD := Lib.hid (hon.bad hlt2 b92 hval)
                  have HV := Lib.hid hval
                  clear hon hval
                  go_wp2_with fail
                  refine (RValue_any _ _ (by omega) (by omega)).mono ?_
                  rintro e w' ⟨rfl, rfl⟩
                  rw [HV.out]
                  go_wp2_with fail
                  go_ret2
                  rw [HD.out]
                  exact ⟨rfl, n, rfl⟩
                · have HD := Lib.hid (hon.esc hlt2 b92 hval)
                  have HV := Lib.hid hval
                  have HF := Lib.hid (Qd.accB_snoc s (j + 1) hlt2 acc)
                  clear hon hval
                  go_wp2_with fail
                  refine (RValue_any _ _ (by omega) (by omega)).mono ?_
                  rintro e w' ⟨rfl, rfl⟩
                  rw [HV.out]
                  go_wp2_with fail
                  go_roundw
                  case rel => exact ⟨j + 2, acc ++ [s[j + 1]], by go_num, by rw [← HF.out], HD.out, n, rfl⟩
                  case measure => simp [intOf]; omega
              · have HD := Lib.hid (hon.cut hlt hlt2 b92)
                have q1 : (((j : Int) + 1) == (s.size : Int)) = true := by rw [beq_iff_eq]; omega
                clear hon
                go_wp2_with fail
                go_ret2
                rw [HD.out]
                exact ⟨rfl, n, rfl⟩
            · have q0 : ((j : Int) == (s.size : Int)) = false := by rw [beq_eq_false_iff_ne]; omega
              cases hval : B.val (s[j].toNat : Int)
              · have HD := Lib.hid (hon.no hlt hval)
                have HV := Lib.hid hval
                clear hon hval
                go_wp2_with fail
                refine (RValue_any _ _ (by omega) (by omega)).mono ?_
                rintro e w' ⟨rfl, rfl⟩
                rw [HV.out]
                go_wp2_with fail
                go_ret2
                rw [HD.out]
                exact ⟨rfl, n, rfl⟩
              · have HD := Lib.hid (hon.plain hlt b34 b92 hval)
                have HV := Lib.hid hval
                have HF := Lib.hid (Qd.accB_snoc s j hlt acc)
                clear hon hval
                go_wp2_with fail
                refine (RValue_any _ _ (by omega) (by omega)).mono ?_
                rintro e w' ⟨rfl, rfl⟩
                rw [HV.out]
                go_wp2_with fail
                go_roundw
                case rel => exact ⟨j + 1, acc ++ [s[j]], by go_num, by rw [← HF.out], HD.out, n, rfl⟩
                case measure => simp [intOf]; omega
        · have HD := Lib.hid (hon.out hlt)
          clear hon
          go_wp2_with fail
          go_ret2
          rw [HD.out]
          exact ⟨rfl, n, rfl⟩
    · have d34 : ((s[0].toNat : Int) != 34) = true := by simpa using h34
      rw [Qd.fr_other s h0 h34]
      have e1 : Hid (Qd.txt none = ByteArray.empty) := rfl
      have e2 : Hid (Qd.len none = 0) := rfl
      rw [e1.out, e2.out]
      go_enter Try.func36, Try.ntmps36
      go_wp2
      go_ret2
      exact ⟨rfl, 0, rfl⟩
  · have q0 : ((s.size : Int) == 0) = true := by rw [beq_iff_eq]; omega
    rw [Qd.fr_no s h0]
    have e1 : Hid (Qd.txt none = ByteArray.empty) := rfl
    have e2 : Hid (Qd.len none = 0) := rfl
    rw [e1.out, e2.out]
    go_enter Try.func36, Try.ntmps36
    go_wp2
    go_ret2
    exact ⟨rfl, 0, rfl⟩
set_option maxHeartbeats 1000000 in

theorem RWord_any (s : ByteArray) (w : World) (hs : s.size ≤ 100000) :
    Calls Try.prog 22 #[.string s] w fun e w' => e = .returned (.tuple #[.string (wtxt s 0), .int .i64 (wlen s 0)]) ∧ Below w.heap.size w w' := by
  have e1 : Hid (wtxt s 0 = if 0 < runLen B.tok s 0 then s.extract 0 (runLen B.tok s 0) else Qd.txt (Qd.fr s 0)) := by show _ = _; unfold wtxt; rw [Nat.zero_add]
  have e2 : Hid (wlen s 0 = if 0 < runLen B.tok s 0 then runLen B.tok s 0 else Qd.len (Qd.fr s 0)) := rfl
  go_enter Try.func22, Try.ntmps22
  go_wp2
  go_loopw [4] (fun i wr => ∃ n : Nat, n ≤ s.size ∧ i = .int .i64 n ∧ runLen B.tok s 0 = n + runLen B.tok s n ∧ ∃ m, wr = w.drewN m) (fun i _ => s.size - (intOf i).toNat)
  case atStart => exact ⟨0, Nat.zero_le _, rfl, by simp, 0, rfl⟩
  case round =>
    obtain ⟨n, hn, rfl, hsum, m, rfl⟩ := hrel
    have HS := Lib.hid hsum
    clear hsum
    by_cases hlt : n < s.size
    · have hby := B.toNat_le s[n]
      cases hq : B.tok (s[n].toNat : Int)
      · have hz := runLen_no B.tok s n hlt hq
        have HE : Hid (runLen B.tok s 0 = n) := by show _ = _; rw [HS.out, hz]; rfl
        have HQ := Lib.hid hq
        rw [HE.out] at e1 e2
        clear hz hq HS HE
        go_wp2_with fail
        refine (RTok_any _ _ (by omega) (by omega)).mono ?_
        rintro e w' ⟨rfl, rfl⟩
        rw [HQ.out]
        go_wp2_with fail
        · have hp : 0 < n := by assumption
          go_ret2
          rw [e1.out, e2.out, if_pos hp, if_pos hp]
          exact ⟨rfl, below_drewN _ _ m⟩
        · have hp : ¬ 0 < n := by assumption
          refine (RFront_any s _ hs).mono ?_
          rintro e w' ⟨rfl, m2, rfl⟩
          go_wp2_with fail
          go_ret2
          rw [e1.out, e2.out, if_neg hp, if_neg hp]
          exact ⟨rfl, below_drewN _ _ (m + m2)⟩
      · have hz := runLen_yes B.tok s n hlt hq
        have HE : Hid (runLen B.tok s 0 = n + 1 + runLen B.tok s (n + 1)) := by show _ = _; rw [HS.out, hz]; omega
        have HQ := Lib.hid hq
        clear hz hq
        go_wp2_with fail
        refine (RTok_any _ _ (by omega) (by omega)).mono ?_
        rintro e w' ⟨rfl, rfl⟩
        rw [HQ.out]
        go_wp2_with fail
        go_roundw
        case rel => exact ⟨n + 1, by omega, by go_num, HE.out, m, rfl⟩
        case measure => simp [intOf]; omega
    · have hz := runLen_end B.tok s n hlt
      have HE : Hid (runLen B.tok s 0 = n) := by show _ = _; rw [HS.out, hz]; rfl
      rw [HE.out] at e1 e2
      clear hz HS HE
      go_wp2_with fail
      · have hp : 0 < n := by assumption
        go_ret2
        rw [e1.out, e2.out, if_pos hp, if_pos hp]
        exact ⟨rfl, below_drewN _ _ m⟩
      · have hp : ¬ 0 < n := by assumption
        refine (RFront_any s _ hs).mono ?_
        rintro e w' ⟨rfl, m2, rfl⟩
        go_wp2_with fail
        go_ret2
        rw [e1.out, e2.out, if_neg hp, if_neg hp]
        exact ⟨rfl, below_drewN _ _ (m + m2)⟩
/-- Either: a token as it is, else a text in quotes. -/
def eT (s : ByteArray) : ByteArray := if tokS s then s else Qd.qT s
def eE (s : ByteArray) : Int := if tokS s then 0 else Qd.qE s
theorem REither_any (s : ByteArray) (w : World) (hs : s.size ≤ 100000) :
    Calls Try.prog 26 #[.string s] w fun e w' => e = .returned (.tuple #[.string (eT s), .int .i64 (eE s)]) ∧ ∃ n, w' = w.drewN n := by
  have hm : s.size ≤ maxLen := by unfold maxLen; omega
  have HM := Lib.hid hm
  clear hm
  cases ht : tokS s
  · have e1 : Hid (eT s = Qd.qT s) := by show _ = _; unfold eT; rw [if_neg (by simp [ht])]
    have e2 : Hid (eE s = Qd.qE s) := by show _ = _; unfold eE; rw [if_neg (by simp [ht])]
    have HT := Lib.hid ht
    clear ht
    rw [e1.out, e2.out]
    go_enter Try.func26, Try.ntmps26
    go_wp2_with fail
    refine (RToken_any s _ HM.out).mono ?_
    rintro e w' ⟨rfl, rfl⟩
    rw [HT.out]
    go_wp2_with fail
    refine (RQuote_any s _ hs).mono ?_
    rintro e w' ⟨rfl, n, rfl⟩
    go_wp2_with fail
    go_ret2
    exact ⟨rfl, n, rfl⟩
  · have e1 : Hid (eT s = s) := by show _ = _; unfold eT; rw [if_pos ht]
    have e2 : Hid (eE s = 0) := by show _ = _; unfold eE; rw [if_pos ht]
    have HT := Lib.hid ht
    clear ht
    rw [e1.out, e2.out]
    go_enter Try.func26, Try.ntmps26
    go_wp2_with fail
    refine (RToken_any s _ HM.out).mono ?_
    rintro e w' ⟨rfl, rfl⟩
    rw [HT.out]
    go_wp2_with fail
    go_ret2
    exact ⟨rfl, 0, rfl⟩
end Go.Proofs.Ytjgjdcikeagibaa
