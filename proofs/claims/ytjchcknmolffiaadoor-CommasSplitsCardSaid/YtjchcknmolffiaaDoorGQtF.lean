/- Contracts and lemmas that the claim rests on: QtF. -/
import Derived.Test.YtjchcknmolffiaaDoorGQtE
/- The document's Quote, Front, Word, Either: contracts. -/
namespace Go.Proofs.YtjchcknmolffiaaDoor
open Go.RowKit

namespace Qd
/-- The first mark, and a text's bytes behind it. -/
def qtB (l : List UInt8) : ByteArray := ⟨(34 :: enc l).toArray⟩
theorem qtB_size (l : List UInt8) : (qtB l).size ≤ 2 * l.length + 1 := by
  show (34 :: enc l).toArray.size ≤ _
  have := enc_len l
  simp
  omega
theorem enc_append (l m : List UInt8) : enc (l ++ m) = enc l ++ enc m := by unfold enc; rw [List.flatMap_append]
theorem qtB_snoc (s : ByteArray) (k : Nat) (h : k < s.size) : qtB (s.data.toList.take (k + 1)) = ⟨((34 :: enc (s.data.toList.take k)) ++ (if pl (s[k].toNat : Int) then [s[k]] else [92, s[k]])).toArray⟩ := by
  unfold qtB
  rw [B.take_snocB s k h, enc_append]
  congr 2
  rw [List.cons_append]
  congr 2
  unfold enc
  simp
theorem qtB_plain (s : ByteArray) (k : Nat) (h : k < s.size) (hp : pl (s[k].toNat : Int) = true) : qtB (s.data.toList.take k) ++ s.extract k (k + 1) = qtB (s.data.toList.take (k + 1)) := by
  rw [qtB_snoc s k h, if_pos hp, B.extract_one s k h]
  apply bytes_eq
  rw [list_append]
  rfl
theorem qtB_esc (s : ByteArray) (k : Nat) (h : k < s.size) (hp : pl (s[k].toNat : Int) = false) : (qtB (s.data.toList.take k) ++ ⟨#[92]⟩) ++ s.extract k (k + 1) = qtB (s.data.toList.take (k + 1)) := by
  rw [qtB_snoc s k h, if_neg (by simp [hp]), B.extract_one s k h]
  apply bytes_eq
  rw [list_append, list_append, List.append_assoc]
  rfl
/-- A text in quotes, and the error. -/
def qT (s : ByteArray) : ByteArray := if vals s.data.toList then ⟨(quoteL s.data.toList).toArray⟩ else ByteArray.empty
def qE (s : ByteArray) : Int := if vals s.data.toList then 0 else 2
theorem qtB_done (s : ByteArray) (h : vals s.data.toList = true) : qtB (s.data.toList) ++ ⟨#[34]⟩ = qT s := by
  unfold qT
  rw [if_pos h]
  apply bytes_eq
  rw [list_append]
  rfl
theorem pl_val {n : Int} (h : B.val n = true) : pl n = (decide (n ≠ 34) && decide (n ≠ 92)) := by unfold pl; rw [h]; rfl
theorem qE_no (s : ByteArray) (k : Nat) (h : k < s.size) (hv : B.val (s[k].toNat : Int) = false) : qT s = ByteArray.empty ∧ qE s = 2 := by
  have e : vals s.data.toList = false := B.all_no (fun c => B.val (c.toNat : Int)) s k h hv
  unfold qT qE
  rw [e]
  exact ⟨rfl, rfl⟩
/-- Where the document's reader stands: behind acc, at j. -/
structure OnF (s : ByteArray) (j : Nat) (acc : List UInt8) : Prop where
  le : j ≤ s.size
  few : acc.length ≤ j
  eq : fr s 0 = (inner (s.data.toList.drop j)).map fun x => (acc ++ x.1, j + x.2)
theorem byteAt_at (s : ByteArray) (k : Nat) (h : k < s.size) : s.data.toList.getD k 0 = s[k] := by
  rw [List.getD_eq_getElem?_getD, List.getElem?_eq_getElem (by simpa using h)]
  rfl
theorem OnF.first (s : ByteArray) (h : 0 < s.size) (hb : (s[0].toNat : Int) = 34) : OnF s 1 [] := by
  refine ⟨h, by simp, ?_⟩
  unfold fr
  rw [drop_at s 0 h, byteAt_at s 0 h, front_cons, if_pos hb, map_one]
theorem fr_no (s : ByteArray) (h : ¬ 0 < s.size) : fr s 0 = none := by unfold fr; rw [drop_out s 0 h]; rfl
theorem fr_other (s : ByteArray) (h : 0 < s.size) (hb : (s[0].toNat : Int) ≠ 34) : fr s 0 = none := by
  unfold fr
  rw [drop_at s 0 h, byteAt_at s 0 h, front_cons, if_neg hb]
theorem OnF.plain {s : ByteArray} {j : Nat} {acc : List UInt8} (h : OnF s j acc) (hj : j < s.size) (h0 : (s[j].toNat : Int) ≠ 34) (h1 : (s[j].toNat : Int) ≠ 92) (h2 : B.val (s[j].toNat : Int) = true) : OnF s (j + 1) (acc ++ [s[j]]) := by
  have hf := h.few
  refine ⟨hj, by simp; omega, ?_⟩
  rw [h.eq, drop_at s j hj, byteAt_at s j hj, inner_plain _ _ (by rw [pl_val h2]; simp [h0, h1]), map_cons, map_map]
theorem OnF.esc {s : ByteArray} {j : Nat} {acc : List UInt8} (h : OnF s j acc) (hj : j + 1 < s.size) (h0 : (s[j].toNat : Int) = 92) (h2 : B.val (s[j + 1].toNat : Int) = true) : OnF s (j + 2) (acc ++ [s[j + 1]]) := by
  have hf := h.few
  refine ⟨hj, by simp; omega, ?_⟩
  rw [h.eq, drop_at s j (by omega), drop_at s (j + 1) hj, byteAt_at s j (by omega), byteAt_at s (j + 1) hj, inner_esc _ _ _ h0 h2, map_cons, map_map]
theorem OnF.done {s : ByteArray} {j : Nat} {acc : List UInt8} (h : OnF s j acc) (hj : j < s.size) (h0 : (s[j].toNat : Int) = 34) : fr s 0 = some (acc, j + 1) := by
  rw [h.eq, drop_at s j hj, byteAt_at s j hj, inner_mark _ _ h0]
  simp
theorem OnF.out {s : ByteArray} {j : Nat} {acc : List UInt8} (h : OnF s j acc) (hj : ¬ j < s.size) : fr s 0 = none := by
  rw [h.eq, drop_out s j hj]; rfl
theorem OnF.cut {s : ByteArray} {j : Nat} {acc : List UInt8} (h : OnF s j acc) (hj : j < s.size) (hj2 : ¬ j + 1 < s.size) (h0 : (s[j].toNat : Int) = 92) : fr s 0 = none := by
  rw [h.eq, drop_at s j hj, byteAt_at s j hj, drop_out s (j + 1) hj2, inner_end _ h0]; rfl
theorem OnF.bad {s : ByteArray} {j : Nat} {acc : List UInt8} (h : OnF s j acc) (hj : j + 1 < s.size) (h0 : (s[j].toNat : Int) = 92) (h2 : B.val (s[j + 1].toNat : Int) = false) : fr s 0 = none := by
  rw [h.eq, drop_at s j (by omega), drop_at s (j + 1) hj, byteAt_at s j (by omega), byteAt_at s (j + 1) hj, inner_bad _ _ _ h0 h2]; rfl
theorem OnF.no {s : ByteArray} {j : Nat} {acc : List UInt8} (h : OnF s j acc) (hj : j < s.size) (h2 : B.val (s[j].toNat : Int) = false) : fr s 0 = none := by
  rw [h.eq, drop_at s j hj, byteAt_at s j hj, inner_no _ _ h2]; rfl
def accB (l : List UInt8) : ByteArray := ⟨l.toArray⟩
theorem accB_size (l : List UInt8) : (accB l).size = l.length := by show l.toArray.size = _; simp
theorem accB_snoc (s : ByteArray) (j : Nat) (h : j < s.size) (l : List UInt8) : accB l ++ s.extract j (j + 1) = accB (l ++ [s[j]]) := by
  rw [B.extract_one s j h]
  apply bytes_eq
  rw [list_append]
  rfl
end Qd

set_option maxHeartbeats 1000000 in
theorem RFront_any (s : ByteArray) (w : World) (hs : s.size ≤ 100000) :
    Calls Tryd.prog 46 #[.string s] w fun e w' => e = .returned (.tuple #[.string (Qd.txt (Qd.fr s 0)), .int .i64 (Qd.len (Qd.fr s 0))]) ∧ ∃ n, w' = w.drewN n := by
  by_cases h0 : 0 < s.size
  · by_cases h34 : (s[0].toNat : Int) = 34
    · have HO := Lib.hid (Qd.OnF.first s h0 h34)
      go_enter Tryd.func46, Tryd.ntmps46
      go_wp2
      go_loopw [4, 5] (fun out i wr => ∃ (j : Nat) (acc : List UInt8), i = .int .i64 j ∧ out = .string (Qd.accB acc) ∧ Qd.OnF s j acc ∧ ∃ n, wr = w.drewN n) (fun _ i _ => s.size - (intOf i).toNat)
      case atStart => exact ⟨1, [], rfl, rfl, HO.out, 0, rfl⟩
      case round =>
        clear HO
        obtain ⟨j, acc, rfl, rfl, hon, n, rfl⟩ := hrel
        have hjle := hon.le
        have hfew := hon.few
        have hz := Qd.accB_size acc
        by_cases hlt : j < s.size
        · have hby := B.toNat_le s[j]
          by_cases b34 : (s[j].toNat : Int) = 34
          · have HD := Lib.hid (hon.done hlt b34)
            clear hon
            go_wp2_with fail
            go_ret2
            rw [HD.out]
            exact ⟨rfl, n, rfl⟩
          · by_cases b92 : (s[j].toNat : Int) = 92
            · by_cases hlt2 : j + 1 < s.size
              · have hby2 := B.toNat_le s[j + 1]
                have q1 : (((j : Int) + 1) == (s.size : Int)) = false := by rw [beq_eq_false_iff_ne]; omega
                cases hval : B.val (s[j + 1].toNat : Int)
                · have HD := Lib.hid (hon.bad hlt2 b92 hval)
                  have HV := Lib.hid hval
                  clear hon hval
                  go_wp2_with fail
                  refine (RValue_any _ _ (by omega) (by omega)).mono ?_
                  rintro e w' ⟨rfl, rfl⟩
                  rw [HV.out]
                  go_wp2_with fail
                  go_ret2
                  rw [HD.out]
                  exact ⟨rfl, n, rfl⟩
                · have HD := Lib.hid (hon.esc hlt2 b92 hval)
                  have HV := Lib.hid hval
                  have HF := Lib.hid (Qd.accB_snoc s (j + 1) hlt2 acc)
                  clear hon hval
                  go_wp2_with fail
                  refine (RValue_any _ _ (by omega) (by omega)).mono ?_
                  rintro e w' ⟨rfl, rfl⟩
                  rw [HV.out]
                  go_wp2_with fail
                  go_roundw
                  case rel => exact ⟨j + 2, acc ++ [s[j + 1]], by go_num, by rw [← HF.out], HD.out, n, rfl⟩
                  case measure => simp [intOf]; omega
              · have HD := Lib.hid (hon.cut hlt hlt2 b92)
                have q1 : (((j : Int) + 1) == (s.size : Int)) = true := by rw [beq_iff_eq]; omega
                clear hon
                go_wp2_with fail
                go_ret2
                rw [HD.out]
                exact ⟨rfl, n, rfl⟩
            · have q0 : ((j : Int) == (s.size : Int)) = false := by rw [beq_eq_false_iff_ne]; omega
              cases hval : B.val (s[j].toNat : Int)
              · have HD := Lib.hid (hon.no hlt hval)
                have HV := Lib.hid hval
                clear hon hval
                go_wp2_with fail
                refine (RValue_any _ _ (by omega) (by omega)).mono ?_
                rintro e w' ⟨rfl, rfl⟩
                rw [HV.out]
                go_wp2_with fail
                go_ret2
                rw [HD.out]
                exact ⟨rfl, n, rfl⟩
              · have HD := Lib.hid (hon.plain hlt b34 b92 hval)
                have HV := Lib.hid hval
                have HF := Lib.hid (Qd.accB_snoc s j hlt acc)
                clear hon hval
                go_wp2_with fail
                refine (RValue_any _ _ (by omega) (by omega)).mono ?_
                rintro e w' ⟨rfl, rfl⟩
                rw [HV.out]
                go_wp2_with fail
                go_roundw
                case rel => exact ⟨j + 1, acc ++ [s[j]], by go_num, by rw [← HF.out], HD.out, n, rfl⟩
                case measure => simp [intOf]; omega
        · have HD := Lib.hid (hon.out hlt)
          clear hon
          go_wp2_with fail
          go_ret2
          rw [HD.out]
          exact ⟨rfl, n, rfl⟩
    · have d34 : ((s[0].toNat : Int) != 34) = true := by simpa using h34
      rw [Qd.fr_other s h0 h34]
      have e1 : Hid (Qd.txt none = ByteArray.empty) := rfl
      have e2 : Hid (Qd.len none = 0) := rfl
      rw [e1.out, e2.out]
      go_enter Tryd.func46, Tryd.ntmps46
      go_wp2
      go_ret2
      exact ⟨rfl, 0, rfl⟩
  · have q0 : ((s.size : Int) == 0) = true := by rw [beq_iff_eq]; omega
    rw [Qd.fr_no s h0]
    have e1 : Hid (Qd.txt none = ByteArray.empty) := rfl
    have e2 : Hid (Qd.len none = 0) := rfl
    rw [e1.out, e2.out]
    go_enter Tryd.func46, Tryd.ntmps46
    go_wp2
    go_ret2
    exact ⟨rfl, 0, rfl⟩
/-- Either: a token as it is, else a text in quotes. -/
def eT (s : ByteArray) : ByteArray := if tokS s then s else Qd.qT s
def eE (s : ByteArray) : Int := if tokS s then 0 else Qd.qE s
end Go.Proofs.YtjchcknmolffiaaDoor
