/- The document's Of, Path, Query, Mark: contracts. -/
import Derived.Test.YtnnhlkbjdfgcaaaPqA
import Derived.Test.YtnnhlkbjdfgcaaaOctA
import Derived.Test.YtnnhlkbjdfgcaaaWorld
namespace Go.Proofs.Ytnnhlkbjdfgcaaa
open Go.RowKit

namespace Pq
theorem inS_has (m : ByteArray) (c : UInt8) : B.inS m (c.toNat : Int) = m.data.toList.contains c := by
  unfold B.inS B.inL
  generalize m.data.toList = l
  induction l with
  | nil => rfl
  | cons x r ih =>
    rw [List.any_cons, List.contains_cons, ih]
    congr 1
    rw [Bool.eq_iff_iff, decide_eq_true_eq, beq_iff_eq, ← UInt8.toNat_inj]
    omega
theorem cons0 {s : ByteArray} (h : 0 < s.size) : s.data.toList = s[0] :: (s.extract 1 s.size).data.toList := by
  rw [Hp.ext_end]
  conv => lhs; rw [← List.drop_zero (l := s.data.toList), List.drop_eq_getElem_cons (by simp; omega)]
  rfl
theorem cons2 {s : ByteArray} (h : 2 < s.size) : s.data.toList = s[0] :: s[1] :: s[2] :: (s.extract 3 s.size).data.toList := by
  rw [Hp.ext_end]
  conv => lhs; rw [← List.drop_zero (l := s.data.toList), List.drop_eq_getElem_cons (by simp; omega), List.drop_eq_getElem_cons (by simp; omega), List.drop_eq_getElem_cons (by simp; omega)]
  rfl
theorem of_esc (m : List UInt8) {s : ByteArray} (h : 2 < s.size) (h37 : (s[0].toNat : Int) = 37) : pcL m s.data.toList = (B.hex (s[1].toNat : Int) && B.hex (s[2].toNat : Int) && pcL m (s.extract 3 s.size).data.toList) := by
  have e : s[0] = 37 := UInt8.toNat_inj.1 (by show s[0].toNat = 37; omega)
  rw [cons2 h, e, pcL_esc]; rfl
theorem of_short (m : List UInt8) {s : ByteArray} (h0 : 0 < s.size) (h : ¬ 2 < s.size) (h37 : (s[0].toNat : Int) = 37) : pcL m s.data.toList = false := by
  have e : s[0] = 37 := UInt8.toNat_inj.1 (by show s[0].toNat = 37; omega)
  rw [cons0 h0, e, pcL_short]
  rw [Array.length_toList]
  show (s.extract 1 s.size).size < 2
  simp [ByteArray.size_extract]; omega
theorem of_cons (m : ByteArray) {s : ByteArray} (h0 : 0 < s.size) (h37 : ¬ (s[0].toNat : Int) = 37) : pcL m.data.toList s.data.toList = ((B.pat (s[0].toNat : Int) || B.inS m (s[0].toNat : Int)) && pcL m.data.toList (s.extract 1 s.size).data.toList) := by
  have e : s[0] ≠ 37 := fun e => h37 (by rw [e]; rfl)
  rw [cons0 h0, pcL_cons _ e, inS_has]; rfl
end Pq
set_option maxHeartbeats 1600000 in
theorem ROf_any (m : ByteArray) (hm : m.size ≤ 100) : ∀ (n : Nat) (s : ByteArray) (w : World), s.size ≤ n → s.size ≤ 100000 →
    Calls Try.prog 38 #[.string s, .string m] w fun e w' => e = .returned (.bool (Pq.pcL m.data.toList s.data.toList)) ∧ w = w' := by
  intro n
  induction n with
  | zero =>
    intro s w hn hs
    obtain rfl : s = ByteArray.empty := by simpa using hn
    go_enter Try.func38, Try.ntmps38
    go_wp2_with fail
    go_ret
    exact ⟨ret_bool (by rw [show (ByteArray.empty).data.toList = [] from rfl, Pq.pcL_nil]), rfl⟩
  | succ n ih =>
    intro s w hn hs
    by_cases h0 : s.size = 0
    · exact ih s w (by omega) hs
    · have hne : s.toList.isEmpty = false := by
        rw [ByteArray.toList_eq]; simp; intro h2; apply h0; show s.data.size = 0; rw [h2]; rfl
      have h0' : 0 < s.size := by omega
      by_cases h37 : (s[0].toNat : Int) = 37
      · by_cases h2 : 2 < s.size
        · rw [Pq.of_esc _ h2 h37]
          have HI := Lib.hid (fun w1 => ih (s.extract 3 s.size) w1 (by simp [ByteArray.size_extract]; omega) (by simp [ByteArray.size_extract]; omega))
          generalize Pq.pcL m.data.toList (s.extract 3 s.size).data.toList = b3 at *
          have hx1 := B.toNat_le s[1]
          have hx2 := B.toNat_le s[2]
          have H1 := Lib.hid (fun w1 => RHex_any (s[1].toNat : Int) w1 (by omega) (by omega))
          have H2 := Lib.hid (fun w1 => RHex_any (s[2].toNat : Int) w1 (by omega) (by omega))
          generalize B.hex (s[1].toNat : Int) = b1 at *
          generalize B.hex (s[2].toNat : Int) = b2 at *
          have h3 : (2 : Int) < s.size := by omega
          go_enter Try.func38, Try.ntmps38
          go_wp2_with fail
          refine (H1.out _).mono ?_
          rintro e w1 ⟨rfl, rfl⟩
          cases b1
          · go_wp2_with fail
            go_ret
            exact ⟨ret_bool (by simp), rfl⟩
          · go_wp2_with fail
            refine (H2.out _).mono ?_
            rintro e w1 ⟨rfl, rfl⟩
            cases b2
            · go_wp2_with fail
              go_ret
              exact ⟨ret_bool (by simp), rfl⟩
            · go_wp2_with fail
              refine (HI.out _).mono ?_
              rintro e w1 ⟨rfl, rfl⟩
              go_wp2_with fail
              go_ret
              exact ⟨ret_bool (by simp), rfl⟩
        · rw [Pq.of_short _ h0' h2 h37]
          have h3 : (s.size : Int) ≤ 2 := by omega
          go_enter Try.func38, Try.ntmps38
          go_wp2_with fail
          go_ret
          exact ⟨rfl, rfl⟩
      · rw [Pq.of_cons m h0' h37]
        have HI := Lib.hid (fun w1 => ih (s.extract 1 s.size) w1 (by simp [ByteArray.size_extract]; omega) (by simp [ByteArray.size_extract]; omega))
        generalize Pq.pcL m.data.toList (s.extract 1 s.size).data.toList = b3 at *
        have hx0 := B.toNat_le s[0]
        have H1 := Lib.hid (fun w1 => RPath_any (s[0].toNat : Int) w1 (by omega) (by omega))
        have H2 := Lib.hid (fun w1 => In_any m (s[0].toNat : Int) w1 (by unfold maxLen; omega))
        generalize B.pat (s[0].toNat : Int) = b1 at *
        generalize B.inS m (s[0].toNat : Int) = b2 at *
        have h3 : (1 : Int) ≤ s.size := by omega
        go_enter Try.func38, Try.ntmps38
        go_wp2_with fail
        refine (H1.out _).mono ?_
        rintro e w1 ⟨rfl, rfl⟩
        cases b1
        · go_wp2_with fail
          refine (H2.out _).mono ?_
          rintro e w1 ⟨rfl, rfl⟩
          cases b2
          · go_wp2_with fail
            go_ret
            exact ⟨ret_bool (by simp), rfl⟩
          · go_wp2_with fail
            refine (HI.out _).mono ?_
            rintro e w1 ⟨rfl, rfl⟩
            go_wp2_with fail
            go_ret
            exact ⟨ret_bool (by simp), rfl⟩
        · go_wp2_with fail
          refine (HI.out _).mono ?_
          rintro e w1 ⟨rfl, rfl⟩
          go_wp2_with fail
          go_ret
          exact ⟨ret_bool (by simp), rfl⟩
namespace Pq
theorem drop_atR (s : ByteArray) (k : Nat) (h : k < s.size) : s.data.toList.drop k = s[k] :: s.data.toList.drop (k + 1) := by
  rw [List.drop_eq_getElem_cons (by simpa using h)]; rfl
theorem mark_at (s : ByteArray) (k : Nat) (h : k < s.size) : markN (s.data.toList.drop k) = if s[k] = 63 then 0 else markN (s.data.toList.drop (k + 1)) + 1 := by
  rw [drop_atR s k h, markN]
end Pq
end Go.Proofs.Ytnnhlkbjdfgcaaa
