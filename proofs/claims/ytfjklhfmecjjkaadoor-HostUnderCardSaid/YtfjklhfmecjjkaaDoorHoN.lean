/- Text, Under: contracts. -/
import Derived.Test.YtfjklhfmecjjkaaDoorHoM
import Derived.Test.YtfjklhfmecjjkaaDoorOctD
namespace Go.Proofs.YtfjklhfmecjjkaaDoor
open Go.RowKit

namespace Hp
theorem writeL_le (k p : Int) (nm : List UInt8) (hp : p < 9223372036854775808) : (writeL k nm p).length ≤ nm.length + 67 := by
  have h := Nu.tx_size 10 (by omega) p hp
  have h2 : (Nu.tx 10 p).data.toList.length = (Nu.tx 10 p).size := by simp
  unfold writeL
  split <;> split <;> simp <;> omega
theorem textH_yes {k p : Int} {nm : List UInt8} (h : prs (writeL k nm p) = some (k, nm, p)) : textH k nm p = some (writeL k nm p) := by unfold textH; rw [if_pos h]
theorem textH_no {k p : Int} {nm : List UInt8} (h : ¬ prs (writeL k nm p) = some (k, nm, p)) : textH k nm p = none := by unfold textH; rw [if_neg h]
theorem foldS_le (a : ByteArray) (ha : a.size ≤ 300) : (B.foldS a).size ≤ 300 := by
  have h1 : (B.foldS a).data.toList.length = a.size := by
    unfold B.foldS
    rw [ofL_list, B.fold_length]; simp
  rw [Array.length_toList] at h1
  have h2 : (B.foldS a).data.size = (B.foldS a).size := rfl
  omega
theorem und_eqn (a b : ByteArray) : und a.data.toList b.data.toList = (isN a.data.toList && isN b.data.toList && ((B.foldS a).toList == (B.foldS b).toList || Lib.hasSuffix (B.foldS a).data.toList ((⟨#[46]⟩ : ByteArray) ++ B.foldS b).data.toList)) := by
  unfold und belowN
  congr 1
  congr 1
  rw [sameS_eq]; rfl
end Hp
/-- What Text hands back. -/
def txtV (o : Option (List UInt8)) (bad : Int) : Value := match o with
  | none => .tuple #[.string ⟨#[]⟩, .int .i64 bad]
  | some l => .tuple #[.string ⟨l.toArray⟩, .int .i64 0]
set_option maxHeartbeats 800000 in
theorem HUnder_any (a b : ByteArray) (w : World) (ha : a.size ≤ 300) (hb : b.size ≤ 300) (ht : Tx w) :
    Calls Tryd.prog 13 #[.string a, .string b] w fun e w' => e = .returned (.bool (Hp.und a.data.toList b.data.toList)) ∧ Below w.heap.size w w' := by
  rw [Hp.und_eqn]
  have HA := Lib.hid (isNamed_any a w (by omega) ht)
  have HC := Lib.hid (fun w1 (h : Below w.heap.size w w1) => isNamed_any b w1 (by omega) (ht.stay h))
  have HF := Lib.hid (fun w1 => Fold_any a w1 (by omega))
  have HG := Lib.hid (fun w1 => Fold_any b w1 (by omega))
  have hfs := Hp.foldS_le a ha
  have hgs := Hp.foldS_le b hb
  have HS := Lib.hid (fun w1 => HasSuffix_any (B.foldS a) ((⟨#[46]⟩ : ByteArray) ++ B.foldS b) w1 (by omega))
  generalize Lib.hasSuffix (B.foldS a).data.toList ((⟨#[46]⟩ : ByteArray) ++ B.foldS b).data.toList = r at *
  generalize B.foldS a = A at *
  generalize B.foldS b = C at *
  generalize Hp.isN a.data.toList = na at *
  generalize Hp.isN b.data.toList = nb at *
  clear ht hfs
  go_enter Tryd.func13, Tryd.ntmps13
  go_wp2_with fail
  refine HA.out.mono ?_
  rintro e w1 ⟨rfl, hb1⟩
  have HB1 := Lib.hid hb1
  clear hb1
  cases na
  · go_wp2_with fail
    go_ret
    exact ⟨rfl, HB1.out⟩
  · go_wp2_with fail
    refine (HC.out _ HB1.out).mono ?_
    rintro e w2 ⟨rfl, hb2⟩
    have HB2 := Lib.hid (HB1.out.trans (hb2.mono HB1.out.size))
    clear hb2
    cases nb
    · go_wp2_with fail
      go_ret
      exact ⟨rfl, HB2.out⟩
    · go_wp2_with fail
      refine (HF.out _).mono ?_
      rintro e w3 ⟨rfl, hb3⟩
      have HB3 := Lib.hid (HB2.out.trans (hb3.mono HB2.out.size))
      clear hb3
      go_wp2_with fail
      refine (HG.out _).mono ?_
      rintro e w4 ⟨rfl, hb4⟩
      have HB4 := Lib.hid (HB3.out.trans (hb4.mono HB3.out.size))
      clear hb4
      go_wp2_with (go_at_call 30; refine (HS.out _).mono ?_; rintro e w5 ⟨rfl, rfl⟩)
      all_goals
        go_ret
        refine ⟨?_, by first | exact HB4.out | assumption⟩
        simp_all
end Go.Proofs.YtfjklhfmecjjkaaDoor
