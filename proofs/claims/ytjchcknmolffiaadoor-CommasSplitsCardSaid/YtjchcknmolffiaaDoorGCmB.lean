/- Contracts and lemmas that the claim rests on: CmB. -/
import Derived.Test.YtjchcknmolffiaaDoorGCmA
import Derived.Test.YtjchcknmolffiaaDoorGQtF
/- Package commas: isPlain, isRemark, While of a plain class at whatever scanner; the splitter's comment: contracts. -/
namespace Go.Proofs.YtjchcknmolffiaaDoor
open Go.RowKit

namespace Cm
/-- Bytes that neither part a list nor begin what hides commas; bytes that stand for nothing in a comment. -/
def pq (n : Int) : Bool := decide (n ≠ 44) && decide (n ≠ 34) && decide (n ≠ 40)
def rm (n : Int) : Bool := decide (n ≠ 40) && decide (n ≠ 41) && decide (n ≠ 92)
theorem pq_parts {n : Int} : pq n = true ↔ n ≠ 44 ∧ n ≠ 34 ∧ n ≠ 40 := by unfold pq; simp [and_assoc]
theorem rm_parts {n : Int} : rm n = true ↔ n ≠ 40 ∧ n ≠ 41 ∧ n ≠ 92 := by unfold rm; simp [and_assoc]
theorem comm_plains : ∀ (l r : List UInt8) (d : Nat), l.all (fun c => rm (c.toNat : Int)) = true → comm false d (l ++ r) = (comm false d r).map (· + l.length)
  | [], r, d, _ => (map_zero _).symm
  | c :: l, r, d, h => by
    rw [List.all_cons, Bool.and_eq_true] at h
    obtain ⟨h1, h2, h3⟩ := rm_parts.1 h.1
    rw [List.cons_append, comm_plain d c _ h1 h2 h3, comm_plains l r d h.2, map_add]
    rfl
theorem piece_plains : ∀ (l r : List UInt8), l.all (fun c => pq (c.toNat : Int)) = true → piece 0 (l ++ r) = (piece 0 r).map (· + l.length)
  | [], r, _ => (map_zero _).symm
  | c :: l, r, h => by
    rw [List.all_cons, Bool.and_eq_true] at h
    obtain ⟨h1, h2, h3⟩ := pq_parts.1 h.1
    rw [List.cons_append, piece_plain c _ h1 h2 h3, piece_plains l r h.2, map_add]
    rfl
/-- A comment from k on, at depth d. -/
def co (e : Bool) (d : Nat) (s : ByteArray) (k : Nat) : Option Nat := comm e d (s.data.toList.drop k)
/-- Up to the next comma that parts, from k on. -/
def pc (s : ByteArray) (k : Nat) : Option Nat := piece 0 (s.data.toList.drop k)
/-- The quoted text or the comment that is next at k. -/
def un (s : ByteArray) (k : Nat) : Option Nat := unit (s.data.toList.drop k)
theorem co_end (e : Bool) (d : Nat) (s : ByteArray) (k : Nat) (h : ¬ k < s.size) : co e d s k = none := by unfold co; rw [Qd.drop_out s k h, comm_nil]
theorem co_open (d : Nat) (s : ByteArray) (k : Nat) (hk : k < s.size) (h : byteAt s k = 40) : co false d s k = (co false (d + 1) s (k + 1)).map (· + 1) := by unfold co; rw [Qd.drop_at s k hk]; exact comm_open d _ _ h
theorem co_last (s : ByteArray) (k : Nat) (hk : k < s.size) (h : byteAt s k = 41) : co false 1 s k = some 1 := by unfold co; rw [Qd.drop_at s k hk]; exact comm_last _ _ h
theorem co_close (d : Nat) (s : ByteArray) (k : Nat) (hk : k < s.size) (h : byteAt s k = 41) (hd : d ≠ 1) : co false d s k = (co false (d - 1) s (k + 1)).map (· + 1) := by unfold co; rw [Qd.drop_at s k hk]; exact comm_close d _ _ h hd
theorem co_esc (d : Nat) (s : ByteArray) (k : Nat) (hk : k < s.size) (h : byteAt s k = 92) : co false d s k = (co true d s (k + 1)).map (· + 1) := by unfold co; rw [Qd.drop_at s k hk]; exact comm_esc d _ _ h
theorem co_over (d : Nat) (s : ByteArray) (k : Nat) (hk : k < s.size) : co true d s k = (co false d s (k + 1)).map (· + 1) := by unfold co; rw [Qd.drop_at s k hk]; exact comm_over d _ _
theorem co_plain (d : Nat) (s : ByteArray) (k : Nat) (hk : k < s.size) (h1 : byteAt s k ≠ 40) (h2 : byteAt s k ≠ 41) (h3 : byteAt s k ≠ 92) : co false d s k = (co false d s (k + 1)).map (· + 1) := by unfold co; rw [Qd.drop_at s k hk]; exact comm_plain d _ _ h1 h2 h3
theorem co_run (d : Nat) (s : ByteArray) (k : Nat) (hk : k ≤ s.size) : co false d s k = (co false d s (k + runLen rm s k)).map (· + runLen rm s k) := by
  have e := comm_plains (s.extract k (k + runLen rm s k)).data.toList (s.data.toList.drop (k + runLen rm s k)) d (cut_all rm s k)
  rw [← Qd.drop_run rm s k, Qd.cut_len s k _ (runLen_le rm s k hk)] at e
  exact e
theorem pc_end (s : ByteArray) (k : Nat) (h : ¬ k < s.size) : pc s k = some 0 := by unfold pc; rw [Qd.drop_out s k h, piece_nil]
theorem pc_comma (s : ByteArray) (k : Nat) (hk : k < s.size) (h : byteAt s k = 44) : pc s k = some 0 := by unfold pc; rw [Qd.drop_at s k hk]; exact piece_comma _ _ h
theorem pc_plain (s : ByteArray) (k : Nat) (hk : k < s.size) (h1 : byteAt s k ≠ 44) (h2 : byteAt s k ≠ 34) (h3 : byteAt s k ≠ 40) : pc s k = (pc s (k + 1)).map (· + 1) := by unfold pc; rw [Qd.drop_at s k hk]; exact piece_plain _ _ h1 h2 h3
theorem pc_run (s : ByteArray) (k : Nat) (hk : k ≤ s.size) : pc s k = (pc s (k + runLen pq s k)).map (· + runLen pq s k) := by
  have e := piece_plains (s.extract k (k + runLen pq s k)).data.toList (s.data.toList.drop (k + runLen pq s k)) (cut_all pq s k)
  rw [← Qd.drop_run pq s k, Qd.cut_len s k _ (runLen_le pq s k hk)] at e
  exact e
theorem pc_unit (s : ByteArray) (k n : Nat) (hk : k < s.size) (h : byteAt s k = 34 ∨ byteAt s k = 40) (hu : un s k = some n) : pc s k = (pc s (k + n)).map (· + n) ∧ 1 ≤ n ∧ k + n ≤ s.size := by
  unfold un at hu
  unfold pc
  rw [Qd.drop_at s k hk] at hu
  have hl := unit_le _ _ n h hu
  have e := piece_unit _ _ n h hu
  rw [← Qd.drop_at s k hk] at e hl
  rw [List.drop_drop] at e
  refine ⟨e, hl.1, ?_⟩
  have := hl.2
  simp at this
  omega
theorem pc_bad (s : ByteArray) (k : Nat) (hk : k < s.size) (h : byteAt s k = 34 ∨ byteAt s k = 40) (hu : un s k = none) : pc s k = none := by
  unfold un at hu
  unfold pc
  rw [Qd.drop_at s k hk] at hu ⊢
  exact piece_bad _ _ h hu
theorem un_mark (s : ByteArray) (k : Nat) (hk : k < s.size) (h : byteAt s k = 34) : un s k = (Qd.fr s k).map (·.2) := by
  unfold un Qd.fr
  rw [Qd.drop_at s k hk]
  exact if_pos h
theorem un_open (s : ByteArray) (k : Nat) (hk : k < s.size) (h : byteAt s k = 40) : un s k = co false 0 s k := by
  unfold un co
  rw [Qd.drop_at s k hk, unit_cons]
  have h' : ((s.data.toList.getD k 0).toNat : Int) = 40 := h
  exact if_neg (by rw [h']; decide)
theorem run_none (q : Int → Bool) (s : ByteArray) (k : Nat) (h : k < s.size → q (byteAt s k) = false) : runLen q s k = 0 := by
  by_cases hk : k < s.size
  · refine runLen_no q s k hk ?_
    have e : (s[k].toNat : Int) = byteAt s k := by
      unfold byteAt
      rw [Qd.byteAt_at s k hk]
    rw [e]
    exact h hk
  · exact runLen_end q s k hk

/-- Within a comment that began at k: at j, at depth d. -/
structure Oc (s : ByteArray) (k d j : Nat) : Prop where
  ge : k ≤ j
  le : j ≤ s.size
  few : d ≤ j
  first : d = 0 → j < s.size ∧ byteAt s j = 40
  eq : co false 0 s k = (co false d s j).map (· + (j - k))
theorem Oc.start (s : ByteArray) (k : Nat) (hk : k < s.size) (h : byteAt s k = 40) : Oc s k 0 k := ⟨Nat.le_refl _, by omega, by omega, fun _ => ⟨hk, h⟩, by rw [Nat.sub_self, map_zero]⟩
theorem Oc.run {s : ByteArray} {k d j : Nat} (h : Oc s k d j) : Oc s k d (j + runLen rm s j) := by
  have hle := runLen_le rm s j h.le
  have hge := h.ge
  have hf := h.few
  refine ⟨by omega, hle, by omega, fun hd => ?_, ?_⟩
  · obtain ⟨h1, h2⟩ := h.first hd
    rw [run_none rm s j (fun _ => by rw [h2]; decide)]
    exact ⟨h1, h2⟩
  · rw [h.eq, co_run d s j h.le, map_add]
    congr 2
    funext x
    omega
theorem Oc.step {s : ByteArray} {k d d' j : Nat} {e : Bool} (h : Oc s k d j) (hj : co false d s j = (co e d' s (j + 1)).map (· + 1)) : co false 0 s k = (co e d' s (j + 1)).map (· + (j + 1 - k)) := by
  have hge := h.ge
  rw [h.eq, hj, map_add]
  congr 2
  funext x
  omega
theorem Oc.deeper {s : ByteArray} {k d j : Nat} (h : Oc s k d j) (hj : j < s.size) (hb : byteAt s j = 40) : Oc s k (d + 1) (j + 1) := by
  have hge := h.ge
  have hf := h.few
  exact ⟨by omega, by omega, by omega, fun hd => by omega, h.step (co_open d s j hj hb)⟩
theorem Oc.higher {s : ByteArray} {k d j : Nat} (h : Oc s k d j) (hj : j < s.size) (hb : byteAt s j = 41) (hd : d ≠ 1) : Oc s k (d - 1) (j + 1) := by
  have hge := h.ge
  have hf := h.few
  refine ⟨by omega, by omega, by omega, fun h0 => ?_, h.step (co_close d s j hj hb hd)⟩
  obtain ⟨_, h2⟩ := h.first (by omega)
  rw [hb] at h2
  cases h2
theorem Oc.pos {s : ByteArray} {k d j : Nat} (h : Oc s k d j) (hb : byteAt s j ≠ 40) : 1 ≤ d := by
  rcases Nat.eq_zero_or_pos d with h0 | h0
  · exact absurd (h.first h0).2 hb
  · exact h0
theorem Oc.done {s : ByteArray} {k j : Nat} (h : Oc s k 1 j) (hj : j < s.size) (hb : byteAt s j = 41) : co false 0 s k = some (j - k + 1) := by
  rw [h.eq, co_last s j hj hb]
  simp [Nat.add_comm]
theorem Oc.over {s : ByteArray} {k d j : Nat} (h : Oc s k d j) (hj : j < s.size) (hb : byteAt s j = 92) (h1 : j + 1 < s.size) : Oc s k d (j + 2) := by
  have hge := h.ge
  have hf := h.few
  have hp := h.pos (by rw [hb]; decide)
  refine ⟨by omega, by omega, by omega, fun h0 => by omega, ?_⟩
  rw [h.step (co_esc d s j hj hb), co_over d s (j + 1) h1, map_add]
  congr 2
  funext x
  omega
theorem Oc.out {s : ByteArray} {k d j : Nat} (h : Oc s k d j) (hj : j < s.size) (hb : byteAt s j = 92) (h1 : ¬ j + 1 < s.size) : Oc s k d (j + 1) := by
  have hge := h.ge
  have hf := h.few
  have hp := h.pos (by rw [hb]; decide)
  refine ⟨by omega, by omega, by omega, fun h0 => by omega, ?_⟩
  rw [h.step (co_esc d s j hj hb), co_end true d s (j + 1) h1, co_end false d s (j + 1) h1]
theorem Oc.bad {s : ByteArray} {k d j : Nat} (h : Oc s k d j) (hs : j < s.size → rm (byteAt s j) = false) (h1 : ¬ (j < s.size ∧ byteAt s j = 40)) (h2 : ¬ (j < s.size ∧ byteAt s j = 41)) (h3 : ¬ (j < s.size ∧ byteAt s j = 92)) : co false 0 s k = none := by
  rw [h.eq]
  by_cases hj : j < s.size
  · exfalso
    have h4 := rm_parts.2 ⟨fun e => h1 ⟨hj, e⟩, fun e => h2 ⟨hj, e⟩, fun e => h3 ⟨hj, e⟩⟩
    rw [hs hj] at h4
    cases h4
  · rw [co_end false d s j hj]; rfl
end Cm

theorem cmPlain_any (n : Int) (w : World) :
    Calls Tryd.prog 35 #[.int .u8 n] w fun e w' => e = .returned (.bool (Cm.pq n)) ∧ w = w' := by
  go_enter Tryd.func35, Tryd.ntmps35
  go_wp2
  all_goals
    go_ret
    exact ⟨ret_bool (by rw [Bool.eq_iff_iff]; simp_all [Cm.pq]), rfl⟩
theorem cmRemark_any (n : Int) (w : World) :
    Calls Tryd.prog 55 #[.int .u8 n] w fun e w' => e = .returned (.bool (Cm.rm n)) ∧ w = w' := by
  go_enter Tryd.func55, Tryd.ntmps55
  go_wp2
  all_goals
    go_ret
    exact ⟨ret_bool (by rw [Bool.eq_iff_iff]; simp_all [Cm.rm]), rfl⟩
theorem enters_cmPlain (args : Array Value) (w : World) : (callFunc 35 args).run Tryd.prog w = .ok (.enter 35 args) w := by
  exact enters_of Tryd.func35 (by kernel_rfl) rfl args w
theorem enters_cmRemark (args : Array Value) (w : World) : (callFunc 55 args).run Tryd.prog w = .ok (.enter 55 args) w := by
  exact enters_of Tryd.func55 (by kernel_rfl) rfl args w
/-- While of a plain class, at whatever scanner. -/
theorem While_q (g : Nat) (q : Int → Bool) (v : Value) (s : ByteArray) (k : Nat) (w : World) (h : IsScan v s k w) (hs : s.size ≤ 100000)
    (eg : ∀ args w, (callFunc g args).run Tryd.prog w = .ok (.enter g args) w)
    (hq : ∀ (n : Int) (w : World), Calls Tryd.prog g #[.int .u8 n] w fun e w' => e = .returned (.bool (q n)) ∧ w = w') :
    Calls Tryd.prog 34 #[v, .func (.func g) #[] #[]] w fun e w' => e = .returned (.string (s.extract k (k + runLen q s k))) ∧ IsScan v s (k + runLen q s k) w' ∧ Kept (ownScan v) w w' := by
  rcases h with ⟨rfl, rfl, rfl⟩ | ⟨t, rfl, h⟩
  · refine (While_nil _ w).mono ?_
    rintro e w' ⟨rfl, hb⟩
    rw [runLen_empty]
    exact ⟨by rw [cut_empty], .inl ⟨rfl, rfl, rfl⟩, Kept.of_below hb⟩
  · refine (While_plain g q t s k w h hs eg (fun n w _ _ => hq n w)).mono ?_
    rintro e w' ⟨rfl, hsc, hk⟩
    exact ⟨rfl, .inr ⟨t, rfl, hsc⟩, hk.mono fun j _ hj => by subst hj; rfl⟩

/-- What comment hands back. -/
def Commented (v : Value) (s : ByteArray) (k : Nat) (w : World) (e : Ending) (w' : World) : Prop :=
  ∃ j, k ≤ j ∧ e = .returned (.bool (Cm.co false 0 s k).isSome) ∧ IsScan v s j w' ∧ Kept (ownScan v) w w' ∧ ∀ n, Cm.co false 0 s k = some n → j = k + n
def AtC (v : Value) (s : ByteArray) (k : Nat) (w : World) (d : Nat) (wr : World) : Prop := ∃ j, Rs v s w (w.heap.size + 1) j wr ∧ Cm.Oc s k d j
theorem Commented.no {v : Value} {s : ByteArray} {k j : Nat} {w w' : World} {e : Ending} (h : Cm.co false 0 s k = none) (he : e = .returned (.bool false)) (hj : k ≤ j) (hs : IsScan v s j w') (hk : Kept (ownScan v) w w') : Commented v s k w e w' :=
  ⟨j, hj, by rw [h]; exact he, hs, hk, fun n hn => by rw [h] at hn; cases hn⟩
theorem Commented.yes {v : Value} {s : ByteArray} {k j n : Nat} {w w' : World} {e : Ending} (h : Cm.co false 0 s k = some n) (he : e = .returned (.bool true)) (hj : j = k + n) (hs : IsScan v s j w') (hk : Kept (ownScan v) w w') : Commented v s k w e w' :=
  ⟨j, by omega, by rw [h]; exact he, hs, hk, fun m hm => by rw [h] at hm; cases hm; exact hj⟩

set_option maxHeartbeats 1000000 in
theorem comment_v (v : Value) (s : ByteArray) (k : Nat) (w : World) (h : IsScan v s k w) (hs : s.size ≤ 100000) (hk : k < s.size) (hb : byteAt s k = 40) :
    Calls Tryd.prog 38 #[.agg #[v]] w (Commented v s k w) := by
  have hown : ∀ i, ownScan v i → i < w.heap.size := fun i hi => h.own_lt hi
  have hr0 : Rs v s w (w.heap.size + 1) k (w.alloc (.cells #[v] 43)) := ⟨h.below (by repeat (first | with_reducible exact Below.refl _ _ | with_reducible assumption | (with_reducible refine Below.setCell ?_ ?_ _; rotate_left; · (simp <;> omega)) | (with_reducible refine Below.alloc ?_ ?_ _; rotate_left; · (simp <;> omega)) | with_reducible refine Below.drew ?_)), by simp [go_sem], (by repeat (first | with_reducible exact Kept.refl _ _ | with_reducible assumption | (with_reducible refine Kept.setCellL ?_ ?_ _; rotate_left; · (simp <;> omega)) | with_reducible refine Kept.alloc ?_ _ | with_reducible refine Kept.drew ?_ | with_reducible refine Kept.drewN ?_ _)), by omega, hown⟩
  have hm : s.size ≤ maxLen := by unfold maxLen; omega
  have HM := Lib.hid hm
  have HAT : Hid (AtC v s k w 0 (w.alloc (.cells #[v] 43))) := ⟨k, hr0, Cm.Oc.start s k hk hb⟩
  clear h hown hr0 hm hk hb
  go_enter Tryd.func38, Tryd.ntmps38
  go_wp2_with fail
  go_loopw [3] (fun d wr => ∃ dn : Nat, d = .int .i64 (dn : Int) ∧ AtC v s k w dn wr) (fun _ wr => s.size - placeOf v wr)
  case atStart => exact ⟨0, rfl, HAT.out⟩
  case round =>
    clear HAT
    obtain ⟨dn, rfl, j, hr, hon⟩ := hrel
    have box := hr.box
    have HR := Lib.hid hr
    have hjle := hon.le
    have hpl := Lib.hid hr.scan.place_
    have hon1 := hon.run
    have hstop := Qd.run_stop Cm.rm s j
    clear hr
    go_wp2_with fail
    refine (While_q 55 Cm.rm v s j _ HR.out.scan hs enters_cmRemark cmRemark_any).mono ?_
    rintro e w6 ⟨rfl, hs6, hk6⟩
    obtain ⟨j1, hj1⟩ : ∃ j1, j + runLen Cm.rm s j = j1 := ⟨_, rfl⟩
    rw [hj1] at hon1 hstop hs6 ⊢
    have hjj : j ≤ j1 := by omega
    have hge1 := hon1.ge
    have hle1 := hon1.le
    have hfew1 := hon1.few
    have hr6 := HR.out.scan_ hs6 hk6
    have box6 := hr6.box
    have HR6 := Lib.hid hr6
    have HN := Lib.hid hon1
    have HST := Lib.hid hstop
    clear hr6 hs6 hk6 hon hon1 HR hj1 box hstop
    by_cases h40 : j1 < s.size ∧ byteAt s j1 = 40
    · have HE := Lib.hid h40
      have hlt := h40.1
      clear h40
      go_wp2_with fail
      refine (Byte_yes v s j1 40 _ HR6.out.scan HM.out HE.out.1 HE.out.2).mono ?_
      rintro e w7 ⟨rfl, hs7, hk7⟩
      have HR7 := Lib.hid (HR6.out.scan_ hs7 hk7)
      have hpl7 := Lib.hid HR7.out.scan.place_
      have HAT : Hid (AtC v s k w (dn + 1) w7) := ⟨j1 + 1, HR7.out, HN.out.deeper HE.out.1 HE.out.2⟩
      clear hs7 hk7
      go_wp2_with fail
      go_roundw
      case rel => exact ⟨dn + 1, by go_num, HAT.out⟩
      case measure => rw [hpl.out, hpl7.out]; omega
    · have HE := Lib.hid h40
      clear h40
      by_cases h41 : j1 < s.size ∧ byteAt s j1 = 41
      · have HF := Lib.hid h41
        have hlt := h41.1
        have hpos := HN.out.pos (by rw [h41.2]; decide)
        clear h41
        by_cases hd1 : dn = 1
        · subst hd1
          have HD := Lib.hid (HN.out.done HF.out.1 HF.out.2)
          go_wp2_with fail
          refine (Byte_no v s j1 40 _ HR6.out.scan HM.out HE.out).mono ?_
          rintro e w7 ⟨rfl, hs7, hk7⟩
          have HR7 := Lib.hid (HR6.out.scan_ hs7 hk7)
          have box7 := HR7.out.box
          clear hs7 hk7
          go_wp2_with fail
          refine (Byte_yes v s j1 41 _ HR7.out.scan HM.out HF.out.1 HF.out.2).mono ?_
          rintro e w8 ⟨rfl, hs8, hk8⟩
          have HR8 := Lib.hid (HR7.out.scan_ hs8 hk8)
          clear hs8 hk8
          go_wp2_with fail
          go_ret
          exact Commented.yes HD.out rfl (by omega) HR8.out.scan HR8.out.kept
        · have q0 : (((dn : Int) - 1) == 0) = false := by rw [beq_eq_false_iff_ne]; omega
          go_wp2_with fail
          refine (Byte_no v s j1 40 _ HR6.out.scan HM.out HE.out).mono ?_
          rintro e w7 ⟨rfl, hs7, hk7⟩
          have HR7 := Lib.hid (HR6.out.scan_ hs7 hk7)
          have box7 := HR7.out.box
          clear hs7 hk7
          go_wp2_with fail
          refine (Byte_yes v s j1 41 _ HR7.out.scan HM.out HF.out.1 HF.out.2).mono ?_
          rintro e w8 ⟨rfl, hs8, hk8⟩
          have HR8 := Lib.hid (HR7.out.scan_ hs8 hk8)
          have hpl8 := Lib.hid HR8.out.scan.place_
          have HAT : Hid (AtC v s k w (dn - 1) w8) := ⟨j1 + 1, HR8.out, HN.out.higher HF.out.1 HF.out.2 hd1⟩
          clear hs8 hk8
          go_wp2_with fail
          go_roundw
          case rel => exact ⟨dn - 1, by go_num, HAT.out⟩
          case measure => rw [hpl.out, hpl8.out]; omega
      · have HF := Lib.hid h41
        clear h41
        by_cases h92 : j1 < s.size ∧ byteAt s j1 = 92
        · have HG := Lib.hid h92
          have hlt := h92.1
          clear h92
          go_wp2_with fail
          refine (Byte_no v s j1 40 _ HR6.out.scan HM.out HE.out).mono ?_
          rintro e w7 ⟨rfl, hs7, hk7⟩
          have HR7 := Lib.hid (HR6.out.scan_ hs7 hk7)
          have box7 := HR7.out.box
          clear hs7 hk7
          go_wp2_with fail
          refine (Byte_no v s j1 41 _ HR7.out.scan HM.out HF.out).mono ?_
          rintro e w8 ⟨rfl, hs8, hk8⟩
          have HR8 := Lib.hid (HR7.out.scan_ hs8 hk8)
          have box8 := HR8.out.box
          clear hs8 hk8
          go_wp2_with fail
          refine (Byte_yes v s j1 92 _ HR8.out.scan HM.out HG.out.1 HG.out.2).mono ?_
          rintro e w9 ⟨rfl, hs9, hk9⟩
          have HR9 := Lib.hid (HR8.out.scan_ hs9 hk9)
          have box9 := HR9.out.box
          clear hs9 hk9
          go_wp2_with fail
          refine (Peek_v v s (j1 + 1) _ HR9.out.scan).mono ?_
          rintro e w10 ⟨rfl, n, rfl⟩
          have HR10 := Lib.hid (HR9.out.drewN n)
          have box10 := HR10.out.box
          have hbr := byteAt_range s (j1 + 1)
          by_cases hn : j1 + 1 < s.size
          · have HY := Lib.hid hn
            go_wp2_with fail
            refine (Byte_yes v s (j1 + 1) (byteAt s (j1 + 1)) _ HR10.out.scan HM.out HY.out rfl).mono ?_
            rintro e w11 ⟨rfl, hs11, hk11⟩
            have HR11 := Lib.hid (HR10.out.scan_ hs11 hk11)
            have hpl11 := Lib.hid HR11.out.scan.place_
            have HAT : Hid (AtC v s k w dn w11) := ⟨j1 + 2, HR11.out, HN.out.over HG.out.1 HG.out.2 HY.out⟩
            clear hs11 hk11
            go_wp2_with fail
            go_roundw
            case rel => exact ⟨dn, rfl, HAT.out⟩
            case measure => rw [hpl.out, hpl11.out]; omega
          · have HY := Lib.hid hn
            go_wp2_with fail
            refine (Byte_no v s (j1 + 1) (byteAt s (j1 + 1)) _ HR10.out.scan HM.out (fun x => HY.out x.1)).mono ?_
            rintro e w11 ⟨rfl, hs11, hk11⟩
            have HR11 := Lib.hid (HR10.out.scan_ hs11 hk11)
            have hpl11 := Lib.hid HR11.out.scan.place_
            have HAT : Hid (AtC v s k w dn w11) := ⟨j1 + 1, HR11.out, HN.out.out HG.out.1 HG.out.2 HY.out⟩
            clear hs11 hk11
            go_wp2_with fail
            go_roundw
            case rel => exact ⟨dn, rfl, HAT.out⟩
            case measure => rw [hpl.out, hpl11.out]; omega
        · have HG := Lib.hid h92
          have HD := Lib.hid (HN.out.bad HST.out HE.out HF.out h92)
          clear h92
          go_wp2_with fail
          refine (Byte_no v s j1 40 _ HR6.out.scan HM.out HE.out).mono ?_
          rintro e w7 ⟨rfl, hs7, hk7⟩
          have HR7 := Lib.hid (HR6.out.scan_ hs7 hk7)
          have box7 := HR7.out.box
          clear hs7 hk7
          go_wp2_with fail
          refine (Byte_no v s j1 41 _ HR7.out.scan HM.out HF.out).mono ?_
          rintro e w8 ⟨rfl, hs8, hk8⟩
          have HR8 := Lib.hid (HR7.out.scan_ hs8 hk8)
          have box8 := HR8.out.box
          clear hs8 hk8
          go_wp2_with fail
          refine (Byte_no v s j1 92 _ HR8.out.scan HM.out HG.out).mono ?_
          rintro e w9 ⟨rfl, hs9, hk9⟩
          have HR9 := Lib.hid (HR8.out.scan_ hs9 hk9)
          clear hs9 hk9
          go_wp2_with fail
          go_ret
          exact Commented.no HD.out rfl hge1 HR9.out.scan HR9.out.kept
end Go.Proofs.YtjchcknmolffiaaDoor
