/- Contracts and lemmas that the claim rests on: TgG. -/
import Derived.Test.YtnpbnlphmngbdaaGreatDoorGTgF
/- Layer 10's page: its example; few. -/
namespace Go.Proofs.YtnpbnlphmngbdaaGreatDoor
open Go.RowKit

def few10 (s : ByteArray) : ByteArray := s.extract 0 (min s.size 150)
theorem few10_size (s : ByteArray) : (few10 s).size ≤ 150 := by unfold few10; simp [ByteArray.size_extract]; omega
set_option maxRecDepth 20000 in
theorem few10_any (s : ByteArray) (w : World) (hs : s.size ≤ maxLen) :
    Calls Tryz.prog 6 #[.string s] w fun e w' => e = .returned (.string (few10 s)) ∧ w' = w := by
  unfold maxLen at hs
  obtain ⟨k, hk⟩ : ∃ k : Nat, min (s.size : Int) 150 = (k : Int) := ⟨min s.size 150, by omega⟩
  have hk2 : min s.size 150 = k := by omega
  have hk3 : k ≤ s.size := by omega
  unfold few10
  rw [hk2]
  clear hk2
  go_enter Tryz.func6, Tryz.ntmps6
  go_wp2_with fail
  go_ret
  exact ⟨rfl, rfl⟩
namespace Tg
/-! How long its parts are. -/
theorem orig_le {t u : T} {l : List UInt8} (h : orig t l = some u) : u.path.length ≤ l.length ∧ u.query.length ≤ l.length ∧ u.scheme = t.scheme ∧ u.host = t.host := by
  unfold orig at h
  split at h
  · injection h with h
    subst h
    refine ⟨?_, ?_, rfl, rfl⟩
    · show (l.take _).length ≤ _; rw [List.length_take]; omega
    · show (l.drop _).length ≤ _; rw [List.length_drop]; omega
  · cases h
theorem rest_le {t u : T} {l : List UInt8} (h : rest t l = some u) : u.path.length ≤ l.length ∧ u.query.length ≤ l.length ∧ u.scheme = t.scheme ∧ u.host = t.host := by
  match l, h with
  | [], h =>
    rw [rest] at h
    injection h with h
    subst h
    exact ⟨Nat.le_refl _, Nat.le_refl _, rfl, rfl⟩
  | c :: q, h =>
    rw [rest] at h
    split at h
    · split at h
      · injection h with h
        subst h
        exact ⟨Nat.zero_le _, Nat.le_succ _, rfl, rfl⟩
      · cases h
    · exact orig_le h
theorem prs_le {l nm : List UInt8} {k p : Int} (h : Hp.prs l = some (k, nm, p)) : nm.length ≤ l.length ∧ p < 9223372036854775808 := by
  obtain ⟨a, h0, h1, h2, h3⟩ := (Hp.prs_iff l _).1 h
  simp only at h1 h2 h3
  subst h1 h2
  have ha : (Hp.hostL a).2.length ≤ a.length := by
    rcases Hp.host_kinds a h0 with ⟨m, rfl, -, e⟩ | ⟨-, e⟩ | ⟨-, -, e⟩ <;> rw [e] <;> simp <;> omega
  rcases h3 with ⟨rfl, rfl⟩ | ⟨d, rfl, hd, rfl⟩
  · exact ⟨ha, by decide⟩
  · obtain ⟨n, hn, -, e⟩ := Hp.okD_form hd
    rw [e]
    simp only [List.length_append, List.length_cons]
    exact ⟨by omega, by omega⟩
theorem tg_le {m l : List UInt8} {t : T} (h : tg m l = some t) : t.path.length ≤ l.length ∧ t.query.length ≤ l.length ∧ t.scheme.length ≤ 5 ∧ t.host.2.1.length ≤ l.length ∧ t.host.2.2 < 9223372036854775808 := by
  cases tg_has h with
  | auth hm e ep =>
    have := prs_le ep
    rw [e]
    exact ⟨Nat.zero_le _, Nat.zero_le _, Nat.zero_le _, this.1, this.2⟩
  | star hm hc el e =>
    rw [e]
    exact ⟨Nat.zero_le _, Nat.zero_le _, Nat.zero_le _, Nat.zero_le _, by decide⟩
  | orig hm e eo =>
    obtain ⟨h1, h2, h3, h4⟩ := orig_le eo
    rw [h3, h4]
    exact ⟨h1, h2, Nat.zero_le _, Nat.zero_le _, by decide⟩
  | abs hm a r el ea es eb =>
    have hr : r.length ≤ l.length := by rw [el]; simp only [List.length_append]; omega
    obtain ⟨hh, -⟩ := beh_host eb
    unfold beh at eb
    split at eb
    · cases eb
    · obtain ⟨h1, h2, h3, h4⟩ := rest_le eb
      have hl := prs_le hh
      rw [List.length_drop] at h1 h2
      rw [List.length_take] at hl
      exact ⟨by omega, by omega, by rcases es with e | e <;> rw [e] <;> decide, Nat.le_trans hl.1 (by omega), hl.2⟩
theorem join_le (p q : List UInt8) (b : Bool) : (join p q b).length ≤ p.length + 1 + q.length := by
  unfold join
  split
  · simp only [List.length_append, List.length_cons]; omega
  · omega
theorem og_le (t : T) : (og t).length ≤ t.path.length + t.query.length + 2 := by
  unfold og
  split
  · simp
  · split
    · simp
    · have := join_le (if t.path = [] then [47] else t.path) t.query t.has
      have h2 : (if t.path = [] then [47] else t.path).length ≤ t.path.length + 1 := by
        split
        · simp
        · omega
      omega
theorem text80 : Nu.textL 10 80 = [56, 48] := by
  rw [Nu.textL_big (by omega) (by omega), Nu.textL_small (by omega)]
  decide +kernel
theorem host_a : Hp.hostL [97] = (1, [97]) := by
  have hn : Hp.nameL [97] = true := by
    unfold Hp.nameL
    rw [Hp.nmL_all [97] (by decide +kernel)]; rfl
  have hf : Hp.fourL [97] = false := by
    unfold Hp.fourL
    rw [decide_eq_false (by decide +kernel), Bool.and_false]
  rw [Hp.host_rest (by decide +kernel), hf, hn]; rfl
theorem prs_a : Hp.prs [97, 58, 56, 48] = some (1, [97], 80) := by
  refine (Hp.prs_iff _ _).2 ⟨[97], ?_⟩
  rw [host_a]
  have h := Hp.okD_text (most := 65535) (n := 80) (by omega)
  rw [text80] at h
  exact ⟨by decide, rfl, rfl, .inr ⟨[56, 48], rfl, h.1, by rw [h.2]; rfl⟩⟩
theorem aw10 : tg [71, 69, 84] [72, 84, 84, 80, 58, 47, 47, 97, 58, 56, 48, 63, 120] = some ⟨2, http, (1, [97], 80), [], [120], true⟩ := by
  have e : ([72, 84, 84, 80, 58, 47, 47, 97, 58, 56, 48, 63, 120] : List UInt8).drop 7 = [97, 58, 56, 48, 63, 120] := rfl
  have h1 : B.fold (([72, 84, 84, 80, 58, 47, 47, 97, 58, 56, 48, 63, 120] : List UInt8).take 7) = http ++ sep := by decide +kernel
  unfold tg rd
  rw [if_neg (by decide), if_neg (by decide), if_neg (by decide +kernel), ab_at (s := http) (n := 7) (.inl rfl) rfl h1, e]
  unfold beh
  have hn : hostN [97, 58, 56, 48, 63, 120] = 4 := by decide +kernel
  rw [hn]
  show (match Hp.prs [97, 58, 56, 48] with | none => none | some h => rest (T.a2 http h) [63, 120]) = _
  rw [prs_a]
  show rest (T.a2 http (1, [97], 80)) [63, 120] = _
  rw [rest, if_pos rfl, if_pos (by decide +kernel)]; rfl
theorem aw_og : og ⟨2, http, (1, [97], 80), [], [120], true⟩ = [47, 63, 120] := by decide +kernel
end Tg
set_option maxHeartbeats 3200000 in
theorem awake10_any (w : World) (ht : Tx w) : Calls Tryz.prog 5 #[] w fun e w' => e = .returned (.bool true) ∧ Below w.heap.size w w' := by
  have HP := Lib.hid (TParse_any ⟨#[71, 69, 84]⟩ ⟨#[72, 84, 84, 80, 58, 47, 47, 97, 58, 56, 48, 63, 120]⟩ w (by decide) ht)
  rw [show (⟨#[71, 69, 84]⟩ : ByteArray).data.toList = [71, 69, 84] from rfl, show (⟨#[72, 84, 84, 80, 58, 47, 47, 97, 58, 56, 48, 63, 120]⟩ : ByteArray).data.toList = [72, 84, 84, 80, 58, 47, 47, 97, 58, 56, 48, 63, 120] from rfl, Tg.aw10] at HP
  have HO := Lib.hid (fun w1 => TOrigin_any 2 ⟨#[104, 116, 116, 112]⟩ 1 ⟨#[97]⟩ 80 ⟨#[]⟩ ⟨#[120]⟩ true w1 (by decide) (by decide))
  have eo : Tg.og ⟨2, (⟨#[104, 116, 116, 112]⟩ : ByteArray).data.toList, (1, (⟨#[97]⟩ : ByteArray).data.toList, 80), (⟨#[]⟩ : ByteArray).data.toList, (⟨#[120]⟩ : ByteArray).data.toList, true⟩ = [47, 63, 120] := Tg.aw_og
  rw [eo] at HO
  clear ht eo
  have ep : parV (some ⟨2, Tg.http, (1, [97], 80), [], [120], true⟩) = .tuple #[tv 2 ⟨#[104, 116, 116, 112]⟩ 1 ⟨#[97]⟩ 80 ⟨#[]⟩ ⟨#[120]⟩ true, .int .i64 0] := rfl
  rw [ep] at HP
  clear ep
  unfold tv at HP HO
  go_enter Tryz.func5, Tryz.ntmps5
  go_wp2_with fail
  refine HP.out.mono ?_
  rintro e w1 ⟨rfl, hb1⟩
  have HB1 := Lib.hid hb1
  clear hb1
  go_wp2_with fail
  refine (HO.out _).mono ?_
  rintro e w2 ⟨rfl, hb2⟩
  have HB2 := Lib.hid ((HB1.out.alloc HB1.out.size _).trans (hb2.mono (by simp; exact Nat.le_succ_of_le HB1.out.size)))
  clear hb2
  go_wp2_with fail
  go_ret
  exact ⟨rfl, HB2.out⟩
theorem TOrigin_t (t : Tg.T) (w : World) (hp : t.path.length ≤ 900) (hq : t.query.length ≤ 900) :
    Calls Tryz.prog 10 #[tgV t] w fun e w' => e = .returned (.string ⟨(Tg.og t).toArray⟩) ∧ Below w.heap.size w w' :=
  TOrigin_any _ _ _ _ _ _ _ _ w (by show t.path.toArray.size ≤ 900; simpa using hp) (by show t.query.toArray.size ≤ 900; simpa using hq)
end Go.Proofs.YtnpbnlphmngbdaaGreatDoor
