/-
  Texts that belong together: PathMath, PathWithin, PathCut, RefCmp.
-/
import Derived.Test.YteoafohebgfjdaaGreatDoorAutoPathCmpL
import Derived.Test.YteoafohebgfjdaaGreatDoorAutoPathMoves
import Derived.Test.YteoafohebgfjdaaGreatDoorAutoRefCut
import Derived.Deep.QuietTactic
import Derived.BigQuiet
/-
  The order of paths is one: plain mathematics.
-/
namespace Go.Proofs.YteoafohebgfjdaaGreatDoor

theorem signZ_neg (n : Int) : signZ (-n) = - signZ n := by
  unfold signZ
  by_cases h : n < 0
  · have h1 : ¬ -n < 0 := by omega
    have h2 : ¬ -n = 0 := by omega
    rw [if_neg h1, if_neg h2, if_pos h]; rfl
  · by_cases h0 : n = 0
    · subst h0; simp
    · have h1 : -n < 0 := by omega
      rw [if_pos h1, if_neg h, if_neg h0]
theorem signZ_le (n : Int) : signZ n ≤ 0 ↔ n ≤ 0 := by
  unfold signZ
  by_cases h : n < 0
  · rw [if_pos h]; omega
  · by_cases h0 : n = 0
    · rw [if_neg h, if_pos h0]; omega
    · rw [if_neg h, if_neg h0]; omega
theorem rankZ_inj (a b : UInt8) (h : rankZ a.toNat = rankZ b.toNat) : a = b := by
  apply UInt8.toNat_inj.1
  unfold rankZ at h
  split at h <;> split at h <;> omega

theorem cmpL_swap : ∀ p q : List UInt8, cmpL q p = - cmpL p q
  | [], [] => rfl
  | [], _ :: _ => rfl
  | _ :: _, [] => rfl
  | a :: p, b :: q => by
    by_cases h : a = b
    · subst h; simp only [cmpL, if_true]; exact cmpL_swap p q
    · have h' : ¬ b = a := fun e => h e.symm
      simp only [cmpL, h, h', if_false]
      rw [← signZ_neg]; congr 1; omega

theorem signZ_zero (n : Int) (h : signZ n = 0) : n = 0 := by
  unfold signZ at h
  split at h
  · omega
  · split at h
    · assumption
    · omega

theorem cmpL_zero : ∀ p q : List UInt8, cmpL p q = 0 ↔ p = q
  | [], [] => by simp [cmpL]
  | [], _ :: _ => by simp [cmpL]
  | _ :: _, [] => by simp [cmpL]
  | a :: p, b :: q => by
    by_cases h : a = b
    · subst h; simp only [cmpL, if_true]; rw [cmpL_zero p q]; simp
    · simp only [cmpL, h, if_false]
      constructor
      · intro e
        have := signZ_zero _ e
        exact absurd (rankZ_inj a b (by omega)) h
      · intro e; injection e with e1 e2; exact absurd e1 h

theorem cmpL_trans : ∀ p q r : List UInt8, cmpL p q ≤ 0 → cmpL q r ≤ 0 → cmpL p r ≤ 0
  | [], _, [] => fun _ _ => by simp [cmpL]
  | [], _, _ :: _ => fun _ _ => by simp [cmpL]
  | _ :: _, [], _ => fun h _ => by simp [cmpL] at h
  | _ :: _, _ :: _, [] => fun _ h => by simp [cmpL] at h
  | a :: p, b :: q, c :: r => fun h1 h2 => by
    by_cases hab : a = b
    · subst hab
      by_cases hac : a = c
      · subst hac
        simp only [cmpL, if_true] at h1 h2 ⊢
        exact cmpL_trans p q r h1 h2
      · simp only [cmpL, hac, if_false] at h2 ⊢
        exact h2
    · by_cases hbc : b = c
      · subst hbc
        simp only [cmpL, hab, if_false] at h1 ⊢
        exact h1
      · simp only [cmpL, hab, hbc, if_false] at h1 h2
        rw [signZ_le] at h1 h2
        by_cases hac : a = c
        · subst hac
          exact absurd (rankZ_inj a b (by omega)) hab
        · simp only [cmpL, hac, if_false]
          rw [signZ_le]; omega

/-- A beginning of names: nothing behind, or a slash. -/
def edge (x : List UInt8) : Prop := x = [] ∨ ∃ y, x = 47 :: y

/-- What stands between two texts that begin with the same names begins with them, too. -/
theorem cmpL_between : ∀ (t q x z : List UInt8), edge z → cmpL (t ++ x) q ≤ 0 → cmpL q (t ++ z) ≤ 0 → ∃ y, q = t ++ y ∧ edge y
  | [], [], _, _, _, _, _ => ⟨[], rfl, .inl rfl⟩
  | [], c :: q, x, z, hz, _, h2 => by
    rcases hz with rfl | ⟨z', rfl⟩
    · simp [cmpL] at h2
    · by_cases hc : c = 47
      · subst hc; exact ⟨47 :: q, rfl, .inr ⟨q, rfl⟩⟩
      · simp only [List.nil_append, cmpL, hc, if_false] at h2
        rw [signZ_le] at h2
        have h47 : (47 : UInt8).toNat = 47 := rfl
        have hn : ¬ c.toNat = 47 := fun e => hc (UInt8.toNat_inj.1 (by omega))
        unfold rankZ at h2
        rw [if_neg (by omega), h47, if_pos (by rfl)] at h2
        omega
  | a :: t, [], _, _, _, h1, _ => by simp [cmpL] at h1
  | a :: t, c :: q, x, z, hz, h1, h2 => by
    by_cases hac : a = c
    · subst hac
      simp only [List.cons_append, cmpL, if_true] at h1 h2
      obtain ⟨y, rfl, hy⟩ := cmpL_between t q x z hz h1 h2
      exact ⟨y, rfl, hy⟩
    · have hca : ¬ c = a := fun e => hac e.symm
      simp only [List.cons_append, cmpL, hac, hca, if_false] at h1 h2
      rw [signZ_le] at h1 h2
      exact absurd (rankZ_inj a c (by omega)) hac

/-- A path stands ahead of all that is within it. -/
theorem cmpL_first : ∀ (t x : List UInt8), cmpL t (t ++ x) ≤ 0
  | [], [] => by simp [cmpL]
  | [], _ :: _ => by simp [cmpL]
  | a :: t, x => by simp only [List.cons_append, cmpL, if_true]; exact cmpL_first t x
end Go.Proofs.YteoafohebgfjdaaGreatDoor
/-
  paths.Within in plain words.
-/
namespace Go.Proofs.YteoafohebgfjdaaGreatDoor
open Go.RowKit
set_option maxRecDepth 100000

/-- Within. -/
def withinL (p t : List UInt8) : Prop := rightL p = true ∧ rightL t = true ∧ (t = [] ∨ ∃ y, p = t ++ y ∧ edge y)

theorem toL_empty (p : ByteArray) : p.toList.isEmpty = true ↔ toL p = [] := by
  rw [Lib.toList_data]; unfold toL; exact List.isEmpty_iff

theorem restP_data (p t : ByteArray) (y : List UInt8) (h : toL p = toL t ++ y) : preB p t = true ∧ toL (restP p t) = y := by
  have hp : preB p t = true := by
    unfold preB
    exact List.isPrefixOf_iff_prefix.2 ⟨y, h.symm⟩
  refine ⟨hp, ?_⟩
  rw [restP_some hp]
  unfold toL at h ⊢
  rw [Lib.extract_data, h, List.take_of_length_le (by rw [← h]; simp)]
  simp

theorem okB_iff (p t : ByteArray) : okB p t = true ↔ withinL (toL p) (toL t) := by
  unfold okB withinL
  cases h1 : rightL (toL p) with
  | false => simp
  | true =>
    cases h2 : rightL (toL t) with
    | false => simp
    | true =>
      simp only [Bool.not_true, Bool.or_self, Bool.false_eq_true, if_false, true_and]
      by_cases ht : toL t = []
      · have he := (toL_empty t).2 ht
        rw [he]
        cases hp : p.toList.isEmpty with
        | false => simp [ht]
        | true =>
          have hp' := (toL_empty p).1 hp
          obtain ⟨a, b⟩ := restP_data p t [] (by rw [hp', ht]; rfl)
          have hr := (toL_empty _).2 b
          simp [ht, a, hr]
      · have he : t.toList.isEmpty = false := by
          cases h : t.toList.isEmpty with
          | false => rfl
          | true => exact absurd ((toL_empty t).1 h) ht
        rw [he]
        simp only [Bool.false_and, Bool.false_eq_true, if_false, ht, false_or]
        constructor
        · intro h
          rw [Bool.and_eq_true] at h
          obtain ⟨a, b⟩ := h
          have hpre : toL t <+: toL p := List.isPrefixOf_iff_prefix.1 a
          obtain ⟨y, hy⟩ := hpre
          obtain ⟨_, hr⟩ := restP_data p t y hy.symm
          refine ⟨y, hy.symm, ?_⟩
          rw [Bool.or_eq_true] at b
          rcases b with b | b
          · left; rw [← hr]; exact (toL_empty _).1 b
          · right
            rw [hr] at b
            cases y with
            | nil => simp at b
            | cons c z => simp at b; exact ⟨z, by rw [b]⟩
        · rintro ⟨y, hy, hedge⟩
          obtain ⟨a, hr⟩ := restP_data p t y hy
          rw [a, hr]
          rcases hedge with rfl | ⟨z, rfl⟩
          · rw [(toL_empty _).2 hr]; rfl
          · simp

/-- PathsTogether's words, over plain lists. -/
theorem together (p q r t : List UInt8) (hq : rightL q = true) (hp : withinL p t) (hr : withinL r t) (h1 : cmpL p q ≤ 0) (h2 : cmpL q r ≤ 0) : withinL q t := by
  obtain ⟨_, ht, hp⟩ := hp
  obtain ⟨_, _, hr⟩ := hr
  refine ⟨hq, ht, ?_⟩
  by_cases h0 : t = []
  · exact .inl h0
  · right
    obtain ⟨x, rfl, _⟩ := hp.resolve_left h0
    obtain ⟨z, rfl, hz⟩ := hr.resolve_left h0
    exact cmpL_between t q x z hz h1 h2

theorem within_first (p t : List UInt8) (hp : withinL p t) : cmpL t p ≤ 0 := by
  rcases hp.2.2 with rfl | ⟨y, rfl, _⟩
  · cases p <;> simp [cmpL]
  · exact cmpL_first t y
end Go.Proofs.YteoafohebgfjdaaGreatDoor
/-
  What stands between slashes, as a list: putting together again, prefixes, the order name by name.
-/
namespace Go.Proofs.YteoafohebgfjdaaGreatDoor
open Go.RowKit
set_option maxRecDepth 100000

theorem edge_split (t p : List UInt8) : (∃ y, p = t ++ y ∧ edge y) ↔ splitL t <+: splitL p := by
  constructor
  · rintro ⟨y, rfl, rfl | ⟨z, rfl⟩⟩
    · simp
    · rw [split_append]; exact List.prefix_append _ _
  · rintro ⟨r, hr⟩
    cases r with
    | nil =>
      rw [List.append_nil] at hr
      have := glue_split p
      rw [← hr, glue_split] at this
      exact ⟨[], by simp [this], .inl rfl⟩
    | cons x z =>
      have := glue_split p
      rw [← hr, glue_append _ _ (splitL_ne t) (by simp), glue_split] at this
      exact ⟨_, this.symm, .inr ⟨_, rfl⟩⟩
theorem cut_prefix (t p : List UInt8) : (t = [] ∨ ∃ y, p = t ++ y ∧ edge y) ↔ cutL t <+: cutL p := by
  by_cases ht : t = []
  · subst ht; simp [cut_nil]
  · by_cases hp : p = []
    · subst hp
      have hs := splitL_ne t
      simp [ht, cut_nil, cut_ne t ht, hs]
    · rw [edge_split, cut_ne t ht, cut_ne p hp]; simp [ht]
theorem within_cut (p t : List UInt8) : withinL p t ↔ rightL p = true ∧ rightL t = true ∧ cutL t <+: cutL p := by
  unfold withinL; rw [cut_prefix]
/-- Names, held against each other one by one. -/
def cmpN : List (List UInt8) → List (List UInt8) → Int
  | [], [] => 0
  | [], _ :: _ => -1
  | _ :: _, [] => 1
  | a :: p, b :: q => if textL a b = 0 then cmpN p q else textL a b
theorem cmpN_eq {a b : List UInt8} (p q : List (List UInt8)) (h : textL a b = 0) : cmpN (a :: p) (b :: q) = cmpN p q := by simp only [cmpN, h, if_true]
theorem cmpN_to {a b : List UInt8} {c : Int} (p q : List (List UInt8)) (h : textL a b = c) (hc : c ≠ 0) : cmpN (a :: p) (b :: q) = c := by
  unfold cmpN; rw [h, if_neg hc]
theorem rankZ_other {a : UInt8} (ha : a ≠ 47) : rankZ a.toNat = a.toNat := by
  unfold rankZ
  rw [if_neg]
  intro e
  exact ha (UInt8.toNat_inj.1 (by rw [show (47 : UInt8).toNat = 47 from rfl]; omega))
theorem cmpN_split : ∀ p q : List UInt8, cmpN (splitL p) (splitL q) = cmpL p q
  | [], [] => rfl
  | [], b :: q => by
    by_cases hb : b = 47
    · obtain ⟨h, t, hs⟩ := split_some q
      subst hb
      rw [split_slash, hs]; rfl
    · obtain ⟨h, t, hs⟩ := split_some q
      rw [split_other hb hs]; rfl
  | a :: p, [] => by
    by_cases hb : a = 47
    · obtain ⟨h, t, hs⟩ := split_some p
      subst hb
      rw [split_slash, hs]; rfl
    · obtain ⟨h, t, hs⟩ := split_some p
      rw [split_other hb hs]; rfl
  | a :: p, b :: q => by
    have ih := cmpN_split p q
    obtain ⟨h, t, hs⟩ := split_some p
    obtain ⟨h', t', hs'⟩ := split_some q
    by_cases ha : a = 47 <;> by_cases hb : b = 47
    · subst ha; subst hb
      rw [split_slash, split_slash, cmpN_eq _ _ rfl, ih]; simp [cmpL]
    · subst ha
      rw [split_slash, split_other hb hs', cmpN_to (c := -1) _ _ rfl (by decide)]
      simp only [cmpL, show ¬ (47 : UInt8) = b from fun e => hb e.symm, if_false]
      rw [rankZ_other hb]
      unfold signZ
      rw [show rankZ ((47 : UInt8).toNat : Int) = -1 from rfl, if_pos (by omega)]
    · subst hb
      rw [split_slash, split_other ha hs, cmpN_to (c := 1) _ _ rfl (by decide)]
      simp only [cmpL, ha, if_false]
      rw [rankZ_other ha]
      unfold signZ
      rw [show rankZ ((47 : UInt8).toNat : Int) = -1 from rfl, if_neg (by omega), if_neg (by omega)]
    · rw [split_other ha hs, split_other hb hs']
      rw [hs, hs'] at ih
      by_cases hab : a = b
      · subst hab
        rw [show cmpL (a :: p) (a :: q) = cmpL p q by simp [cmpL], ← ih]
        by_cases hz : textL h h' = 0
        · rw [cmpN_eq _ _ hz, cmpN_eq _ _ (by simp [textL, hz])]
        · rw [cmpN_to _ _ rfl hz, cmpN_to (c := textL h h') _ _ (by simp [textL]) hz]
      · have hn : ¬ a.toNat = b.toNat := fun e => hab (UInt8.toNat_inj.1 e)
        have e1 : textL (a :: h) (b :: h') = signZ ((a.toNat : Int) - b.toNat) := by simp [textL, hab]
        have e2 : cmpL (a :: p) (b :: q) = signZ (rankZ a.toNat - rankZ b.toNat) := by simp [cmpL, hab]
        rw [e2, rankZ_other ha, rankZ_other hb, cmpN_to _ _ e1]
        unfold signZ
        split
        · decide
        · rw [if_neg (by omega)]; decide
theorem cmpN_cut (p q : List UInt8) : cmpN (cutL p) (cutL q) = cmpL p q := by
  by_cases hp : p = [] <;> by_cases hq : q = []
  · subst hp; subst hq; rfl
  · subst hp
    rw [cut_ne q hq, cut_nil]
    cases hs : splitL q with
    | nil => exact absurd hs (splitL_ne q)
    | cons h t => cases q with
      | nil => exact absurd rfl hq
      | cons => rfl
  · subst hq
    rw [cut_ne p hp, cut_nil]
    cases hs : splitL p with
    | nil => exact absurd hs (splitL_ne p)
    | cons h t => cases p with
      | nil => exact absurd rfl hp
      | cons => rfl
  · rw [cut_ne p hp, cut_ne q hq, cmpN_split]
end Go.Proofs.YteoafohebgfjdaaGreatDoor
/-
  The reference's Cmp: two paths' names, one by one.
-/
namespace Go.Proofs.YteoafohebgfjdaaGreatDoor
open Go.RowKit
set_option maxRecDepth 100000

/-- Nothing but drawing. -/
def Drew (w w' : World) : Prop := ∃ n, w' = w.drewN n
theorem Drew.refl (w : World) : Drew w w := ⟨0, rfl⟩
theorem Drew.step {w w' : World} (h : Drew w w') (n : Nat) : Drew w (w'.drewN n) := by
  obtain ⟨m, rfl⟩ := h
  exact ⟨m + n, World.drewN_drewN _ _ _⟩
theorem text_out {p q : List UInt8} : textL p q = -1 ∨ textL p q = 0 ∨ textL p q = 1 := by
  induction p generalizing q with
  | nil => cases q <;> simp [textL]
  | cons a p ih =>
    cases q with
    | nil => simp [textL]
    | cons b q =>
      by_cases h : a = b
      · simp only [textL, h, if_true]; exact ih
      · simp only [textL, h, if_false]
        unfold signZ
        split
        · simp
        · split <;> simp

set_option maxHeartbeats 2000000 in
theorem text_quiet (p q : ByteArray) (w : World) (hp : (p.size : Int) ≤ 9223372036854775800) :
    Calls Tryz.prog 56 #[.string p, .string q] w fun e w' => e = .returned (.int .i64 (textL p.data.toList q.data.toList)) ∧ Drew w w' := by
  go_enter Tryz.func56, Tryz.ntmps56
  go_wp2_with fail
  go_loopw [5] (fun i wr => ∃ k : Nat, k ≤ p.size ∧ k ≤ q.size ∧ i = .int .i64 k ∧ Hid (p.data.toList.take k = q.data.toList.take k) ∧ Drew w wr) (fun i _ => p.size - (intOf i).toNat)
  case atStart => exact ⟨0, Nat.zero_le _, Nat.zero_le _, rfl, hide (by simp), Drew.refl _⟩
  case round =>
    obtain ⟨k, hk, hk', rfl, HA, hB⟩ := hrel
    by_cases h1 : (k : Int) < p.size
    · by_cases h2 : (k : Int) < q.size
      · have n1 : k < p.size := by omega
        have n2 : k < q.size := by omega
        by_cases he : p[k] = q[k]
        · have hs := hide (take_snoc_eq k p q HA.out n1 n2 he)
          have q1 : ¬ (p[k].toNat : Int) < q[k].toNat := by rw [he]; omega
          have q2 : ¬ (q[k].toNat : Int) < p[k].toNat := by rw [he]; omega
          clear he
          go_wp2_with fail
          go_quiet (fail)
          go_wp2_with fail
          have hB2 := Drew.step hB nq
          generalize wr.drewN nq = wq at hB2 ⊢
          go_quiet (fail)
          go_wp2_with fail
          go_roundw
          case rel => exact ⟨k + 1, by omega, by omega, rfl, hs, Drew.step hB2 _⟩
          case measure => simp [intOf]; omega
        · have hc := textL_at k p q HA.out n1 n2 he
          by_cases q1 : (p[k].toNat : Int) < q[k].toNat
          · have HC := hide (show textL p.data.toList q.data.toList = -1 by rw [hc]; unfold signZ; rw [if_pos (by omega)])
            clear he hc
            go_wp2_with fail
            go_quiet (fail)
            go_wp2_with fail
            refine bodyPost_ret (results_tmp rfl _ _ _) rfl ⟨by rw [HC.out]; rfl, Drew.step hB _⟩
          · have q0 : ¬ (p[k].toNat : Int) = q[k].toNat := fun e => he (UInt8.toNat_inj.1 (by omega))
            have q2 : (q[k].toNat : Int) < p[k].toNat := by omega
            have HC := hide (show textL p.data.toList q.data.toList = 1 by rw [hc]; unfold signZ; rw [if_neg (by omega), if_neg (by omega)])
            clear he hc q0
            go_wp2_with fail
            go_quiet (fail)
            go_wp2_with fail
            have hB2 := Drew.step hB nq
            generalize wr.drewN nq = wq at hB2 ⊢
            go_quiet (fail)
            go_wp2_with fail
            refine bodyPost_ret (results_tmp rfl _ _ _) rfl ⟨by rw [HC.out]; rfl, Drew.step hB2 _⟩
      · have hkq : k = q.size := by omega
        have hc := textL_end p q (by rw [show min p.size q.size = k by omega]; exact HA.out)
        have HC := hide (show textL p.data.toList q.data.toList = 1 by rw [hc]; unfold signZ; rw [if_neg (by omega), if_neg (by omega)])
        have g1 : ¬ (p.size : Int) < q.size := by omega
        have g2 : (q.size : Int) < p.size := by omega
        clear hc
        go_wp2_with fail
        refine bodyPost_ret (results_tmp rfl _ _ _) rfl ⟨by rw [HC.out]; rfl, hB⟩
    · have hkp : k = p.size := by omega
      have hc := textL_end p q (by rw [show min p.size q.size = k by omega]; exact HA.out)
      by_cases g1 : (p.size : Int) < q.size
      · have HC := hide (show textL p.data.toList q.data.toList = -1 by rw [hc]; unfold signZ; rw [if_pos (by omega)])
        clear hc hkp
        go_wp2_with fail
        refine bodyPost_ret (results_tmp rfl _ _ _) rfl ⟨by rw [HC.out]; rfl, hB⟩
      · have HC := hide (show textL p.data.toList q.data.toList = 0 by rw [hc]; unfold signZ; rw [if_neg (by omega), if_pos (by omega)])
        have g2 : ¬ (q.size : Int) < p.size := by omega
        clear hc hkp
        go_wp2_with fail
        refine bodyPost_ret (results_tmp rfl _ _ _) rfl ⟨by rw [HC.out]; rfl, hB⟩

theorem cmpN_same : ∀ (k : Nat) (p q : List (List UInt8)), (∀ i, i < k → ∀ a b, p[i]? = some a → q[i]? = some b → textL a b = 0) → k ≤ p.length → k ≤ q.length → cmpN p q = cmpN (p.drop k) (q.drop k)
  | 0, p, q, _, _, _ => by simp
  | k + 1, a :: p, b :: q, h, h1, h2 => by
    have h0 := h 0 (by omega) a b rfl rfl
    rw [cmpN_eq _ _ h0, List.drop_succ_cons, List.drop_succ_cons]
    exact cmpN_same k p q (fun i hi x y hx hy => h (i + 1) (by omega) x y (by simpa using hx) (by simpa using hy)) (by simpa using h1) (by simpa using h2)
  | k + 1, [], _, _, h1, _ => by simp at h1
  | k + 1, _ :: _, [], _, _, h2 => by simp at h2
/-- The first k names are the same. -/
def Sames (p q : List (List UInt8)) (k : Nat) : Prop := ∀ i, i < k → ∀ a b, p[i]? = some a → q[i]? = some b → textL a b = 0
theorem Sames.zero (p q : List (List UInt8)) : Sames p q 0 := fun i hi => by omega
theorem Sames.succ {p q : List (List UInt8)} {k : Nat} (h : Sames p q k) {a b : List UInt8} (ha : p[k]? = some a) (hb : q[k]? = some b) (e : textL a b = 0) : Sames p q (k + 1) := fun i hi x y hx hy => by
  by_cases hk : i < k
  · exact h i hk x y hx hy
  · obtain rfl : i = k := by omega
    rw [ha] at hx; rw [hb] at hy
    cases hx; cases hy
    exact e
theorem Sames.at_ {p q : List (List UInt8)} {k : Nat} (h : Sames p q k) {a b : List UInt8} (ha : p[k]? = some a) (hb : q[k]? = some b) (e : textL a b ≠ 0) : cmpN p q = textL a b := by
  obtain ⟨l1, e1⟩ := List.getElem?_eq_some_iff.1 ha
  obtain ⟨l2, e2⟩ := List.getElem?_eq_some_iff.1 hb
  rw [cmpN_same k p q h (by omega) (by omega), List.drop_eq_getElem_cons l1, List.drop_eq_getElem_cons l2, e1, e2, cmpN_to _ _ rfl e]
theorem Sames.end_ {p q : List (List UInt8)} {k : Nat} (h : Sames p q k) (hk : k = min p.length q.length) : cmpN p q = signZ ((p.length : Int) - q.length) := by
  rw [cmpN_same k p q h (by omega) (by omega)]
  by_cases hl : p.length ≤ q.length
  · rw [List.drop_of_length_le (l := p) (by omega)]
    cases hd : q.drop k with
    | nil =>
      have := congrArg List.length hd
      simp at this
      rw [show (p.length : Int) - q.length = 0 by omega]; rfl
    | cons c r =>
      have := congrArg List.length hd
      simp at this
      unfold signZ
      rw [if_pos (by omega)]; rfl
  · rw [List.drop_of_length_le (l := q) (by omega)]
    cases hd : p.drop k with
    | nil =>
      have := congrArg List.length hd
      simp at this
      omega
    | cons c r =>
      unfold signZ
      rw [if_neg (by omega), if_neg (by omega)]; rfl

set_option maxHeartbeats 2000000 in
theorem refCmp_any (p q : ByteArray) (w : World) (hp : (p.size : Int) ≤ 1000000) (hq : (q.size : Int) ≤ 1000000) :
    Calls Tryz.prog 35 #[.string p, .string q] w fun e w' => e = .returned (.int .i64 (cmpL (toL p) (toL q))) ∧ Below w.heap.size w w' := by
  go_enter Tryz.func35, Tryz.ntmps35
  go_wp2_with fail
  refine (refCut_any p w hp).mono ?_
  rintro e w1 ⟨A, c, cs, rfl, hcs, _, hR1, hB1⟩
  go_wp2_with fail
  refine (refCut_any q w1 hq).mono ?_
  rintro e w2 ⟨B, d, ds, rfl, hds, _, hS, hB2⟩
  have hB := hB1.trans (hB2.mono hB1.size)
  have hR := (hR1.below hB2 (Nat.le_refl _)).mono hB2.size
  have HM := hide (show cmpL (toL p) (toL q) = cmpN (cs.map toL) (ds.map toL) by rw [hcs, hds, cmpN_cut])
  have hn : (cs.length : Int) ≤ 1000001 := by
    have := cut_count (toL p)
    rw [← hcs] at this
    simp [toL] at this
    omega
  have hm : (ds.length : Int) ≤ 1000001 := by
    have := cut_count (toL q)
    rw [← hds] at this
    simp [toL] at this
    omega
  have HP : ∀ (k : Nat) (x : ByteArray), cs[k]? = some x → (x.size : Int) ≤ 9223372036854775800 := fun k x hx => by have := piece_size hcs hx; simp [toL] at this; omega
  have HQ := hide HP
  clear HP hcs hds hB1 hB2 hR1
  go_wp2_with fail
  go_loopw [7] (fun i wr => ∃ k : Nat, k ≤ cs.length ∧ k ≤ ds.length ∧ i = .int .i64 k ∧ Hid (Sames (cs.map toL) (ds.map toL) k) ∧ Drew w2 wr) (fun i _ => cs.length - (intOf i).toNat)
  case atStart => exact ⟨0, Nat.zero_le _, Nat.zero_le _, rfl, hide (Sames.zero _ _), Drew.refl _⟩
  case round =>
    obtain ⟨k, hk, hk', rfl, HA, hD⟩ := hrel
    have hBr : Below w.heap.size w wr := by obtain ⟨n, rfl⟩ := hD; exact below_drewN hB n
    have hRr : Rd wr w2.heap.size A cs := by obtain ⟨n, rfl⟩ := hD; exact hR
    have hSr : Rd wr w2.heap.size B ds := by obtain ⟨n, rfl⟩ := hD; exact hS
    clear hR hS hB
    by_cases l1 : (k : Int) < cs.length
    · by_cases l2 : (k : Int) < ds.length
      · have n1 : k < cs.length := by omega
        have n2 : k < ds.length := by omega
        have g1 := List.getElem?_eq_getElem n1
        have g2 := List.getElem?_eq_getElem n2
        obtain ⟨ad, rfl, _, hc⟩ := hRr k _ g1
        obtain ⟨bd, rfl, _, hd⟩ := hSr k _ g2
        have G1 := hide (show (cs.map toL)[k]? = some (toL cs[k]) by rw [List.getElem?_map, g1]; rfl)
        have G2 := hide (show (ds.map toL)[k]? = some (toL ds[k]) by rw [List.getElem?_map, g2]; rfl)
        have hz := HQ.out k _ g1
        clear g1 g2
        by_cases ht : textL cs[k].data.toList ds[k].data.toList = 0
        · have HS := hide (HA.out.succ G1.out G2.out ht)
          go_wp2_with fail
          go_quiet ((go_at_call 56; exact Calls.quiet_of (text_quiet _ _ _ hz)))
          have hD2 := hD.step nq
          clear hD hc hd hBr hRr hSr
          generalize wr.drewN nq = wq at hD2 ⊢
          go_wp2_with fail
          go_roundw
          case rel => exact ⟨k + 1, by omega, by omega, rfl, HS, hD2⟩
          case measure => simp [intOf]; omega
        · have HE := hide (show cmpL (toL p) (toL q) = textL cs[k].data.toList ds[k].data.toList by rw [HM.out]; exact HA.out.at_ G1.out G2.out ht)
          have hne : (textL cs[k].data.toList ds[k].data.toList != 0) = true := by simpa [bne_iff_ne] using ht
          go_wp2_with fail
          go_quiet ((go_at_call 56; exact Calls.quiet_of (text_quiet _ _ _ hz)))
          go_wp2_with fail
          refine bodyPost_ret (results_tmp rfl _ _ _) rfl ⟨by rw [HE.out]; rfl, below_drewN hBr _⟩
      · have hE := HA.out.end_ (by simp; omega)
        have HE := hide (show cmpL (toL p) (toL q) = 1 by
          rw [HM.out, hE]; simp only [List.length_map]; unfold signZ; rw [if_neg (by omega), if_neg (by omega)])
        have g1 : ¬ (cs.length : Int) < ds.length := by omega
        have g2 : (ds.length : Int) < cs.length := by omega
        clear hE
        go_wp2_with fail
        refine bodyPost_ret (results_tmp rfl _ _ _) rfl ⟨by rw [HE.out]; rfl, hBr⟩
    · have hE := HA.out.end_ (by simp; omega)
      by_cases g1 : (cs.length : Int) < ds.length
      · have HE := hide (show cmpL (toL p) (toL q) = -1 by
          rw [HM.out, hE]; simp only [List.length_map]; unfold signZ; rw [if_pos (by omega)])
        clear hE
        go_wp2_with fail
        refine bodyPost_ret (results_tmp rfl _ _ _) rfl ⟨by rw [HE.out]; rfl, hBr⟩
      · have HE := hide (show cmpL (toL p) (toL q) = 0 by
          rw [HM.out, hE]; simp only [List.length_map]; unfold signZ; rw [if_neg (by omega), if_pos (by omega)])
        have g2 : ¬ (ds.length : Int) < cs.length := by omega
        clear hE
        go_wp2_with fail
        refine bodyPost_ret (results_tmp rfl _ _ _) rfl ⟨by rw [HE.out]; rfl, hBr⟩
end Go.Proofs.YteoafohebgfjdaaGreatDoor
