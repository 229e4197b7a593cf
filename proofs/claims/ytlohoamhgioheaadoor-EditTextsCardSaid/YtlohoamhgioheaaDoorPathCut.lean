/-
  What stands between slashes, as a list: putting together again, prefixes, the order name by name.
-/
import Derived.Test.YtlohoamhgioheaaDoorPathGlue
import Derived.Test.YtlohoamhgioheaaDoorPathTextL
import Derived.Test.YtlohoamhgioheaaDoorPathWithin
namespace Go.Proofs.YtlohoamhgioheaaDoor
open Go.RowKit
set_option maxRecDepth 100000

theorem edge_split (t p : List UInt8) : (∃ y, p = t ++ y ∧ edge y) ↔ splitL t <+: splitL p := by
  constructor
  · rintro ⟨y, rfl, rfl | ⟨z, rfl⟩⟩
    · simp
    · rw [split_append]; exact List.prefix_append _ _
  · rintro ⟨r, hr⟩
    cases r with
    | nil =>
      rw [List.append_nil] at hr
      have := glue_split p
      rw [← hr, glue_split] at this
      exact ⟨[], by simp [this], .inl rfl⟩
    | cons x z =>
      have := glue_split p
      rw [← hr, glue_append _ _ (splitL_ne t) (by simp), glue_split] at this
      exact ⟨_, this.symm, .inr ⟨_, rfl⟩⟩
theorem cut_prefix (t p : List UInt8) : (t = [] ∨ ∃ y, p = t ++ y ∧ edge y) ↔ cutL t <+: cutL p := by
  by_cases ht : t = []
  · subst ht; simp [cut_nil]
  · by_cases hp : p = []
    · subst hp
      have hs := splitL_ne t
      simp [ht, cut_nil, cut_ne t ht, hs]
    · rw [edge_split, cut_ne t ht, cut_ne p hp]; simp [ht]
theorem within_cut (p t : List UInt8) : withinL p t ↔ rightL p = true ∧ rightL t = true ∧ cutL t <+: cutL p := by
  unfold withinL; rw [cut_prefix]
/-- Names, held against each other one by one. -/
def cmpN : List (List UInt8) → List (List UInt8) → Int
  | [], [] => 0
  | [], _ :: _ => -1
  | _ :: _, [] => 1
  | a :: p, b :: q => if textL a b = 0 then cmpN p q else textL a b
theorem cmpN_eq {a b : List UInt8} (p q : List (List UInt8)) (h : textL a b = 0) : cmpN (a :: p) (b :: q) = cmpN p q := by simp only [cmpN, h, if_true]
theorem cmpN_to {a b : List UInt8} {c : Int} (p q : List (List UInt8)) (h : textL a b = c) (hc : c ≠ 0) : cmpN (a :: p) (b :: q) = c := by
  unfold cmpN; rw [h, if_neg hc]
theorem rankZ_other {a : UInt8} (ha : a ≠ 47) : rankZ a.toNat = a.toNat := by
  unfold rankZ
  rw [if_neg]
  intro e
  exact ha (UInt8.toNat_inj.1 (by rw [show (47 : UInt8).toNat = 47 from rfl]; omega))
theorem cmpN_split : ∀ p q : List UInt8, cmpN (splitL p) (splitL q) = cmpL p q
  | [], [] => rfl
  | [], b :: q => by
    by_cases hb : b = 47
    · obtain ⟨h, t, hs⟩ := split_some q
      subst hb
      rw [split_slash, hs]; rfl
    · obtain ⟨h, t, hs⟩ := split_some q
      rw [split_other hb hs]; rfl
  | a :: p, [] => by
    by_cases hb : a = 47
    · obtain ⟨h, t, hs⟩ := split_some p
      subst hb
      rw [split_slash, hs]; rfl
    · obtain ⟨h, t, hs⟩ := split_some p
      rw [split_other hb hs]; rfl
  | a :: p, b :: q => by
    have ih := cmpN_split p q
    obtain ⟨h, t, hs⟩ := split_some p
    obtain ⟨h', t', hs'⟩ := split_some q
    by_cases ha : a = 47 <;> by_cases hb : b = 47
    · subst ha; subst hb
      rw [split_slash, split_slash, cmpN_eq _ _ rfl, ih]; simp [cmpL]
    · subst ha
      rw [split_slash, split_other hb hs', cmpN_to (c := -1) _ _ rfl (by decide)]
      simp only [cmpL, show ¬ (47 : UInt8) = b from fun e => hb e.symm, if_false]
      rw [rankZ_other hb]
      unfold signZ
      rw [show rankZ ((47 : UInt8).toNat : Int) = -1 from rfl, if_pos (by omega)]
    · subst hb
      rw [split_slash, split_other ha hs, cmpN_to (c := 1) _ _ rfl (by decide)]
      simp only [cmpL, ha, if_false]
      rw [rankZ_other ha]
      unfold signZ
      rw [show rankZ ((47 : UInt8).toNat : Int) = -1 from rfl, if_neg (by omega), if_neg (by omega)]
    · rw [split_other ha hs, split_other hb hs']
      rw [hs, hs'] at ih
      by_cases hab : a = b
      · subst hab
        rw [show cmpL (a :: p) (a :: q) = cmpL p q by simp [cmpL], ← ih]
        by_cases hz : textL h h' = 0
        · rw [cmpN_eq _ _ hz, cmpN_eq _ _ (by simp [textL, hz])]
        · rw [cmpN_to _ _ rfl hz, cmpN_to (c := textL h h') _ _ (by simp [textL]) hz]
      · have hn : ¬ a.toNat = b.toNat := fun e => hab (UInt8.toNat_inj.1 e)
        have e1 : textL (a :: h) (b :: h') = signZ ((a.toNat : Int) - b.toNat) := by simp [textL, hab]
        have e2 : cmpL (a :: p) (b :: q) = signZ (rankZ a.toNat - rankZ b.toNat) := by simp [cmpL, hab]
        rw [e2, rankZ_other ha, rankZ_other hb, cmpN_to _ _ e1]
        unfold signZ
        split
        · decide
        · rw [if_neg (by omega)]; decide
theorem cmpN_cut (p q : List UInt8) : cmpN (cutL p) (cutL q) = cmpL p q := by
  by_cases hp : p = [] <;> by_cases hq : q = []
  · subst hp; subst hq; rfl
  · subst hp
    rw [cut_ne q hq, cut_nil]
    cases hs : splitL q with
    | nil => exact absurd hs (splitL_ne q)
    | cons h t => cases q with
      | nil => exact absurd rfl hq
      | cons => rfl
  · subst hq
    rw [cut_ne p hp, cut_nil]
    cases hs : splitL p with
    | nil => exact absurd hs (splitL_ne p)
    | cons h t => cases p with
      | nil => exact absurd rfl hp
      | cons => rfl
  · rw [cut_ne p hp, cut_ne q hq, cmpN_split]
end Go.Proofs.YtlohoamhgioheaaDoor
