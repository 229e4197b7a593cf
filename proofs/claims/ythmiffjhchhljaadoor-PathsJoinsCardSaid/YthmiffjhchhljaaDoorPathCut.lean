/-
  What stands between slashes, as a list: putting together again, prefixes, the order name by name.
-/
import Derived.Test.YthmiffjhchhljaaDoorPathNames
import Derived.Test.YthmiffjhchhljaaDoorPathRefText
import Derived.Test.YthmiffjhchhljaaDoorPathWithin
namespace Go.Proofs.YthmiffjhchhljaaDoor
open Go.RowKit
set_option maxRecDepth 100000

/-- The names between slashes; none of the empty text. -/
def cutL (p : List UInt8) : List (List UInt8) := if p.isEmpty then [] else splitL p
/-- Names with slashes between. -/
def glueL : List (List UInt8) → List UInt8
  | [] => []
  | [x] => x
  | x :: y :: r => x ++ 47 :: glueL (y :: r)

theorem splitL_snoc : ∀ l : List UInt8, ∃ a x, splitL l = a ++ [x] ∧ splitL (l ++ [47]) = a ++ [x] ++ [[]] ∧ ∀ c : UInt8, (c == 47) = false → splitL (l ++ [c]) = a ++ [x ++ [c]]
  | [] => ⟨[], [], rfl, rfl, fun c h => by simp [splitL, h]⟩
  | d :: r => by
    obtain ⟨a, x, h0, h1, h2⟩ := splitL_snoc r
    by_cases hd : (d == 47) = true
    · refine ⟨[] :: a, x, by simp [splitL, hd, h0], by simp [splitL, hd, h1], fun c hc => by simp [splitL, hd, h2 c hc]⟩
    · have hd : (d == 47) = false := by simpa using hd
      cases a with
      | nil => exact ⟨[], d :: x, by simp [splitL, hd, h0], by simp [splitL, hd, h1], fun c hc => by simp [splitL, hd, h2 c hc]⟩
      | cons b t => exact ⟨(d :: b) :: t, x, by simp [splitL, hd, h0], by simp [splitL, hd, h1], fun c hc => by simp [splitL, hd, h2 c hc]⟩

theorem glue_cons (x : List UInt8) (r : List (List UInt8)) (h : r ≠ []) : glueL (x :: r) = x ++ 47 :: glueL r := by
  cases r with
  | nil => exact absurd rfl h
  | cons => rfl
theorem glue_split : ∀ l : List UInt8, glueL (splitL l) = l
  | [] => rfl
  | c :: r => by
    have ih := glue_split r
    by_cases hc : (c == 47) = true
    · have e : c = 47 := by simpa using hc
      unfold splitL
      rw [if_pos hc, glue_cons _ _ (splitL_ne r), ih, e]; rfl
    · unfold splitL
      rw [if_neg hc]
      cases hs : splitL r with
      | nil => exact absurd hs (splitL_ne r)
      | cons h t =>
        rw [hs] at ih
        cases t with
        | nil => simp [glueL] at ih ⊢; exact ih
        | cons y z => simp only [glueL] at ih ⊢; simp [ih]
theorem glue_cut (l : List UInt8) : glueL (cutL l) = l := by
  unfold cutL
  split
  · rename_i h; rw [List.isEmpty_iff.1 h]; rfl
  · exact glue_split l
theorem glue_append : ∀ (a r : List (List UInt8)), a ≠ [] → r ≠ [] → glueL (a ++ r) = glueL a ++ 47 :: glueL r
  | [], _, h, _ => absurd rfl h
  | [x], r, _, h => glue_cons x r h
  | x :: y :: t, r, _, h => by
    rw [List.cons_append, glue_cons _ _ (by simp), glue_append (y :: t) r (by simp) h, glue_cons x (y :: t) (by simp)]
    simp
theorem split_append : ∀ (t y : List UInt8), splitL (t ++ 47 :: y) = splitL t ++ splitL y
  | [], y => by simp [splitL]
  | c :: r, y => by
    have ih := split_append r y
    by_cases hc : (c == 47) = true
    · simp [splitL, hc, ih]
    · have hc : (c == 47) = false := by simpa using hc
      simp only [List.cons_append, splitL, hc, ih, Bool.false_eq_true, if_false]
      cases hs : splitL r with
      | nil => exact absurd hs (splitL_ne r)
      | cons h t => simp
theorem edge_split (t p : List UInt8) : (∃ y, p = t ++ y ∧ edge y) ↔ splitL t <+: splitL p := by
  constructor
  · rintro ⟨y, rfl, rfl | ⟨z, rfl⟩⟩
    · simp
    · rw [split_append]; exact List.prefix_append _ _
  · rintro ⟨r, hr⟩
    cases r with
    | nil =>
      rw [List.append_nil] at hr
      have := glue_split p
      rw [← hr, glue_split] at this
      exact ⟨[], by simp [this], .inl rfl⟩
    | cons x z =>
      have := glue_split p
      rw [← hr, glue_append _ _ (splitL_ne t) (by simp), glue_split] at this
      exact ⟨_, this.symm, .inr ⟨_, rfl⟩⟩
theorem cut_ne (p : List UInt8) (h : p ≠ []) : cutL p = splitL p := by unfold cutL; rw [if_neg (by simpa using h)]
theorem cut_nil : cutL [] = [] := rfl
theorem cut_prefix (t p : List UInt8) : (t = [] ∨ ∃ y, p = t ++ y ∧ edge y) ↔ cutL t <+: cutL p := by
  by_cases ht : t = []
  · subst ht; simp [cut_nil]
  · by_cases hp : p = []
    · subst hp
      have hs := splitL_ne t
      simp [ht, cut_nil, cut_ne t ht, hs]
    · rw [edge_split, cut_ne t ht, cut_ne p hp]; simp [ht]
theorem right_cut (p : List UInt8) : rightL p = ((cutL p).all nameL && decide ((cutL p).length ≤ 16)) := by
  unfold rightL cutL
  split
  · rename_i h; rw [h]; rfl
  · rename_i h; simp only [Bool.not_eq_true] at h; rw [h, Bool.false_or]
theorem names_cut (p : List UInt8) : namesL p = if rightL p then cutL p else [] := by
  unfold namesL cutL
  cases p.isEmpty <;> cases rightL p <;> rfl
theorem within_cut (p t : List UInt8) : withinL p t ↔ rightL p = true ∧ rightL t = true ∧ cutL t <+: cutL p := by
  unfold withinL; rw [cut_prefix]
theorem letters_noslash (hl : letter 47 = false) : ∀ x : List UInt8, x.all (fun c => letter c.toNat) = true → splitL x = [x]
  | [], _ => rfl
  | c :: r, h => by
    rw [List.all_cons, Bool.and_eq_true] at h
    unfold splitL
    rw [if_neg, letters_noslash hl r h.2]
    intro e
    have e : c = 47 := by simpa using e
    subst e
    have := h.1
    rw [show ((47 : UInt8).toNat : Int) = 47 from rfl, hl] at this
    cases this
/-- A name has no slash, and is not empty. -/
theorem name_noslash (hl : letter 47 = false) (x : List UInt8) (h : nameL x = true) : x ≠ [] ∧ splitL x = [x] := by
  unfold nameL at h
  simp only [Bool.and_eq_true] at h
  refine ⟨?_, letters_noslash hl x h.2⟩
  rintro rfl; simp at h
theorem split_glue (hl : letter 47 = false) : ∀ l : List (List UInt8), l.all nameL = true → l ≠ [] → splitL (glueL l) = l
  | [], _, h => absurd rfl h
  | [x], h, _ => by
    simp at h
    exact (name_noslash hl x h).2
  | x :: y :: r, h, _ => by
    rw [List.all_cons, Bool.and_eq_true] at h
    rw [glue_cons _ _ (by simp), split_append, (name_noslash hl x h.1).2, split_glue hl (y :: r) h.2 (by simp)]; rfl
theorem glue_ne (hl : letter 47 = false) (l : List (List UInt8)) (h : l.all nameL = true) (hne : l ≠ []) : glueL l ≠ [] := by
  cases l with
  | nil => exact absurd rfl hne
  | cons x r =>
    rw [List.all_cons, Bool.and_eq_true] at h
    have := (name_noslash hl x h.1).1
    cases r with
    | nil => exact this
    | cons y z => rw [glue_cons _ _ (by simp)]; simp
theorem cut_glue (hl : letter 47 = false) (l : List (List UInt8)) (h : l.all nameL = true) : cutL (glueL l) = l := by
  by_cases hne : l = []
  · subst hne; rfl
  · rw [cut_ne _ (glue_ne hl l h hne), split_glue hl l h hne]

/-- Names, held against each other one by one. -/
def cmpN : List (List UInt8) → List (List UInt8) → Int
  | [], [] => 0
  | [], _ :: _ => -1
  | _ :: _, [] => 1
  | a :: p, b :: q => if textL a b = 0 then cmpN p q else textL a b
theorem cmpN_eq {a b : List UInt8} (p q : List (List UInt8)) (h : textL a b = 0) : cmpN (a :: p) (b :: q) = cmpN p q := by simp only [cmpN, h, if_true]
theorem cmpN_to {a b : List UInt8} {c : Int} (p q : List (List UInt8)) (h : textL a b = c) (hc : c ≠ 0) : cmpN (a :: p) (b :: q) = c := by
  unfold cmpN; rw [h, if_neg hc]
theorem split_slash (l : List UInt8) : splitL (47 :: l) = [] :: splitL l := rfl
theorem split_other {a : UInt8} (ha : a ≠ 47) {l h : List UInt8} {t : List (List UInt8)} (hs : splitL l = h :: t) : splitL (a :: l) = (a :: h) :: t := by
  have ha' : (a == 47) = false := by simpa using ha
  simp only [splitL, ha', hs, if_false, Bool.false_eq_true]
theorem split_some (l : List UInt8) : ∃ h t, splitL l = h :: t := by
  cases hs : splitL l with
  | nil => exact absurd hs (splitL_ne l)
  | cons h t => exact ⟨h, t, rfl⟩
theorem rankZ_other {a : UInt8} (ha : a ≠ 47) : rankZ a.toNat = a.toNat := by
  unfold rankZ
  rw [if_neg]
  intro e
  exact ha (UInt8.toNat_inj.1 (by rw [show (47 : UInt8).toNat = 47 from rfl]; omega))
theorem cmpN_split : ∀ p q : List UInt8, cmpN (splitL p) (splitL q) = cmpL p q
  | [], [] => rfl
  | [], b :: q => by
    by_cases hb : b = 47
    · obtain ⟨h, t, hs⟩ := split_some q
      subst hb
      rw [split_slash, hs]; rfl
    · obtain ⟨h, t, hs⟩ := split_some q
      rw [split_other hb hs]; rfl
  | a :: p, [] => by
    by_cases hb : a = 47
    · obtain ⟨h, t, hs⟩ := split_some p
      subst hb
      rw [split_slash, hs]; rfl
    · obtain ⟨h, t, hs⟩ := split_some p
      rw [split_other hb hs]; rfl
  | a :: p, b :: q => by
    have ih := cmpN_split p q
    obtain ⟨h, t, hs⟩ := split_some p
    obtain ⟨h', t', hs'⟩ := split_some q
    by_cases ha : a = 47 <;> by_cases hb : b = 47
    · subst ha; subst hb
      rw [split_slash, split_slash, cmpN_eq _ _ rfl, ih]; simp [cmpL]
    · subst ha
      rw [split_slash, split_other hb hs', cmpN_to (c := -1) _ _ rfl (by decide)]
      simp only [cmpL, show ¬ (47 : UInt8) = b from fun e => hb e.symm, if_false]
      rw [rankZ_other hb]
      unfold signZ
      rw [show rankZ ((47 : UInt8).toNat : Int) = -1 from rfl, if_pos (by omega)]
    · subst hb
      rw [split_slash, split_other ha hs, cmpN_to (c := 1) _ _ rfl (by decide)]
      simp only [cmpL, ha, if_false]
      rw [rankZ_other ha]
      unfold signZ
      rw [show rankZ ((47 : UInt8).toNat : Int) = -1 from rfl, if_neg (by omega), if_neg (by omega)]
    · rw [split_other ha hs, split_other hb hs']
      rw [hs, hs'] at ih
      by_cases hab : a = b
      · subst hab
        rw [show cmpL (a :: p) (a :: q) = cmpL p q by simp [cmpL], ← ih]
        by_cases hz : textL h h' = 0
        · rw [cmpN_eq _ _ hz, cmpN_eq _ _ (by simp [textL, hz])]
        · rw [cmpN_to _ _ rfl hz, cmpN_to (c := textL h h') _ _ (by simp [textL]) hz]
      · have hn : ¬ a.toNat = b.toNat := fun e => hab (UInt8.toNat_inj.1 e)
        have e1 : textL (a :: h) (b :: h') = signZ ((a.toNat : Int) - b.toNat) := by simp [textL, hab]
        have e2 : cmpL (a :: p) (b :: q) = signZ (rankZ a.toNat - rankZ b.toNat) := by simp [cmpL, hab]
        rw [e2, rankZ_other ha, rankZ_other hb, cmpN_to _ _ e1]
        unfold signZ
        split
        · decide
        · rw [if_neg (by omega)]; decide
theorem cmpN_cut (p q : List UInt8) : cmpN (cutL p) (cutL q) = cmpL p q := by
  by_cases hp : p = [] <;> by_cases hq : q = []
  · subst hp; subst hq; rfl
  · subst hp
    rw [cut_ne q hq, cut_nil]
    cases hs : splitL q with
    | nil => exact absurd hs (splitL_ne q)
    | cons h t => cases q with
      | nil => exact absurd rfl hq
      | cons => rfl
  · subst hq
    rw [cut_ne p hp, cut_nil]
    cases hs : splitL p with
    | nil => exact absurd hs (splitL_ne p)
    | cons h t => cases p with
      | nil => exact absurd rfl hp
      | cons => rfl
  · rw [cut_ne p hp, cut_ne q hq, cmpN_split]
theorem letter_slash : letter 47 = false := by rfl
end Go.Proofs.YthmiffjhchhljaaDoor
