/-
  What stands between slashes, as a list: putting together again, prefixes, the order name by name.
-/
import Derived.Test.YtlohoamhgioheaaDoorPathNamesL
namespace Go.Proofs.YtlohoamhgioheaaDoor
open Go.RowKit
set_option maxRecDepth 100000

/-- The names between slashes; none of the empty text. -/
def cutL (p : List UInt8) : List (List UInt8) := if p.isEmpty then [] else splitL p
/-- Names with slashes between. -/
def glueL : List (List UInt8) → List UInt8
  | [] => []
  | [x] => x
  | x :: y :: r => x ++ 47 :: glueL (y :: r)

theorem splitL_snoc : ∀ l : List UInt8, ∃ a x, splitL l = a ++ [x] ∧ splitL (l ++ [47]) = a ++ [x] ++ [[]] ∧ ∀ c : UInt8, (c == 47) = false → splitL (l ++ [c]) = a ++ [x ++ [c]]
  | [] => ⟨[], [], rfl, rfl, fun c h => by simp [splitL, h]⟩
  | d :: r => by
    obtain ⟨a, x, h0, h1, h2⟩ := splitL_snoc r
    by_cases hd : (d == 47) = true
    · refine ⟨[] :: a, x, by simp [splitL, hd, h0], by simp [splitL, hd, h1], fun c hc => by simp [splitL, hd, h2 c hc]⟩
    · have hd : (d == 47) = false := by simpa using hd
      cases a with
      | nil => exact ⟨[], d :: x, by simp [splitL, hd, h0], by simp [splitL, hd, h1], fun c hc => by simp [splitL, hd, h2 c hc]⟩
      | cons b t => exact ⟨(d :: b) :: t, x, by simp [splitL, hd, h0], by simp [splitL, hd, h1], fun c hc => by simp [splitL, hd, h2 c hc]⟩

theorem glue_cons (x : List UInt8) (r : List (List UInt8)) (h : r ≠ []) : glueL (x :: r) = x ++ 47 :: glueL r := by
  cases r with
  | nil => exact absurd rfl h
  | cons => rfl
theorem glue_split : ∀ l : List UInt8, glueL (splitL l) = l
  | [] => rfl
  | c :: r => by
    have ih := glue_split r
    by_cases hc : (c == 47) = true
    · have e : c = 47 := by simpa using hc
      unfold splitL
      rw [if_pos hc, glue_cons _ _ (splitL_ne r), ih, e]; rfl
    · unfold splitL
      rw [if_neg hc]
      cases hs : splitL r with
      | nil => exact absurd hs (splitL_ne r)
      | cons h t =>
        rw [hs] at ih
        cases t with
        | nil => simp [glueL] at ih ⊢; exact ih
        | cons y z => simp only [glueL] at ih ⊢; simp [ih]
theorem glue_cut (l : List UInt8) : glueL (cutL l) = l := by
  unfold cutL
  split
  · rename_i h; rw [List.isEmpty_iff.1 h]; rfl
  · exact glue_split l
theorem glue_append : ∀ (a r : List (List UInt8)), a ≠ [] → r ≠ [] → glueL (a ++ r) = glueL a ++ 47 :: glueL r
  | [], _, h, _ => absurd rfl h
  | [x], r, _, h => glue_cons x r h
  | x :: y :: t, r, _, h => by
    rw [List.cons_append, glue_cons _ _ (by simp), glue_append (y :: t) r (by simp) h, glue_cons x (y :: t) (by simp)]
    simp
theorem split_append : ∀ (t y : List UInt8), splitL (t ++ 47 :: y) = splitL t ++ splitL y
  | [], y => by simp [splitL]
  | c :: r, y => by
    have ih := split_append r y
    by_cases hc : (c == 47) = true
    · simp [splitL, hc, ih]
    · have hc : (c == 47) = false := by simpa using hc
      simp only [List.cons_append, splitL, hc, ih, Bool.false_eq_true, if_false]
      cases hs : splitL r with
      | nil => exact absurd hs (splitL_ne r)
      | cons h t => simp
theorem cut_ne (p : List UInt8) (h : p ≠ []) : cutL p = splitL p := by unfold cutL; rw [if_neg (by simpa using h)]
theorem cut_nil : cutL [] = [] := rfl
theorem right_cut (p : List UInt8) : rightL p = ((cutL p).all nameL && decide ((cutL p).length ≤ 16)) := by
  unfold rightL cutL
  split
  · rename_i h; rw [h]; rfl
  · rename_i h; simp only [Bool.not_eq_true] at h; rw [h, Bool.false_or]
theorem names_cut (p : List UInt8) : namesL p = if rightL p then cutL p else [] := by
  unfold namesL cutL
  cases p.isEmpty <;> cases rightL p <;> rfl
theorem letters_noslash (hl : letter 47 = false) : ∀ x : List UInt8, x.all (fun c => letter c.toNat) = true → splitL x = [x]
  | [], _ => rfl
  | c :: r, h => by
    rw [List.all_cons, Bool.and_eq_true] at h
    unfold splitL
    rw [if_neg, letters_noslash hl r h.2]
    intro e
    have e : c = 47 := by simpa using e
    subst e
    have := h.1
    rw [show ((47 : UInt8).toNat : Int) = 47 from rfl, hl] at this
    cases this
/-- A name has no slash, and is not empty. -/
theorem name_noslash (hl : letter 47 = false) (x : List UInt8) (h : nameL x = true) : x ≠ [] ∧ splitL x = [x] := by
  unfold nameL at h
  simp only [Bool.and_eq_true] at h
  refine ⟨?_, letters_noslash hl x h.2⟩
  rintro rfl; simp at h
theorem split_glue (hl : letter 47 = false) : ∀ l : List (List UInt8), l.all nameL = true → l ≠ [] → splitL (glueL l) = l
  | [], _, h => absurd rfl h
  | [x], h, _ => by
    simp at h
    exact (name_noslash hl x h).2
  | x :: y :: r, h, _ => by
    rw [List.all_cons, Bool.and_eq_true] at h
    rw [glue_cons _ _ (by simp), split_append, (name_noslash hl x h.1).2, split_glue hl (y :: r) h.2 (by simp)]; rfl
theorem glue_ne (hl : letter 47 = false) (l : List (List UInt8)) (h : l.all nameL = true) (hne : l ≠ []) : glueL l ≠ [] := by
  cases l with
  | nil => exact absurd rfl hne
  | cons x r =>
    rw [List.all_cons, Bool.and_eq_true] at h
    have := (name_noslash hl x h.1).1
    cases r with
    | nil => exact this
    | cons y z => rw [glue_cons _ _ (by simp)]; simp
theorem cut_glue (hl : letter 47 = false) (l : List (List UInt8)) (h : l.all nameL = true) : cutL (glueL l) = l := by
  by_cases hne : l = []
  · subst hne; rfl
  · rw [cut_ne _ (glue_ne hl l h hne), split_glue hl l h hne]

theorem split_slash (l : List UInt8) : splitL (47 :: l) = [] :: splitL l := rfl
theorem split_other {a : UInt8} (ha : a ≠ 47) {l h : List UInt8} {t : List (List UInt8)} (hs : splitL l = h :: t) : splitL (a :: l) = (a :: h) :: t := by
  have ha' : (a == 47) = false := by simpa using ha
  simp only [splitL, ha', hs, if_false, Bool.false_eq_true]
theorem split_some (l : List UInt8) : ∃ h t, splitL l = h :: t := by
  cases hs : splitL l with
  | nil => exact absurd hs (splitL_ne l)
  | cons h t => exact ⟨h, t, rfl⟩
theorem letter_slash : letter 47 = false := by rfl
end Go.Proofs.YtlohoamhgioheaaDoor
