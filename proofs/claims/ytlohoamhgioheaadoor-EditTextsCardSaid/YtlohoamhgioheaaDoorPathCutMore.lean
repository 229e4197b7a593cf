/-
  Moves, parents, last names and the paths above, over lists of names.
-/
import Derived.Test.YtlohoamhgioheaaDoorPathCut
import Derived.Test.YtlohoamhgioheaaDoorPathUpsL
import Derived.Test.YtlohoamhgioheaaDoorPathWithin
import Derived.Test.YtlohoamhgioheaaDoorAutoPathMovedL
namespace Go.Proofs.YtlohoamhgioheaaDoor
open Go.RowKit
set_option maxRecDepth 100000

theorem data_ext (s : ByteArray) (i j : Nat) : toL (s.extract i j) = ((toL s).take j).drop i := by unfold toL; rw [Lib.extract_data, List.drop_take]
theorem data_app (s t : ByteArray) : toL (s ++ t) = toL s ++ toL t := by simp [toL]
def movedL (p a b : List UInt8) : List (List UInt8) := cutL b ++ (cutL p).drop (cutL a).length
def withinB (p t : List UInt8) : Bool := rightL p && rightL t && (cutL t).isPrefixOf (cutL p)
theorem withinB_iff (p t : List UInt8) : withinB p t = true ↔ withinL p t := by
  rw [within_cut]; unfold withinB
  rw [Bool.and_eq_true, Bool.and_eq_true, List.isPrefixOf_iff_prefix, and_assoc]
theorem okB_eq (p t : ByteArray) : okB p t = withinB (toL p) (toL t) := by
  rw [Bool.eq_iff_iff, okB_iff, withinB_iff]
theorem restB_cut (p a : ByteArray) (h : okB p a = true) (D : List (List UInt8)) (hD : cutL (toL p) = cutL (toL a) ++ D) : toL (restB p a) = if D = [] then [] else 47 :: glueL D := by
  obtain ⟨h1, h2, h3⟩ := (okB_iff p a).1 h
  unfold restB
  rw [h1, h2]
  simp only [Bool.not_true, Bool.or_self, Bool.false_eq_true, if_false]
  by_cases ha : toL a = []
  · rw [ha, cut_nil, List.nil_append] at hD
    subst hD
    rw [(toL_empty a).2 ha]
    cases hp : p.toList.isEmpty with
    | true =>
      have hp' := (toL_empty p).1 hp
      simp only [Bool.not_true, Bool.and_false, Bool.false_eq_true, if_false]
      obtain ⟨_, b⟩ := restP_data p a [] (by rw [hp', ha]; rfl)
      rw [b, hp', cut_nil, if_pos rfl]
    | false =>
      have hp' : toL p ≠ [] := fun e => by rw [(toL_empty p).2 e] at hp; cases hp
      simp only [Bool.not_false, Bool.and_self, if_true]
      rw [data_app, cut_ne _ hp', if_neg (splitL_ne _), glue_split]; rfl
  · have he : a.toList.isEmpty = false := by
      cases h : a.toList.isEmpty with
      | false => rfl
      | true => exact absurd ((toL_empty a).1 h) ha
    rw [he]
    simp only [Bool.false_and, Bool.false_eq_true, if_false]
    obtain ⟨y, hy, hedge⟩ := h3.resolve_left ha
    obtain ⟨_, b⟩ := restP_data p a y hy
    rw [b]
    have hp' : toL p ≠ [] := by rw [hy]; simp [ha]
    rw [cut_ne _ hp', cut_ne _ ha] at hD
    rcases hedge with rfl | ⟨z, rfl⟩
    · rw [List.append_nil] at hy
      rw [hy] at hD
      have : D = [] := by
        have := congrArg List.length hD
        rw [List.length_append] at this
        exact List.eq_nil_of_length_eq_zero (by omega)
      rw [if_pos this]
    · rw [hy, split_append] at hD
      have hD := List.append_cancel_left hD
      subst hD
      rw [if_neg (splitL_ne _), glue_split]
theorem moved_of (p a b : ByteArray) (D : List (List UInt8)) (hR : toL (restB p a) = if D = [] then [] else 47 :: glueL D) : toL (movedB p a b) = glueL (cutL (toL b) ++ D) := by
  unfold movedB
  by_cases hb : toL b = []
  · rw [(toL_empty b).2 hb, if_pos rfl, hb, cut_nil, List.nil_append]
    by_cases hD : D = []
    · rw [if_pos hD] at hR
      subst hD
      unfold restP preB
      rw [show (restB p a).data.toList = [] from hR]
      rw [if_neg (by decide)]
      exact hR
    · rw [if_neg hD] at hR
      exact (restP_data (restB p a) ⟨#[47]⟩ (glueL D) (by rw [hR]; rfl)).2
  · have he : b.toList.isEmpty = false := by
      cases h : b.toList.isEmpty with
      | false => rfl
      | true => exact absurd ((toL_empty b).1 h) hb
    rw [he]
    simp only [Bool.false_eq_true, if_false]
    rw [data_app, hR, cut_ne _ hb]
    by_cases hD : D = []
    · subst hD; rw [if_pos rfl, List.append_nil, List.append_nil, glue_split]
    · rw [if_neg hD, glue_append _ _ (splitL_ne _) hD, glue_split]
theorem cut_drop {p a : List UInt8} (h : withinL p a) : cutL p = cutL a ++ (cutL p).drop (cutL a).length := by
  obtain ⟨_, _, D, hD⟩ := (within_cut p a).1 h
  rw [← hD]; simp
theorem moved_cut (p a b : ByteArray) (h : okB p a = true) : toL (movedB p a b) = glueL (movedL (toL p) (toL a) (toL b)) :=
  moved_of p a b _ (restB_cut p a h _ (cut_drop ((okB_iff p a).1 h)))
theorem movedL_names {p a b : List UInt8} (hp : rightL p = true) (hb : rightL b = true) : (movedL p a b).all nameL = true := by
  rw [right_cut, Bool.and_eq_true] at hp hb
  unfold movedL
  rw [List.all_append, hb.1, Bool.true_and, List.all_eq_true]
  exact fun x hx => List.all_eq_true.1 hp.1 x (List.mem_of_mem_drop hx)
theorem moveOk_cut (hl : letter 47 = false) (p a b : ByteArray) : moveOk p a b = (withinB (toL p) (toL a) && rightL (toL b) && decide ((movedL (toL p) (toL a) (toL b)).length ≤ 16)) := by
  unfold moveOk
  rw [okB_eq]
  cases hw : withinB (toL p) (toL a) with
  | false => rfl
  | true =>
    cases hb : rightL (toL b) with
    | false => rfl
    | true =>
      have hw' := (withinB_iff _ _).1 hw
      have hn := movedL_names (a := toL a) hw'.1 hb
      rw [moved_cut p a b (by rw [okB_eq, hw]), right_cut, cut_glue hl _ hn, hn]; simp
/-- Moved back it is as it was. -/
theorem moved_back (hl : letter 47 = false) (p a b q : List UInt8) (hw : withinL p a) (hb : rightL b = true) (hlen : (movedL p a b).length ≤ 16) (hq : q = glueL (movedL p a b)) :
    withinB q b = true ∧ rightL a = true ∧ (movedL q b a).length ≤ 16 ∧ glueL (movedL q b a) = p := by
  have hn := movedL_names (a := a) hw.1 hb
  have hc : cutL q = movedL p a b := by rw [hq, cut_glue hl _ hn]
  have hback : movedL q b a = cutL p := by
    show cutL a ++ (cutL q).drop (cutL b).length = cutL p
    rw [hc, cut_drop hw]
    unfold movedL
    rw [List.drop_left]
  refine ⟨?_, hw.2.1, ?_, ?_⟩
  · unfold withinB
    rw [right_cut q, hc, hn, hb, decide_eq_true hlen]
    simp [movedL]
  · have := hw.1
    rw [right_cut, Bool.and_eq_true, decide_eq_true_eq] at this
    rw [hback]; exact this.2
  · rw [hback, glue_cut]

theorem glue_len : ∀ a : List (List UInt8), a ≠ [] → (glueL a).length + 1 = endL a
  | [], h => absurd rfl h
  | [x], _ => by simp [glueL, endL]
  | x :: y :: r, _ => by
    have := glue_len (y :: r) (by simp)
    rw [glue_cons _ _ (by simp)]
    simp [endL] at this ⊢
    omega
theorem take_glue (l : List UInt8) (a r : List (List UInt8)) (h : splitL l = a ++ r) (hr : r ≠ []) : l.take (endL a - 1) = glueL a := by
  by_cases ha : a = []
  · subst ha; rfl
  · have := glue_len a ha
    have e := glue_split l
    rw [h, glue_append _ _ ha hr] at e
    rw [← e, show endL a - 1 = (glueL a).length by omega]
    simp
theorem names_split {p : List UInt8} (h : namesL p ≠ []) : namesL p = splitL p := by
  unfold namesL at h ⊢
  split
  · rename_i hc; rw [if_pos hc] at h; exact absurd rfl h
  · rfl
theorem upsL_glue (p : List UInt8) : upsL p = (List.range (namesL p).length).map fun i => glueL ((namesL p).take i) := by
  unfold upsL
  apply List.map_congr_left
  intro i hi
  rw [List.mem_range] at hi
  have hne : namesL p ≠ [] := fun e => by rw [e] at hi; simp at hi
  refine take_glue p _ ((namesL p).drop i) (by rw [List.take_append_drop, names_split hne]) ?_
  intro e
  have := congrArg List.length e
  rw [List.length_drop] at this
  simp at this
  omega
theorem last_split : ∀ (n : Nat) (l : List UInt8), l.length = n → ∃ a x, splitL l = a ++ [x] ∧ x = l.drop (lastN l) ∧ l.take (lastN l - 1) = glueL a
  | 0, l, h => by
    obtain rfl : l = [] := List.eq_nil_of_length_eq_zero h
    exact ⟨[], [], rfl, rfl, rfl⟩
  | n + 1, l, h => by
    rcases List.eq_nil_or_concat l with rfl | ⟨l', c, rfl⟩
    · simp at h
    · rw [List.concat_eq_append] at h ⊢
      obtain ⟨a, x, h1, h2, h3⟩ := last_split n l' (by simpa using h)
      obtain ⟨a', x', s0, s1, s2⟩ := splitL_snoc l'
      rw [h1] at s0
      obtain ⟨rfl, hx⟩ := List.append_inj' s0 rfl
      injection hx with hx _
      subst hx
      rw [lastN_snoc]
      have hle := lastN_le l'
      by_cases hc : c = 47
      · subst hc
        rw [if_pos rfl]
        refine ⟨a ++ [x], [], s1, by rw [List.drop_of_length_le (by simp)], ?_⟩
        have := glue_split l'
        rw [h1] at this
        rw [this]; simp
      · rw [if_neg hc]
        refine ⟨a, x ++ [c], s2 c (by simpa using hc), ?_, ?_⟩
        · rw [List.drop_append_of_le_length hle, ← h2]
        · rw [List.take_append_of_le_length (by omega), h3]
theorem right_names {p : List UInt8} (hp : rightL p = true) (hne : p ≠ []) : namesL p = splitL p := by
  rw [names_cut, hp, if_pos rfl, cut_ne p hne]
theorem base_names (p : ByteArray) : toL (baseB p) = (namesL (toL p)).getLastD [] := by
  unfold baseB
  cases hr : rightL (toL p) with
  | false => rw [names_cut, hr]; rfl
  | true =>
    simp only [if_true]
    by_cases hne : toL p = []
    · rw [data_ext, hne]; simp [namesL]
    · rw [right_names hr hne]
      obtain ⟨a, x, h1, h2, _⟩ := last_split _ (toL p) rfl
      rw [h1, data_ext, List.getLastD_concat, h2, List.take_of_length_le (by simp [toL])]
theorem parent_names (p : ByteArray) : parentOk p = !(namesL (toL p)).isEmpty ∧ toL (parentB p) = glueL (namesL (toL p)).dropLast := by
  unfold parentB parentOk
  cases hr : rightL (toL p) with
  | false => rw [names_cut, hr]; simp [toL, glueL]
  | true =>
    by_cases hne : toL p = []
    · rw [(toL_empty p).2 hne, hne]; simp [toL, glueL, namesL]
    · have he : p.toList.isEmpty = false := by
        cases h : p.toList.isEmpty with
        | false => rfl
        | true => exact absurd ((toL_empty p).1 h) hne
      rw [he, right_names hr hne]
      obtain ⟨a, x, h1, h2, h3⟩ := last_split _ (toL p) rfl
      refine ⟨by rw [h1]; simp, ?_⟩
      simp only [Bool.not_false, Bool.and_self, if_true]
      rw [h1, data_ext, List.dropLast_concat, ← h3]; simp
end Go.Proofs.YtlohoamhgioheaaDoor
