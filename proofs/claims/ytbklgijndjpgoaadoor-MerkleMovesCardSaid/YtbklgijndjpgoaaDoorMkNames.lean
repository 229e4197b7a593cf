/-
  What is under a path, by names; the text of a directory hangs on what is under it alone.
-/
import Derived.Test.YtbklgijndjpgoaaDoorMkBare
namespace Go.Proofs.YtbklgijndjpgoaaDoor
open Go.RowKit
set_option maxRecDepth 100000

/-- A path's names. -/
def cutB (p : ByteArray) : List (List UInt8) := cutL (toL p)
def rightB (p : ByteArray) : Prop := rightL (toL p) = true
theorem glue_cutB (p : ByteArray) : glueL (cutB p) = toL p := glue_cut _
theorem cutB_inj {p q : ByteArray} (h : cutB p = cutB q) : p = q := toL_inj (by rw [← glue_cutB, ← glue_cutB, h])
theorem right_names' {p : ByteArray} (h : rightB p) : (cutB p).all nameL = true ∧ (cutB p).length ≤ 16 := by
  unfold rightB at h
  rw [right_cut, Bool.and_eq_true] at h
  exact ⟨h.1, of_decide_eq_true h.2⟩
/-- A path of such names. -/
theorem of_names {p : ByteArray} {D : List (List UInt8)} (h : toL p = glueL D) (hn : D.all nameL = true) (hl : D.length ≤ 16) : cutB p = D ∧ rightB p := by
  have h1 : cutB p = D := by unfold cutB; rw [h, cut_glue letter_slash D hn]
  refine ⟨h1, ?_⟩
  unfold rightB
  rw [right_cut, Bool.and_eq_true]
  unfold cutB at h1
  rw [h1]
  exact ⟨hn, decide_eq_true hl⟩
theorem cut_empty : cutB ⟨#[]⟩ = [] := rfl
theorem right_empty : rightB ⟨#[]⟩ := by unfold rightB; rw [right_cut]; rfl
theorem empty_iff (p : ByteArray) : p.toList.isEmpty = true ↔ cutB p = [] := by
  rw [toL_list, List.isEmpty_iff]
  constructor
  · intro h; unfold cutB; rw [h]; rfl
  · intro h; rw [← glue_cutB, h]; rfl

theorem sub_names {A D : List (List UInt8)} (h : (A ++ D).all nameL = true) (hl : (A ++ D).length ≤ 16) : D.all nameL = true ∧ D.length ≤ 16 := by
  rw [List.all_append, Bool.and_eq_true] at h
  rw [List.length_append] at hl
  exact ⟨h.2, by omega⟩
/-- What stands under P: its names begin with P's, and go on. -/
theorem under_iff (P : ByteArray) (n : Nd) : under P n = true ↔ rightB n.path ∧ rightB P ∧ ∃ D, D ≠ [] ∧ cutB n.path = cutB P ++ D := by
  unfold under
  rw [Bool.and_eq_true, moveOk_cut letter_slash]
  constructor
  · rintro ⟨h1, h2⟩
    rw [Bool.and_eq_true, Bool.and_eq_true] at h1
    obtain ⟨⟨hw, _⟩, _⟩ := h1
    have hwl := (withinB_iff _ _).1 hw
    have hok : okB n.path P = true := by rw [okB_eq]; exact hw
    have hd := cut_drop hwl
    refine ⟨hwl.1, hwl.2.1, (cutB n.path).drop (cutB P).length, ?_, hd⟩
    intro he
    have hm := moved_cut n.path P ⟨#[]⟩ hok
    have hv : movedV n.path P ⟨#[]⟩ = movedB n.path P ⟨#[]⟩ ∨ movedV n.path P ⟨#[]⟩ = ⟨#[]⟩ := by unfold movedV; split <;> simp
    have hz : toL (movedV n.path P ⟨#[]⟩) = [] := by
      rcases hv with hv | hv
      · rw [hv, hm]
        unfold movedL
        have : (cutL (toL n.path)).drop (cutL (toL P)).length = [] := he
        rw [this]; rfl
      · rw [hv]; rfl
    rw [toL_list, hz] at h2
    cases h2
  · rintro ⟨hr, hp, D, hD, hc⟩
    obtain ⟨hn, hl⟩ := right_names' hr
    have hw : withinB (toL n.path) (toL P) = true := by
      rw [withinB_iff, within_cut]
      exact ⟨hr, hp, ⟨D, hc.symm⟩⟩
    have hml : movedL (toL n.path) (toL P) (toL ⟨#[]⟩) = D := by
      unfold movedL
      show ([] : List (List UInt8)) ++ (cutB n.path).drop (cutB P).length = D
      rw [hc]; simp
    rw [hc] at hn hl
    obtain ⟨hDn, hDl⟩ := sub_names hn hl
    have h1 : (withinB (toL n.path) (toL P) && rightL (toL ⟨#[]⟩) && decide ((movedL (toL n.path) (toL P) (toL ⟨#[]⟩)).length ≤ 16)) = true := by
      rw [hw, hml, show rightL (toL ⟨#[]⟩) = true from right_empty, decide_eq_true hDl]; rfl
    refine ⟨h1, ?_⟩
    have hok : okB n.path P = true := by rw [okB_eq]; exact hw
    have hm := moved_cut n.path P ⟨#[]⟩ hok
    rw [hml] at hm
    have hv : movedV n.path P ⟨#[]⟩ = movedB n.path P ⟨#[]⟩ := by unfold movedV; rw [moveOk_cut letter_slash, h1]; rfl
    rw [hv, toL_list, hm]
    have := glue_ne letter_slash D hDn hD
    cases hg : glueL D with
    | nil => exact absurd hg this
    | cons a b => rfl
/-- Its names from there on. -/
theorem seen_cut {P : ByteArray} {n : Nd} {D : List (List UInt8)} (hr : rightB n.path) (hp : rightB P) (hD : D ≠ []) (hc : cutB n.path = cutB P ++ D) : cutB (seen P n).path = D ∧ rightB (seen P n).path := by
  obtain ⟨hn, hl⟩ := right_names' hr
  rw [hc] at hn hl
  obtain ⟨hDn, hDl⟩ := sub_names hn hl
  have hu := (under_iff P n).2 ⟨hr, hp, D, hD, hc⟩
  unfold under at hu
  rw [Bool.and_eq_true] at hu
  have hw : withinB (toL n.path) (toL P) = true := by
    rw [withinB_iff, within_cut]
    exact ⟨hr, hp, ⟨D, hc.symm⟩⟩
  have hok : okB n.path P = true := by rw [okB_eq]; exact hw
  have hm := moved_cut n.path P ⟨#[]⟩ hok
  have hml : movedL (toL n.path) (toL P) (toL ⟨#[]⟩) = D := by
    unfold movedL
    show ([] : List (List UInt8)) ++ (cutB n.path).drop (cutB P).length = D
    rw [hc]; simp
  rw [hml] at hm
  refine of_names ?_ hDn hDl
  show toL (movedV n.path P ⟨#[]⟩) = glueL D
  unfold movedV
  rw [hu.1]
  exact hm

/-- All nodes' paths are right. -/
def Rights (t : List Nd) : Prop := ∀ n ∈ t, rightB n.path
theorem Rights.under {t : List Nd} {P : ByteArray} : Rights (undersL P t) := fun n hn => by
  unfold undersL at hn
  obtain ⟨m, hm, rfl⟩ := List.mem_map.1 hn
  obtain ⟨h1, h2, D, h3, h4⟩ := (under_iff P m).1 (List.mem_filter.1 hm).2
  exact (seen_cut h1 h2 h3 h4).2
/-- A kid's names. -/
theorem kid_iff {P : ByteArray} {n : Nd} (hr : rightB n.path) (hp : rightB P) : kidOf P n = true ↔ ∃ x, cutB n.path = cutB P ++ [x] := by
  rw [kidOf_iff, (parent_names n.path).1]
  have hN : namesL (toL n.path) = cutB n.path := by rw [names_cut, show rightL (toL n.path) = true from hr]; rfl
  have hpar := (parent_names n.path).2
  rw [hN] at hpar ⊢
  obtain ⟨hn, _⟩ := right_names' hr
  constructor
  · rintro ⟨h1, rfl⟩
    have hne : cutB n.path ≠ [] := by intro e; rw [e] at h1; cases h1
    have hd : cutB (parentB n.path) = (cutB n.path).dropLast := by
      unfold cutB
      rw [hpar]
      refine cut_glue letter_slash _ ?_
      rw [List.all_eq_true] at hn ⊢
      exact fun x hx => hn x ((List.dropLast_sublist _).subset hx)
    exact ⟨(cutB n.path).getLast hne, by rw [hd]; exact (List.dropLast_concat_getLast hne).symm⟩
  · rintro ⟨x, hx⟩
    rw [hx] at hpar ⊢
    refine ⟨by cases cutB P <;> rfl, toL_inj ?_⟩
    rw [hpar, List.dropLast_concat, glue_cutB]
theorem kid_under {P : ByteArray} {n : Nd} (hr : rightB n.path) (hp : rightB P) : kidOf P n = (under P n && kidOf ⟨#[]⟩ (seen P n)) := by
  rw [Bool.eq_iff_iff, Bool.and_eq_true, kid_iff hr hp]
  constructor
  · rintro ⟨x, hx⟩
    have hs := seen_cut hr hp (by simp) hx
    exact ⟨(under_iff P n).2 ⟨hr, hp, [x], by simp, hx⟩, (kid_iff hs.2 right_empty).2 ⟨x, by rw [hs.1]; rfl⟩⟩
  · rintro ⟨h1, h2⟩
    obtain ⟨_, _, D, hD, hc⟩ := (under_iff P n).1 h1
    have hs := seen_cut hr hp hD hc
    obtain ⟨x, hx⟩ := (kid_iff hs.2 right_empty).1 h2
    rw [hs.1] at hx
    exact ⟨x, by rw [hc, hx]; rfl⟩
theorem kids_rel {t : List Nd} {P : ByteArray} (ht : Rights t) (hp : rightB P) : kidsL ⟨#[]⟩ (undersL P t) = (kidsL P t).map (seen P) := by
  unfold kidsL undersL
  rw [List.filter_map, List.filter_filter]
  congr 1
  apply List.filter_congr
  intro n hn
  rw [kid_under (ht n hn) hp, Bool.and_comm]; rfl
/-- What is under a path under a path. -/
theorem under_under {P : ByteArray} {m n : Nd} (hm : under P m = true) (hr : rightB n.path) : under m.path n = (under P n && under (seen P m).path (seen P n)) ∧ (under m.path n = true → seen (seen P m).path (seen P n) = seen m.path n) := by
  obtain ⟨hmr, hp, E, hE, hcm⟩ := (under_iff P m).1 hm
  have hsm := seen_cut hmr hp hE hcm
  constructor
  · rw [Bool.eq_iff_iff, Bool.and_eq_true]
    constructor
    · intro h
      obtain ⟨_, _, D, hD, hc⟩ := (under_iff _ _).1 h
      rw [hcm, List.append_assoc] at hc
      have hsn := seen_cut (n := n) hr hp (D := E ++ D) (by simp [hE]) hc
      exact ⟨(under_iff _ _).2 ⟨hr, hp, _, by simp [hE], hc⟩, (under_iff _ _).2 ⟨hsn.2, hsm.2, D, hD, by rw [hsn.1, hsm.1]⟩⟩
    · rintro ⟨h1, h2⟩
      obtain ⟨_, _, F, hF, hc⟩ := (under_iff _ _).1 h1
      have hsn := seen_cut hr hp hF hc
      obtain ⟨_, _, D, hD, hc2⟩ := (under_iff _ _).1 h2
      rw [hsn.1, hsm.1] at hc2
      exact (under_iff _ _).2 ⟨hr, hmr, D, hD, by rw [hc, hc2, hcm, List.append_assoc]⟩
  · intro h
    obtain ⟨_, _, D, hD, hc⟩ := (under_iff _ _).1 h
    have h1 := seen_cut hr hmr hD hc
    rw [hcm, List.append_assoc] at hc
    have hsn := seen_cut (n := n) hr hp (D := E ++ D) (by simp [hE]) hc
    have h2 := seen_cut (n := seen P n) hsn.2 hsm.2 hD (by rw [hsn.1, hsm.1])
    have e : (seen (seen P m).path (seen P n)).path = (seen m.path n).path := cutB_inj (by rw [h2.1, h1.1])
    show (⟨(seen (seen P m).path (seen P n)).path, n.kind, 0, 0, n.data⟩ : Nd) = ⟨(seen m.path n).path, n.kind, 0, 0, n.data⟩
    rw [e]
theorem unders_rel {t : List Nd} {P : ByteArray} {m : Nd} (ht : Rights t) (hm : under P m = true) : undersL (seen P m).path (undersL P t) = undersL m.path t := by
  unfold undersL
  rw [List.filter_map, List.filter_filter, List.map_map]
  have e : t.filter (fun n => ((under (seen P m).path ∘ seen P) n && under P n)) = t.filter (under m.path) := by
    apply List.filter_congr
    intro n hn
    rw [(under_under hm (ht n hn)).1, Bool.and_comm]; rfl
  rw [e]
  apply List.map_congr_left
  intro n hn
  obtain ⟨h1, h2⟩ := List.mem_filter.1 hn
  exact (under_under hm (ht n h1)).2 h2
theorem put_seen {P : ByteArray} {m : Nd} (hm : under P m = true) (s : Nat × Nat) : putL (seen P m) s = putL m s := by
  obtain ⟨hmr, hp, E, hE, hcm⟩ := (under_iff P m).1 hm
  have hsm := seen_cut hmr hp hE hcm
  have hb : baseB (seen P m).path = baseB m.path := by
    apply toL_inj
    rw [base_names, base_names, names_cut, names_cut, show rightL (toL (seen P m).path) = true from hsm.2, show rightL (toL m.path) = true from hmr]
    show (cutB (seen P m).path).getLastD [] = (cutB m.path).getLastD []
    rw [hsm.1, hcm]
    obtain ⟨F, x, rfl⟩ : ∃ F x, E = F ++ [x] := ⟨E.dropLast, E.getLast hE, (List.dropLast_concat_getLast hE).symm⟩
    rw [← List.append_assoc]; simp
  unfold putL
  rw [hb]; rfl
theorem kid_is_under {t : List Nd} {P : ByteArray} {m : Nd} (ht : Rights t) (hp : rightB P) (hm : m ∈ kidsL P t) : under P m = true := by
  obtain ⟨h1, h2⟩ := kid_mem hm
  rw [kid_under (ht m h1) hp, Bool.and_eq_true] at h2
  exact h2.1
theorem dir_rel : ∀ (k : Nat) (t : List Nd) (P : ByteArray), Rights t → rightB P → dirN t k P = dirN (undersL P t) k ⟨#[]⟩ := by
  intro k
  induction k with
  | zero =>
    intro t P ht hp
    unfold dirN
    rw [kids_rel ht hp, List.flatMap_map]
    refine flatMap_eq fun m hm => ?_
    rw [put_seen (kid_is_under ht hp hm)]; rfl
  | succ k ih =>
    intro t P ht hp
    unfold dirN
    rw [kids_rel ht hp, List.flatMap_map]
    refine flatMap_eq fun m hm => ?_
    have hu := kid_is_under ht hp hm
    have hmr := ht m (kid_mem hm).1
    obtain ⟨_, _, E, hE, hcm⟩ := (under_iff P m).1 hu
    have hsm := seen_cut hmr hp hE hcm
    rw [put_seen hu]
    have e : dirN t k m.path = dirN (undersL P t) k (seen P m).path := by
      rw [ih t m.path ht hmr, ih (undersL P t) (seen P m).path Rights.under hsm.2, unders_rel ht hu]
    show putL m (sumL (if m.kind = 1 then dirN t k m.path else toL m.data)) = putL m (sumL (if m.kind = 1 then dirN (undersL P t) k (seen P m).path else toL m.data))
    rw [e]
/-- The text of the directory at a path is that of what is under it. -/
theorem dirT_rel {t : List Nd} {P : ByteArray} (ht : Rights t) (hp : rightB P) : dirT t P = dirT (undersL P t) ⟨#[]⟩ := dir_rel 601 t P ht hp
end Go.Proofs.YtbklgijndjpgoaaDoor
