/-
  strings.Join between slashes.
-/
import Derived.Test.YthmiffjhchhljaaDoorJoinLay
import Derived.Test.YthmiffjhchhljaaDoorJoinsLaw
namespace Go.Proofs.YthmiffjhchhljaaDoor
open Go.RowKit Go.Shelf
set_option maxRecDepth 100000

theorem joinTail_glue : ∀ (x : List UInt8) (r : List (List UInt8)), x ++ Lib.joinTail [47] r = glueL (x :: r)
  | x, [] => by simp [Lib.joinTail, glueL]
  | x, y :: r => by
    rw [glue_cons _ _ (by simp), ← joinTail_glue y r]
    simp [Lib.joinTail]
theorem join_glue (l : List (List UInt8)) : Lib.join l [47] = glueL l := by
  cases l with
  | nil => rfl
  | cons x r => rw [Lib.join_cons, joinTail_glue]
theorem glue_small : ∀ l : List (List UInt8), (∀ x ∈ l, x.length ≤ 12) → (glueL l).length ≤ 13 * l.length
  | [], _ => by simp [glueL]
  | [x], h => by
    have := h x (by simp)
    simp [glueL]; omega
  | x :: y :: r, h => by
    have ih := glue_small (y :: r) (fun z hz => h z (by simp at hz ⊢; right; exact hz))
    have hx := h x (by simp)
    rw [glue_cons _ _ (by simp)]
    simp at ih ⊢; omega

theorem join_owes : JoinOwes := by
  intro A cs c w hA hcap hn hz
  cases cs with
  | nil =>
    refine (Any.strings_Join_none lays156 builderExtra_156 A c ⟨#[47]⟩ w).mono ?_
    rintro e w' ⟨rfl, rfl⟩
    exact ⟨⟨⟨#[]⟩, rfl, rfl⟩, Below.refl _ _⟩
  | cons y r =>
    obtain ⟨ad, rfl, hb, h0⟩ := hA 0 y rfl
    have hspot : ad.spot = none := by
      rw [show ad.add 0 = ad from rfl] at h0
      unfold World.cell? at h0
      split at h0
      · split at h0
        · cases h0
        · rename_i h; simpa using h
      · cases h0
    obtain ⟨bk, o, sp⟩ := ad
    obtain rfl : sp = none := hspot
    have hl : (glueL ((y :: r).map toL)).length ≤ 13 * (y :: r).length := by
      have := glue_small ((y :: r).map toL) (fun x hx => by
        obtain ⟨z, hz', rfl⟩ := List.mem_map.1 hx
        obtain ⟨k, hk⟩ := List.getElem?_of_mem hz'
        have := hz k z hk
        simp [toL]; omega)
      simpa using this
    refine (Any.strings_Join lays156 builderExtra_156 bk o c (y :: r) ⟨#[47]⟩ w ?_ hb (by omega) hcap ?_).mono ?_
    · intro j x hx
      obtain ⟨ad', e', _, hc⟩ := hA j x hx
      cases e'
      by_cases hj : j = 0
      · subst hj; exact hc
      · unfold Addr.add at hc
        rw [if_neg hj] at hc
        exact hc
    · rw [show (⟨#[47]⟩ : ByteArray).data.toList = [47] from rfl, join_glue]
      show (glueL ((y :: r).map toL)).length ≤ _
      omega
    · rintro e w' ⟨rfl, hB⟩
      refine ⟨⟨_, rfl, ?_⟩, hB⟩
      show (Lib.join ((y :: r).map toL) [47]).toArray.toList = _
      rw [join_glue]
end Go.Proofs.YthmiffjhchhljaaDoor
