/-
  Which rules are right, and what they match, as plain functions on lists of bytes. Nothing of a program stands here.
-/
import Derived.Test.YthlalmehcpionaaDoorRefGlobA
import Derived.Test.YthlalmehcpionaaDoorRefCore
import Derived.Test.YthlalmehcpionaaDoorRefPath
namespace Go.Proofs.YthlalmehcpionaaDoor
set_option maxRecDepth 100000

theorem size_toL (t : ByteArray) : (toL t).length = t.size := by simp [toL]
def coreL (p : List UInt8) : List UInt8 := (cutT (cutH p).1).1
def wholeL (p : List UInt8) : Bool := (cutH p).2
def mustL (p : List UInt8) : Bool := (cutT (cutH p).1).2
theorem cutH_len (l : List UInt8) : (cutH l).1.length ≤ l.length := by unfold cutH; split <;> simp
theorem cutT_len (l : List UInt8) : (cutT l).1.length ≤ l.length := by unfold cutT; split <;> simp
theorem coreL_len (p : List UInt8) : (coreL p).length ≤ p.length := Nat.le_trans (cutT_len _) (cutH_len _)
/-- What is wrong with a rule: an error's number. -/
def checkL (p : List UInt8) : Nat := if 64 < p.length then 5 else if coreL p = [] then 3 else match parseOf (coreL p) with | none => 3 | some _ => 0
def partsL (p : List UInt8) : List GPart := (parseOf (coreL p)).getD []
theorem checkL_long {p : List UInt8} (h : 64 < p.length) : checkL p = 5 := if_pos h
theorem checkL_empty {p : List UInt8} (h : ¬ 64 < p.length) (he : coreL p = []) : checkL p = 3 := by unfold checkL; rw [if_neg h, if_pos he]
theorem checkL_none {p : List UInt8} (h : ¬ 64 < p.length) (hn : parseOf (coreL p) = none) : checkL p = 3 := by
  unfold checkL; rw [if_neg h]
  split
  · rfl
  · rw [hn]
theorem checkL_some {p : List UInt8} {g : List GPart} (h : ¬ 64 < p.length) (he : coreL p ≠ []) (hn : parseOf (coreL p) = some g) : checkL p = 0 ∧ partsL p = g := by
  refine ⟨?_, by unfold partsL; rw [hn]; rfl⟩
  unfold checkL; rw [if_neg h, if_neg he, hn]
theorem checkL_ok {p : List UInt8} (h : checkL p = 0) : ¬ 64 < p.length ∧ coreL p ≠ [] ∧ parseOf (coreL p) = some (partsL p) := by
  unfold checkL at h
  split at h
  · cases h
  · rename_i h1
    split at h
    · cases h
    · rename_i h2
      refine ⟨h1, h2, ?_⟩
      cases hp : parseOf (coreL p) with
      | none => rw [hp] at h; cases h
      | some g => unfold partsL; rw [hp]; rfl
/-- A path's ends: the whole of it first, and what stands behind each of its slashes. -/
def tailsL (p : List UInt8) : List (List UInt8) := (List.range (namesL p).length).map fun i => glueL ((namesL p).drop i)
theorem tailsL_len (p : List UInt8) : (tailsL p).length = (namesL p).length := by simp [tailsL]
def fitsL (pat p : List UInt8) : Bool := (if wholeL pat then (tailsL p).take 1 else tailsL p).any (acc (partsL pat))
/-- Does a rule match a path? -/
def matchesL (pat p : List UInt8) (dir : Bool) : Bool := checkL pat == 0 && !(namesL p).isEmpty && (!mustL pat || dir) && fitsL pat p
theorem matchesL_bad {pat p : List UInt8} {dir : Bool} (h : checkL pat ≠ 0) : matchesL pat p dir = false := by
  unfold matchesL; rw [beq_eq_false_iff_ne.2 h]; rfl
theorem matchesL_no {pat p : List UInt8} {dir : Bool} (h : namesL p = []) : matchesL pat p dir = false := by
  unfold matchesL; rw [h]; simp
theorem matchesL_dir {pat p : List UInt8} {dir : Bool} (h : mustL pat = true) (hd : dir = false) : matchesL pat p dir = false := by
  unfold matchesL; rw [h, hd]; simp
theorem matchesL_fits {pat p : List UInt8} {dir : Bool} (h : checkL pat = 0) (hn : namesL p ≠ []) (hd : mustL pat = false ∨ dir = true) : matchesL pat p dir = fitsL pat p := by
  unfold matchesL
  rw [h]
  have h2 : (namesL p).isEmpty = false := by
    cases hc : namesL p with
    | nil => exact absurd hc hn
    | cons a t => rfl
  rw [h2]
  rcases hd with hd | hd <;> rw [hd] <;> simp
/-- Is a path kept by rules? -/
def keepsL (p : List UInt8) (dir : Bool) : List (Bool × List UInt8) → Bool
  | [] => true
  | r :: t => if matchesL r.2 p dir then r.1 else keepsL p dir t
/-- Is a path shut out by rules? -/
def shutL (l : List (Bool × List UInt8)) (p : List UInt8) (dir : Bool) : Bool := ((List.range (namesL p).length).drop 1).any (fun i => !keepsL (glueL ((namesL p).take i)) true l) || !keepsL p dir l

theorem fits_step {pat p : List UInt8} {i : Nat} (hi : i < (namesL p).length) (h : ((tailsL p).take i).any (acc (partsL pat)) = false) :
    (acc (partsL pat) (glueL ((namesL p).drop i)) = false → ((tailsL p).take (i + 1)).any (acc (partsL pat)) = false) ∧ (acc (partsL pat) (glueL ((namesL p).drop i)) = true → (wholeL pat = true → i = 0) → fitsL pat p = true) := by
  have hlt : i < (tailsL p).length := by rw [tailsL_len]; exact hi
  have e : (tailsL p)[i] = glueL ((namesL p).drop i) := by simp [tailsL]
  refine ⟨fun ha => ?_, fun ha hw => ?_⟩
  · rw [List.take_succ_eq_append_getElem hlt, List.any_append, h, e]
    simp [ha]
  · unfold fitsL
    split
    · rename_i hwt
      obtain rfl := hw hwt
      rw [show (1 : Nat) = 0 + 1 from rfl, List.take_succ_eq_append_getElem hlt, List.any_append, e, List.any_cons, ha]
      simp
    · rw [List.any_eq_true]
      exact ⟨_, List.getElem_mem hlt, by rw [e]; exact ha⟩
theorem fits_whole {pat p : List UInt8} (h : ((tailsL p).take 1).any (acc (partsL pat)) = false) (hw : wholeL pat = true) : fitsL pat p = false := by
  unfold fitsL; rw [hw, if_pos rfl]; exact h
theorem fits_all {pat p : List UInt8} (h : ((tailsL p).take (namesL p).length).any (acc (partsL pat)) = false) (hw : wholeL pat = false) : fitsL pat p = false := by
  unfold fitsL; rw [hw]
  rw [List.take_of_length_le (by rw [tailsL_len]; exact Nat.le_refl _)] at h
  exact h
theorem names_whole {p : List UInt8} (h : namesL p ≠ []) : glueL (namesL p) = p := by
  rw [names_cut] at h ⊢
  cases hr : rightL p with
  | false => rw [hr] at h; exact absurd rfl h
  | true => rw [if_pos rfl, glue_cut]
theorem tail_len (p : List UInt8) (i : Nat) : (glueL ((namesL p).drop i)).length ≤ p.length := by
  by_cases h : namesL p = []
  · rw [h]; simp [glueL]
  · have hw := names_whole h
    by_cases hi : i = 0
    · subst hi
      rw [List.drop_zero, hw]; exact Nat.le_refl _
    · by_cases hl : i < (namesL p).length
      · have e := List.take_append_drop i (namesL p)
        rw [← e, glue_append _ _ (by
          intro h2
          rcases List.take_eq_nil_iff.1 h2 with h3 | h3
          · exact hi h3
          · exact h h3) (by
          intro h2
          have := List.drop_eq_nil_iff.1 h2
          omega)] at hw
        have := congrArg List.length hw
        simp at this
        omega
      · rw [List.drop_of_length_le (by omega)]; simp [glueL]
theorem head_len (p : List UInt8) (i : Nat) : (glueL ((namesL p).take i)).length ≤ p.length := by
  by_cases h : namesL p = []
  · rw [h]; simp [glueL]
  · have hw := names_whole h
    by_cases hi : i = 0
    · subst hi; simp [glueL]
    · by_cases hl : i < (namesL p).length
      · have e := List.take_append_drop i (namesL p)
        rw [← e, glue_append _ _ (by
          intro h2
          rcases List.take_eq_nil_iff.1 h2 with h3 | h3
          · exact hi h3
          · exact h h3) (by
          intro h2
          have := List.drop_eq_nil_iff.1 h2
          omega)] at hw
        have := congrArg List.length hw
        simp at this
        omega
      · rw [List.take_of_length_le (by omega), hw]; exact Nat.le_refl _
end Go.Proofs.YthlalmehcpionaaDoor
