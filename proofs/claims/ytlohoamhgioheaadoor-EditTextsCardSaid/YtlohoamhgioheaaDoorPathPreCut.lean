/-
  strings.CutPrefix.
-/
import Derived.Test.YtlohoamhgioheaaDoorPathLib
import Derived.Test.YtlohoamhgioheaaDoorPathName
import Derived.WalkKit
import Derived.WalkSpells
import Derived.WalkLawsBesides
import Derived.Deep.QuietTactic
import Derived.BigQuiet
import Derived.WalkSmall
namespace Go.Proofs.YtlohoamhgioheaaDoor
open Go.RowKit
set_option maxRecDepth 100000

/-- Whether a text begins so. -/
def preB (s p : ByteArray) : Bool := p.data.toList.isPrefixOf s.data.toList

theorem pre_some (s p : ByteArray) (h : preB s p = true) : (p.size : Int) ≤ s.size ∧ s.extract 0 p.size = p := by
  have h := List.isPrefixOf_iff_prefix.1 h
  have hl := h.length_le
  simp at hl
  have hl' : p.size ≤ s.size := hl
  refine ⟨by omega, ?_⟩
  apply ByteArray.ext
  apply Array.ext'
  rw [Lib.extract_data]
  obtain ⟨t, ht⟩ := h
  rw [← ht]
  simp
theorem pre_none (s p : ByteArray) (h : preB s p = false) : ((s.extract 0 p.size).toList == p.toList) = false := by
  rw [Bool.eq_false_iff]
  intro e
  have e := eq_of_beq e
  rw [Lib.toList_data, Lib.toList_data] at e
  have : p.data.toList <+: s.data.toList := by
    refine ⟨s.data.toList.drop p.size, ?_⟩
    rw [← e, Lib.extract_data]
    simp
  unfold preB at h
  rw [List.isPrefixOf_iff_prefix.2 this] at h
  cases h

set_option maxHeartbeats 400000 in
theorem hasPre_any (s p : ByteArray) (w : World) :
    Calls Tryd.prog 97 #[.string s, .string p] w fun e w' => e = .returned (.bool (preB s p)) ∧ w' = w := by
  go_enter Tryd.func97, Tryd.ntmps97
  cases h : preB s p with
  | true =>
    obtain ⟨h1, h2⟩ := pre_some s p h
    have h3 : 0 ≤ (p.size : Int) := by omega
    go_wp2
    go_ret
    exact ⟨rfl, rfl⟩
  | false =>
    by_cases h1 : (p.size : Int) ≤ s.size
    · have h2 := pre_none s p h
      have h3 : 0 ≤ (p.size : Int) := by omega
      go_wp2
      go_ret
      exact ⟨rfl, rfl⟩
    · go_wp2
      go_ret
      exact ⟨rfl, rfl⟩

/-- What stands behind a text's beginning. -/
def restP (s p : ByteArray) : ByteArray := if preB s p then s.extract p.size s.size else s
theorem restP_some {s p : ByteArray} (h : preB s p = true) : restP s p = s.extract p.size s.size := if_pos h
theorem restP_none {s p : ByteArray} (h : preB s p = false) : restP s p = s := by unfold restP; rw [h]; rfl

set_option maxHeartbeats 400000 in
theorem slCutPre_any (s p : ByteArray) (w : World) :
    Calls Tryd.prog 87 #[.string s, .string p] w fun e w' => e = .returned (.tuple #[.string (restP s p), .bool (preB s p)]) ∧ w' = w := by
  go_enter Tryd.func87, Tryd.ntmps87
  go_wp2_with fail
  refine (hasPre_any s p _).mono ?_
  rintro e w1 ⟨rfl, rfl⟩
  cases h : preB s p with
  | true =>
    obtain ⟨h1, h2⟩ := pre_some s p h
    have h3 : 0 ≤ (p.size : Int) := by omega
    clear h2
    have HB := hide h
    have HR := hide (restP_some h)
    go_wp2
    refine bodyPost_ret (results_tmp2 rfl _ _ _) rfl ?_
    exact ⟨by rw [HR.out, HB.out]; rfl, rfl⟩
  | false =>
    have HB := hide h
    have HR := hide (restP_none h)
    go_wp2
    refine bodyPost_ret (results_tmp2 rfl _ _ _) rfl ?_
    exact ⟨by rw [HR.out, HB.out]; rfl, rfl⟩

set_option maxHeartbeats 400000 in
theorem cutPre_any (s p : ByteArray) (w : World) :
    Calls Tryd.prog 71 #[.string s, .string p] w fun e w' => e = .returned (.tuple #[.string (restP s p), .bool (preB s p)]) ∧ w' = w := by
  go_enter Tryd.func71, Tryd.ntmps71
  go_wp2_with fail
  refine (slCutPre_any s p _).mono ?_
  rintro e w1 ⟨rfl, rfl⟩
  go_wp2
  refine bodyPost_ret (results_tmp2 rfl _ _ _) rfl ?_
  exact ⟨rfl, rfl⟩

end Go.Proofs.YtlohoamhgioheaaDoor
