/-
  Texts that belong together: PathRefText, PathPreCut, PathMoves.
-/
import Derived.Test.YteoafohebgfjdaaGreatDoorAutoPathCmpL
import Derived.Test.YteoafohebgfjdaaGreatDoorPathRight
import Derived.Test.YteoafohebgfjdaaGreatDoorAutoNodesOwn
import Derived.Test.YteoafohebgfjdaaGreatDoorAutoPathName
import Derived.WalkKit
import Derived.WalkSpells
import Derived.WalkLawsBesides
import Derived.Deep.QuietTactic
import Derived.BigQuiet
import Derived.WalkSmall
/-
  The reference's text: two names, byte by byte.
-/
namespace Go.Proofs.YteoafohebgfjdaaGreatDoor
open Go.RowKit
set_option maxRecDepth 100000

/-- Two names, byte by byte. -/
def textL : List UInt8 → List UInt8 → Int
  | [], [] => 0
  | [], _ :: _ => -1
  | _ :: _, [] => 1
  | a :: p, b :: q => if a = b then textL p q else signZ ((a.toNat : Int) - (b.toNat : Int))

theorem textL_same : ∀ (k : Nat) (p q : List UInt8), p.take k = q.take k → k ≤ p.length → k ≤ q.length → textL p q = textL (p.drop k) (q.drop k)
  | 0, p, q, _, _, _ => by simp
  | k + 1, a :: p, b :: q, h, h1, h2 => by
    simp at h h1 h2
    rw [h.1]
    simp only [textL, if_true, List.drop_succ_cons]
    exact textL_same k p q h.2 h1 h2
  | k + 1, [], _, _, h1, _ => by simp at h1
  | k + 1, _ :: _, [], _, _, h2 => by simp at h2

theorem textL_at (k : Nat) (p q : ByteArray) (h : p.data.toList.take k = q.data.toList.take k) (h1 : k < p.size) (h2 : k < q.size) (hne : p[k] ≠ q[k]) :
    textL p.data.toList q.data.toList = signZ ((p[k].toNat : Int) - (q[k].toNat : Int)) := by
  have l1 : k < p.data.toList.length := by simpa using h1
  have l2 : k < q.data.toList.length := by simpa using h2
  rw [textL_same k _ _ h (by omega) (by omega), List.drop_eq_getElem_cons l1, List.drop_eq_getElem_cons l2]
  have e1 : p.data.toList[k] = p[k] := rfl
  have e2 : q.data.toList[k] = q[k] := rfl
  rw [e1, e2]
  simp [textL, hne]

theorem textL_end (p q : ByteArray) (h : p.data.toList.take (min p.size q.size) = q.data.toList.take (min p.size q.size)) :
    textL p.data.toList q.data.toList = signZ ((p.size : Int) - q.size) := by
  have s1 : p.data.toList.length = p.size := by simp
  have s2 : q.data.toList.length = q.size := by simp
  rw [textL_same _ _ _ h (by rw [s1]; omega) (by rw [s2]; omega)]
  by_cases hl : p.size ≤ q.size
  · rw [Nat.min_eq_left hl, List.drop_of_length_le (by omega)]
    cases hd : q.data.toList.drop p.size with
    | nil =>
      have := congrArg List.length hd
      simp at this
      have : (p.size : Int) - q.size = 0 := by omega
      rw [this]; rfl
    | cons c r =>
      have := congrArg List.length hd
      simp at this
      have h1 : (p.size : Int) - q.size < 0 := by omega
      simp [textL, signZ, h1]
  · rw [Nat.min_eq_right (by omega), List.drop_of_length_le (l := q.data.toList) (by omega)]
    cases hd : p.data.toList.drop q.size with
    | nil =>
      have := congrArg List.length hd
      simp at this
      omega
    | cons c r =>
      have h1 : ¬ (p.size : Int) - q.size < 0 := by omega
      have h2 : ¬ (p.size : Int) - q.size = 0 := by omega
      simp [textL, signZ, h1, h2]


set_option maxRecDepth 100000 in
set_option maxHeartbeats 2000000 in
theorem text_any (p q : ByteArray) (w : World) (hp : (p.size : Int) ≤ 9223372036854775800) :
    Calls Tryz.prog 56 #[.string p, .string q] w fun e w' => e = .returned (.int .i64 (textL p.data.toList q.data.toList)) ∧ Below w.heap.size w w' := by
  go_enter Tryz.func56, Tryz.ntmps56
  go_wp2_with fail
  go_loopw [5] (fun i wr => ∃ k : Nat, k ≤ p.size ∧ k ≤ q.size ∧ i = .int .i64 k ∧ Hid (p.data.toList.take k = q.data.toList.take k) ∧ Below w.heap.size w wr) (fun i _ => p.size - (intOf i).toNat)
  case atStart => exact ⟨0, Nat.zero_le _, Nat.zero_le _, rfl, hide (by simp), Below.refl _ _⟩
  case round =>
    obtain ⟨k, hk, hk', rfl, HA, hB⟩ := hrel
    by_cases h1 : (k : Int) < p.size
    · by_cases h2 : (k : Int) < q.size
      · have n1 : k < p.size := by omega
        have n2 : k < q.size := by omega
        by_cases he : p[k] = q[k]
        · have hs := hide (take_snoc_eq k p q HA.out n1 n2 he)
          have q1 : ¬ (p[k].toNat : Int) < q[k].toNat := by rw [he]; omega
          have q2 : ¬ (q[k].toNat : Int) < p[k].toNat := by rw [he]; omega
          clear he
          go_wp2_with fail
          go_quiet (fail)
          go_wp2_with fail
          have hB2 := below_drewN hB nq
          generalize wr.drewN nq = wq at hB2 ⊢
          go_quiet (fail)
          go_wp2_with fail
          go_roundw
          case rel => exact ⟨k + 1, by omega, by omega, rfl, hs, below_drewN hB2 _⟩
          case measure => simp [intOf]; omega
        · have hc := textL_at k p q HA.out n1 n2 he
          by_cases q1 : (p[k].toNat : Int) < q[k].toNat
          · have HC := hide (show textL p.data.toList q.data.toList = -1 by rw [hc]; unfold signZ; rw [if_pos (by omega)])
            clear he hc
            go_wp2_with fail
            go_quiet (fail)
            go_wp2_with fail
            refine bodyPost_ret (results_tmp rfl _ _ _) rfl ⟨by rw [HC.out]; rfl, below_drewN hB _⟩
          · have q0 : ¬ (p[k].toNat : Int) = q[k].toNat := fun e => he (UInt8.toNat_inj.1 (by omega))
            have q2 : (q[k].toNat : Int) < p[k].toNat := by omega
            have HC := hide (show textL p.data.toList q.data.toList = 1 by rw [hc]; unfold signZ; rw [if_neg (by omega), if_neg (by omega)])
            clear he hc q0
            go_wp2_with fail
            go_quiet (fail)
            go_wp2_with fail
            have hB2 := below_drewN hB nq
            generalize wr.drewN nq = wq at hB2 ⊢
            go_quiet (fail)
            go_wp2_with fail
            refine bodyPost_ret (results_tmp rfl _ _ _) rfl ⟨by rw [HC.out]; rfl, below_drewN hB2 _⟩
      · have hkq : k = q.size := by omega
        have hc := textL_end p q (by rw [show min p.size q.size = k by omega]; exact HA.out)
        have HC := hide (show textL p.data.toList q.data.toList = 1 by rw [hc]; unfold signZ; rw [if_neg (by omega), if_neg (by omega)])
        have g1 : ¬ (p.size : Int) < q.size := by omega
        have g2 : (q.size : Int) < p.size := by omega
        clear hc
        go_wp2_with fail
        refine bodyPost_ret (results_tmp rfl _ _ _) rfl ⟨by rw [HC.out]; rfl, hB⟩
    · have hkp : k = p.size := by omega
      have hc := textL_end p q (by rw [show min p.size q.size = k by omega]; exact HA.out)
      by_cases g1 : (p.size : Int) < q.size
      · have HC := hide (show textL p.data.toList q.data.toList = -1 by rw [hc]; unfold signZ; rw [if_pos (by omega)])
        clear hc hkp
        go_wp2_with fail
        refine bodyPost_ret (results_tmp rfl _ _ _) rfl ⟨by rw [HC.out]; rfl, hB⟩
      · have HC := hide (show textL p.data.toList q.data.toList = 0 by rw [hc]; unfold signZ; rw [if_neg (by omega), if_pos (by omega)])
        have g2 : ¬ (q.size : Int) < p.size := by omega
        clear hc hkp
        go_wp2_with fail
        refine bodyPost_ret (results_tmp rfl _ _ _) rfl ⟨by rw [HC.out]; rfl, hB⟩
end Go.Proofs.YteoafohebgfjdaaGreatDoor
/-
  strings.CutPrefix.
-/
namespace Go.Proofs.YteoafohebgfjdaaGreatDoor
open Go.RowKit
set_option maxRecDepth 100000

/-- Whether a text begins so. -/
def preB (s p : ByteArray) : Bool := p.data.toList.isPrefixOf s.data.toList

theorem pre_some (s p : ByteArray) (h : preB s p = true) : (p.size : Int) ≤ s.size ∧ s.extract 0 p.size = p := by
  have h := List.isPrefixOf_iff_prefix.1 h
  have hl := h.length_le
  simp at hl
  have hl' : p.size ≤ s.size := hl
  refine ⟨by omega, ?_⟩
  apply ByteArray.ext
  apply Array.ext'
  rw [Lib.extract_data]
  obtain ⟨t, ht⟩ := h
  rw [← ht]
  simp
theorem pre_none (s p : ByteArray) (h : preB s p = false) : ((s.extract 0 p.size).toList == p.toList) = false := by
  rw [Bool.eq_false_iff]
  intro e
  have e := eq_of_beq e
  rw [Lib.toList_data, Lib.toList_data] at e
  have : p.data.toList <+: s.data.toList := by
    refine ⟨s.data.toList.drop p.size, ?_⟩
    rw [← e, Lib.extract_data]
    simp
  unfold preB at h
  rw [List.isPrefixOf_iff_prefix.2 this] at h
  cases h

set_option maxHeartbeats 400000 in
theorem hasPre_any (s p : ByteArray) (w : World) :
    Calls Tryz.prog 102 #[.string s, .string p] w fun e w' => e = .returned (.bool (preB s p)) ∧ w' = w := by
  go_enter Tryz.func102, Tryz.ntmps102
  cases h : preB s p with
  | true =>
    obtain ⟨h1, h2⟩ := pre_some s p h
    have h3 : 0 ≤ (p.size : Int) := by omega
    go_wp2
    go_ret
    exact ⟨rfl, rfl⟩
  | false =>
    by_cases h1 : (p.size : Int) ≤ s.size
    · have h2 := pre_none s p h
      have h3 : 0 ≤ (p.size : Int) := by omega
      go_wp2
      go_ret
      exact ⟨rfl, rfl⟩
    · go_wp2
      go_ret
      exact ⟨rfl, rfl⟩

/-- What stands behind a text's beginning. -/
def restP (s p : ByteArray) : ByteArray := if preB s p then s.extract p.size s.size else s
theorem restP_some {s p : ByteArray} (h : preB s p = true) : restP s p = s.extract p.size s.size := if_pos h
theorem restP_none {s p : ByteArray} (h : preB s p = false) : restP s p = s := by unfold restP; rw [h]; rfl

set_option maxHeartbeats 400000 in
theorem slCutPre_any (s p : ByteArray) (w : World) :
    Calls Tryz.prog 88 #[.string s, .string p] w fun e w' => e = .returned (.tuple #[.string (restP s p), .bool (preB s p)]) ∧ w' = w := by
  go_enter Tryz.func88, Tryz.ntmps88
  go_wp2_with fail
  refine (hasPre_any s p _).mono ?_
  rintro e w1 ⟨rfl, rfl⟩
  cases h : preB s p with
  | true =>
    obtain ⟨h1, h2⟩ := pre_some s p h
    have h3 : 0 ≤ (p.size : Int) := by omega
    clear h2
    have HB := hide h
    have HR := hide (restP_some h)
    go_wp2
    refine bodyPost_ret (results_tmp2 rfl _ _ _) rfl ?_
    exact ⟨by rw [HR.out, HB.out]; rfl, rfl⟩
  | false =>
    have HB := hide h
    have HR := hide (restP_none h)
    go_wp2
    refine bodyPost_ret (results_tmp2 rfl _ _ _) rfl ?_
    exact ⟨by rw [HR.out, HB.out]; rfl, rfl⟩

set_option maxHeartbeats 400000 in
theorem cutPre_any (s p : ByteArray) (w : World) :
    Calls Tryz.prog 72 #[.string s, .string p] w fun e w' => e = .returned (.tuple #[.string (restP s p), .bool (preB s p)]) ∧ w' = w := by
  go_enter Tryz.func72, Tryz.ntmps72
  go_wp2_with fail
  refine (slCutPre_any s p _).mono ?_
  rintro e w1 ⟨rfl, rfl⟩
  go_wp2
  refine bodyPost_ret (results_tmp2 rfl _ _ _) rfl ?_
  exact ⟨rfl, rfl⟩

end Go.Proofs.YteoafohebgfjdaaGreatDoor
/-
  paths.behind, Within, Under, Reserved.
-/
namespace Go.Proofs.YteoafohebgfjdaaGreatDoor
open Go.RowKit
set_option maxRecDepth 100000

/-- What a path has behind another one's names, and whether. -/
def restB (p q : ByteArray) : ByteArray :=
  if !rightL (toL p) || !rightL (toL q) then ⟨#[]⟩ else if q.toList.isEmpty && !p.toList.isEmpty then ⟨#[47]⟩ ++ p else restP p q
def okB (p q : ByteArray) : Bool :=
  if !rightL (toL p) || !rightL (toL q) then false else if q.toList.isEmpty && !p.toList.isEmpty then true else preB p q && ((restP p q).toList.isEmpty || (toL (restP p q)).head? == some 47)

theorem first_byte (s : ByteArray) (h : s.toList.isEmpty = false) : ∃ h0 : 0 < s.size, ((toL s).head? == some 47) = ((s[0].toNat : Int) == 47) := by
  have h1 : s.data.toList ≠ [] := by rw [← Lib.toList_data]; intro e; rw [e] at h; cases h
  have h2 : 0 < s.data.toList.length := List.length_pos_iff.2 h1
  have h0 : 0 < s.size := by simpa using h2
  refine ⟨h0, ?_⟩
  unfold toL
  have e : s.data.toList.head? = some s[0] := by
    rw [List.head?_eq_getElem?, List.getElem?_eq_getElem h2]; rfl
  rw [e]
  by_cases hc : s[0] = 47
  · rw [hc]; rfl
  · have : ¬ (s[0].toNat : Int) = 47 := fun e => hc (UInt8.toNat_inj.1 (by have : (47 : UInt8).toNat = 47 := rfl; omega))
    rw [show ((s[0].toNat : Int) == 47) = false from by simpa using this]
    simpa using hc

set_option maxRecDepth 100000 in
set_option maxHeartbeats 2000000 in
theorem behind_any (p q : ByteArray) (w : World) (hp : (p.size : Int) ≤ 1000000000) (hq : (q.size : Int) ≤ 1000000000) :
    Calls Tryz.prog 59 #[.string p, .string q] w fun e w' => e = .returned (.tuple #[.string (restB p q), .bool (okB p q)]) ∧ Below w.heap.size w w' := by
  go_enter Tryz.func59, Tryz.ntmps59
  cases hr : rightL p.data.toList with
  | false =>
    have e1 := hide (show restB p q = ⟨#[]⟩ by unfold restB toL; rw [hr]; rfl)
    have e2 := hide (show okB p q = false by unfold okB toL; rw [hr]; rfl)
    go_wp2_with fail
    refine (right_any p _ (by omega)).mono ?_
    rintro e w1 ⟨rfl, hB1⟩
    rw [hr]
    go_wp2_with fail
    refine bodyPost_ret (results_tmp2 rfl _ _ _) rfl ⟨by rw [e1.out, e2.out]; rfl, hB1⟩
  | true =>
    go_wp2_with fail
    refine (right_any p _ (by omega)).mono ?_
    rintro e w1 ⟨rfl, hB1⟩
    rw [hr]
    go_wp2_with fail
    refine (right_any q _ (by omega)).mono ?_
    rintro e w2 ⟨rfl, hB2⟩
    have hB := hB1.trans (hB2.mono hB1.size)
    clear hB1 hB2
    cases hs : rightL q.data.toList with
    | false =>
      have e1 := hide (show restB p q = ⟨#[]⟩ by unfold restB toL; rw [hr, hs]; rfl)
      have e2 := hide (show okB p q = false by unfold okB toL; rw [hr, hs]; rfl)
      go_wp2_with fail
      refine bodyPost_ret (results_tmp2 rfl _ _ _) rfl ⟨by rw [e1.out, e2.out]; rfl, hB⟩
    | true =>
      cases hqe : q.toList.isEmpty && !p.toList.isEmpty with
      | true =>
        have e1 := hide (show restB p q = ⟨#[47]⟩ ++ p by unfold restB toL; rw [hr, hs, hqe]; rfl)
        have e2 := hide (show okB p q = true by unfold okB toL; rw [hr, hs, hqe]; rfl)
        rw [Bool.and_eq_true] at hqe
        have q1 := hqe.1
        have q2 : p.toList.isEmpty = false := by simpa using hqe.2
        clear hqe
        go_wp2_with fail
        refine bodyPost_ret (results_tmp2 rfl _ _ _) rfl ⟨by rw [e1.out, e2.out]; rfl, hB⟩
      | false =>
        have e1 : restB p q = restP p q := by unfold restB toL; rw [hr, hs, hqe]; rfl
        have e2 : okB p q = (preB p q && ((restP p q).toList.isEmpty || (toL (restP p q)).head? == some 47)) := by unfold okB; rw [show rightL (toL p) = true from hr, show rightL (toL q) = true from hs, hqe]; rfl
        cases hq0 : q.toList.isEmpty with
        | false =>
          clear hqe
          go_wp2_with fail
          refine (cutPre_any p q _).mono ?_
          rintro e w3 ⟨rfl, rfl⟩
          cases hpre : preB p q with
          | false =>
            have f1 := hide e1
            have f2 := hide (show okB p q = false by rw [e2, hpre]; rfl)
            clear e1 e2
            go_wp2_with fail
            go_quiet (fail)
            go_wp2_with fail
            refine bodyPost_ret (results_tmp2 rfl _ _ _) rfl ⟨by rw [f1.out, f2.out]; rfl, below_drewN hB _⟩
          | true =>
            cases hre : (restP p q).toList.isEmpty with
            | true =>
              have f1 := hide e1
              have f2 := hide (show okB p q = true by rw [e2, hpre, hre]; rfl)
              clear e1 e2
              go_wp2_with fail
              go_quiet (fail)
              go_wp2_with fail
              refine bodyPost_ret (results_tmp2 rfl _ _ _) rfl ⟨by rw [f1.out, f2.out]; rfl, below_drewN hB _⟩
            | false =>
              obtain ⟨g0, g1⟩ := first_byte _ hre
              have f1 := hide e1
              have f2 := hide (show okB p q = (((restP p q)[0].toNat : Int) == 47) by rw [e2, hpre, hre, g1]; rfl)
              have g2 : (0 : Int) < (restP p q).size := by omega
              clear e1 e2 g1
              go_wp2_with fail
              go_quiet (fail)
              go_wp2_with fail
              refine bodyPost_ret (results_tmp2 rfl _ _ _) rfl ⟨by rw [f1.out, f2.out]; rfl, below_drewN hB _⟩
        | true =>
          have hp0 : p.toList.isEmpty = true := by rw [hq0] at hqe; simpa using hqe
          clear hqe
          go_wp2_with fail
          refine (cutPre_any p q _).mono ?_
          rintro e w3 ⟨rfl, rfl⟩
          cases hpre : preB p q with
          | false =>
            have f1 := hide e1
            have f2 := hide (show okB p q = false by rw [e2, hpre]; rfl)
            clear e1 e2
            go_wp2_with fail
            go_quiet (fail)
            go_wp2_with fail
            refine bodyPost_ret (results_tmp2 rfl _ _ _) rfl ⟨by rw [f1.out, f2.out]; rfl, below_drewN hB _⟩
          | true =>
            cases hre : (restP p q).toList.isEmpty with
            | true =>
              have f1 := hide e1
              have f2 := hide (show okB p q = true by rw [e2, hpre, hre]; rfl)
              clear e1 e2
              go_wp2_with fail
              go_quiet (fail)
              go_wp2_with fail
              refine bodyPost_ret (results_tmp2 rfl _ _ _) rfl ⟨by rw [f1.out, f2.out]; rfl, below_drewN hB _⟩
            | false =>
              obtain ⟨g0, g1⟩ := first_byte _ hre
              have f1 := hide e1
              have f2 := hide (show okB p q = (((restP p q)[0].toNat : Int) == 47) by rw [e2, hpre, hre, g1]; rfl)
              have g2 : (0 : Int) < (restP p q).size := by omega
              clear e1 e2 g1
              go_wp2_with fail
              go_quiet (fail)
              go_wp2_with fail
              refine bodyPost_ret (results_tmp2 rfl _ _ _) rfl ⟨by rw [f1.out, f2.out]; rfl, below_drewN hB _⟩
end Go.Proofs.YteoafohebgfjdaaGreatDoor
