/-
  paths.behind, Within, Under, Reserved.
-/
import Derived.Test.YtlohoamhgioheaaDoorPathRight
import Derived.Test.YtlohoamhgioheaaDoorPathPreCut
namespace Go.Proofs.YtlohoamhgioheaaDoor
open Go.RowKit
set_option maxRecDepth 100000

/-- What a path has behind another one's names, and whether. -/
def restB (p q : ByteArray) : ByteArray :=
  if !rightL (toL p) || !rightL (toL q) then ⟨#[]⟩ else if q.toList.isEmpty && !p.toList.isEmpty then ⟨#[47]⟩ ++ p else restP p q
def okB (p q : ByteArray) : Bool :=
  if !rightL (toL p) || !rightL (toL q) then false else if q.toList.isEmpty && !p.toList.isEmpty then true else preB p q && ((restP p q).toList.isEmpty || (toL (restP p q)).head? == some 47)

theorem first_byte (s : ByteArray) (h : s.toList.isEmpty = false) : ∃ h0 : 0 < s.size, ((toL s).head? == some 47) = ((s[0].toNat : Int) == 47) := by
  have h1 : s.data.toList ≠ [] := by rw [← Lib.toList_data]; intro e; rw [e] at h; cases h
  have h2 : 0 < s.data.toList.length := List.length_pos_iff.2 h1
  have h0 : 0 < s.size := by simpa using h2
  refine ⟨h0, ?_⟩
  unfold toL
  have e : s.data.toList.head? = some s[0] := by
    rw [List.head?_eq_getElem?, List.getElem?_eq_getElem h2]; rfl
  rw [e]
  by_cases hc : s[0] = 47
  · rw [hc]; rfl
  · have : ¬ (s[0].toNat : Int) = 47 := fun e => hc (UInt8.toNat_inj.1 (by have : (47 : UInt8).toNat = 47 := rfl; omega))
    rw [show ((s[0].toNat : Int) == 47) = false from by simpa using this]
    simpa using hc

set_option maxRecDepth 100000 in
set_option maxHeartbeats 2000000 in
theorem behind_any (p q : ByteArray) (w : World) (hp : (p.size : Int) ≤ 1000000000) (hq : (q.size : Int) ≤ 1000000000) :
    Calls Tryd.prog 57 #[.string p, .string q] w fun e w' => e = .returned (.tuple #[.string (restB p q), .bool (okB p q)]) ∧ Below w.heap.size w w' := by
  go_enter Tryd.func57, Tryd.ntmps57
  cases hr : rightL p.data.toList with
  | false =>
    have e1 := hide (show restB p q = ⟨#[]⟩ by unfold restB toL; rw [hr]; rfl)
    have e2 := hide (show okB p q = false by unfold okB toL; rw [hr]; rfl)
    go_wp2_with fail
    refine (right_any p _ (by omega)).mono ?_
    rintro e w1 ⟨rfl, hB1⟩
    rw [hr]
    go_wp2_with fail
    refine bodyPost_ret (results_tmp2 rfl _ _ _) rfl ⟨by rw [e1.out, e2.out]; rfl, hB1⟩
  | true =>
    go_wp2_with fail
    refine (right_any p _ (by omega)).mono ?_
    rintro e w1 ⟨rfl, hB1⟩
    rw [hr]
    go_wp2_with fail
    refine (right_any q _ (by omega)).mono ?_
    rintro e w2 ⟨rfl, hB2⟩
    have hB := hB1.trans (hB2.mono hB1.size)
    clear hB1 hB2
    cases hs : rightL q.data.toList with
    | false =>
      have e1 := hide (show restB p q = ⟨#[]⟩ by unfold restB toL; rw [hr, hs]; rfl)
      have e2 := hide (show okB p q = false by unfold okB toL; rw [hr, hs]; rfl)
      go_wp2_with fail
      refine bodyPost_ret (results_tmp2 rfl _ _ _) rfl ⟨by rw [e1.out, e2.out]; rfl, hB⟩
    | true =>
      cases hqe : q.toList.isEmpty && !p.toList.isEmpty with
      | true =>
        have e1 := hide (show restB p q = ⟨#[47]⟩ ++ p by unfold restB toL; rw [hr, hs, hqe]; rfl)
        have e2 := hide (show okB p q = true by unfold okB toL; rw [hr, hs, hqe]; rfl)
        rw [Bool.and_eq_true] at hqe
        have q1 := hqe.1
        have q2 : p.toList.isEmpty = false := by simpa using hqe.2
        clear hqe
        go_wp2_with fail
        refine bodyPost_ret (results_tmp2 rfl _ _ _) rfl ⟨by rw [e1.out, e2.out]; rfl, hB⟩
      | false =>
        have e1 : restB p q = restP p q := by unfold restB toL; rw [hr, hs, hqe]; rfl
        have e2 : okB p q = (preB p q && ((restP p q).toList.isEmpty || (toL (restP p q)).head? == some 47)) := by unfold okB; rw [show rightL (toL p) = true from hr, show rightL (toL q) = true from hs, hqe]; rfl
        cases hq0 : q.toList.isEmpty with
        | false =>
          clear hqe
          go_wp2_with fail
          refine (cutPre_any p q _).mono ?_
          rintro e w3 ⟨rfl, rfl⟩
          cases hpre : preB p q with
          | false =>
            have f1 := hide e1
            have f2 := hide (show okB p q = false by rw [e2, hpre]; rfl)
            clear e1 e2
            go_wp2_with fail
            go_quiet (fail)
            go_wp2_with fail
            refine bodyPost_ret (results_tmp2 rfl _ _ _) rfl ⟨by rw [f1.out, f2.out]; rfl, below_drewN hB _⟩
          | true =>
            cases hre : (restP p q).toList.isEmpty with
            | true =>
              have f1 := hide e1
              have f2 := hide (show okB p q = true by rw [e2, hpre, hre]; rfl)
              clear e1 e2
              go_wp2_with fail
              go_quiet (fail)
              go_wp2_with fail
              refine bodyPost_ret (results_tmp2 rfl _ _ _) rfl ⟨by rw [f1.out, f2.out]; rfl, below_drewN hB _⟩
            | false =>
              obtain ⟨g0, g1⟩ := first_byte _ hre
              have f1 := hide e1
              have f2 := hide (show okB p q = (((restP p q)[0].toNat : Int) == 47) by rw [e2, hpre, hre, g1]; rfl)
              have g2 : (0 : Int) < (restP p q).size := by omega
              clear e1 e2 g1
              go_wp2_with fail
              go_quiet (fail)
              go_wp2_with fail
              refine bodyPost_ret (results_tmp2 rfl _ _ _) rfl ⟨by rw [f1.out, f2.out]; rfl, below_drewN hB _⟩
        | true =>
          have hp0 : p.toList.isEmpty = true := by rw [hq0] at hqe; simpa using hqe
          clear hqe
          go_wp2_with fail
          refine (cutPre_any p q _).mono ?_
          rintro e w3 ⟨rfl, rfl⟩
          cases hpre : preB p q with
          | false =>
            have f1 := hide e1
            have f2 := hide (show okB p q = false by rw [e2, hpre]; rfl)
            clear e1 e2
            go_wp2_with fail
            go_quiet (fail)
            go_wp2_with fail
            refine bodyPost_ret (results_tmp2 rfl _ _ _) rfl ⟨by rw [f1.out, f2.out]; rfl, below_drewN hB _⟩
          | true =>
            cases hre : (restP p q).toList.isEmpty with
            | true =>
              have f1 := hide e1
              have f2 := hide (show okB p q = true by rw [e2, hpre, hre]; rfl)
              clear e1 e2
              go_wp2_with fail
              go_quiet (fail)
              go_wp2_with fail
              refine bodyPost_ret (results_tmp2 rfl _ _ _) rfl ⟨by rw [f1.out, f2.out]; rfl, below_drewN hB _⟩
            | false =>
              obtain ⟨g0, g1⟩ := first_byte _ hre
              have f1 := hide e1
              have f2 := hide (show okB p q = (((restP p q)[0].toNat : Int) == 47) by rw [e2, hpre, hre, g1]; rfl)
              have g2 : (0 : Int) < (restP p q).size := by omega
              clear e1 e2 g1
              go_wp2_with fail
              go_quiet (fail)
              go_wp2_with fail
              refine bodyPost_ret (results_tmp2 rfl _ _ _) rfl ⟨by rw [f1.out, f2.out]; rfl, below_drewN hB _⟩
end Go.Proofs.YtlohoamhgioheaaDoor
