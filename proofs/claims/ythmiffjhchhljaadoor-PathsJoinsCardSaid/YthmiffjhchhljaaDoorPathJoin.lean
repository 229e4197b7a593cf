/-
  paths.Join, over strings.Join's contract.
-/
import Derived.Test.YthmiffjhchhljaaDoorRefRebase
namespace Go.Proofs.YthmiffjhchhljaaDoor
open Go.RowKit
set_option maxRecDepth 100000

/-- What strings.Join owes, between slashes. -/
def JoinOwes : Prop := ∀ (A : Option Addr) (cs : List ByteArray) (c : Nat) (w : World), Rd w w.heap.size A cs → cs.length ≤ c → (cs.length : Int) ≤ 16 → (∀ (k : Nat) (x : ByteArray), cs[k]? = some x → (x.size : Int) ≤ 12) →
  Calls Tryd.prog 59 #[.slice A cs.length c, .string ⟨#[47]⟩] w fun e w' => (∃ g : ByteArray, e = .returned (.string g) ∧ toL g = glueL (cs.map toL)) ∧ Below w.heap.size w w'

theorem name_len {x : ByteArray} (h : nameL (toL x) = true) : (x.size : Int) ≤ 12 := by
  unfold nameL at h
  simp only [Bool.and_eq_true, decide_eq_true_eq] at h
  have := h.1.1.1.2
  simp [toL] at this
  omega

/-- paths.Join's answer: a path, or why there is none. -/
def joinE (l : List (List UInt8)) : Int := if !l.all nameL then 2 else if l.length ≤ 16 then 0 else 5
def joinG (l : List (List UInt8)) : List UInt8 := if l.all nameL ∧ l.length ≤ 16 then glueL l else []

set_option maxHeartbeats 2000000 in
theorem pathJoin_any (HJ : JoinOwes) (A : Option Addr) (cs : List ByteArray) (c : Nat) (w : World) (hA : Rd w w.heap.size A cs) (hcap : cs.length ≤ c) (hn : (cs.length : Int) ≤ 1000) :
    Calls Tryd.prog 29 #[.slice A cs.length c] w fun e w' => (∃ g : ByteArray, e = .returned (.tuple #[.string g, .int .i64 (joinE (cs.map toL))]) ∧ toL g = joinG (cs.map toL)) ∧ Below w.heap.size w w' := by
  go_enter Tryd.func29, Tryd.ntmps29
  go_wp2_with fail
  go_loopw [8] (fun i wr => ∃ k : Nat, k ≤ cs.length ∧ i = .int .i64 k ∧ Hid (((cs.map toL).take k).all nameL = true) ∧ wr = w) (fun i _ => cs.length - (intOf i).toNat)
  case atStart => exact ⟨0, Nat.zero_le _, rfl, hide (by simp), rfl⟩
  case round =>
    obtain ⟨k, hk, rfl, HA, rfl⟩ := hrel
    by_cases hlt : (k : Int) < cs.length
    · have hlt' : k < cs.length := by omega
      obtain ⟨ad, rfl, _, hc⟩ := hA k cs[k] (List.getElem?_eq_getElem hlt')
      have hsn := all_take_succ cs k cs[k] (List.getElem?_eq_getElem hlt')
      rw [HA.out, Bool.true_and] at hsn
      have HS := hide hsn
      clear hsn
      go_wp2_with fail
      refine (name_any cs[k] _).mono ?_
      rintro e w2 ⟨rfl, rfl⟩
      cases hnm : nameL cs[k].data.toList with
      | true =>
        go_wp2_with fail
        go_roundw
        case rel => exact ⟨k + 1, by omega, rfl, hide (by rw [HS.out]; exact hnm), trivial⟩
        case measure => simp [intOf]; omega
      | false =>
        have e0 : (cs.map toL).all nameL = false := by
          have h := HS.out
          rw [show nameL (toL cs[k]) = false from hnm] at h
          rw [← List.take_append_drop (k + 1) (cs.map toL), List.all_append, h]; rfl
        have E1 := hide (show joinE (cs.map toL) = 2 by unfold joinE; rw [e0]; rfl)
        have E2 := hide (show joinG (cs.map toL) = [] by unfold joinG; rw [e0]; simp)
        clear e0
        go_wp2_with fail
        refine bodyPost_ret (results_tmp2 rfl _ _ _) rfl ⟨⟨⟨#[]⟩, by rw [E1.out]; rfl, by rw [E2.out]; rfl⟩, Below.refl _ _⟩
    · have hall : (cs.map toL).all nameL = true := by
        have h := HA.out
        rwa [List.take_of_length_le (by simp; omega)] at h
      by_cases hl : (16 : Int) < cs.length
      · have E1 := hide (show joinE (cs.map toL) = 5 by unfold joinE; rw [hall, if_neg (by simp), if_neg (by rw [List.length_map]; omega)])
        have E2 := hide (show joinG (cs.map toL) = [] by unfold joinG; rw [if_neg]; rintro ⟨_, h⟩; rw [List.length_map] at h; omega)
        clear hall
        go_wp2_with fail
        refine bodyPost_ret (results_tmp2 rfl _ _ _) rfl ⟨⟨⟨#[]⟩, by rw [E1.out]; rfl, by rw [E2.out]; rfl⟩, Below.refl _ _⟩
      · have E1 := hide (show joinE (cs.map toL) = 0 by unfold joinE; rw [hall, if_neg (by simp), if_pos (by rw [List.length_map]; omega)])
        have E2 := hide (show joinG (cs.map toL) = glueL (cs.map toL) by unfold joinG; rw [if_pos ⟨hall, by rw [List.length_map]; omega⟩])
        have HJ' := hide (HJ A cs c _ hA hcap (by omega) (fun j x hx => name_len (by
          have := List.all_eq_true.1 hall (toL x) (List.mem_map.2 ⟨x, List.mem_of_getElem? hx, rfl⟩)
          exact this)))
        clear hall HA
        go_wp2_with fail
        refine HJ'.out.mono ?_
        rintro e w3 ⟨⟨g, rfl, hg⟩, hB3⟩
        have HG := hide hg
        clear hg
        go_wp2_with fail
        refine bodyPost_ret (results_tmp2 rfl _ _ _) rfl ⟨⟨g, by rw [E1.out]; rfl, by rw [E2.out, HG.out]⟩, hB3⟩
end Go.Proofs.YthmiffjhchhljaaDoor
