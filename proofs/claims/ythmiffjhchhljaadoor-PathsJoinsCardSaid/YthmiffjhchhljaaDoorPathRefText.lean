/-
  The reference's text: two names, byte by byte.
-/
import Derived.Test.YthmiffjhchhljaaDoorPathPre
import Derived.Test.YthmiffjhchhljaaDoorPathRight
namespace Go.Proofs.YthmiffjhchhljaaDoor
open Go.RowKit
set_option maxRecDepth 100000

/-- Two names, byte by byte. -/
def textL : List UInt8 → List UInt8 → Int
  | [], [] => 0
  | [], _ :: _ => -1
  | _ :: _, [] => 1
  | a :: p, b :: q => if a = b then textL p q else signZ ((a.toNat : Int) - (b.toNat : Int))

theorem textL_same : ∀ (k : Nat) (p q : List UInt8), p.take k = q.take k → k ≤ p.length → k ≤ q.length → textL p q = textL (p.drop k) (q.drop k)
  | 0, p, q, _, _, _ => by simp
  | k + 1, a :: p, b :: q, h, h1, h2 => by
    simp at h h1 h2
    rw [h.1]
    simp only [textL, if_true, List.drop_succ_cons]
    exact textL_same k p q h.2 h1 h2
  | k + 1, [], _, _, h1, _ => by simp at h1
  | k + 1, _ :: _, [], _, _, h2 => by simp at h2

theorem textL_at (k : Nat) (p q : ByteArray) (h : p.data.toList.take k = q.data.toList.take k) (h1 : k < p.size) (h2 : k < q.size) (hne : p[k] ≠ q[k]) :
    textL p.data.toList q.data.toList = signZ ((p[k].toNat : Int) - (q[k].toNat : Int)) := by
  have l1 : k < p.data.toList.length := by simpa using h1
  have l2 : k < q.data.toList.length := by simpa using h2
  rw [textL_same k _ _ h (by omega) (by omega), List.drop_eq_getElem_cons l1, List.drop_eq_getElem_cons l2]
  have e1 : p.data.toList[k] = p[k] := rfl
  have e2 : q.data.toList[k] = q[k] := rfl
  rw [e1, e2]
  simp [textL, hne]

theorem textL_end (p q : ByteArray) (h : p.data.toList.take (min p.size q.size) = q.data.toList.take (min p.size q.size)) :
    textL p.data.toList q.data.toList = signZ ((p.size : Int) - q.size) := by
  have s1 : p.data.toList.length = p.size := by simp
  have s2 : q.data.toList.length = q.size := by simp
  rw [textL_same _ _ _ h (by rw [s1]; omega) (by rw [s2]; omega)]
  by_cases hl : p.size ≤ q.size
  · rw [Nat.min_eq_left hl, List.drop_of_length_le (by omega)]
    cases hd : q.data.toList.drop p.size with
    | nil =>
      have := congrArg List.length hd
      simp at this
      have : (p.size : Int) - q.size = 0 := by omega
      rw [this]; rfl
    | cons c r =>
      have := congrArg List.length hd
      simp at this
      have h1 : (p.size : Int) - q.size < 0 := by omega
      simp [textL, signZ, h1]
  · rw [Nat.min_eq_right (by omega), List.drop_of_length_le (l := q.data.toList) (by omega)]
    cases hd : p.data.toList.drop q.size with
    | nil =>
      have := congrArg List.length hd
      simp at this
      omega
    | cons c r =>
      have h1 : ¬ (p.size : Int) - q.size < 0 := by omega
      have h2 : ¬ (p.size : Int) - q.size = 0 := by omega
      simp [textL, signZ, h1, h2]


set_option maxRecDepth 100000 in
set_option maxHeartbeats 2000000 in
theorem text_any (p q : ByteArray) (w : World) (hp : (p.size : Int) ≤ 9223372036854775800) :
    Calls Tryd.prog 64 #[.string p, .string q] w fun e w' => e = .returned (.int .i64 (textL p.data.toList q.data.toList)) ∧ Below w.heap.size w w' := by
  go_enter Tryd.func64, Tryd.ntmps64
  go_wp2_with fail
  go_loopw [5] (fun i wr => ∃ k : Nat, k ≤ p.size ∧ k ≤ q.size ∧ i = .int .i64 k ∧ Hid (p.data.toList.take k = q.data.toList.take k) ∧ Below w.heap.size w wr) (fun i _ => p.size - (intOf i).toNat)
  case atStart => exact ⟨0, Nat.zero_le _, Nat.zero_le _, rfl, hide (by simp), Below.refl _ _⟩
  case round =>
    obtain ⟨k, hk, hk', rfl, HA, hB⟩ := hrel
    by_cases h1 : (k : Int) < p.size
    · by_cases h2 : (k : Int) < q.size
      · have n1 : k < p.size := by omega
        have n2 : k < q.size := by omega
        by_cases he : p[k] = q[k]
        · have hs := hide (take_snoc_eq k p q HA.out n1 n2 he)
          have q1 : ¬ (p[k].toNat : Int) < q[k].toNat := by rw [he]; omega
          have q2 : ¬ (q[k].toNat : Int) < p[k].toNat := by rw [he]; omega
          clear he
          go_wp2_with fail
          go_quiet (fail)
          go_wp2_with fail
          have hB2 := below_drewN hB nq
          generalize wr.drewN nq = wq at hB2 ⊢
          go_quiet (fail)
          go_wp2_with fail
          go_roundw
          case rel => exact ⟨k + 1, by omega, by omega, rfl, hs, below_drewN hB2 _⟩
          case measure => simp [intOf]; omega
        · have hc := textL_at k p q HA.out n1 n2 he
          by_cases q1 : (p[k].toNat : Int) < q[k].toNat
          · have HC := hide (show textL p.data.toList q.data.toList = -1 by rw [hc]; unfold signZ; rw [if_pos (by omega)])
            clear he hc
            go_wp2_with fail
            go_quiet (fail)
            go_wp2_with fail
            refine bodyPost_ret (results_tmp rfl _ _ _) rfl ⟨by rw [HC.out]; rfl, below_drewN hB _⟩
          · have q0 : ¬ (p[k].toNat : Int) = q[k].toNat := fun e => he (UInt8.toNat_inj.1 (by omega))
            have q2 : (q[k].toNat : Int) < p[k].toNat := by omega
            have HC := hide (show textL p.data.toList q.data.toList = 1 by rw [hc]; unfold signZ; rw [if_neg (by omega), if_neg (by omega)])
            clear he hc q0
            go_wp2_with fail
            go_quiet (fail)
            go_wp2_with fail
            have hB2 := below_drewN hB nq
            generalize wr.drewN nq = wq at hB2 ⊢
            go_quiet (fail)
            go_wp2_with fail
            refine bodyPost_ret (results_tmp rfl _ _ _) rfl ⟨by rw [HC.out]; rfl, below_drewN hB2 _⟩
      · have hkq : k = q.size := by omega
        have hc := textL_end p q (by rw [show min p.size q.size = k by omega]; exact HA.out)
        have HC := hide (show textL p.data.toList q.data.toList = 1 by rw [hc]; unfold signZ; rw [if_neg (by omega), if_neg (by omega)])
        have g1 : ¬ (p.size : Int) < q.size := by omega
        have g2 : (q.size : Int) < p.size := by omega
        clear hc
        go_wp2_with fail
        refine bodyPost_ret (results_tmp rfl _ _ _) rfl ⟨by rw [HC.out]; rfl, hB⟩
    · have hkp : k = p.size := by omega
      have hc := textL_end p q (by rw [show min p.size q.size = k by omega]; exact HA.out)
      by_cases g1 : (p.size : Int) < q.size
      · have HC := hide (show textL p.data.toList q.data.toList = -1 by rw [hc]; unfold signZ; rw [if_pos (by omega)])
        clear hc hkp
        go_wp2_with fail
        refine bodyPost_ret (results_tmp rfl _ _ _) rfl ⟨by rw [HC.out]; rfl, hB⟩
      · have HC := hide (show textL p.data.toList q.data.toList = 0 by rw [hc]; unfold signZ; rw [if_neg (by omega), if_pos (by omega)])
        have g2 : ¬ (q.size : Int) < p.size := by omega
        clear hc hkp
        go_wp2_with fail
        refine bodyPost_ret (results_tmp rfl _ _ _) rfl ⟨by rw [HC.out]; rfl, hB⟩
end Go.Proofs.YthmiffjhchhljaaDoor
