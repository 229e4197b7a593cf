/-
  strings.CutPrefix and strings.TrimPrefix; paths.Cmp.
-/
import Derived.Test.YthmiffjhchhljaaDoorPathLib
import Derived.Test.YthmiffjhchhljaaDoorPathName
import Derived.WalkKit
import Derived.WalkSpells
import Derived.WalkLawsBesides
import Derived.Deep.QuietTactic
import Derived.BigQuiet
import Derived.WalkSmall
namespace Go.Proofs.YthmiffjhchhljaaDoor
open Go.RowKit
set_option maxRecDepth 100000

/-- Whether a text begins so. -/
def preB (s p : ByteArray) : Bool := p.data.toList.isPrefixOf s.data.toList

theorem pre_some (s p : ByteArray) (h : preB s p = true) : (p.size : Int) ≤ s.size ∧ s.extract 0 p.size = p := by
  have h := List.isPrefixOf_iff_prefix.1 h
  have hl := h.length_le
  simp at hl
  have hl' : p.size ≤ s.size := hl
  refine ⟨by omega, ?_⟩
  apply ByteArray.ext
  apply Array.ext'
  rw [Lib.extract_data]
  obtain ⟨t, ht⟩ := h
  rw [← ht]
  simp
theorem pre_none (s p : ByteArray) (h : preB s p = false) : ((s.extract 0 p.size).toList == p.toList) = false := by
  rw [Bool.eq_false_iff]
  intro e
  have e := eq_of_beq e
  rw [Lib.toList_data, Lib.toList_data] at e
  have : p.data.toList <+: s.data.toList := by
    refine ⟨s.data.toList.drop p.size, ?_⟩
    rw [← e, Lib.extract_data]
    simp
  unfold preB at h
  rw [List.isPrefixOf_iff_prefix.2 this] at h
  cases h

set_option maxHeartbeats 400000 in
theorem hasPre_any (s p : ByteArray) (w : World) :
    Calls Tryd.prog 96 #[.string s, .string p] w fun e w' => e = .returned (.bool (preB s p)) ∧ w' = w := by
  go_enter Tryd.func96, Tryd.ntmps96
  cases h : preB s p with
  | true =>
    obtain ⟨h1, h2⟩ := pre_some s p h
    have h3 : 0 ≤ (p.size : Int) := by omega
    go_wp2
    go_ret
    exact ⟨rfl, rfl⟩
  | false =>
    by_cases h1 : (p.size : Int) ≤ s.size
    · have h2 := pre_none s p h
      have h3 : 0 ≤ (p.size : Int) := by omega
      go_wp2
      go_ret
      exact ⟨rfl, rfl⟩
    · go_wp2
      go_ret
      exact ⟨rfl, rfl⟩

/-- What stands behind a text's beginning. -/
def restP (s p : ByteArray) : ByteArray := if preB s p then s.extract p.size s.size else s
theorem restP_some {s p : ByteArray} (h : preB s p = true) : restP s p = s.extract p.size s.size := if_pos h
theorem restP_none {s p : ByteArray} (h : preB s p = false) : restP s p = s := by unfold restP; rw [h]; rfl

set_option maxHeartbeats 400000 in
theorem slCutPre_any (s p : ByteArray) (w : World) :
    Calls Tryd.prog 95 #[.string s, .string p] w fun e w' => e = .returned (.tuple #[.string (restP s p), .bool (preB s p)]) ∧ w' = w := by
  go_enter Tryd.func95, Tryd.ntmps95
  go_wp2_with fail
  refine (hasPre_any s p _).mono ?_
  rintro e w1 ⟨rfl, rfl⟩
  cases h : preB s p with
  | true =>
    obtain ⟨h1, h2⟩ := pre_some s p h
    have h3 : 0 ≤ (p.size : Int) := by omega
    clear h2
    have HB := hide h
    have HR := hide (restP_some h)
    go_wp2
    refine bodyPost_ret (results_tmp2 rfl _ _ _) rfl ?_
    exact ⟨by rw [HR.out, HB.out]; rfl, rfl⟩
  | false =>
    have HB := hide h
    have HR := hide (restP_none h)
    go_wp2
    refine bodyPost_ret (results_tmp2 rfl _ _ _) rfl ?_
    exact ⟨by rw [HR.out, HB.out]; rfl, rfl⟩

set_option maxHeartbeats 400000 in
theorem cutPre_any (s p : ByteArray) (w : World) :
    Calls Tryd.prog 81 #[.string s, .string p] w fun e w' => e = .returned (.tuple #[.string (restP s p), .bool (preB s p)]) ∧ w' = w := by
  go_enter Tryd.func81, Tryd.ntmps81
  go_wp2_with fail
  refine (slCutPre_any s p _).mono ?_
  rintro e w1 ⟨rfl, rfl⟩
  go_wp2
  refine bodyPost_ret (results_tmp2 rfl _ _ _) rfl ?_
  exact ⟨rfl, rfl⟩

set_option maxHeartbeats 400000 in
theorem slTrimPre_any (s p : ByteArray) (w : World) :
    Calls Tryd.prog 82 #[.string s, .string p] w fun e w' => e = .returned (.string (restP s p)) ∧ w' = w := by
  go_enter Tryd.func82, Tryd.ntmps82
  go_wp2_with fail
  refine (hasPre_any s p _).mono ?_
  rintro e w1 ⟨rfl, rfl⟩
  cases h : preB s p with
  | true =>
    obtain ⟨h1, h2⟩ := pre_some s p h
    have h3 : 0 ≤ (p.size : Int) := by omega
    clear h2
    have HR := hide (restP_some h)
    go_wp2
    go_ret
    exact ⟨by rw [HR.out]; rfl, rfl⟩
  | false =>
    have HR := hide (restP_none h)
    go_wp2
    go_ret
    exact ⟨by rw [HR.out]; rfl, rfl⟩

set_option maxHeartbeats 400000 in
theorem trimPre_any (s p : ByteArray) (w : World) :
    Calls Tryd.prog 61 #[.string s, .string p] w fun e w' => e = .returned (.string (restP s p)) ∧ w' = w := by
  go_enter Tryd.func61, Tryd.ntmps61
  go_wp2_with fail
  refine (slTrimPre_any s p _).mono ?_
  rintro e w1 ⟨rfl, rfl⟩
  go_wp2
  go_ret
  exact ⟨rfl, rfl⟩

/-- A byte's place. -/
def rankZ (b : Int) : Int := if b = 47 then -1 else b
theorem rankZ_in (b : Nat) (h : b < 256) : -1 ≤ rankZ b ∧ rankZ b ≤ 255 := by unfold rankZ; split <;> omega
def signZ (n : Int) : Int := if n < 0 then -1 else if n = 0 then 0 else 1
/-- Two paths, held against each other. -/
def cmpL : List UInt8 → List UInt8 → Int
  | [], [] => 0
  | [], _ :: _ => -1
  | _ :: _, [] => 1
  | a :: p, b :: q => if a = b then cmpL p q else signZ (rankZ a.toNat - rankZ b.toNat)

set_option maxHeartbeats 400000 in
theorem rank_any (b : Int) (h0 : 0 ≤ b) (h1 : b < 256) (w : World) :
    Calls Tryd.prog 63 #[.int .u8 b] w fun e w' => e = .returned (.int .i64 (rankZ b)) ∧ w' = w := by
  go_enter Tryd.func63, Tryd.ntmps63
  by_cases h : b = 47
  · subst h
    go_wp2
    go_ret
    exact ⟨rfl, rfl⟩
  · have HR := hide (show rankZ b = b from if_neg h)
    go_wp2
    go_ret
    exact ⟨by rw [HR.out]; rfl, rfl⟩

set_option maxHeartbeats 400000 in
theorem sign_any (n : Int) (w : World) :
    Calls Tryd.prog 62 #[.int .i64 n] w fun e w' => e = .returned (.int .i64 (signZ n)) ∧ w' = w := by
  go_enter Tryd.func62, Tryd.ntmps62
  by_cases h1 : n < 0
  · have HS := hide (show signZ n = -1 by unfold signZ; rw [if_pos h1])
    by_cases h2 : n < -1
    · go_wp2
      go_ret
      exact ⟨by rw [HS.out]; rfl, rfl⟩
    · obtain rfl : n = -1 := by omega
      go_wp2
      go_ret
      exact ⟨by rw [HS.out]; rfl, rfl⟩
  · by_cases h3 : n = 0
    · subst h3
      have HS := hide (show signZ 0 = 0 from rfl)
      go_wp2
      go_ret
      exact ⟨rfl, rfl⟩
    · have HS := hide (show signZ n = 1 by unfold signZ; rw [if_neg h1, if_neg h3])
      have g1 : ¬ n < -1 := by omega
      by_cases h4 : n = 1
      · subst h4
        go_wp2
        go_ret
        exact ⟨rfl, rfl⟩
      · have g2 : 1 < n := by omega
        have g3 : ¬ n < 1 := by omega
        go_wp2
        go_ret
        exact ⟨by rw [HS.out]; rfl, rfl⟩

theorem cmpL_same : ∀ (k : Nat) (p q : List UInt8), p.take k = q.take k → k ≤ p.length → k ≤ q.length → cmpL p q = cmpL (p.drop k) (q.drop k)
  | 0, p, q, _, _, _ => by simp
  | k + 1, a :: p, b :: q, h, h1, h2 => by
    simp at h h1 h2
    rw [h.1]
    simp only [cmpL, if_true, List.drop_succ_cons]
    exact cmpL_same k p q h.2 h1 h2
  | k + 1, [], _, _, h1, _ => by simp at h1
  | k + 1, _ :: _, [], _, _, h2 => by simp at h2

theorem cmpL_at (k : Nat) (p q : ByteArray) (h : p.data.toList.take k = q.data.toList.take k) (h1 : k < p.size) (h2 : k < q.size) (hne : p[k] ≠ q[k]) :
    cmpL p.data.toList q.data.toList = signZ (rankZ p[k].toNat - rankZ q[k].toNat) := by
  have l1 : k < p.data.toList.length := by simpa using h1
  have l2 : k < q.data.toList.length := by simpa using h2
  rw [cmpL_same k _ _ h (by omega) (by omega), List.drop_eq_getElem_cons l1, List.drop_eq_getElem_cons l2]
  have e1 : p.data.toList[k] = p[k] := rfl
  have e2 : q.data.toList[k] = q[k] := rfl
  rw [e1, e2]
  simp [cmpL, hne]

theorem cmpL_end (p q : ByteArray) (h : p.data.toList.take (min p.size q.size) = q.data.toList.take (min p.size q.size)) :
    cmpL p.data.toList q.data.toList = signZ ((p.size : Int) - q.size) := by
  have s1 : p.data.toList.length = p.size := by simp
  have s2 : q.data.toList.length = q.size := by simp
  rw [cmpL_same _ _ _ h (by rw [s1]; omega) (by rw [s2]; omega)]
  by_cases hl : p.size ≤ q.size
  · rw [Nat.min_eq_left hl, List.drop_of_length_le (by omega)]
    cases hd : q.data.toList.drop p.size with
    | nil =>
      have := congrArg List.length hd
      simp at this
      have : (p.size : Int) - q.size = 0 := by omega
      rw [this]; rfl
    | cons c r =>
      have := congrArg List.length hd
      simp at this
      have h1 : (p.size : Int) - q.size < 0 := by omega
      simp [cmpL, signZ, h1]
  · rw [Nat.min_eq_right (by omega), List.drop_of_length_le (l := q.data.toList) (by omega)]
    cases hd : p.data.toList.drop q.size with
    | nil =>
      have := congrArg List.length hd
      simp at this
      omega
    | cons c r =>
      have h1 : ¬ (p.size : Int) - q.size < 0 := by omega
      have h2 : ¬ (p.size : Int) - q.size = 0 := by omega
      simp [cmpL, signZ, h1, h2]

theorem take_snoc_eq (k : Nat) (p q : ByteArray) (h : p.data.toList.take k = q.data.toList.take k) (h1 : k < p.size) (h2 : k < q.size) (he : p[k] = q[k]) : p.data.toList.take (k + 1) = q.data.toList.take (k + 1) := by
  have l1 : k < p.data.toList.length := by simpa using h1
  have l2 : k < q.data.toList.length := by simpa using h2
  rw [List.take_succ_eq_append_getElem l1, List.take_succ_eq_append_getElem l2, h]
  have e1 : p.data.toList[k] = p[k] := rfl
  have e2 : q.data.toList[k] = q[k] := rfl
  rw [e1, e2, he]

set_option maxRecDepth 100000 in
set_option maxHeartbeats 2000000 in
theorem cmp_any (p q : ByteArray) (w : World) (hp : (p.size : Int) ≤ 9223372036854775800) (hq : (q.size : Int) ≤ 9223372036854775800) :
    Calls Tryd.prog 34 #[.string p, .string q] w fun e w' => e = .returned (.int .i64 (cmpL p.data.toList q.data.toList)) ∧ Below w.heap.size w w' := by
  go_enter Tryd.func34, Tryd.ntmps34
  by_cases hle : (q.size : Int) < p.size
  · have hM : min p.size q.size = q.size := by omega
    have HM := hide hM
    clear hM
    go_wp2_with fail
    go_loopw [13] (fun i wr => ∃ k : Nat, k ≤ q.size ∧ i = .int .i64 k ∧ Hid (p.data.toList.take k = q.data.toList.take k) ∧ Below w.heap.size w wr) (fun i _ => q.size - (intOf i).toNat)
    case atStart => exact ⟨0, Nat.zero_le _, rfl, hide (by simp), Below.refl _ _⟩
    case round =>
      obtain ⟨k, hk, rfl, HA, hB⟩ := hrel
      by_cases hkm : (k : Int) < q.size
      · have hk1 : (k : Int) < p.size := by omega
        have hk2 : (k : Int) < q.size := by omega
        have n1 : k < p.size := by omega
        have n2 : k < q.size := by omega
        by_cases he : p[k] = q[k]
        · have hs := hide (take_snoc_eq k p q HA.out n1 n2 he)
          have hq1 : (p[k].toNat : Int) = (q[k].toNat : Int) := by rw [he]
          clear he
          go_wp2_with fail
          go_quiet (fail)
          go_wp2_with fail
          go_roundw
          case rel => exact ⟨k + 1, by omega, rfl, hs, below_drewN hB _⟩
          case measure => simp [intOf]; omega
        · have hc := hide (cmpL_at k p q HA.out n1 n2 he)
          have hq1 : ¬ (p[k].toNat : Int) = (q[k].toNat : Int) := fun e => he (UInt8.toNat_inj.1 (by omega))
          have b1 : (p[k].toNat : Int) < 256 := by have := p[k].toNat_lt; omega
          have b2 : (q[k].toNat : Int) < 256 := by have := q[k].toNat_lt; omega
          have r1 := rankZ_in p[k].toNat p[k].toNat_lt
          have r2 := rankZ_in q[k].toNat q[k].toNat_lt
          have hw : IntKind.i64.wrap (rankZ p[k].toNat - rankZ q[k].toNat) = rankZ p[k].toNat - rankZ q[k].toNat := by rw [IntKind.wrap_i64]; omega
          clear he r1 r2
          go_wp2_with fail
          go_quiet (fail)
          go_wp2_with fail
          have hB2 := below_drewN hB nq
          generalize wr.drewN nq = wq at hB2 ⊢
          clear hB
          go_quiet (first
            | (go_at_call 63; exact Calls.quiet_of_same (rank_any _ (by omega) (by omega) _))
            | (go_at_call 62; exact Calls.quiet_of_same (sign_any _ _)))
          go_wp2_with fail
          refine bodyPost_ret (results_tmp rfl _ _ _) rfl ?_
          exact ⟨by rw [hc.out]; rfl, below_drewN hB2 _⟩
      · obtain rfl : k = q.size := by omega
        have hc := hide (cmpL_end p q (by rw [HM.out]; exact HA.out))
        go_wp2_with fail
        refine (sign_any _ _).mono ?_
        rintro e w' ⟨rfl, rfl⟩
        go_wp2_with fail
        refine bodyPost_ret (results_tmp rfl _ _ _) rfl ?_
        exact ⟨by rw [hc.out]; rfl, hB⟩
  · have hM : min p.size q.size = p.size := by omega
    have HM := hide hM
    clear hM
    go_wp2_with fail
    go_loopw [13] (fun i wr => ∃ k : Nat, k ≤ p.size ∧ i = .int .i64 k ∧ Hid (p.data.toList.take k = q.data.toList.take k) ∧ Below w.heap.size w wr) (fun i _ => p.size - (intOf i).toNat)
    case atStart => exact ⟨0, Nat.zero_le _, rfl, hide (by simp), Below.refl _ _⟩
    case round =>
      obtain ⟨k, hk, rfl, HA, hB⟩ := hrel
      by_cases hkm : (k : Int) < p.size
      · have hk1 : (k : Int) < p.size := by omega
        have hk2 : (k : Int) < q.size := by omega
        have n1 : k < p.size := by omega
        have n2 : k < q.size := by omega
        by_cases he : p[k] = q[k]
        · have hs := hide (take_snoc_eq k p q HA.out n1 n2 he)
          have hq1 : (p[k].toNat : Int) = (q[k].toNat : Int) := by rw [he]
          clear he
          go_wp2_with fail
          go_quiet (fail)
          go_wp2_with fail
          go_roundw
          case rel => exact ⟨k + 1, by omega, rfl, hs, below_drewN hB _⟩
          case measure => simp [intOf]; omega
        · have hc := hide (cmpL_at k p q HA.out n1 n2 he)
          have hq1 : ¬ (p[k].toNat : Int) = (q[k].toNat : Int) := fun e => he (UInt8.toNat_inj.1 (by omega))
          have b1 : (p[k].toNat : Int) < 256 := by have := p[k].toNat_lt; omega
          have b2 : (q[k].toNat : Int) < 256 := by have := q[k].toNat_lt; omega
          have r1 := rankZ_in p[k].toNat p[k].toNat_lt
          have r2 := rankZ_in q[k].toNat q[k].toNat_lt
          have hw : IntKind.i64.wrap (rankZ p[k].toNat - rankZ q[k].toNat) = rankZ p[k].toNat - rankZ q[k].toNat := by rw [IntKind.wrap_i64]; omega
          clear he r1 r2
          go_wp2_with fail
          go_quiet (fail)
          go_wp2_with fail
          have hB2 := below_drewN hB nq
          generalize wr.drewN nq = wq at hB2 ⊢
          clear hB
          go_quiet (first
            | (go_at_call 63; exact Calls.quiet_of_same (rank_any _ (by omega) (by omega) _))
            | (go_at_call 62; exact Calls.quiet_of_same (sign_any _ _)))
          go_wp2_with fail
          refine bodyPost_ret (results_tmp rfl _ _ _) rfl ?_
          exact ⟨by rw [hc.out]; rfl, below_drewN hB2 _⟩
      · obtain rfl : k = p.size := by omega
        have hc := hide (cmpL_end p q (by rw [HM.out]; exact HA.out))
        go_wp2_with fail
        refine (sign_any _ _).mono ?_
        rintro e w' ⟨rfl, rfl⟩
        go_wp2_with fail
        refine bodyPost_ret (results_tmp rfl _ _ _) rfl ?_
        exact ⟨by rw [hc.out]; rfl, hB⟩
end Go.Proofs.YthmiffjhchhljaaDoor
