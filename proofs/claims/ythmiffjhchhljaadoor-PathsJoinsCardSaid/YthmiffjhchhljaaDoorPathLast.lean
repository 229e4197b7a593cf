/-
  strings.LastIndexByte at a slash; paths.Parent and paths.Base.
-/
import Derived.Test.YthmiffjhchhljaaDoorPathRight
import Derived.Test.YthmiffjhchhljaaDoorPathPre
namespace Go.Proofs.YthmiffjhchhljaaDoor
open Go.RowKit
set_option maxRecDepth 100000

/-- How many bytes up to the last slash, that one too. -/
def lastN (l : List UInt8) : Nat := (l.reverse.dropWhile (· != 47)).length
theorem lastN_snoc (l : List UInt8) (c : UInt8) : lastN (l ++ [c]) = if c = 47 then l.length + 1 else lastN l := by
  unfold lastN
  rw [List.reverse_append]
  simp only [List.reverse_cons, List.reverse_nil, List.nil_append, List.cons_append, List.dropWhile_cons]
  by_cases h : c = 47
  · subst h; simp
  · simp [h]
theorem lastN_le (l : List UInt8) : lastN l ≤ l.length := by
  unfold lastN
  have := (List.dropWhile_sublist (l := l.reverse) (fun x => x != 47)).length_le
  simpa using this

set_option maxRecDepth 100000 in
set_option maxHeartbeats 1000000 in
theorem lastByteS_any (s : ByteArray) (w : World) (hs : (s.size : Int) ≤ 9223372036854775800) :
    Calls Tryd.prog 78 #[.string s, .int .u8 47] w fun e w' => e = .returned (.int .i64 ((lastN (toL s) : Nat) - 1)) ∧ w' = w := by
  go_enter Tryd.func78, Tryd.ntmps78
  go_wp2_with fail
  go_loop [5] (fun i => ∃ k : Nat, k ≤ s.size ∧ i = .int .i64 ((k : Int) - 1) ∧ Hid (lastN (toL s) = lastN ((toL s).take k))) (fun i => (intOf i + 1).toNat)
  case atStart => exact ⟨s.size, Nat.le_refl _, rfl, hide (by rw [List.take_of_length_le]; simp [toL])⟩
  case round =>
    obtain ⟨k, hk, rfl, HA⟩ := hrel
    by_cases hk0 : k = 0
    · subst hk0
      have HZ := hide (show lastN (toL s) = 0 by rw [HA.out]; rfl)
      go_wp2_with fail
      refine bodyPost_ret (results_tmp rfl _ _ _) rfl ⟨by rw [HZ.out]; rfl, rfl⟩
    · obtain ⟨j, rfl⟩ : ∃ j, k = j + 1 := ⟨k - 1, by omega⟩
      have hj : j < s.size := by omega
      have e1 : ((j + 1 : Nat) : Int) - 1 = (j : Int) := by omega
      rw [e1]
      have hji : (j : Int) < s.size := by omega
      have hj0 : (0 : Int) ≤ j := by omega
      have l1 : j < (toL s).length := by simpa [toL] using hj
      have e2 : (toL s).take (j + 1) = (toL s).take j ++ [s[j]] := List.take_succ_eq_append_getElem l1
      have hA := HA.out
      rw [e2, lastN_snoc] at hA
      clear e1 e2 HA hk0
      by_cases hc : s[j] = 47
      · rw [if_pos hc] at hA
        have HZ := hide (show (lastN (toL s) : Int) - 1 = j by rw [hA]; simp [toL] at l1 ⊢; omega)
        have hc1 : (s[j].toNat : Int) = 47 := by rw [hc]; rfl
        clear hA hc
        go_wp2_with fail
        refine bodyPost_ret (results_tmp rfl _ _ _) rfl ⟨by rw [HZ.out]; rfl, rfl⟩
      · rw [if_neg hc] at hA
        have HZ := hide hA
        have hc1 : ¬ (s[j].toNat : Int) = 47 := fun e => hc (UInt8.toNat_inj.1 (by have : (47 : UInt8).toNat = 47 := rfl; omega))
        clear hA hc
        go_wp2_with fail
        go_round
        case rel => exact ⟨j, by omega, rfl, HZ⟩
        case measure => simp [intOf]

set_option maxHeartbeats 400000 in
theorem lastByte_any (s : ByteArray) (w : World) (hs : (s.size : Int) ≤ 9223372036854775800) :
    Calls Tryd.prog 56 #[.string s, .int .u8 47] w fun e w' => e = .returned (.int .i64 ((lastN (toL s) : Nat) - 1)) ∧ w' = w := by
  go_enter Tryd.func56, Tryd.ntmps56
  go_wp2_with fail
  refine (lastByteS_any s _ hs).mono ?_
  rintro e w1 ⟨rfl, rfl⟩
  go_wp2_with fail
  go_ret
  exact ⟨rfl, rfl⟩

/-- A path's last name, and the path without it. -/
def baseB (p : ByteArray) : ByteArray := if rightL (toL p) then p.extract (lastN (toL p)) p.size else ⟨#[]⟩
def parentOk (p : ByteArray) : Bool := !p.toList.isEmpty && rightL (toL p)
def parentB (p : ByteArray) : ByteArray := if parentOk p then p.extract 0 (lastN (toL p) - 1) else ⟨#[]⟩

set_option maxHeartbeats 1000000 in
theorem base_any (p : ByteArray) (w : World) (hp : (p.size : Int) ≤ 9223372036854775800) :
    Calls Tryd.prog 25 #[.string p] w fun e w' => e = .returned (.string (baseB p)) ∧ Below w.heap.size w w' := by
  have hl : ((lastN (toL p) : Nat) : Int) ≤ p.size := by have := lastN_le (toL p); simp [toL] at this ⊢; exact this
  go_enter Tryd.func25, Tryd.ntmps25
  go_wp2_with fail
  refine (right_any p _ hp).mono ?_
  rintro e w1 ⟨rfl, hB1⟩
  cases hr : rightL p.data.toList with
  | false =>
    have HR := hide (show baseB p = ⟨#[]⟩ by unfold baseB; rw [show rightL (toL p) = false from hr]; rfl)
    go_wp2_with fail
    refine bodyPost_ret (results_tmp rfl _ _ _) rfl ⟨by rw [HR.out]; rfl, hB1⟩
  | true =>
    have HR := hide (show baseB p = p.extract (lastN (toL p)) p.size by unfold baseB; rw [show rightL (toL p) = true from hr]; rfl)
    obtain ⟨n, hn⟩ : ∃ n, n = lastN (toL p) := ⟨_, rfl⟩
    have hlb := lastByte_any p w1 hp
    rw [← hn] at hl HR hlb
    clear hn
    have hn0 : (0 : Int) ≤ n := by omega
    go_wp2_with fail
    refine hlb.mono ?_
    rintro e w2 ⟨rfl, rfl⟩
    go_wp2_with fail
    refine bodyPost_ret (results_tmp rfl _ _ _) rfl ⟨by rw [HR.out]; rfl, hB1⟩

set_option maxHeartbeats 1000000 in
theorem parent_any (p : ByteArray) (w : World) (hp : (p.size : Int) ≤ 9223372036854775800) :
    Calls Tryd.prog 16 #[.string p] w fun e w' => e = .returned (.tuple #[.string (parentB p), .bool (parentOk p)]) ∧ Below w.heap.size w w' := by
  have hl : ((lastN (toL p) : Nat) : Int) ≤ p.size := by have := lastN_le (toL p); simp [toL] at this ⊢; exact this
  go_enter Tryd.func16, Tryd.ntmps16
  cases he : p.toList.isEmpty with
  | true =>
    have HO := hide (show parentOk p = false by unfold parentOk; rw [he]; rfl)
    go_wp2_with fail
    refine bodyPost_ret (results_tmp2 rfl _ _ _) rfl ⟨by unfold parentB; rw [HO.out]; rfl, Below.refl _ _⟩
  | false =>
    go_wp2_with fail
    refine (right_any p _ hp).mono ?_
    rintro e w1 ⟨rfl, hB1⟩
    cases hr : rightL p.data.toList with
    | false =>
      have HO := hide (show parentOk p = false by unfold parentOk; rw [he, show rightL (toL p) = false from hr]; rfl)
      go_wp2_with fail
      refine bodyPost_ret (results_tmp2 rfl _ _ _) rfl ⟨by unfold parentB; rw [HO.out]; rfl, hB1⟩
    | true =>
      have HO := hide (show parentOk p = true by unfold parentOk; rw [he, show rightL (toL p) = true from hr]; rfl)
      have HR := hide (show parentB p = p.extract 0 (lastN (toL p) - 1) by unfold parentB; rw [HO.out]; rfl)
      obtain ⟨n, hn⟩ : ∃ n, n = lastN (toL p) := ⟨_, rfl⟩
      have hlb := lastByte_any p w1 hp
      rw [← hn] at hl HR hlb
      clear hn
      go_wp2_with fail
      refine hlb.mono ?_
      rintro e w2 ⟨rfl, rfl⟩
      cases n with
      | zero =>
        have e1 : ((0 : Nat) : Int) - 1 = -1 := rfl
        rw [e1]
        clear hlb hl
        go_wp2_with fail
        refine bodyPost_ret (results_tmp2 rfl _ _ _) rfl ⟨by rw [HR.out, HO.out, show p.extract 0 (0 - 1) = ByteArray.empty by simp]; rfl, hB1⟩
      | succ m =>
        have e1 : ((m + 1 : Nat) : Int) - 1 = m := by omega
        rw [e1]
        have m0 : (0 : Int) ≤ m := by omega
        have m1 : (m : Int) ≤ p.size := by omega
        have m2 : ¬ (m : Int) < 0 := by omega
        clear hlb hl e1
        go_wp2_with fail
        refine bodyPost_ret (results_tmp2 rfl _ _ _) rfl ⟨by rw [HR.out, HO.out]; rfl, hB1⟩
end Go.Proofs.YthmiffjhchhljaaDoor
