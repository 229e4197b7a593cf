/-
  The reference's number.
-/
import Derived.Test.YtffhkdbdcpobbabMixHex
namespace Go.Proofs.Ytffhkdbdcpobbab
open Go.RowKit
set_option maxRecDepth 100000

/-- A digit's value; a number's. -/
def dig (c : UInt8) : Option Nat := if 48 ≤ c.toNat ∧ c.toNat ≤ 57 then some (c.toNat - 48) else if 97 ≤ c.toNat ∧ c.toNat ≤ 102 then some (c.toNat - 87) else none
def numF : List UInt8 → Nat → Option Nat
  | [], a => some a
  | x :: l, a => match dig x with
    | none => none
    | some d => numF l (a * 16 + d)
theorem dig_lt (c : UInt8) (d : Nat) (h : dig c = some d) : d < 16 := by
  unfold dig at h
  split at h
  · cases h; omega
  · split at h
    · cases h; omega
    · cases h
theorem numF_step (l : List UInt8) (k a : Nat) (x : UInt8) (hx : l[k]? = some x) : numF (l.drop k) a = match dig x with | none => none | some d => numF (l.drop (k + 1)) (a * 16 + d) := by
  obtain ⟨h, e⟩ := List.getElem?_eq_some_iff.1 hx
  rw [List.drop_eq_getElem_cons h, e]; rfl

set_option maxHeartbeats 4000000 in
theorem number_any (l : List UInt8) (w : World) (hl : l.length ≤ 16) :
    Calls Try.prog 14 #[.string (ofL l)] w fun e w' => e = .returned (.tuple #[.int .u64 (((numF l 0).getD 0 : Nat) : Int), .bool (numF l 0).isSome]) ∧ w' = w := by
  have hsz := hofL_size l
  go_enter Try.func14, Try.ntmps14
  go_wp2_with fail
  go_loopw [2, 3, 4, 5, 6] (fun _ _ n i _ wr => ∃ k a : Nat, k ≤ l.length ∧ i = .int .i64 k ∧ n = .int .u64 a ∧ Hid (a < 16 ^ k) ∧ Hid (numF l 0 = numF (l.drop k) a) ∧ wr = w) (fun _ _ _ i _ _ => l.length - (intOf i).toNat)
  case atStart => exact ⟨0, 0, Nat.zero_le _, rfl, rfl, hide (by decide), hide rfl, rfl⟩
  case round =>
    obtain ⟨k, a, hk, rfl, rfl, HA, HN, rfl⟩ := hrel
    by_cases hlt : (k : Int) < (ofL l).size
    · have hkl : k < l.length := by omega
      have hx := List.getElem?_eq_getElem hkl
      have hst := HN.out.trans (numF_step l k a _ hx)
      have hxg : (ofL l)[k]'(by omega) = l[k] := by simp [ofL, ByteArray.getElem_eq_getElem_data]
      generalize l[k] = x at hx hst hxg
      have hx256 := x.toNat_lt
      have hp : 16 ^ k ≤ 16 ^ 15 := Nat.pow_le_pow_right (by decide) (by omega)
      have hA := HA.out
      by_cases h1 : 48 ≤ x.toNat ∧ x.toNat ≤ 57
      · have hd : dig x = some (x.toNat - 48) := by unfold dig; rw [if_pos h1]
        rw [hd] at hst
        have HH := hide (show numF l 0 = numF (l.drop (k + 1)) (a * 16 + (x.toNat - 48)) from hst)
        have e4 : IntKind.u64.wrap ((x.toNat - 48 : Nat) : Int) = ((x.toNat - 48 : Nat) : Int) := by rw [wrap_mod]; omega
        have e1 : IntKind.u8.wrap ((x.toNat : Int) - 48) = ((x.toNat - 48 : Nat) : Int) := by rw [IntKind.wrap_u8]; omega
        have e2 : IntKind.u64.wrap ((a : Int) * 16) = ((a * 16 : Nat) : Int) := by rw [show (a : Int) * 16 = ((a * 16 : Nat) : Int) by simp, wrap_mod, Nat.mod_eq_of_lt (by omega)]
        have e3 : IntKind.u64.wrap (((a * 16 : Nat) : Int) + ((x.toNat - 48 : Nat) : Int)) = ((a * 16 + (x.toNat - 48) : Nat) : Int) := by rw [show ((a * 16 : Nat) : Int) + ((x.toNat - 48 : Nat) : Int) = ((a * 16 + (x.toNat - 48) : Nat) : Int) by simp, wrap_mod, Nat.mod_eq_of_lt (by omega)]
        have HB := hide (show a * 16 + (x.toNat - 48) < 16 ^ (k + 1) by rw [Nat.pow_succ]; omega)
        have g1 : (48 : Int) ≤ x.toNat := by omega
        have g2 : (x.toNat : Int) ≤ 57 := by omega
        generalize a * 16 + (x.toNat - 48) = a2 at e3 HB HH
        generalize a * 16 = a1 at e2 e3
        generalize x.toNat - 48 = d1 at e1 e3 e4
        clear hst hd hx hp hA h1
        go_wp2_with fail
        go_roundw
        case rel => exact ⟨k + 1, a2, hkl, rfl, rfl, HB, HH, trivial⟩
        case measure => simp [intOf]; omega
      · have b1 : (decide ((48 : Int) ≤ x.toNat) && decide ((x.toNat : Int) ≤ 57)) = false := by
          rw [Bool.and_eq_false_iff, decide_eq_false_iff_not, decide_eq_false_iff_not]; omega
        by_cases h2 : 97 ≤ x.toNat ∧ x.toNat ≤ 102
        · have hd : dig x = some (x.toNat - 87) := by unfold dig; rw [if_neg h1, if_pos h2]
          rw [hd] at hst
          have HH := hide (show numF l 0 = numF (l.drop (k + 1)) (a * 16 + (x.toNat - 87)) from hst)
          have e1 : IntKind.u8.wrap ((x.toNat : Int) - 97) = ((x.toNat - 97 : Nat) : Int) := by rw [IntKind.wrap_u8]; omega
          have e4 : IntKind.u64.wrap ((x.toNat - 97 : Nat) : Int) = ((x.toNat - 97 : Nat) : Int) := by rw [wrap_mod]; omega
          have e2 : IntKind.u64.wrap ((a : Int) * 16) = ((a * 16 : Nat) : Int) := by rw [show (a : Int) * 16 = ((a * 16 : Nat) : Int) by simp, wrap_mod, Nat.mod_eq_of_lt (by omega)]
          have e3 : IntKind.u64.wrap (((a * 16 : Nat) : Int) + ((x.toNat - 97 : Nat) : Int)) = ((a * 16 + (x.toNat - 97) : Nat) : Int) := by rw [show ((a * 16 : Nat) : Int) + ((x.toNat - 97 : Nat) : Int) = ((a * 16 + (x.toNat - 97) : Nat) : Int) by simp, wrap_mod, Nat.mod_eq_of_lt (by omega)]
          have e5 : IntKind.u64.wrap (((a * 16 + (x.toNat - 97) : Nat) : Int) + 10) = ((a * 16 + (x.toNat - 87) : Nat) : Int) := by rw [show ((a * 16 + (x.toNat - 97) : Nat) : Int) + 10 = ((a * 16 + (x.toNat - 97) + 10 : Nat) : Int) by simp, wrap_mod]; omega
          have HB := hide (show a * 16 + (x.toNat - 87) < 16 ^ (k + 1) by rw [Nat.pow_succ]; omega)
          have g0 : (57 : Int) < x.toNat := by omega
          have g1 : (97 : Int) ≤ x.toNat := by omega
          have g2 : (x.toNat : Int) ≤ 102 := by omega
          generalize a * 16 + (x.toNat - 87) = a2 at e5 HB HH
          generalize a * 16 + (x.toNat - 97) = a3 at e3 e5
          generalize a * 16 = a1 at e2 e3
          generalize x.toNat - 97 = d1 at e1 e3 e4
          clear hst hd hx hp hA h1 h2
          go_wp2_with fail
          go_roundw
          case rel => exact ⟨k + 1, a2, hkl, rfl, rfl, HB, HH, trivial⟩
          case measure => simp [intOf]; omega
        · have hd : dig x = none := by unfold dig; rw [if_neg h1, if_neg h2]
          rw [hd] at hst
          have HH := hide (show numF l 0 = none from hst)
          have b2 : (decide ((97 : Int) ≤ x.toNat) && decide ((x.toNat : Int) ≤ 102)) = false := by
            rw [Bool.and_eq_false_iff, decide_eq_false_iff_not, decide_eq_false_iff_not]; omega
          have hc : (¬ (48 : Int) ≤ x.toNat) ∨ ((48 : Int) ≤ x.toNat ∧ ¬ (97 : Int) ≤ x.toNat ∧ ¬ (x.toNat : Int) ≤ 57) ∨ ((48 : Int) ≤ x.toNat ∧ (97 : Int) ≤ x.toNat ∧ ¬ (x.toNat : Int) ≤ 57 ∧ ¬ (x.toNat : Int) ≤ 102) := by omega
          clear hst hd hx hp hA h1 h2
          rcases hc with h3 | ⟨h3, h4, h5⟩ | ⟨h3, h4, h5, h6⟩
          · have h4 : ¬ (97 : Int) ≤ x.toNat := by omega
            go_wp2_with fail
            refine bodyPost_ret (results_tmp2 rfl _ _ _) rfl ⟨by rw [HH.out]; rfl, rfl⟩
          · go_wp2_with fail
            refine bodyPost_ret (results_tmp2 rfl _ _ _) rfl ⟨by rw [HH.out]; rfl, rfl⟩
          · go_wp2_with fail
            refine bodyPost_ret (results_tmp2 rfl _ _ _) rfl ⟨by rw [HH.out]; rfl, rfl⟩
    · have HE := hide (show numF l 0 = some a by rw [HN.out, List.drop_of_length_le (by omega)]; rfl)
      go_wp2_with fail
      refine bodyPost_ret (results_tmp2 rfl _ _ _) rfl ⟨by rw [HE.out]; rfl, rfl⟩
end Go.Proofs.Ytffhkdbdcpobbab
