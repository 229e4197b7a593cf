/-
  The small functions of package glob, and of the law, that test bytes.
-/
import Derived.Test.YtmdlefagkfkenaaGlobLeaf
namespace Go.Proofs.Ytmdlefagkfkenaa
open Go.RowKit

def sign (c : UInt8) : Bool := c == 42 || c == 63 || c == 91 || c == 92

theorem all_snoc (s : ByteArray) (k : Nat) (h : k < s.size) : (s.data.toList.take (k + 1)).any sign = ((s.data.toList.take k).any sign || sign s[k]) := by
  have h' : k < s.data.toList.length := by simpa using h
  have e : s.data.toList.take (k + 1) = s.data.toList.take k ++ [s.data.toList[k]] := List.take_succ_eq_append_getElem h'
  rw [e, List.any_append]
  simp
  rfl

def noSign (s : ByteArray) : Bool := !s.data.toList.any sign

theorem noSign_no (s : ByteArray) (k : Nat) (h : k < s.size)
    (hc : (s[k].toNat : Int) = 42 ∨ (s[k].toNat : Int) = 63 ∨ (s[k].toNat : Int) = 91 ∨ (s[k].toNat : Int) = 92) : noSign s = false := by
  have hs : sign s[k] = true := by
    unfold sign
    rcases hc with e | e | e | e <;> simp [← UInt8.toNat_inj] <;> omega
  have h1 := all_snoc s k h
  rw [hs, Bool.or_true] at h1
  unfold noSign
  rw [Bool.not_eq_false', List.any_eq_true]
  obtain ⟨x, hx, hp⟩ := List.any_eq_true.1 h1
  exact ⟨x, List.mem_of_mem_take hx, hp⟩

theorem noSign_go (s : ByteArray) (k : Nat) (h : k < s.size) (hr : (s.data.toList.take k).any sign = false)
    (h1 : (s[k].toNat : Int) ≠ 42) (h2 : (s[k].toNat : Int) ≠ 63) (h3 : (s[k].toNat : Int) ≠ 91) (h4 : (s[k].toNat : Int) ≠ 92) : (s.data.toList.take (k + 1)).any sign = false := by
  rw [all_snoc s k h, hr]
  unfold sign
  simp [← UInt8.toNat_inj]
  omega

set_option maxHeartbeats 400000 in
theorem plain_any (s : ByteArray) (w : World) (hs : (s.size : Int) ≤ 9223372036854775806) :
    Calls Try.prog 5 #[.string s] w fun e w' => e = .returned (.bool (noSign s)) ∧ w = w' := by
  go_enter Try.func5, Try.ntmps5
  go_wp2
  go_loop [3] (fun i => ∃ k : Nat, k ≤ s.size ∧ i = .int .i64 k ∧ (s.data.toList.take k).any sign = false) (fun i => s.size - (intOf i).toNat)
  case atStart => exact ⟨0, Nat.zero_le _, rfl, by simp⟩
  case round =>
    obtain ⟨k, hk, rfl, hr⟩ := hrel
    have HR := hide hr
    clear hr
    by_cases hlt : (k : Int) < s.size
    · have hlt' : k < s.size := by omega
      have HN := hide (noSign_no s k hlt')
      by_cases c1 : (s[k].toNat : Int) = 42
      · go_wp2
        go_ret
        exact ⟨by rw [HN.out (.inl c1)]; rfl, rfl⟩
      by_cases c2 : (s[k].toNat : Int) = 63
      · go_wp2
        go_ret
        exact ⟨by rw [HN.out (.inr (.inl c2))]; rfl, rfl⟩
      by_cases c3 : (s[k].toNat : Int) = 91
      · go_wp2
        go_ret
        exact ⟨by rw [HN.out (.inr (.inr (.inl c3)))]; rfl, rfl⟩
      by_cases c4 : (s[k].toNat : Int) = 92
      · go_wp2
        go_ret
        exact ⟨by rw [HN.out (.inr (.inr (.inr c4)))]; rfl, rfl⟩
      have HG := hide (noSign_go s k hlt' HR.out c1 c2 c3 c4)
      have d1 : ((s[k].toNat : Int) == 42) = false := beq_eq_false_iff_ne.2 c1
      have d2 : ((s[k].toNat : Int) == 63) = false := beq_eq_false_iff_ne.2 c2
      have d3 : ((s[k].toNat : Int) == 91) = false := beq_eq_false_iff_ne.2 c3
      have d4 : ((s[k].toNat : Int) == 92) = false := beq_eq_false_iff_ne.2 c4
      clear c1 c2 c3 c4
      go_wp2
      exact ⟨⟨k + 1, by omega, by go_num, HG.out⟩, by simp [intOf]; omega⟩
    · have hend : noSign s = true := by
        have e := HR.out
        rw [List.take_of_length_le (by simp; omega)] at e
        unfold noSign; rw [e]; rfl
      have HE := hide hend
      clear hend
      go_wp2
      go_ret
      exact ⟨by rw [HE.out]; rfl, rfl⟩
end Go.Proofs.Ytmdlefagkfkenaa
