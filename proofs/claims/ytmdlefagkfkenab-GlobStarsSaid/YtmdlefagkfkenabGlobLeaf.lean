import Derived.Test.YtmdlefagkfkenabProg
import Derived.Test.YtmdlefagkfkenabGlobWords
import Derived.WalkKit
import Derived.WalkSpells
import Derived.WalkLawsBesides
import Derived.Deep.QuietTactic
import Derived.BigQuiet
import Derived.Lib.Strings
namespace Go.Proofs.Ytmdlefagkfkenab
open Go.RowKit

def memB (n : Int) : Bool := !(n == 93) && !(n == 91) && !(n == 47) && !(n == 92)

set_option maxHeartbeats 400000 in
theorem member_any (n : Int) (w : World) :
    Calls Try.prog 19 #[.int .u8 n] w fun e w' => e = .returned (.bool (memB n)) ∧ w = w' := by
  by_cases h1 : n = 93
  · subst h1; go_enter Try.func19, Try.ntmps19; go_wp2; go_ret; exact ⟨rfl, rfl⟩
  by_cases h2 : n = 91
  · subst h2; go_enter Try.func19, Try.ntmps19; go_wp2; go_ret; exact ⟨rfl, rfl⟩
  by_cases h3 : n = 47
  · subst h3; go_enter Try.func19, Try.ntmps19; go_wp2; go_ret; exact ⟨rfl, rfl⟩
  by_cases h4 : n = 92
  · subst h4; go_enter Try.func19, Try.ntmps19; go_wp2; go_ret; exact ⟨rfl, rfl⟩
  go_enter Try.func19, Try.ntmps19
  go_wp2
  go_ret
  exact ⟨by simp [memB, h1, h2, h3, h4], rfl⟩

attribute [local go_sem] World.setCell_drewN' World.alloc_drewN'
set_option maxHeartbeats 400000 in
theorem span_any (a b : Nat) (w : World) (ha : (a : Int) < 256) (hb : (b : Int) < 256) :
    Calls Try.prog 15 #[.int .u8 a, .int .u8 b] w fun e w' => e = .returned (.agg (setV (spanP a (b + 1)))) ∧ Below w.heap.size w w' := by
  go_enter Try.func15, Try.ntmps15
  go_wp2
  go_loopw [6] (fun i wr => ∃ k n : Nat, i = .int .i64 k ∧ a ≤ k ∧ k ≤ 256 ∧ (k ≤ a ∨ k ≤ b + 1) ∧ wr = ((w.alloc (Obj.cells #[Value.int IntKind.u64 0, Value.int IntKind.u64 0, Value.int IntKind.u64 0, Value.int IntKind.u64 0] 29)).alloc (.cells (setV (spanP a k)) 29)).drewN n) (fun i _ => 256 - (intOf i).toNat)
  case atStart =>
    refine ⟨a, 0, ?_, by omega, by omega, by omega, ?_⟩
    · rfl
    · rw [setV_empty (P := spanP a a) (fun x => by unfold spanP; by_cases h : a ≤ x <;> simp [h])]; rfl
  case round =>
    obtain ⟨k, n, rfl, h1, h2, h3, rfl⟩ := hrel
    by_cases hk : (k : Int) ≤ b
    · have hq : k < 64 ∨ (64 ≤ k ∧ k < 128) ∨ (128 ≤ k ∧ k < 192) ∨ (192 ≤ k ∧ k < 256) := by omega
      have hs := hide (span_store a k (k / 64) h1 rfl (by omega))
      rcases hq with hq | hq | hq | hq
      · have e : (k : Int) / 64 = 0 := by omega
        have e' : k / 64 = 0 := by omega
        rw [e'] at hs
        unfold setV
        go_wp2
        go_region
        all_goals go_wp2
        refine ⟨⟨k + 1, n + 1, by go_num, by omega, by omega, by omega, ?_⟩, by simp [intOf]; omega⟩
        have hs' := hs.out
        clear hs e e'
        exact congrArg (fun c => ((w.alloc _).alloc (Obj.cells c _)).drewN (n + 1)) hs'
      · have e : (k : Int) / 64 = 1 := by omega
        have e' : k / 64 = 1 := by omega
        rw [e'] at hs
        unfold setV
        go_wp2
        go_region
        all_goals go_wp2
        refine ⟨⟨k + 1, n + 1, by go_num, by omega, by omega, by omega, ?_⟩, by simp [intOf]; omega⟩
        have hs' := hs.out
        clear hs e e'
        exact congrArg (fun c => ((w.alloc _).alloc (Obj.cells c _)).drewN (n + 1)) hs'
      · have e : (k : Int) / 64 = 2 := by omega
        have e' : k / 64 = 2 := by omega
        rw [e'] at hs
        unfold setV
        go_wp2
        go_region
        all_goals go_wp2
        refine ⟨⟨k + 1, n + 1, by go_num, by omega, by omega, by omega, ?_⟩, by simp [intOf]; omega⟩
        have hs' := hs.out
        clear hs e e'
        exact congrArg (fun c => ((w.alloc _).alloc (Obj.cells c _)).drewN (n + 1)) hs'
      · have e : (k : Int) / 64 = 3 := by omega
        have e' : k / 64 = 3 := by omega
        rw [e'] at hs
        unfold setV
        go_wp2
        go_region
        all_goals go_wp2
        refine ⟨⟨k + 1, n + 1, by go_num, by omega, by omega, by omega, ?_⟩, by simp [intOf]; omega⟩
        have hs' := hs.out
        clear hs e e'
        exact congrArg (fun c => ((w.alloc _).alloc (Obj.cells c _)).drewN (n + 1)) hs'
    · have e : spanP a k = spanP a (b + 1) := by
        have : k = b + 1 ∨ b + 1 ≤ a ∧ k = a := by omega
        rcases this with e | ⟨e, e'⟩
        · rw [e]
        · subst e'; funext x; unfold spanP; by_cases hx : k ≤ x
          · have h1 : ¬ x < k := by omega
            have h2 : ¬ x < b + 1 := by omega
            simp [h1, h2]
          · simp [hx]
      rw [e]
      unfold setV
      go_wp2
      refine bodyPost_ret (v := .agg (setV (spanP a (b + 1)))) (by simp [results, Try.results15, go_sem]; rfl) rfl ⟨rfl, ?_⟩
      exact below_drewN (((Below.refl _ _).alloc (Nat.le_refl _) _).alloc (by simp) _) _
set_option maxHeartbeats 400000 in
theorem with_any (P Q : Nat → Bool) (w : World) :
    Calls Try.prog 20 #[.agg (setV P), .agg (setV Q)] w fun e w' => e = .returned (.agg (setV (fun x => P x || Q x))) ∧ Below w.heap.size w w' := by
  obtain ⟨R, hR⟩ : ∃ R : Nat → Bool, R = fun x => P x || Q x := ⟨_, rfl⟩
  rw [← hR]
  have H := hide hR
  clear hR
  unfold setV
  go_enter Try.func20, Try.ntmps20
  go_wp2
  go_loopw [6] (fun i wr => ∃ k n : Nat, i = .int .i64 k ∧ k ≤ 4 ∧ wr = (((w.alloc (.cells (mixV k P R) 29)).alloc (Obj.cells #[.int .u64 (wd Q 0 : Nat), .int .u64 (wd Q 1 : Nat), .int .u64 (wd Q 2 : Nat), .int .u64 (wd Q 3 : Nat)] 29)).alloc (Obj.cells #[Value.int IntKind.u64 0, Value.int IntKind.u64 0, Value.int IntKind.u64 0, Value.int IntKind.u64 0] 29)).drewN n) (fun i _ => 4 - (intOf i).toNat)
  case atStart => exact ⟨0, 0, rfl, by omega, rfl⟩
  case round =>
    obtain ⟨k, n, rfl, h1, rfl⟩ := hrel
    have hq : k = 0 ∨ k = 1 ∨ k = 2 ∨ k = 3 ∨ k = 4 := by omega
    rcases hq with rfl | rfl | rfl | rfl | rfl
    · rw [mixV_0]
      go_wp2
      go_region
      all_goals go_wp2
      refine ⟨⟨1, n + 1, by go_num, by omega, ?_⟩, by simp [intOf]⟩
      rw [mixV_1, word_or]
      cases H.out
      rfl
    · rw [mixV_1]
      go_wp2
      go_region
      all_goals go_wp2
      refine ⟨⟨2, n + 1, by go_num, by omega, ?_⟩, by simp [intOf]⟩
      rw [mixV_2, word_or]
      cases H.out
      rfl
    · rw [mixV_2]
      go_wp2
      go_region
      all_goals go_wp2
      refine ⟨⟨3, n + 1, by go_num, by omega, ?_⟩, by simp [intOf]⟩
      rw [mixV_3, word_or]
      cases H.out
      rfl
    · rw [mixV_3]
      go_wp2
      go_region
      all_goals go_wp2
      refine ⟨⟨4, n + 1, by go_num, by omega, ?_⟩, by simp [intOf]⟩
      rw [mixV_4, word_or]
      cases H.out
      rfl
    · rw [mixV_4]
      go_wp2
      refine bodyPost_ret (v := .agg (setV R)) (by simp [results, Try.results20, go_sem]; rfl) rfl ⟨rfl, ?_⟩
      exact below_drewN ((((Below.refl _ _).alloc (Nat.le_refl _) _).alloc (by simp) _).alloc (by simp; omega) _) _

set_option maxHeartbeats 400000 in
theorem without_any (P Q : Nat → Bool) (w : World) :
    Calls Try.prog 18 #[.agg (setV P), .agg (setV Q)] w fun e w' => e = .returned (.agg (setV (fun x => P x && !Q x))) ∧ Below w.heap.size w w' := by
  obtain ⟨R, hR⟩ : ∃ R : Nat → Bool, R = fun x => P x && !Q x := ⟨_, rfl⟩
  rw [← hR]
  have H := hide hR
  clear hR
  unfold setV
  go_enter Try.func18, Try.ntmps18
  go_wp2
  go_loopw [6] (fun i wr => ∃ k n : Nat, i = .int .i64 k ∧ k ≤ 4 ∧ wr = (((w.alloc (.cells (mixV k P R) 29)).alloc (Obj.cells #[.int .u64 (wd Q 0 : Nat), .int .u64 (wd Q 1 : Nat), .int .u64 (wd Q 2 : Nat), .int .u64 (wd Q 3 : Nat)] 29)).alloc (Obj.cells #[Value.int IntKind.u64 0, Value.int IntKind.u64 0, Value.int IntKind.u64 0, Value.int IntKind.u64 0] 29)).drewN n) (fun i _ => 4 - (intOf i).toNat)
  case atStart => exact ⟨0, 0, rfl, by omega, rfl⟩
  case round =>
    obtain ⟨k, n, rfl, h1, rfl⟩ := hrel
    have hq : k = 0 ∨ k = 1 ∨ k = 2 ∨ k = 3 ∨ k = 4 := by omega
    rcases hq with rfl | rfl | rfl | rfl | rfl
    · rw [mixV_0]
      go_wp2
      go_region
      all_goals go_wp2
      refine ⟨⟨1, n + 1, by go_num, by omega, ?_⟩, by simp [intOf]⟩
      rw [mixV_1, word_andNot]
      cases H.out
      rfl
    · rw [mixV_1]
      go_wp2
      go_region
      all_goals go_wp2
      refine ⟨⟨2, n + 1, by go_num, by omega, ?_⟩, by simp [intOf]⟩
      rw [mixV_2, word_andNot]
      cases H.out
      rfl
    · rw [mixV_2]
      go_wp2
      go_region
      all_goals go_wp2
      refine ⟨⟨3, n + 1, by go_num, by omega, ?_⟩, by simp [intOf]⟩
      rw [mixV_3, word_andNot]
      cases H.out
      rfl
    · rw [mixV_3]
      go_wp2
      go_region
      all_goals go_wp2
      refine ⟨⟨4, n + 1, by go_num, by omega, ?_⟩, by simp [intOf]⟩
      rw [mixV_4, word_andNot]
      cases H.out
      rfl
    · rw [mixV_4]
      go_wp2
      refine bodyPost_ret (v := .agg (setV R)) (by simp [results, Try.results18, go_sem]; rfl) rfl ⟨rfl, ?_⟩
      exact below_drewN ((((Below.refl _ _).alloc (Nat.le_refl _) _).alloc (by simp) _).alloc (by simp; omega) _) _

set_option maxHeartbeats 400000 in
theorem has_any (P : Nat → Bool) (b : Nat) (hb : (b : Int) < 256) (w : World) :
    Calls Try.prog 16 #[.agg (setV P), .int .u8 b] w fun e w' => e = .returned (.bool (P b)) ∧ Below w.heap.size w w' := by
  have hq : b < 64 ∨ (64 ≤ b ∧ b < 128) ∨ (128 ≤ b ∧ b < 192) ∨ (192 ≤ b ∧ b < 256) := by omega
  have H := hide (word_has P b)
  unfold setV
  rcases hq with hq | hq | hq | hq
  · have e : (b : Int) / 64 = 0 := by omega
    have e' : b / 64 = 0 := by omega
    rw [e'] at H
    go_enter Try.func16, Try.ntmps16
    go_wp2
    go_ret
    refine ⟨?_, (Below.refl _ _).alloc (Nat.le_refl _) _⟩
    exact congrArg (fun x => Ending.returned (.bool x)) H.out
  · have e : (b : Int) / 64 = 1 := by omega
    have e' : b / 64 = 1 := by omega
    rw [e'] at H
    go_enter Try.func16, Try.ntmps16
    go_wp2
    go_ret
    refine ⟨?_, (Below.refl _ _).alloc (Nat.le_refl _) _⟩
    exact congrArg (fun x => Ending.returned (.bool x)) H.out
  · have e : (b : Int) / 64 = 2 := by omega
    have e' : b / 64 = 2 := by omega
    rw [e'] at H
    go_enter Try.func16, Try.ntmps16
    go_wp2
    go_ret
    refine ⟨?_, (Below.refl _ _).alloc (Nat.le_refl _) _⟩
    exact congrArg (fun x => Ending.returned (.bool x)) H.out
  · have e : (b : Int) / 64 = 3 := by omega
    have e' : b / 64 = 3 := by omega
    rw [e'] at H
    go_enter Try.func16, Try.ntmps16
    go_wp2
    go_ret
    refine ⟨?_, (Below.refl _ _).alloc (Nat.le_refl _) _⟩
    exact congrArg (fun x => Ending.returned (.bool x)) H.out

set_option maxHeartbeats 400000 in
theorem slHasPrefix_any (s p : ByteArray) (w : World) :
    Calls Try.prog 17 #[.string s, .string p] w fun e w' => e = .returned (.bool (Lib.hasPrefix s.data.toList p.data.toList)) ∧ w = w' := by
  rw [← Lib.hasPrefix_of_take, ← Lib.size_eq, ← Lib.size_eq]
  go_enter Try.func17, Try.ntmps17
  go_wp2
  · rename_i h
    go_ret
    refine ⟨?_, rfl⟩
    show Ending.returned (Value.bool ((s.extract 0 p.size).toList == p.toList)) = _
    rw [Lib.extract_toList, Lib.toList_data]
    simp [h]
  · rename_i h
    go_ret
    refine ⟨?_, rfl⟩
    show Ending.returned (Value.bool false) = _
    simp [h]

set_option maxHeartbeats 400000 in
theorem hasPrefix_any (s p : ByteArray) (w : World) :
    Calls Try.prog 11 #[.string s, .string p] w fun e w' => e = .returned (.bool (Lib.hasPrefix s.data.toList p.data.toList)) ∧ w = w' := by
  go_enter Try.func11, Try.ntmps11
  go_wp2_with (go_at_call 17; refine (slHasPrefix_any _ _ _).mono ?_; rintro e w' ⟨rfl, rfl⟩)
  go_ret
  exact ⟨rfl, rfl⟩
end Go.Proofs.Ytmdlefagkfkenab
