/-
  The first part of a pattern: what glob.first answers.
-/
import Derived.Test.YthlalmehcpionaaDoorGlobA
namespace Go.Proofs.YthlalmehcpionaaDoor
open Go.RowKit
attribute [local go_sem] World.setCell_drewN' World.alloc_drewN'

theorem five {w w1 : World} {o : Obj} (hb : Below (w.alloc o).drew.heap.size (w.alloc o).drew w1) {i0 i1 i2 i3 i4 : Nat} {u0 u1 u2 u3 u4 : Value} : Below w.heap.size w (((((w1.setCell ⟨w.heap.size, i0, none⟩ u0).setCell ⟨w.heap.size, i1, none⟩ u1).setCell ⟨w.heap.size, i2, none⟩ u2).setCell ⟨w.heap.size, i3, none⟩ u3).setCell ⟨w.heap.size, i4, none⟩ u4) :=
  five' (((Below.refl _ w).alloc (Nat.le_refl _) _).drew.trans (hb.mono (by show _ ≤ (w.alloc o).heap.size; simp)))
theorem fiveP {w w1 : World} {o : Obj} (hb : Below (w.alloc o).heap.size (w.alloc o) w1) {i0 i1 i2 i3 i4 : Nat} {u0 u1 u2 u3 u4 : Value} : Below w.heap.size w (((((w1.setCell ⟨w.heap.size, i0, none⟩ u0).setCell ⟨w.heap.size, i1, none⟩ u1).setCell ⟨w.heap.size, i2, none⟩ u2).setCell ⟨w.heap.size, i3, none⟩ u3).setCell ⟨w.heap.size, i4, none⟩ u4) :=
  five' (((Below.refl _ w).alloc (Nat.le_refl _) _).trans (hb.mono (by simp)))

/-- What is known of a text's first byte, in the walk's own forms. -/
theorem first_of (s : ByteArray) (h0 : 0 < s.size) : s.data.toList = s[0] :: s.data.toList.drop 1 := by
  have := drop_cons s 0 h0
  simpa using this

set_option maxHeartbeats 800000 in
theorem first_two (s : ByteArray) (w : World) (hp : Lib.hasPrefix s.data.toList [42, 42] = true) :
    Calls Tryd.prog 55 #[.string s] w fun e w' => e = .returned (.tuple #[.agg (partV true (spanP 0 256)), .int .i64 2]) ∧ Below w.heap.size w w' := by
  go_enter Tryd.func55, Tryd.ntmps55
  go_wp2_with fail
  refine (hasPrefix_any _ _ _).mono ?_
  rintro e w1 ⟨rfl, rfl⟩
  rw [show (ByteArray.mk #[42, 42]).data.toList = [42, 42] from rfl, hp]
  go_wp2_with (go_at_call 67; refine (all_any _).mono ?_; rintro e w1 ⟨rfl, hb1⟩; obtain ⟨hc, hf⟩ := bcell hb1; unfold setV)
  have hz : w.heap.size < w1.heap.size := by have := hb1.size; simp at this; omega
  refine bodyPost_ret (v := .tuple #[.agg (partV true (spanP 0 256)), .int .i64 2]) (by simp [results, Tryd.results55, go_sem, hc]; rfl) rfl ⟨rfl, ?_⟩
  exact fiveP hb1

set_option maxHeartbeats 800000 in
theorem first_star (s : ByteArray) (w : World) (h0 : 0 < s.size) (d1 : (s[0].toNat : Int) = 42) (hp : Lib.hasPrefix s.data.toList [42, 42] = false) :
    Calls Tryd.prog 55 #[.string s] w fun e w' => e = .returned (.tuple #[.agg (partV true inNameP), .int .i64 1]) ∧ Below w.heap.size w w' := by
  go_enter Tryd.func55, Tryd.ntmps55
  go_wp2_with fail
  refine (hasPrefix_any _ _ _).mono ?_
  rintro e w1 ⟨rfl, rfl⟩
  rw [show (ByteArray.mk #[42, 42]).data.toList = [42, 42] from rfl, hp]
  go_wp2_with (go_at_call 68; refine (inName_any _).mono ?_; rintro e w1 ⟨rfl, hb1⟩; obtain ⟨hc, hf⟩ := bcell hb1; unfold setV)
  have hz : w.heap.size < w1.heap.size := by have := hb1.size; simp at this; omega
  refine bodyPost_ret (v := .tuple #[.agg (partV true inNameP), .int .i64 1]) (by simp [results, Tryd.results55, go_sem, hc]; rfl) rfl ⟨rfl, ?_⟩
  exact fiveP hb1

set_option maxHeartbeats 800000 in
theorem first_any1 (s : ByteArray) (w : World) (h0 : 0 < s.size) (d2 : (s[0].toNat : Int) = 63) (hp : Lib.hasPrefix s.data.toList [42, 42] = false) :
    Calls Tryd.prog 55 #[.string s] w fun e w' => e = .returned (.tuple #[.agg (partV false inNameP), .int .i64 1]) ∧ Below w.heap.size w w' := by
  go_enter Tryd.func55, Tryd.ntmps55
  go_wp2_with fail
  refine (hasPrefix_any _ _ _).mono ?_
  rintro e w1 ⟨rfl, rfl⟩
  rw [show (ByteArray.mk #[42, 42]).data.toList = [42, 42] from rfl, hp]
  go_wp2_with (go_at_call 68; refine (inName_any _).mono ?_; rintro e w1 ⟨rfl, hb1⟩; obtain ⟨hc, hf⟩ := bcell hb1; unfold setV)
  have hz : w.heap.size < w1.heap.size := by have := hb1.size; simp at this; omega
  refine bodyPost_ret (v := .tuple #[.agg (partV false inNameP), .int .i64 1]) (by simp [results, Tryd.results55, go_sem, hc]; rfl) rfl ⟨rfl, ?_⟩
  exact fiveP hb1

set_option maxHeartbeats 800000 in
theorem first_bare (s : ByteArray) (w : World) (h0 : 0 < s.size) (d4 : (s[0].toNat : Int) = 92) (h1 : s.size = 1) (hp : Lib.hasPrefix s.data.toList [42, 42] = false) :
    Calls Tryd.prog 55 #[.string s] w fun e w' => e = .returned (.tuple #[.agg part0, .int .i64 0]) ∧ Below w.heap.size w w' := by
  have h1' : (s.size : Int) = 1 := by omega
  clear h1
  go_enter Tryd.func55, Tryd.ntmps55
  go_wp2_with fail
  refine (hasPrefix_any _ _ _).mono ?_
  rintro e w1 ⟨rfl, rfl⟩
  rw [show (ByteArray.mk #[42, 42]).data.toList = [42, 42] from rfl, hp]
  go_wp2
  refine bodyPost_ret (v := .tuple #[.agg part0, .int .i64 0]) (by simp [results, Tryd.results55, go_sem]; rfl) rfl ⟨rfl, ?_⟩
  exact (Below.refl _ w).alloc (Nat.le_refl _) _

set_option maxHeartbeats 800000 in
theorem first_escape (s : ByteArray) (w : World) (h1 : 1 < s.size) (d4 : (s[0].toNat : Int) = 92) (hp : Lib.hasPrefix s.data.toList [42, 42] = false) :
    Calls Tryd.prog 55 #[.string s] w fun e w' => e = .returned (.tuple #[.agg (partV false (spanP s[1].toNat (s[1].toNat + 1))), .int .i64 2]) ∧ Below w.heap.size w w' := by
  have hlt : ((s[1].toNat : Nat) : Int) < 256 := by have := s[1].toNat_lt; omega
  have h1' : (1 : Int) < s.size := by omega
  have h1'' : ((s.size : Int) == 1) = false := by rw [beq_eq_false_iff_ne]; omega
  go_enter Tryd.func55, Tryd.ntmps55
  go_wp2_with fail
  refine (hasPrefix_any _ _ _).mono ?_
  rintro e w1 ⟨rfl, rfl⟩
  rw [show (ByteArray.mk #[42, 42]).data.toList = [42, 42] from rfl, hp]
  go_wp2
  go_region_with (go_at_call 70; refine (span_any _ _ _ hlt hlt).mono ?_; rintro e w1 ⟨rfl, hb1⟩; obtain ⟨hc, hf⟩ := bcell hb1; unfold setV)
  all_goals (
    have hz : w.heap.size < w1.heap.size := by have := hb1.size; simp at this; omega
    go_wp2
    refine bodyPost_ret (v := .tuple #[.agg (partV false (spanP s[1].toNat (s[1].toNat + 1))), .int .i64 2]) (by simp [results, Tryd.results55, go_sem, hc]; rfl) rfl ⟨rfl, ?_⟩
    exact five hb1)

set_option maxHeartbeats 800000 in
theorem first_single (s : ByteArray) (w : World) (h0 : 0 < s.size) (d1 : ((s[0].toNat : Int) == 42) = false) (d2 : ((s[0].toNat : Int) == 63) = false) (d3 : ((s[0].toNat : Int) == 91) = false) (d4 : ((s[0].toNat : Int) == 92) = false)
    (hp : Lib.hasPrefix s.data.toList [42, 42] = false) :
    Calls Tryd.prog 55 #[.string s] w fun e w' => e = .returned (.tuple #[.agg (partV false (spanP s[0].toNat (s[0].toNat + 1))), .int .i64 1]) ∧ Below w.heap.size w w' := by
  have hlt : ((s[0].toNat : Nat) : Int) < 256 := by have := s[0].toNat_lt; omega
  go_enter Tryd.func55, Tryd.ntmps55
  go_wp2_with fail
  refine (hasPrefix_any _ _ _).mono ?_
  rintro e w1 ⟨rfl, rfl⟩
  rw [show (ByteArray.mk #[42, 42]).data.toList = [42, 42] from rfl, hp]
  go_wp2
  go_region_with (go_at_call 70; refine (span_any _ _ _ hlt hlt).mono ?_; rintro e w1 ⟨rfl, hb1⟩; obtain ⟨hc, hf⟩ := bcell hb1; unfold setV)
  all_goals (
    have hz : w.heap.size < w1.heap.size := by have := hb1.size; simp at this; omega
    go_wp2
    refine bodyPost_ret (v := .tuple #[.agg (partV false (spanP s[0].toNat (s[0].toNat + 1))), .int .i64 1]) (by simp [results, Tryd.results55, go_sem, hc]; rfl) rfl ⟨rfl, ?_⟩
    exact five hb1)
end Go.Proofs.YthlalmehcpionaaDoor
