/-
  (*Link).on, at; Len, Sent, Lost; New.
-/
import Derived.Test.YtfknfpngcnianaaLkAdd
namespace Go.Proofs.Ytfknfpngcnianaa
open Go.RowKit
set_option maxRecDepth 100000

theorem on_in (g k : Nat) (hk : k < 2) (w : World) : Calls Try.prog 20 #[.pointer (some ⟨g, 0, none⟩), .int .i64 k] w fun e w' => e = .returned (.pointer (some ⟨g, k * 35, none⟩)) ∧ w' = w := by
  have h : k = 0 ∨ k = 1 := by omega
  rcases h with rfl | rfl
  all_goals
    go_enter Try.func20, Try.ntmps20
    go_wp2_with fail
    exact bodyPost_ret (results_tmp rfl _ _ _) rfl ⟨rfl, rfl⟩
theorem on_nil (k : Int) (w : World) : Calls Try.prog 20 #[.pointer none, .int .i64 k] w fun e w' => e = .returned (.pointer none) ∧ w' = w := by
  go_enter Try.func20, Try.ntmps20
  go_wp2_with fail
  exact bodyPost_ret (results_tmp rfl _ _ _) rfl ⟨rfl, rfl⟩
theorem on_bad (g : Nat) (k : Int) (hk : k < 0 ∨ 2 ≤ k) (w : World) : Calls Try.prog 20 #[.pointer (some ⟨g, 0, none⟩), .int .i64 k] w fun e w' => e = .returned (.pointer none) ∧ w' = w := by
  rcases hk with h | h
  · go_enter Try.func20, Try.ntmps20
    go_wp2_with fail
    exact bodyPost_ret (results_tmp rfl _ _ _) rfl ⟨rfl, rfl⟩
  · have h2 : ¬ k < 0 := by omega
    go_enter Try.func20, Try.ntmps20
    go_wp2_with fail
    exact bodyPost_ret (results_tmp rfl _ _ _) rfl ⟨rfl, rfl⟩
/-- What 'on' tells: a way's address, or none. -/
def On (P : Value) (k : Int) (A : Option Addr) : Prop := ∀ W, Calls Try.prog 20 #[P, .int .i64 k] W fun e w' => e = .returned (.pointer A) ∧ w' = W
def At (P : Value) (k i : Int) (A : Option Addr) (W : World) : Prop := Calls Try.prog 22 #[P, .int .i64 k, .int .i64 i] W fun e w' => e = .returned (.pointer A) ∧ w' = W
set_option maxHeartbeats 2000000 in
theorem at_none (P : Value) (k i : Int) (w : World) (H : On P k none) : At P k i none w := by
  have HH := hide H
  clear H
  unfold At
  go_enter Try.func22, Try.ntmps22
  go_wp2_with fail
  refine (HH.out _).mono ?_
  rintro e w1 ⟨rfl, rfl⟩
  go_wp2_with fail
  exact bodyPost_ret (results_tmp rfl _ _ _) rfl ⟨rfl, rfl⟩
set_option maxHeartbeats 2000000 in
theorem at_out (P : Value) (k i : Int) (g o : Nat) (C : Array Value) (q : Way) (w : World) (H : On P k (some ⟨g, o, none⟩)) (h : In w g o C q) (hi : i < 0 ∨ (q.l.length : Int) ≤ i) : At P k i none w := by
  have HH := hide H
  clear H
  have c32 : w.cell? ⟨g, o + 32, none⟩ = some (.int .i64 q.l.length) := (cell_of_row _ _ _ _ _ _ h.row).trans h.at_.n
  clear h
  unfold At
  rcases hi with hi | hi
  · go_enter Try.func22, Try.ntmps22
    go_wp2_with fail
    refine (HH.out _).mono ?_
    rintro e w1 ⟨rfl, rfl⟩
    go_wp2_with fail
    exact bodyPost_ret (results_tmp rfl _ _ _) rfl ⟨rfl, rfl⟩
  · have h0 : ¬ i < 0 := by omega
    go_enter Try.func22, Try.ntmps22
    go_wp2_with fail
    refine (HH.out _).mono ?_
    rintro e w1 ⟨rfl, rfl⟩
    go_wp2_with fail
    exact bodyPost_ret (results_tmp rfl _ _ _) rfl ⟨rfl, rfl⟩
set_option maxHeartbeats 2000000 in
theorem at_in (P : Value) (k : Int) (i g o : Nat) (C : Array Value) (q : Way) (w : World) (H : On P k (some ⟨g, o, none⟩)) (h : In w g o C q) (hi : i < q.l.length) : At P k i (some ⟨g, o, none⟩) w := by
  have HH := hide H
  clear H
  have c32 : w.cell? ⟨g, o + 32, none⟩ = some (.int .i64 q.l.length) := (cell_of_row _ _ _ _ _ _ h.row).trans h.at_.n
  clear h
  have h1 : ¬ (q.l.length : Int) ≤ (i : Int) := by omega
  have h2 : ¬ q.l.length ≤ i := by omega
  unfold At
  go_enter Try.func22, Try.ntmps22
  go_wp2_with fail
  refine (HH.out _).mono ?_
  rintro e w1 ⟨rfl, rfl⟩
  go_wp2_with fail
  exact bodyPost_ret (results_tmp rfl _ _ _) rfl ⟨rfl, rfl⟩
set_option maxHeartbeats 2000000 in
theorem lkLen_none (P : Value) (k : Int) (w : World) (H : On P k none) : Calls Try.prog 10 #[P, .int .i64 k] w fun e w' => e = .returned (.int .i64 0) ∧ w' = w := by
  have HH := hide H
  clear H
  go_enter Try.func10, Try.ntmps10
  go_wp2_with fail
  refine (HH.out _).mono ?_
  rintro e w1 ⟨rfl, rfl⟩
  go_wp2_with fail
  exact bodyPost_ret (results_tmp rfl _ _ _) rfl ⟨rfl, rfl⟩
set_option maxHeartbeats 2000000 in
theorem lkLen_in (P : Value) (k : Int) (g o : Nat) (C : Array Value) (q : Way) (w : World) (H : On P k (some ⟨g, o, none⟩)) (h : In w g o C q) : Calls Try.prog 10 #[P, .int .i64 k] w fun e w' => e = .returned (.int .i64 q.l.length) ∧ w' = w := by
  have HH := hide H
  clear H
  have c : w.cell? ⟨g, o + 32, none⟩ = some (.int .i64 q.l.length) := (cell_of_row _ _ _ _ _ _ h.row).trans h.at_.n
  clear h
  go_enter Try.func10, Try.ntmps10
  go_wp2_with fail
  refine (HH.out _).mono ?_
  rintro e w1 ⟨rfl, rfl⟩
  go_wp2_with fail
  exact bodyPost_ret (results_tmp rfl _ _ _) rfl ⟨rfl, rfl⟩
set_option maxHeartbeats 2000000 in
theorem lkSent_none (P : Value) (k : Int) (w : World) (H : On P k none) : Calls Try.prog 11 #[P, .int .i64 k] w fun e w' => e = .returned (.int .i64 0) ∧ w' = w := by
  have HH := hide H
  clear H
  go_enter Try.func11, Try.ntmps11
  go_wp2_with fail
  refine (HH.out _).mono ?_
  rintro e w1 ⟨rfl, rfl⟩
  go_wp2_with fail
  exact bodyPost_ret (results_tmp rfl _ _ _) rfl ⟨rfl, rfl⟩
set_option maxHeartbeats 2000000 in
theorem lkSent_in (P : Value) (k : Int) (g o : Nat) (C : Array Value) (q : Way) (w : World) (H : On P k (some ⟨g, o, none⟩)) (h : In w g o C q) : Calls Try.prog 11 #[P, .int .i64 k] w fun e w' => e = .returned (.int .i64 q.sent) ∧ w' = w := by
  have HH := hide H
  clear H
  have c : w.cell? ⟨g, o + 33, none⟩ = some (.int .i64 q.sent) := (cell_of_row _ _ _ _ _ _ h.row).trans h.at_.sent
  clear h
  go_enter Try.func11, Try.ntmps11
  go_wp2_with fail
  refine (HH.out _).mono ?_
  rintro e w1 ⟨rfl, rfl⟩
  go_wp2_with fail
  exact bodyPost_ret (results_tmp rfl _ _ _) rfl ⟨rfl, rfl⟩
set_option maxHeartbeats 2000000 in
theorem lkLost_none (P : Value) (k : Int) (w : World) (H : On P k none) : Calls Try.prog 12 #[P, .int .i64 k] w fun e w' => e = .returned (.int .i64 0) ∧ w' = w := by
  have HH := hide H
  clear H
  go_enter Try.func12, Try.ntmps12
  go_wp2_with fail
  refine (HH.out _).mono ?_
  rintro e w1 ⟨rfl, rfl⟩
  go_wp2_with fail
  exact bodyPost_ret (results_tmp rfl _ _ _) rfl ⟨rfl, rfl⟩
set_option maxHeartbeats 2000000 in
theorem lkLost_in (P : Value) (k : Int) (g o : Nat) (C : Array Value) (q : Way) (w : World) (H : On P k (some ⟨g, o, none⟩)) (h : In w g o C q) : Calls Try.prog 12 #[P, .int .i64 k] w fun e w' => e = .returned (.int .i64 q.lost) ∧ w' = w := by
  have HH := hide H
  clear H
  have c : w.cell? ⟨g, o + 34, none⟩ = some (.int .i64 q.lost) := (cell_of_row _ _ _ _ _ _ h.row).trans h.at_.lost
  clear h
  go_enter Try.func12, Try.ntmps12
  go_wp2_with fail
  refine (HH.out _).mono ?_
  rintro e w1 ⟨rfl, rfl⟩
  go_wp2_with fail
  exact bodyPost_ret (results_tmp rfl _ _ _) rfl ⟨rfl, rfl⟩
end Go.Proofs.Ytfknfpngcnianaa
