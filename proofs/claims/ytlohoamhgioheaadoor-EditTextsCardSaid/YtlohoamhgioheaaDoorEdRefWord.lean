/-
  The reference's Word, has, digits.
-/
import Derived.Test.YtlohoamhgioheaaDoorEdLine
import Derived.Laws.Rows
namespace Go.Proofs.YtlohoamhgioheaaDoor
open Go.RowKit
set_option maxRecDepth 100000

set_option maxHeartbeats 4000000 in
theorem refWord_any (k : Int) (w : World) :
    Calls Tryd.prog 13 #[.int .i64 k] w fun e w' => e = .returned (.string (wordB k)) ∧ Below w.heap.size w w' := by
  by_cases h1 : k < 1
  · have HE := hide (show wordB k = ⟨#[]⟩ by unfold wordB; rw [word_out (by omega)])
    go_enter Tryd.func13, Tryd.ntmps13
    go_wp2_with fail
    exact bodyPost_ret (results_tmp rfl _ _ _) rfl ⟨by rw [HE.out]; rfl, (Below.refl _ _).alloc (Nat.le_refl _) _⟩
  · by_cases h9 : k > 9
    · have HE := hide (show wordB k = ⟨#[]⟩ by unfold wordB; rw [word_out (by omega)])
      go_enter Tryd.func13, Tryd.ntmps13
      go_wp2_with fail
      exact bodyPost_ret (results_tmp rfl _ _ _) rfl ⟨by rw [HE.out]; rfl, (Below.refl _ _).alloc (Nat.le_refl _) _⟩
    · have : k = 1 ∨ k = 2 ∨ k = 3 ∨ k = 4 ∨ k = 5 ∨ k = 6 ∨ k = 7 ∨ k = 8 ∨ k = 9 := by omega
      clear h1 h9
      rcases this with rfl | rfl | rfl | rfl | rfl | rfl | rfl | rfl | rfl
      all_goals
        go_enter Tryd.func13, Tryd.ntmps13
        go_wp2_with fail
        exact bodyPost_ret (results_tmp rfl _ _ _) rfl ⟨by rfl, (Below.refl _ _).alloc (Nat.le_refl _) _⟩

theorem has_cases (k : Int) : (k = 2 ∨ k = 1 ∨ k = 5 ∨ k = 6 ∨ k = 3 ∨ k = 4 ∨ k = 9 ∨ k = 8 ∨ k = 7) ∨ ((k == 2) = false ∧ (k == 1) = false ∧ (k == 5) = false ∧ (k == 6) = false ∧ (k == 3) = false ∧ (k == 4) = false ∧ (k == 9) = false ∧ (k == 8) = false ∧ (k == 7) = false) := by
  by_cases h : k = 2 ∨ k = 1 ∨ k = 5 ∨ k = 6 ∨ k = 3 ∨ k = 4 ∨ k = 9 ∨ k = 8 ∨ k = 7
  · exact .inl h
  · right
    simp only [beq_eq_false_iff_ne]
    omega
/-- Which fields a kind has, as the reference tells it. -/
def has3 (k : Int) : Array Value := #[.bool (hasX k 1), .bool (hasX k 2), .bool (hasX k 4)]
set_option maxHeartbeats 8000000 in
theorem refHas_any (k : Int) (w : World) :
    Calls Tryd.prog 24 #[.int .i64 k] w fun e w' => e = .returned (.agg (has3 k)) ∧ Below w.heap.size w w' := by
  rcases has_cases k with h | ⟨k2, k1, k5, k6, k3, k4, k9, k8, k7⟩
  · rcases h with rfl | rfl | rfl | rfl | rfl | rfl | rfl | rfl | rfl
    all_goals
      go_enter Tryd.func24, Tryd.ntmps24
      go_wp2_with fail
      refine bodyPost_ret (results_cell_row (P := Tryd.prog) rfl _ _ w.heap.size _ _ _ _ rfl (World.alloc_heap_new _ _) Tryd.underlying49 rfl (by kernel_rfl)) rfl ⟨by rfl, (Below.refl _ _).alloc (Nat.le_refl _) _⟩
  · have HE := hide (show has3 k = #[.bool false, .bool false, .bool false] by unfold has3 hasX hasF hasT hasN; rw [k2, k1, k5, k6, k3, k4, k9, k8, k7]; rfl)
    go_enter Tryd.func24, Tryd.ntmps24
    go_wp2_with fail
    refine bodyPost_ret (results_cell_row (P := Tryd.prog) rfl _ _ w.heap.size _ _ _ _ rfl (World.alloc_heap_new _ _) Tryd.underlying49 rfl (by kernel_rfl)) rfl ⟨by rw [HE.out], (Below.refl _ _).alloc (Nat.le_refl _) _⟩

def dig (k : Nat) : ByteArray := (⟨#[48, 49, 50, 51, 52, 53, 54, 55, 56, 57]⟩ : ByteArray).extract k (k + 1)
theorem digs : ∀ n < 512, (n ≥ 100 → dig (n / 100) ++ (dig (n / 10 % 10) ++ dig (n % 10)) = numB (n : Nat)) ∧ (n ≥ 10 → ¬ n ≥ 100 → dig (n / 10 % 10) ++ dig (n % 10) = numB (n : Nat)) ∧ (¬ n ≥ 10 → dig (n % 10) = numB (n : Nat)) := by decide +kernel
set_option maxHeartbeats 4000000 in
theorem digits_any (n : Nat) (w : World) (hn : n ≤ 511) :
    Calls Tryd.prog 25 #[.int .i64 n] w fun e w' => e = .returned (.string (numB n)) ∧ w' = w := by
  obtain ⟨h1, h2, h3⟩ := digs n (by omega)
  by_cases h100 : n ≥ 100
  · have HE := hide (h1 h100)
    clear h1 h2 h3
    go_enter Tryd.func25, Tryd.ntmps25
    go_wp2_with fail
    exact bodyPost_ret (results_tmp rfl _ _ _) rfl ⟨by rw [← HE.out]; rfl, rfl⟩
  · by_cases h10 : n ≥ 10
    · have HE := hide (h2 h10 h100)
      clear h1 h2 h3
      go_enter Tryd.func25, Tryd.ntmps25
      go_wp2_with fail
      exact bodyPost_ret (results_tmp rfl _ _ _) rfl ⟨by rw [← HE.out]; rfl, rfl⟩
    · have HE := hide (h3 h10)
      clear h1 h2 h3 h100
      go_enter Tryd.func25, Tryd.ntmps25
      go_wp2_with fail
      exact bodyPost_ret (results_tmp rfl _ _ _) rfl ⟨by rw [← HE.out]; rfl, rfl⟩
end Go.Proofs.YtlohoamhgioheaaDoor
