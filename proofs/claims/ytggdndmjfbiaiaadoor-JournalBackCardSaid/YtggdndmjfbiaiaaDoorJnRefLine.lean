/-
  The reference's Line: a record's line.
-/
import Derived.Test.YtggdndmjfbiaiaaDoorJnLine
import Derived.Deep.LoopGhost
namespace Go.Proofs.YtggdndmjfbiaiaaDoor
open Go.RowKit
set_option maxRecDepth 100000

/-- A digit, as the reference cuts it out. -/
def digB (k : Nat) : ByteArray := (⟨#[48, 49, 50, 51, 52, 53, 54, 55, 56, 57]⟩ : ByteArray).extract k (k + 1)
theorem digB_toL {k : Nat} (h : k < 10) : toL (digB k) = [UInt8.ofNat (48 + k)] := by
  have : ∀ i : Fin 10, toL (digB i.val) = [UInt8.ofNat (48 + i.val)] := by decide +kernel
  exact this ⟨k, h⟩
/-- The digits ahead of the last one. -/
def headD (u : Nat) : List UInt8 := if u < 10 then [] else Lib.decDigits (u / 10)
theorem dec_head (u : Nat) : Lib.decDigits u = headD u ++ [UInt8.ofNat (48 + u % 10)] := by
  unfold headD
  by_cases h : u < 10
  · rw [if_pos h, Lib.decDigits, dif_pos h, Nat.mod_eq_of_lt h]; rfl
  · rw [if_neg h, Lib.decDigits, dif_neg h]
theorem head_small {u : Nat} (h : u < 10) : headD u = [] := if_pos h
theorem head_big {u : Nat} (h : 10 ≤ u) : headD u = headD (u / 10) ++ [UInt8.ofNat (48 + u / 10 % 10)] := by
  unfold headD
  rw [if_neg (show ¬ u < 10 by omega), dec_head]
  rfl

set_option maxHeartbeats 8000000 in
theorem refLine_any (k n : Int) (w : World) :
    Calls Tryd.prog 12 #[.agg #[.int .i64 k, .int .i64 n]] w fun e w' => e = .returned (.string (lineB k n)) ∧ Below w.heap.size w w' := by
  by_cases hok : OkJ k n
  · obtain ⟨hk1, hk4, hn0, hn1⟩ := hok
    obtain ⟨u, rfl⟩ : ∃ u : Nat, n = u := ⟨n.toNat, by omega⟩
    have HE := hide (line_put (k := k) (n := (u : Int)) ⟨hk1, hk4, hn0, hn1⟩)
    have hu : u < 10000000000 := by omega
    obtain ⟨w1, hw1⟩ : ∃ w1, w1 = w.alloc (.cells #[.int .i64 k, .int .i64 u] 33) := ⟨_, rfl⟩
    obtain ⟨w2, hw2⟩ : ∃ w2, w2 = w1.alloc (.cells #[.string ⟨#[115, 116, 97, 114, 116]⟩, .string ⟨#[112, 108, 97, 110]⟩, .string ⟨#[100, 105, 100]⟩, .string ⟨#[101, 110, 100]⟩] 9) := ⟨_, rfl⟩
    have hr1 : w2.heap[w.heap.size]? = some (.cells #[.int .i64 k, .int .i64 u] 33 (0, 0)) := by
      rw [hw2, Below.heap_alloc _ _ _ (by rw [hw1]; simp), hw1]; exact World.alloc_heap_new _ _
    have hr2 : w2.heap[w.heap.size + 1]? = some (.cells #[.string ⟨#[115, 116, 97, 114, 116]⟩, .string ⟨#[112, 108, 97, 110]⟩, .string ⟨#[100, 105, 100]⟩, .string ⟨#[101, 110, 100]⟩] 9 (0, 0)) := by
      have h := World.alloc_heap_new w1 (Obj.cells #[.string ⟨#[115, 116, 97, 114, 116]⟩, .string ⟨#[112, 108, 97, 110]⟩, .string ⟨#[100, 105, 100]⟩, .string ⟨#[101, 110, 100]⟩] 9)
      rw [← hw2, show w1.heap.size = w.heap.size + 1 by rw [hw1]; simp] at h
      exact h
    have HB := hide (show Below w.heap.size w w2 by rw [hw2, hw1]; exact ((Below.refl _ w).alloc (Nat.le_refl _) _).alloc (by simp) _)
    have Hr1 := hide hr1
    have Hr2 := hide hr2
    rw [hw1] at hw2
    have Hw2 := hide hw2
    clear hr1 hr2 hw1 hw2
    have HD0 := hide (show Lib.decDigits u = headD u ++ toL (digB (u % 10)) by rw [digB_toL (Nat.mod_lt _ (by omega)), dec_head])
    have HEnd := hide (show ∀ (m : Nat) (o : ByteArray), m < 10 → Lib.decDigits u = headD m ++ toL o → o = ⟨(Lib.itoa (u : Int)).toArray⟩ from fun m o hm h => by
      rw [head_small hm, List.nil_append] at h
      rw [itoa_dec (by omega), Int.toNat_natCast, h]
      rfl)
    go_enter Tryd.func12, Tryd.ntmps12
    go_wp2_with fail
    rw [← Hw2.out]
    go_loopg [5, 6, 7] 10 (fun gk nv ov iv wr => ∃ (i m : Nat) (o : ByteArray), nv = .int .i64 m ∧ ov = .string o ∧ iv = .int .i64 i ∧ i + gk = 10 ∧ (m : Int) ≤ 2147483647 ∧ Hid (m < 10 ^ (10 - i)) ∧ o.size ≤ i + 1 ∧ Hid (Lib.decDigits u = headD m ++ toL o) ∧ w2 = wr)
    case atStart => exact ⟨0, u, digB (u % 10), rfl, rfl, rfl, rfl, hn1, hide hu, by show (digB (u % 10)).size ≤ 1; rw [← size_toL, digB_toL (Nat.mod_lt _ (by omega))]; exact Nat.le_refl _, HD0, rfl⟩
    case round =>
      obtain ⟨i, m, o, rfl, rfl, rfl, hig, hm, HM, ho, HO, rfl⟩ := hrel
      have y0 : w2.cell? ⟨w.heap.size, 0, none⟩ = some (.int .i64 k) := cell_of_row _ _ _ _ _ _ Hr1.out
      have x0 : w2.cell? ⟨w.heap.size + 1, 0, none⟩ = some (.string ⟨#[115, 116, 97, 114, 116]⟩) := cell_of_row _ _ _ _ _ _ Hr2.out
      have x1 : w2.cell? ⟨w.heap.size + 1, 1, none⟩ = some (.string ⟨#[112, 108, 97, 110]⟩) := cell_of_row _ _ _ _ _ _ Hr2.out
      have x2 : w2.cell? ⟨w.heap.size + 1, 2, none⟩ = some (.string ⟨#[100, 105, 100]⟩) := cell_of_row _ _ _ _ _ _ Hr2.out
      have x3 : w2.cell? ⟨w.heap.size + 1, 3, none⟩ = some (.string ⟨#[101, 110, 100]⟩) := cell_of_row _ _ _ _ _ _ Hr2.out
      cases gk with
      | zero =>
        obtain rfl : i = 10 := by omega
        obtain rfl := HEnd.out m o (by have h := HM.out; simp at h; omega) HO.out
        obtain ⟨D, hD⟩ : ∃ D : ByteArray, D = ⟨(Lib.itoa (u : Int)).toArray⟩ := ⟨_, rfl⟩
        rw [← hD] at HE ho ⊢
        have hkc : k = 1 ∨ k = 2 ∨ k = 3 ∨ k = 4 := by omega
        clear hD HEnd HO HM HD0
        rcases hkc with rfl | rfl | rfl | rfl
        all_goals
          go_wp2_with fail
          exact bodyPost_ret (results_tmp rfl _ _ _) rfl ⟨by rw [← HE.out]; rfl, HB.out⟩
      | succ g0 =>
        have hi10 : (i : Int) < 10 := by omega
        by_cases hm10 : (10 : Int) ≤ m
        · clear HEnd HE y0 x0 x1 x2 x3
          go_wp2_with fail
          have hd := digB_toL (k := m / 10 % 10) (Nat.mod_lt _ (by omega))
          have hds : (digB (m / 10 % 10)).size = 1 := by rw [← size_toL, hd]; rfl
          go_roundg g0
          case rel =>
            refine ⟨i + 1, m / 10, digB (m / 10 % 10) ++ o, rfl, rfl, rfl, by omega, by omega, hide ?_, ?_, hide ?_, rfl⟩
            · have h := HM.out
              rw [show 10 - i = (10 - (i + 1)) + 1 by omega, Nat.pow_succ] at h
              omega
            · rw [ByteArray.size_append, hds]; omega
            · rw [HO.out, head_big (by omega)]
              have e : toL (digB (m / 10 % 10) ++ o) = toL (digB (m / 10 % 10)) ++ toL o := by simp [toL]
              rw [e, hd, List.append_assoc]
          case measure => omega
        · obtain rfl := HEnd.out m o (by omega) HO.out
          obtain ⟨D, hD⟩ : ∃ D : ByteArray, D = ⟨(Lib.itoa (u : Int)).toArray⟩ := ⟨_, rfl⟩
          rw [← hD] at HE ho ⊢
          have hkc : k = 1 ∨ k = 2 ∨ k = 3 ∨ k = 4 := by omega
          clear hD HEnd HO HM HD0
          rcases hkc with rfl | rfl | rfl | rfl
          all_goals
            go_wp2_with fail
            exact bodyPost_ret (results_tmp rfl _ _ _) rfl ⟨by rw [← HE.out]; rfl, HB.out⟩
  · have HE := hide (lineB_no hok)
    have hc : k < 1 ∨ (1 ≤ k ∧ 4 < k) ∨ ((1 ≤ k ∧ k ≤ 4) ∧ n < 0) ∨ ((1 ≤ k ∧ k ≤ 4) ∧ 0 ≤ n ∧ 2147483647 < n) := by unfold OkJ at hok; omega
    clear hok
    rcases hc with h | ⟨h, h2⟩ | ⟨⟨h, h2⟩, h3⟩ | ⟨⟨h, h2⟩, h3, h4⟩
    all_goals
      go_enter Tryd.func12, Tryd.ntmps12
      go_wp2_with fail
      exact bodyPost_ret (results_tmp rfl _ _ _) rfl ⟨by rw [HE.out]; rfl, ((Below.refl _ w).alloc (Nat.le_refl _) _).alloc (by simp) _⟩
end Go.Proofs.YtggdndmjfbiaiaaDoor
