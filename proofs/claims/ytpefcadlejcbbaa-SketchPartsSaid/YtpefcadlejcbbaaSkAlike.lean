/-
  sketch.Alike; the reference's Alike.
-/
import Derived.Test.YtpefcadlejcbbaaSkOne
namespace Go.Proofs.Ytpefcadlejcbbaa
open Go.RowKit
set_option maxRecDepth 100000

set_option maxHeartbeats 2000000 in
theorem arr8_eq (a0 a1 a2 a3 a4 a5 a6 a7 b0 b1 b2 b3 b4 b5 b6 b7 : Int) (w : World) : (Op.equalIn 10000 30 (.agg #[.int .u64 a0, .int .u64 a1, .int .u64 a2, .int .u64 a3, .int .u64 a4, .int .u64 a5, .int .u64 a6, .int .u64 a7]) (.agg #[.int .u64 b0, .int .u64 b1, .int .u64 b2, .int .u64 b3, .int .u64 b4, .int .u64 b5, .int .u64 b6, .int .u64 b7])).run Try.prog w = .ok (a0 == b0 && (a1 == b1 && (a2 == b2 && (a3 == b3 && (a4 == b4 && (a5 == b5 && (a6 == b6 && (a7 == b7)))))))) w := by
  have u3 := Try.underlying29
  have a3' := Try.isAgg29
  have z3 := Try.sizeOf29
  rw [show (10000 : Nat) = 9999 + 1 from rfl, Op.equalIn]
  simp only [Sem.run_bind, run_underlying Try.underlying30, Result.andThen_ok]
  simp only [Std.Legacy.Range.forIn_eq_forIn_range', Std.Legacy.Range.size, Nat.sub_zero, Nat.add_sub_cancel, Nat.div_one, List.range'_succ, List.range'_zero, List.forIn_cons, List.forIn_nil]
  go_simp
  by_cases h0 : a0 = b0
  case neg => simp [h0]
  by_cases h1 : a1 = b1
  case neg => simp [h0, h1]
  by_cases h2 : a2 = b2
  case neg => simp [h0, h1, h2]
  by_cases h3 : a3 = b3
  case neg => simp [h0, h1, h2, h3]
  by_cases h4 : a4 = b4
  case neg => simp [h0, h1, h2, h3, h4]
  by_cases h5 : a5 = b5
  case neg => simp [h0, h1, h2, h3, h4, h5]
  by_cases h6 : a6 = b6
  case neg => simp [h0, h1, h2, h3, h4, h5, h6]
  by_cases h7 : a7 = b7
  case neg => simp [h0, h1, h2, h3, h4, h5, h6, h7]
  simp [h0, h1, h2, h3, h4, h5, h6, h7]

theorem beqc (x y : Nat) : ((x : Int) == (y : Int)) = (x == y) := by rw [Bool.eq_iff_iff]; simp; omega
/-- How many of the first k numbers are the same. -/
def sameTo (a b : List Nat) : Nat → Nat
  | 0 => 0
  | k + 1 => sameTo a b k + if a[k]? = b[k]? then 1 else 0
theorem sameTo_le (a b : List Nat) (k : Nat) : sameTo a b k ≤ k := by
  induction k with
  | zero => exact Nat.le_refl _
  | succ k ih => unfold sameTo; split <;> omega
theorem sameTo_self (a : List Nat) (k : Nat) : sameTo a a k = k := by
  induction k with
  | zero => rfl
  | succ k ih => unfold sameTo; rw [if_pos rfl, ih]

set_option maxHeartbeats 4000000 in
theorem alike_any (a b : List Nat) (w : World) (ha : a.length = 8) (hb : b.length = 8) :
    Calls Try.prog 14 #[.agg (U a), .agg (U b)] w fun e w' => e = .returned (.int .i64 (sameTo a b 8 : Nat)) ∧ Below w.heap.size w w' := by
  obtain ⟨a0, a1, a2, a3, a4, a5, a6, a7, hae⟩ := len8 a ha
  obtain ⟨b0, b1, b2, b3, b4, b5, b6, b7, hbe⟩ := len8 b hb
  have hUa : U a = #[.int .u64 (a0 : Nat), .int .u64 (a1 : Nat), .int .u64 (a2 : Nat), .int .u64 (a3 : Nat), .int .u64 (a4 : Nat), .int .u64 (a5 : Nat), .int .u64 (a6 : Nat), .int .u64 (a7 : Nat)] := by rw [hae]; rfl
  have hUb : U b = #[.int .u64 (b0 : Nat), .int .u64 (b1 : Nat), .int .u64 (b2 : Nat), .int .u64 (b3 : Nat), .int .u64 (b4 : Nat), .int .u64 (b5 : Nat), .int .u64 (b6 : Nat), .int .u64 (b7 : Nat)] := by rw [hbe]; rfl
  obtain ⟨q, hq⟩ : ∃ q : Bool, q = (a0 == b0 && (a1 == b1 && (a2 == b2 && (a3 == b3 && (a4 == b4 && (a5 == b5 && (a6 == b6 && (a7 == b7)))))))) := ⟨_, rfl⟩
  have heq : ∀ W : World, (Op.equalIn 10000 30 (.agg #[.int .u64 (a0 : Nat), .int .u64 (a1 : Nat), .int .u64 (a2 : Nat), .int .u64 (a3 : Nat), .int .u64 (a4 : Nat), .int .u64 (a5 : Nat), .int .u64 (a6 : Nat), .int .u64 (a7 : Nat)]) (.agg #[.int .u64 (b0 : Nat), .int .u64 (b1 : Nat), .int .u64 (b2 : Nat), .int .u64 (b3 : Nat), .int .u64 (b4 : Nat), .int .u64 (b5 : Nat), .int .u64 (b6 : Nat), .int .u64 (b7 : Nat)])).run Try.prog W = .ok q W := fun W => by rw [hq]; rw [arr8_eq a0 a1 a2 a3 a4 a5 a6 a7 b0 b1 b2 b3 b4 b5 b6 b7 W]; simp only [beqc]
  have HQ := hide (show q = true → a = b from fun h => by
    rw [hq] at h
    simp at h
    rw [hae, hbe]
    obtain ⟨e0, e1, e2, e3, e4, e5, e6, e7⟩ := h
    rw [e0, e1, e2, e3, e4, e5, e6, e7])
  clear hq hae hbe
  rw [hUa, hUb]
  go_enter Try.func14, Try.ntmps14
  have HK := hide (two_rows w (#[.int .u64 (a0 : Nat), .int .u64 (a1 : Nat), .int .u64 (a2 : Nat), .int .u64 (a3 : Nat), .int .u64 (a4 : Nat), .int .u64 (a5 : Nat), .int .u64 (a6 : Nat), .int .u64 (a7 : Nat)]) (#[.int .u64 (b0 : Nat), .int .u64 (b1 : Nat), .int .u64 (b2 : Nat), .int .u64 (b3 : Nat), .int .u64 (b4 : Nat), .int .u64 (b5 : Nat), .int .u64 (b6 : Nat), .int .u64 (b7 : Nat)]) 30 30)
  cases q with
  | true =>
    have HAB := hide (HQ.out rfl)
    clear HQ
    go_wp2_with fail
    refine bodyPost_ret (results_tmp rfl _ _ _) rfl ⟨by rw [HAB.out, sameTo_self]; rfl, HK.out.2.2⟩
  | false =>
    clear HQ
    go_wp2_with fail
    generalize ((w.alloc (.cells (#[.int .u64 (a0 : Nat), .int .u64 (a1 : Nat), .int .u64 (a2 : Nat), .int .u64 (a3 : Nat), .int .u64 (a4 : Nat), .int .u64 (a5 : Nat), .int .u64 (a6 : Nat), .int .u64 (a7 : Nat)]) 30)).alloc (.cells (#[.int .u64 (b0 : Nat), .int .u64 (b1 : Nat), .int .u64 (b2 : Nat), .int .u64 (b3 : Nat), .int .u64 (b4 : Nat), .int .u64 (b5 : Nat), .int .u64 (b6 : Nat), .int .u64 (b7 : Nat)]) 30)) = w2 at HK ⊢
    rw [← hUa, ← hUb] at HK
    go_loopw [5, 6, 10] (fun n _ i wr => ∃ k s : Nat, k ≤ 8 ∧ i = .int .i64 k ∧ n = .int .i64 s ∧ s ≤ k ∧ Hid (s = sameTo a b k) ∧ Hid (wr.heap[w.heap.size]? = some (.cells (U a) 30 (0, 0)) ∧ wr.heap[w.heap.size + 1]? = some (.cells (U b) 30 (0, 0)) ∧ Below w.heap.size w wr)) (fun _ _ i _ => 8 - (intOf i).toNat)
    case atStart => exact ⟨0, 0, by decide, rfl, rfl, Nat.le_refl _, hide rfl, HK⟩
    case round =>
      clear HK
      obtain ⟨k, s, hk, rfl, rfl, hs, HS, HK⟩ := hrel
      by_cases hlt : (k : Int) < 8
      · have hk8 : k < 8 := by omega
        obtain ⟨x, hx⟩ : ∃ x, a[k]? = some x := ⟨_, List.getElem?_eq_getElem (by omega)⟩
        obtain ⟨y, hy⟩ : ∃ y, b[k]? = some y := ⟨_, List.getElem?_eq_getElem (by omega)⟩
        have i0 := index8 w.heap.size k hk8
        have i1 := index8 (w.heap.size + 1) k hk8
        have cx : wr.cell? ⟨w.heap.size, k, none⟩ = some (.int .u64 x) := (cell_of_row _ _ _ _ _ _ HK.out.1).trans (U_at _ _ _ hx)
        have cy : wr.cell? ⟨w.heap.size + 1, k, none⟩ = some (.int .u64 y) := (cell_of_row _ _ _ _ _ _ HK.out.2.1).trans (U_at _ _ _ hy)
        have HT := hide (show sameTo a b (k + 1) = s + if x = y then 1 else 0 by
          have h : sameTo a b (k + 1) = sameTo a b k + if a[k]? = b[k]? then 1 else 0 := rfl
          rw [h, HS.out, hx, hy]
          simp)
        have hs8 : (s : Int) ≤ 8 := by omega
        have HD := hide (show wr.drew.heap[w.heap.size]? = some (.cells (U a) 30 (0, 0)) ∧ wr.drew.heap[w.heap.size + 1]? = some (.cells (U b) 30 (0, 0)) ∧ Below w.heap.size w wr.drew from ⟨HK.out.1, HK.out.2.1, HK.out.2.2.os, HK.out.2.2.tape, HK.out.2.2.output, HK.out.2.2.size, HK.out.2.2.block⟩)
        clear hx hy hUa hUb heq
        by_cases hxy : x = y
        · have HT2 := hide (show s + 1 = sameTo a b (k + 1) by rw [HT.out, if_pos hxy])
          subst hxy
          clear HT
          go_wp2_with fail
          go_still (by kernel_rfl)
          go_wp2_with fail
          go_roundw
          case rel => exact ⟨k + 1, s + 1, hk8, rfl, rfl, by omega, HT2, HD⟩
          case measure => simp [intOf]; omega
        · have HT2 := hide (show s = sameTo a b (k + 1) by rw [HT.out, if_neg hxy]; rfl)
          have hne : ¬ (x : Int) = (y : Int) := by omega
          clear HT
          go_wp2_with fail
          go_still (by kernel_rfl)
          go_wp2_with fail
          go_roundw
          case rel => exact ⟨k + 1, s, hk8, rfl, rfl, by omega, HT2, HD⟩
          case measure => simp [intOf]; omega
      · obtain rfl : k = 8 := by omega
        clear heq hUa hUb
        go_wp2_with fail
        refine bodyPost_ret (results_tmp rfl _ _ _) rfl ⟨by rw [← HS.out]; rfl, HK.out.2.2⟩
end Go.Proofs.Ytpefcadlejcbbaa
