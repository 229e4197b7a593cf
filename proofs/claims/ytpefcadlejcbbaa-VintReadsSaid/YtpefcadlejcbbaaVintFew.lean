/-
  The law's bytes, and few: acts that lie at an address.
-/
import Derived.Test.YtpefcadlejcbbaaVintRefPut
namespace Go.Proofs.Ytpefcadlejcbbaa
open Go.RowKit
set_option maxRecDepth 100000

set_option maxHeartbeats 1000000 in
theorem bytes_any (a : Ac) (w : World) (hf : a.fits) (hs : a.S.size ≤ 1000) :
    Calls Try.prog 19 #[.agg a.cells] w (TextIs w a.bytes) := by
  obtain ⟨kind, N, M, K, S⟩ := a
  obtain ⟨hN, hM⟩ := hf
  simp only at hN hM hs
  unfold Ac.cells
  simp only
  have hB0 : Below w.heap.size w (w.alloc (.cells #[.int .i64 kind, .int .u64 (N : Nat), .int .u64 (M : Nat), .int .i64 K, .string S] 43)) := (Below.refl _ w).alloc (Nat.le_refl _) _
  by_cases g0 : kind = 0
  · have E0 : (kind == 0) = true := by rw [g0]; rfl
    have HB := hide (show Ac.bytes ⟨kind, N, M, K, S⟩ = groupsL N from if_pos (.inl g0))
    clear g0
    go_enter Try.func19, Try.ntmps19
    go_wp2_with fail
    refine (refNum_any N _ hN).mono ?_
    rintro e w2 ⟨rfl, h4⟩
    go_wp2_with fail
    refine bodyPost_ret (results_tmp rfl _ _ _) rfl ⟨by rw [HB.out]; rfl, hB0.trans (h4.mono hB0.size)⟩
  by_cases g1 : kind = 1
  · have E0 : (kind == 0) = false := by simpa using g0
    have E1 : (kind == 1) = true := by rw [g1]; rfl
    have HB := hide (show Ac.bytes ⟨kind, N, M, K, S⟩ = groupsL N from if_pos (.inr g1))
    clear g0 g1
    go_enter Try.func19, Try.ntmps19
    go_wp2_with fail
    refine (refNum_any N _ hN).mono ?_
    rintro e w2 ⟨rfl, h4⟩
    go_wp2_with fail
    refine bodyPost_ret (results_tmp rfl _ _ _) rfl ⟨by rw [HB.out]; rfl, hB0.trans (h4.mono hB0.size)⟩
  by_cases g2 : kind = 2
  · have E0 : (kind == 0) = false := by simpa using g0
    have E1 : (kind == 1) = false := by simpa using g1
    have E2 : (kind == 2) = true := by rw [g2]; rfl
    have HB := hide (show Ac.bytes ⟨kind, N, M, K, S⟩ = groupsL S.size ++ toL S by unfold Ac.bytes; rw [if_neg (by simp [g0, g1]), if_pos g2])
    clear g0 g1 g2
    go_enter Try.func19, Try.ntmps19
    go_wp2_with fail
    refine (refText_any S _ (by omega)).mono ?_
    rintro e w2 ⟨rfl, h4⟩
    go_wp2_with fail
    refine bodyPost_ret (results_tmp rfl _ _ _) rfl ⟨by rw [HB.out]; rfl, hB0.trans (h4.mono hB0.size)⟩
  · have E0 : (kind == 0) = false := by simpa using g0
    have E1 : (kind == 1) = false := by simpa using g1
    have E2 : (kind == 2) = false := by simpa using g2
    have HB := hide (show Ac.bytes ⟨kind, N, M, K, S⟩ = wordL N ++ wordL M by unfold Ac.bytes; rw [if_neg (by simp [g0, g1]), if_neg g2])
    clear g0 g1 g2
    go_enter Try.func19, Try.ntmps19
    go_wp2_with fail
    refine (refSum_any N M _ hN hM).mono ?_
    rintro e w2 ⟨rfl, h4⟩
    go_wp2_with fail
    refine bodyPost_ret (results_tmp rfl _ _ _) rfl ⟨by rw [HB.out]; rfl, hB0.trans (h4.mono hB0.size)⟩

/-- Acts that lie at an address, below block B. -/
def RdA (w : World) (B : Nat) (A : Option Addr) (cs : List Ac) : Prop :=
  ∀ k a, cs[k]? = some a → ∃ ad : Addr, A = some ad ∧ ad.block < B ∧ ∀ j v, a.cells[j]? = some v → w.cell? ((ad.add (k * 5)).add j) = some v
theorem RdA.below {w w' : World} {B B' : Nat} {A : Option Addr} {cs : List Ac} (h : RdA w B A cs) (hb : Below B' w w') (hB : B ≤ B') : RdA w' B A cs := fun k x hx => by
  obtain ⟨ad, e, hlt, hc⟩ := h k x hx
  exact ⟨ad, e, hlt, fun j v hv => (hb.cell (by rw [add_block, add_block]; omega)).trans (hc j v hv)⟩
/-- Are they tried? -/
def fewL (cs : List Ac) : Bool := decide (cs.length ≤ 40) && cs.all fun a => decide (a.S.size ≤ 200)

set_option maxHeartbeats 1000000 in
theorem few_any (A : Option Addr) (cs : List Ac) (c : Nat) (w : World) (hA : RdA w w.heap.size A cs) :
    Calls Try.prog 16 #[.slice A cs.length c] w fun e w' => e = .returned (.bool (fewL cs)) ∧ w' = w := by
  by_cases h40 : (40 : Int) < cs.length
  · have HF := hide (show fewL cs = false by unfold fewL; rw [decide_eq_false (by omega)]; rfl)
    go_enter Try.func16, Try.ntmps16
    go_wp2_with fail
    refine bodyPost_ret (results_tmp rfl _ _ _) rfl ⟨by rw [HF.out]; rfl, rfl⟩
  go_enter Try.func16, Try.ntmps16
  go_wp2_with fail
  go_loopw [3] (fun i wr => ∃ k : Nat, k ≤ cs.length ∧ i = .int .i64 k ∧ (∀ a ∈ cs.take k, a.S.size ≤ 200) ∧ wr = w) (fun i _ => cs.length - (intOf i).toNat)
  case atStart => exact ⟨0, Nat.zero_le _, rfl, by simp, rfl⟩
  case round =>
    obtain ⟨k, hk, rfl, hT, rfl⟩ := hrel
    by_cases hlt : (k : Int) < cs.length
    · have hkl : k < cs.length := by omega
      obtain ⟨ad, rfl, hb, hc⟩ := hA k cs[k] (List.getElem?_eq_getElem hkl)
      have h4 : wr.cell? ⟨(ad.add (k * 5)).block, (ad.add (k * 5)).off + 4, none⟩ = some (.string cs[k].S) := hc 4 _ rfl
      have hTS : (∀ a ∈ cs.take (k + 1), a.S.size ≤ 200) ↔ cs[k].S.size ≤ 200 := by
        rw [← List.take_append_getElem hkl]
        simp only [List.mem_append, List.mem_singleton]
        exact ⟨fun h => h _ (.inr rfl), fun h a ha => ha.elim (hT a) fun e => e ▸ h⟩
      have hF : ¬ cs[k].S.size ≤ 200 → fewL cs = false := fun h => by
        have : (cs.all fun a => decide (a.S.size ≤ 200)) = false := by
          rw [List.all_eq_false]
          exact ⟨cs[k], List.getElem_mem hkl, by simpa using h⟩
        unfold fewL; rw [this, Bool.and_false]
      generalize cs[k].S = s at h4 hTS hF
      by_cases h200 : (200 : Int) < s.size
      · have HF := hide (hF (by omega))
        clear hF hTS hc
        go_wp2_with fail
        refine bodyPost_ret (results_tmp rfl _ _ _) rfl ⟨by rw [HF.out]; rfl, rfl⟩
      · have HT := hide (hTS.2 (by omega))
        clear hF hTS hc
        go_wp2_with fail
        go_roundw
        case rel => exact ⟨k + 1, hkl, rfl, HT.out, trivial⟩
        case measure => simp [intOf]; omega
    · obtain rfl : k = cs.length := by omega
      have HF := hide (show fewL cs = true by
        unfold fewL
        rw [decide_eq_true (by omega), Bool.true_and, List.all_eq_true]
        intro a ha
        exact decide_eq_true (hT a (by simpa using ha)))
      go_wp2_with fail
      refine bodyPost_ret (results_tmp rfl _ _ _) rfl ⟨by rw [HF.out]; rfl, rfl⟩
end Go.Proofs.Ytpefcadlejcbbaa
