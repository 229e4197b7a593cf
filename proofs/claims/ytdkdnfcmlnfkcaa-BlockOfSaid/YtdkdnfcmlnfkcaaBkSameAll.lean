/-
  Are two signatures the same: block.Same.
-/
import Derived.Test.YtdkdnfcmlnfkcaaBkRight
namespace Go.Proofs.Ytdkdnfcmlnfkcaa
open Go.RowKit
set_option maxRecDepth 100000

/-- Are two signatures the same? -/
def sameSig (z z' tl tl' : Int) (a b : List Sg) (s t : Sg) : Bool := decide (z = z') && (decide (tl = tl') && (sgB s t && sgsB a b))
theorem sameSig_iff (z z' tl tl' : Int) (a b : List Sg) (s t : Sg) : sameSig z z' tl tl' a b s t = true ↔ z = z' ∧ tl = tl' ∧ s = t ∧ a = b := by
  unfold sameSig
  simp only [Bool.and_eq_true, decide_eq_true_eq, sgB_iff, sgsB_iff]

set_option maxHeartbeats 16000000 in
theorem sigSame_any (z z' tl tl' : Int) (A D : Option Addr) (a b : List Sg) (c d : Nat) (s t : Sg) (w : World) (hA : RdSg w w.heap.size A a) (hD : RdSg w w.heap.size D b) (ha : (a.length : Int) ≤ 1000000) :
    Calls Try.prog 31 #[.agg (sigC z A a.length c tl s), .agg (sigC z' D b.length d tl' t)] w fun e w' => e = .returned (.bool (sameSig z z' tl tl' a b s t)) ∧ Below w.heap.size w w' := by
  have hV : sameSig z z' tl tl' a b s t = (decide (z = z') && (decide (tl = tl') && (sgB s t && sgsB a b))) := rfl
  have HE := hide (fun (W : World) (hb : Below w.heap.size w W) => eqSigns_any A D a b c d W (hA.step hb) (hD.step hb) ha)
  generalize sameSig z z' tl tl' a b s t = V at hV ⊢
  generalize sgsB a b = q at hV HE
  clear hA hD ha
  have hsg := sgB_iff s t
  have hfs := sgB_first (x := s) (y := t)
  generalize sgB s t = p at hV hsg hfs
  generalize a.length = n at HE ⊢
  generalize b.length = m at HE ⊢
  obtain ⟨k1, k2, k3⟩ := s
  obtain ⟨j1, j2, j3⟩ := t
  simp only [sigC] at hfs ⊢
  have HB := hide (((Below.refl w.heap.size w).alloc (Nat.le_refl _) (.cells #[.int .i64 z, .slice A n c, .int .i64 tl, .int .u32 (k1 : Nat), .int .u64 (k2 : Nat), .int .u64 (k3 : Nat)] 32)).alloc (by simp) (.cells #[.int .i64 z', .slice D m d, .int .i64 tl', .int .u32 (j1 : Nat), .int .u64 (j2 : Nat), .int .u64 (j3 : Nat)] 32))
  go_enter Try.func31, Try.ntmps31
  by_cases h1 : z = z'
  · subst h1
    by_cases h2 : tl = tl'
    · subst h2
      cases p with
      | true =>
        obtain ⟨rfl, rfl, rfl⟩ : k1 = j1 ∧ k2 = j2 ∧ k3 = j3 := by
          have h := hsg.1 rfl
          injection h with g1 g2 g3
          exact ⟨g1, g2, g3⟩
        have HV := hide (show V = q by rw [hV]; simp)
        clear hV hsg hfs
        go_wp2_with fail
        refine (HE.out _ HB.out).mono ?_
        rintro e w1 ⟨rfl, hb⟩
        have HB1 := hide (HB.out.trans (hb.mono HB.out.size))
        clear hb
        go_wp2_with fail
        exact bodyPost_ret (results_tmp rfl _ _ _) rfl ⟨by rw [HV.out]; rfl, HB1.out⟩
      | false =>
        have HV := hide (show V = false by rw [hV]; simp)
        have hfirst := hfs rfl
        clear hV hsg hfs
        rcases hfirst with g1 | ⟨g1, g2⟩ | ⟨g1, g2, g3⟩
        all_goals
          go_wp2_with fail
          exact bodyPost_ret (results_tmp rfl _ _ _) rfl ⟨by rw [HV.out]; rfl, HB.out⟩
    · have E2 : (tl == tl') = false := by simpa using h2
      have HV := hide (show V = false by rw [hV, decide_eq_false h2]; simp)
      clear hV hsg hfs h2
      go_wp2_with fail
      exact bodyPost_ret (results_tmp rfl _ _ _) rfl ⟨by rw [HV.out]; rfl, HB.out⟩
  · have E1 : (z == z') = false := by simpa using h1
    have HV := hide (show V = false by rw [hV, decide_eq_false h1]; rfl)
    clear hV hsg hfs h1
    go_wp2_with fail
    exact bodyPost_ret (results_tmp rfl _ _ _) rfl ⟨by rw [HV.out]; rfl, HB.out⟩
end Go.Proofs.Ytdkdnfcmlnfkcaa
