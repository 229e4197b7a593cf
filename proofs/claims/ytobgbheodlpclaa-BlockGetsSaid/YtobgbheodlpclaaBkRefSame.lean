/-
  Are two signatures the same: the reference's answer.
-/
import Derived.Test.YtobgbheodlpclaaAutoConcat
namespace Go.Proofs.Ytobgbheodlpclaa
open Go.RowKit
set_option maxRecDepth 100000

set_option maxHeartbeats 16000000 in
theorem refSigSame_any (z z' tl tl' : Int) (A D : Option Addr) (a b : List Sg) (c d : Nat) (s t : Sg) (w : World) (hA : RdSg w w.heap.size A a) (hD : RdSg w w.heap.size D b) (ha : (a.length : Int) ≤ 1000000) :
    Calls Try.prog 20 #[.agg (sigC z A a.length c tl s), .agg (sigC z' D b.length d tl' t)] w fun e w' => e = .returned (.bool (sameSig z z' tl tl' a b s t)) ∧ Below w.heap.size w w' := by
  have hV : sameSig z z' tl tl' a b s t = (decide (z = z') && (decide (tl = tl') && (sgB s t && sgsB a b))) := rfl
  generalize sameSig z z' tl tl' a b s t = V at hV ⊢
  obtain ⟨n, hn⟩ : ∃ n, a.length = n := ⟨_, rfl⟩
  obtain ⟨m, hm⟩ : ∃ m, b.length = m := ⟨_, rfl⟩
  rw [hn, hm]
  have hsg := sgB_iff s t
  have hfs := sgB_first (x := s) (y := t)
  generalize sgB s t = p at hV hsg hfs
  obtain ⟨k1, k2, k3⟩ := s
  obtain ⟨j1, j2, j3⟩ := t
  simp only [sigC] at hfs ⊢
  have HB := hide (((Below.refl w.heap.size w).alloc (Nat.le_refl _) (.cells #[.int .i64 z, .slice A n c, .int .i64 tl, .int .u32 (k1 : Nat), .int .u64 (k2 : Nat), .int .u64 (k3 : Nat)] 42)).alloc (by simp) (.cells #[.int .i64 z', .slice D m d, .int .i64 tl', .int .u32 (j1 : Nat), .int .u64 (j2 : Nat), .int .u64 (j3 : Nat)] 42))
  go_enter Try.func20, Try.ntmps20
  by_cases h1 : z = z'
  · subst h1
    by_cases hl : n = m
    · subst hl
      by_cases h2 : tl = tl'
      · subst h2
        cases p with
        | true =>
          obtain ⟨rfl, rfl, rfl⟩ : k1 = j1 ∧ k2 = j2 ∧ k3 = j3 := by
            have h := hsg.1 rfl
            injection h with g1 g2 g3
            exact ⟨g1, g2, g3⟩
          have HV := hide (show sgsB (a.drop 0) (b.drop 0) = V by rw [hV]; simp)
          clear hV hsg hfs
          have hrow1 := World.alloc_heap_new w (Obj.cells #[.int .i64 z, .slice A n c, .int .i64 tl, .int .u32 (k1 : Nat), .int .u64 (k2 : Nat), .int .u64 (k3 : Nat)] 42)
          have hrow2 := World.alloc_heap_new (w.alloc (Obj.cells #[.int .i64 z, .slice A n c, .int .i64 tl, .int .u32 (k1 : Nat), .int .u64 (k2 : Nat), .int .u64 (k3 : Nat)] 42)) (Obj.cells #[.int .i64 z, .slice D n d, .int .i64 tl, .int .u32 (k1 : Nat), .int .u64 (k2 : Nat), .int .u64 (k3 : Nat)] 42)
          have hrow3 := (((Below.refl _ (w.alloc (Obj.cells #[.int .i64 z, .slice A n c, .int .i64 tl, .int .u32 (k1 : Nat), .int .u64 (k2 : Nat), .int .u64 (k3 : Nat)] 42))).alloc (Nat.le_refl _) (Obj.cells #[.int .i64 z, .slice D n d, .int .i64 tl, .int .u32 (k1 : Nat), .int .u64 (k2 : Nat), .int .u64 (k3 : Nat)] 42)).block w.heap.size (by simp)).trans hrow1
          rw [show (w.alloc (Obj.cells #[.int .i64 z, .slice A n c, .int .i64 tl, .int .u32 (k1 : Nat), .int .u64 (k2 : Nat), .int .u64 (k3 : Nat)] 42)).heap.size = w.heap.size + 1 by simp] at hrow2
          go_wp2_with fail
          generalize (w.alloc (Obj.cells #[.int .i64 z, .slice A n c, .int .i64 tl, .int .u32 (k1 : Nat), .int .u64 (k2 : Nat), .int .u64 (k3 : Nat)] 42)).alloc (Obj.cells #[.int .i64 z, .slice D n d, .int .i64 tl, .int .u32 (k1 : Nat), .int .u64 (k2 : Nat), .int .u64 (k3 : Nat)] 42) = w2 at hrow2 hrow3 HB ⊢
          have hlt0 : w.heap.size < w2.heap.size := (Array.getElem?_eq_some_iff.1 hrow3).1
          have hlt1 : w.heap.size + 1 < w2.heap.size := (Array.getElem?_eq_some_iff.1 hrow2).1
          have HK := hide (fun (W : World) (h : Below w2.heap.size w2 W) => (⟨cell_of_row _ _ _ _ _ _ ((h.block _ hlt0).trans hrow3), cell_of_row _ _ _ _ _ _ ((h.block _ hlt1).trans hrow2)⟩ : W.cell? ⟨w.heap.size, 1, none⟩ = some (.slice A n c) ∧ W.cell? ⟨w.heap.size + 1, 1, none⟩ = some (.slice D n d)))
          have hB := HB.out
          have HAA := hide (fun (W : World) (h : Below w2.heap.size w2 W) => hA.below (hB.trans (h.mono hB.size)) (Nat.le_refl _))
          have HDD := hide (fun (W : World) (h : Below w2.heap.size w2 W) => hD.below (hB.trans (h.mono hB.size)) (Nat.le_refl _))
          clear hB hA hD hrow1 hrow2 hrow3 hlt0 hlt1
          go_loopg [5] n (fun gk iv wr => ∃ i : Nat, iv = .int .i64 i ∧ i + gk = n ∧ Hid (sgsB (a.drop i) (b.drop i) = V) ∧ Hid (Below w2.heap.size w2 wr))
          case atStart => exact ⟨0, rfl, by omega, HV, hide (by first | exact Below.refl _ _ | exact (Below.refl _ _).drew)⟩
          case round =>
            obtain ⟨i, rfl, hig, HQ, HW⟩ := hrel
            clear HV
            obtain ⟨e1, e2⟩ := HK.out wr HW.out
            cases gk with
            | zero =>
              obtain rfl : i = n := by omega
              have HE := hide (show V = true by rw [← HQ.out, List.drop_eq_nil_of_le (by omega), List.drop_eq_nil_of_le (by omega)]; rfl)
              clear HQ
              go_wp2_with fail
              exact bodyPost_ret (results_tmp rfl _ _ _) rfl ⟨by rw [HE.out]; rfl, HB.out.trans (HW.out.mono HB.out.size)⟩
            | succ g0 =>
              have hii : (i : Int) < n := by omega
              have hi0 : (0 : Int) ≤ (i : Int) := by omega
              obtain ⟨x, hx⟩ : ∃ x, a[i]? = some x := ⟨_, List.getElem?_eq_getElem (by omega)⟩
              obtain ⟨y, hy⟩ : ∃ y, b[i]? = some y := ⟨_, List.getElem?_eq_getElem (by omega)⟩
              have hd := HQ.out
              rw [sgsB_drop a b i x y hx hy] at hd
              obtain ⟨ad, rfl, hlt1, h1⟩ := (HAA.out wr HW.out) i x hx
              obtain ⟨ae, rfl, hlt2, h2⟩ := (HDD.out wr HW.out) i y hy
              have hiw : IntKind.i64.wrap ((i : Int) + 1) = ((i + 1 : Nat) : Int) := by rw [IntWalk.i64_in _ (by omega)]; rfl
              obtain ⟨c0, c1, c2⟩ := h1
              obtain ⟨d0, d1, d2⟩ := h2
              cases hq : sgB x y with
              | true =>
                rw [hq, Bool.true_and] at hd
                obtain rfl := (sgB_iff x y).1 hq
                have HD := hide hd
                clear hd HQ hx hy hq hlt1 hlt2
                obtain ⟨wk, hi, lo⟩ := x
                simp only at c0 c1 c2 d0 d1 d2
                go_wp2_with fail
                go_quiet (fail)
                go_wp2_with fail
                rename_i nq
                have HW2 := hide (below_drewN HW.out nq)
                go_roundg g0
                case rel => exact ⟨i + 1, rfl, by omega, HD, HW2⟩
                case measure => omega
              | false =>
                rw [hq, Bool.false_and] at hd
                have HD := hide hd
                have hfirst := sgB_first hq
                clear hd HQ hx hy hq hlt1 hlt2
                obtain ⟨wk, hi, lo⟩ := x
                obtain ⟨wk', hi', lo'⟩ := y
                simp only at c0 c1 c2 d0 d1 d2 hfirst
                rcases hfirst with g1 | ⟨g1, g2⟩ | ⟨g1, g2, g3⟩
                all_goals
                  go_wp2_with fail
                  go_quiet (fail)
                  go_wp2_with fail
                  rename_i nq
                  exact bodyPost_ret (results_tmp rfl _ _ _) rfl ⟨by rw [← HD.out]; rfl, HB.out.trans ((below_drewN HW.out nq).mono HB.out.size)⟩
        | false =>
          have HV := hide (show V = false by rw [hV]; simp)
          have hfirst := hfs rfl
          simp only [beq_eq_false_iff_ne, beq_iff_eq, ne_eq] at hfirst
          clear hV hsg hfs hA hD
          rcases hfirst with g1 | ⟨g1, g2⟩ | ⟨g1, g2, g3⟩
          · go_wp2_with fail
            exact bodyPost_ret (results_tmp rfl _ _ _) rfl ⟨by rw [HV.out]; rfl, HB.out⟩
          · obtain rfl : k1 = j1 := by omega
            clear g1
            go_wp2_with fail
            exact bodyPost_ret (results_tmp rfl _ _ _) rfl ⟨by rw [HV.out]; rfl, HB.out⟩
          · obtain rfl : k1 = j1 := by omega
            obtain rfl : k2 = j2 := by omega
            clear g1 g2
            go_wp2_with fail
            exact bodyPost_ret (results_tmp rfl _ _ _) rfl ⟨by rw [HV.out]; rfl, HB.out⟩
      · have E2 : (tl == tl') = false := by simpa using h2
        have HV := hide (show V = false by rw [hV, decide_eq_false h2]; simp)
        clear hV hsg hfs hA hD
        go_wp2_with fail
        exact bodyPost_ret (results_tmp rfl _ _ _) rfl ⟨by rw [HV.out]; rfl, HB.out⟩
    · have hle : ¬ (n : Int) = m := by omega
      have E3 : ((n : Int) == (m : Int)) = false := by rw [beq_eq_false_iff_ne]; omega
      have HV := hide (show V = false by rw [hV, sgsB_len (by omega)]; simp)
      clear hV hsg hfs hA hD hl
      go_wp2_with fail
      exact bodyPost_ret (results_tmp rfl _ _ _) rfl ⟨by rw [HV.out]; rfl, HB.out⟩
  · have E1 : (z == z') = false := by simpa using h1
    have HV := hide (show V = false by rw [hV, decide_eq_false h1]; rfl)
    clear hV hsg hfs hA hD
    go_wp2_with fail
    exact bodyPost_ret (results_tmp rfl _ _ _) rfl ⟨by rw [HV.out]; rfl, HB.out⟩
end Go.Proofs.Ytobgbheodlpclaa
