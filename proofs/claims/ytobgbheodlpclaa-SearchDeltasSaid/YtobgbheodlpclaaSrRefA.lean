/-
  Texts that belong together: BkSameAll, BkRefSame, SrRefWhich.
-/
import Derived.Test.YtobgbheodlpclaaBkRight
import Derived.Test.YtobgbheodlpclaaSrMath
import Derived.Test.YtobgbheodlpclaaAutoHeldOp
import Derived.Deep.QuietTactic
/-
  Are two signatures the same: block.Same.
-/
namespace Go.Proofs.Ytobgbheodlpclaa
open Go.RowKit
set_option maxRecDepth 100000

/-- Are two signatures the same? -/
def sameSig (z z' tl tl' : Int) (a b : List Sg) (s t : Sg) : Bool := decide (z = z') && (decide (tl = tl') && (sgB s t && sgsB a b))
theorem sameSig_iff (z z' tl tl' : Int) (a b : List Sg) (s t : Sg) : sameSig z z' tl tl' a b s t = true ↔ z = z' ∧ tl = tl' ∧ s = t ∧ a = b := by
  unfold sameSig
  simp only [Bool.and_eq_true, decide_eq_true_eq, sgB_iff, sgsB_iff]

set_option maxHeartbeats 16000000 in
theorem sigSame_any (z z' tl tl' : Int) (A D : Option Addr) (a b : List Sg) (c d : Nat) (s t : Sg) (w : World) (hA : RdSg w w.heap.size A a) (hD : RdSg w w.heap.size D b) (ha : (a.length : Int) ≤ 1000000) :
    Calls Try.prog 31 #[.agg (sigC z A a.length c tl s), .agg (sigC z' D b.length d tl' t)] w fun e w' => e = .returned (.bool (sameSig z z' tl tl' a b s t)) ∧ Below w.heap.size w w' := by
  have hV : sameSig z z' tl tl' a b s t = (decide (z = z') && (decide (tl = tl') && (sgB s t && sgsB a b))) := rfl
  have HE := hide (fun (W : World) (hb : Below w.heap.size w W) => eqSigns_any A D a b c d W (hA.step hb) (hD.step hb) ha)
  generalize sameSig z z' tl tl' a b s t = V at hV ⊢
  generalize sgsB a b = q at hV HE
  clear hA hD ha
  have hsg := sgB_iff s t
  have hfs := sgB_first (x := s) (y := t)
  generalize sgB s t = p at hV hsg hfs
  generalize a.length = n at HE ⊢
  generalize b.length = m at HE ⊢
  obtain ⟨k1, k2, k3⟩ := s
  obtain ⟨j1, j2, j3⟩ := t
  simp only [sigC] at hfs ⊢
  have HB := hide (((Below.refl w.heap.size w).alloc (Nat.le_refl _) (.cells #[.int .i64 z, .slice A n c, .int .i64 tl, .int .u32 (k1 : Nat), .int .u64 (k2 : Nat), .int .u64 (k3 : Nat)] 32)).alloc (by simp) (.cells #[.int .i64 z', .slice D m d, .int .i64 tl', .int .u32 (j1 : Nat), .int .u64 (j2 : Nat), .int .u64 (j3 : Nat)] 32))
  go_enter Try.func31, Try.ntmps31
  by_cases h1 : z = z'
  · subst h1
    by_cases h2 : tl = tl'
    · subst h2
      cases p with
      | true =>
        obtain ⟨rfl, rfl, rfl⟩ : k1 = j1 ∧ k2 = j2 ∧ k3 = j3 := by
          have h := hsg.1 rfl
          injection h with g1 g2 g3
          exact ⟨g1, g2, g3⟩
        have HV := hide (show V = q by rw [hV]; simp)
        clear hV hsg hfs
        go_wp2_with fail
        refine (HE.out _ HB.out).mono ?_
        rintro e w1 ⟨rfl, hb⟩
        have HB1 := hide (HB.out.trans (hb.mono HB.out.size))
        clear hb
        go_wp2_with fail
        exact bodyPost_ret (results_tmp rfl _ _ _) rfl ⟨by rw [HV.out]; rfl, HB1.out⟩
      | false =>
        have HV := hide (show V = false by rw [hV]; simp)
        have hfirst := hfs rfl
        clear hV hsg hfs
        rcases hfirst with g1 | ⟨g1, g2⟩ | ⟨g1, g2, g3⟩
        all_goals
          go_wp2_with fail
          exact bodyPost_ret (results_tmp rfl _ _ _) rfl ⟨by rw [HV.out]; rfl, HB.out⟩
    · have E2 : (tl == tl') = false := by simpa using h2
      have HV := hide (show V = false by rw [hV, decide_eq_false h2]; simp)
      clear hV hsg hfs h2
      go_wp2_with fail
      exact bodyPost_ret (results_tmp rfl _ _ _) rfl ⟨by rw [HV.out]; rfl, HB.out⟩
  · have E1 : (z == z') = false := by simpa using h1
    have HV := hide (show V = false by rw [hV, decide_eq_false h1]; rfl)
    clear hV hsg hfs h1
    go_wp2_with fail
    exact bodyPost_ret (results_tmp rfl _ _ _) rfl ⟨by rw [HV.out]; rfl, HB.out⟩
end Go.Proofs.Ytobgbheodlpclaa
/-
  Are two signatures the same: the reference's answer.
-/
namespace Go.Proofs.Ytobgbheodlpclaa
open Go.RowKit
set_option maxRecDepth 100000

set_option maxHeartbeats 16000000 in
theorem refSigSame_any (z z' tl tl' : Int) (A D : Option Addr) (a b : List Sg) (c d : Nat) (s t : Sg) (w : World) (hA : RdSg w w.heap.size A a) (hD : RdSg w w.heap.size D b) (ha : (a.length : Int) ≤ 1000000) :
    Calls Try.prog 20 #[.agg (sigC z A a.length c tl s), .agg (sigC z' D b.length d tl' t)] w fun e w' => e = .returned (.bool (sameSig z z' tl tl' a b s t)) ∧ Below w.heap.size w w' := by
  have hV : sameSig z z' tl tl' a b s t = (decide (z = z') && (decide (tl = tl') && (sgB s t && sgsB a b))) := rfl
  generalize sameSig z z' tl tl' a b s t = V at hV ⊢
  obtain ⟨n, hn⟩ : ∃ n, a.length = n := ⟨_, rfl⟩
  obtain ⟨m, hm⟩ : ∃ m, b.length = m := ⟨_, rfl⟩
  rw [hn, hm]
  have hsg := sgB_iff s t
  have hfs := sgB_first (x := s) (y := t)
  generalize sgB s t = p at hV hsg hfs
  obtain ⟨k1, k2, k3⟩ := s
  obtain ⟨j1, j2, j3⟩ := t
  simp only [sigC] at hfs ⊢
  have HB := hide (((Below.refl w.heap.size w).alloc (Nat.le_refl _) (.cells #[.int .i64 z, .slice A n c, .int .i64 tl, .int .u32 (k1 : Nat), .int .u64 (k2 : Nat), .int .u64 (k3 : Nat)] 42)).alloc (by simp) (.cells #[.int .i64 z', .slice D m d, .int .i64 tl', .int .u32 (j1 : Nat), .int .u64 (j2 : Nat), .int .u64 (j3 : Nat)] 42))
  go_enter Try.func20, Try.ntmps20
  by_cases h1 : z = z'
  · subst h1
    by_cases hl : n = m
    · subst hl
      by_cases h2 : tl = tl'
      · subst h2
        cases p with
        | true =>
          obtain ⟨rfl, rfl, rfl⟩ : k1 = j1 ∧ k2 = j2 ∧ k3 = j3 := by
            have h := hsg.1 rfl
            injection h with g1 g2 g3
            exact ⟨g1, g2, g3⟩
          have HV := hide (show sgsB (a.drop 0) (b.drop 0) = V by rw [hV]; simp)
          clear hV hsg hfs
          have hrow1 := World.alloc_heap_new w (Obj.cells #[.int .i64 z, .slice A n c, .int .i64 tl, .int .u32 (k1 : Nat), .int .u64 (k2 : Nat), .int .u64 (k3 : Nat)] 42)
          have hrow2 := World.alloc_heap_new (w.alloc (Obj.cells #[.int .i64 z, .slice A n c, .int .i64 tl, .int .u32 (k1 : Nat), .int .u64 (k2 : Nat), .int .u64 (k3 : Nat)] 42)) (Obj.cells #[.int .i64 z, .slice D n d, .int .i64 tl, .int .u32 (k1 : Nat), .int .u64 (k2 : Nat), .int .u64 (k3 : Nat)] 42)
          have hrow3 := (((Below.refl _ (w.alloc (Obj.cells #[.int .i64 z, .slice A n c, .int .i64 tl, .int .u32 (k1 : Nat), .int .u64 (k2 : Nat), .int .u64 (k3 : Nat)] 42))).alloc (Nat.le_refl _) (Obj.cells #[.int .i64 z, .slice D n d, .int .i64 tl, .int .u32 (k1 : Nat), .int .u64 (k2 : Nat), .int .u64 (k3 : Nat)] 42)).block w.heap.size (by simp)).trans hrow1
          rw [show (w.alloc (Obj.cells #[.int .i64 z, .slice A n c, .int .i64 tl, .int .u32 (k1 : Nat), .int .u64 (k2 : Nat), .int .u64 (k3 : Nat)] 42)).heap.size = w.heap.size + 1 by simp] at hrow2
          go_wp2_with fail
          generalize (w.alloc (Obj.cells #[.int .i64 z, .slice A n c, .int .i64 tl, .int .u32 (k1 : Nat), .int .u64 (k2 : Nat), .int .u64 (k3 : Nat)] 42)).alloc (Obj.cells #[.int .i64 z, .slice D n d, .int .i64 tl, .int .u32 (k1 : Nat), .int .u64 (k2 : Nat), .int .u64 (k3 : Nat)] 42) = w2 at hrow2 hrow3 HB ⊢
          have hlt0 : w.heap.size < w2.heap.size := (Array.getElem?_eq_some_iff.1 hrow3).1
          have hlt1 : w.heap.size + 1 < w2.heap.size := (Array.getElem?_eq_some_iff.1 hrow2).1
          have HK := hide (fun (W : World) (h : Below w2.heap.size w2 W) => (⟨cell_of_row _ _ _ _ _ _ ((h.block _ hlt0).trans hrow3), cell_of_row _ _ _ _ _ _ ((h.block _ hlt1).trans hrow2)⟩ : W.cell? ⟨w.heap.size, 1, none⟩ = some (.slice A n c) ∧ W.cell? ⟨w.heap.size + 1, 1, none⟩ = some (.slice D n d)))
          have hB := HB.out
          have HAA := hide (fun (W : World) (h : Below w2.heap.size w2 W) => hA.below (hB.trans (h.mono hB.size)) (Nat.le_refl _))
          have HDD := hide (fun (W : World) (h : Below w2.heap.size w2 W) => hD.below (hB.trans (h.mono hB.size)) (Nat.le_refl _))
          clear hB hA hD hrow1 hrow2 hrow3 hlt0 hlt1
          go_loopg [5] n (fun gk iv wr => ∃ i : Nat, iv = .int .i64 i ∧ i + gk = n ∧ Hid (sgsB (a.drop i) (b.drop i) = V) ∧ Hid (Below w2.heap.size w2 wr))
          case atStart => exact ⟨0, rfl, by omega, HV, hide (by first | exact Below.refl _ _ | exact (Below.refl _ _).drew)⟩
          case round =>
            obtain ⟨i, rfl, hig, HQ, HW⟩ := hrel
            clear HV
            obtain ⟨e1, e2⟩ := HK.out wr HW.out
            cases gk with
            | zero =>
              obtain rfl : i = n := by omega
              have HE := hide (show V = true by rw [← HQ.out, List.drop_eq_nil_of_le (by omega), List.drop_eq_nil_of_le (by omega)]; rfl)
              clear HQ
              go_wp2_with fail
              exact bodyPost_ret (results_tmp rfl _ _ _) rfl ⟨by rw [HE.out]; rfl, HB.out.trans (HW.out.mono HB.out.size)⟩
            | succ g0 =>
              have hii : (i : Int) < n := by omega
              have hi0 : (0 : Int) ≤ (i : Int) := by omega
              obtain ⟨x, hx⟩ : ∃ x, a[i]? = some x := ⟨_, List.getElem?_eq_getElem (by omega)⟩
              obtain ⟨y, hy⟩ : ∃ y, b[i]? = some y := ⟨_, List.getElem?_eq_getElem (by omega)⟩
              have hd := HQ.out
              rw [sgsB_drop a b i x y hx hy] at hd
              obtain ⟨ad, rfl, hlt1, h1⟩ := (HAA.out wr HW.out) i x hx
              obtain ⟨ae, rfl, hlt2, h2⟩ := (HDD.out wr HW.out) i y hy
              have hiw : IntKind.i64.wrap ((i : Int) + 1) = ((i + 1 : Nat) : Int) := by rw [IntWalk.i64_in _ (by omega)]; rfl
              obtain ⟨c0, c1, c2⟩ := h1
              obtain ⟨d0, d1, d2⟩ := h2
              cases hq : sgB x y with
              | true =>
                rw [hq, Bool.true_and] at hd
                obtain rfl := (sgB_iff x y).1 hq
                have HD := hide hd
                clear hd HQ hx hy hq hlt1 hlt2
                obtain ⟨wk, hi, lo⟩ := x
                simp only at c0 c1 c2 d0 d1 d2
                go_wp2_with fail
                go_quiet (fail)
                go_wp2_with fail
                rename_i nq
                have HW2 := hide (below_drewN HW.out nq)
                go_roundg g0
                case rel => exact ⟨i + 1, rfl, by omega, HD, HW2⟩
                case measure => omega
              | false =>
                rw [hq, Bool.false_and] at hd
                have HD := hide hd
                have hfirst := sgB_first hq
                clear hd HQ hx hy hq hlt1 hlt2
                obtain ⟨wk, hi, lo⟩ := x
                obtain ⟨wk', hi', lo'⟩ := y
                simp only at c0 c1 c2 d0 d1 d2 hfirst
                rcases hfirst with g1 | ⟨g1, g2⟩ | ⟨g1, g2, g3⟩
                all_goals
                  go_wp2_with fail
                  go_quiet (fail)
                  go_wp2_with fail
                  rename_i nq
                  exact bodyPost_ret (results_tmp rfl _ _ _) rfl ⟨by rw [← HD.out]; rfl, HB.out.trans ((below_drewN HW.out nq).mono HB.out.size)⟩
        | false =>
          have HV := hide (show V = false by rw [hV]; simp)
          have hfirst := hfs rfl
          simp only [beq_eq_false_iff_ne, beq_iff_eq, ne_eq] at hfirst
          clear hV hsg hfs hA hD
          rcases hfirst with g1 | ⟨g1, g2⟩ | ⟨g1, g2, g3⟩
          · go_wp2_with fail
            exact bodyPost_ret (results_tmp rfl _ _ _) rfl ⟨by rw [HV.out]; rfl, HB.out⟩
          · obtain rfl : k1 = j1 := by omega
            clear g1
            go_wp2_with fail
            exact bodyPost_ret (results_tmp rfl _ _ _) rfl ⟨by rw [HV.out]; rfl, HB.out⟩
          · obtain rfl : k1 = j1 := by omega
            obtain rfl : k2 = j2 := by omega
            clear g1 g2
            go_wp2_with fail
            exact bodyPost_ret (results_tmp rfl _ _ _) rfl ⟨by rw [HV.out]; rfl, HB.out⟩
      · have E2 : (tl == tl') = false := by simpa using h2
        have HV := hide (show V = false by rw [hV, decide_eq_false h2]; simp)
        clear hV hsg hfs hA hD
        go_wp2_with fail
        exact bodyPost_ret (results_tmp rfl _ _ _) rfl ⟨by rw [HV.out]; rfl, HB.out⟩
    · have hle : ¬ (n : Int) = m := by omega
      have E3 : ((n : Int) == (m : Int)) = false := by rw [beq_eq_false_iff_ne]; omega
      have HV := hide (show V = false by rw [hV, sgsB_len (by omega)]; simp)
      clear hV hsg hfs hA hD hl
      go_wp2_with fail
      exact bodyPost_ret (results_tmp rfl _ _ _) rfl ⟨by rw [HV.out]; rfl, HB.out⟩
  · have E1 : (z == z') = false := by simpa using h1
    have HV := hide (show V = false by rw [hV, decide_eq_false h1]; rfl)
    clear hV hsg hfs hA hD
    go_wp2_with fail
    exact bodyPost_ret (results_tmp rfl _ _ _) rfl ⟨by rw [HV.out]; rfl, HB.out⟩
end Go.Proofs.Ytobgbheodlpclaa
/-
  The reference's which: the block that is copied.
-/
namespace Go.Proofs.Ytobgbheodlpclaa
open Go.RowKit
set_option maxRecDepth 100000

theorem rsg_eql (x y : Sg) (w : World) : (binOp .eql 37 (.agg #[.int .u32 (x.weak : Nat), .int .u64 (x.hi : Nat), .int .u64 (x.lo : Nat)]) (.agg #[.int .u32 (y.weak : Nat), .int .u64 (y.hi : Nat), .int .u64 (y.lo : Nat)])).run Try.prog w = .ok (.bool (sgB x y)) w := by
  obtain ⟨a, b, c⟩ := x
  obtain ⟨a', b', c'⟩ := y
  have u3 := Try.underlying26
  have u2 := Try.underlying25
  have u4 := Try.underlying28
  have a3' := Try.isAgg26
  have z3 := Try.sizeOf26
  have a2' := Try.isAgg25
  have z2 := Try.sizeOf25
  have a4' := Try.isAgg28
  have z4 := Try.sizeOf28
  obtain ⟨q, hq0⟩ : ∃ q, sgB ⟨a, b, c⟩ ⟨a', b', c'⟩ = q := ⟨_, rfl⟩
  have hq := hide hq0
  clear hq0
  have h : (Op.equalIn 10000 37 (.agg #[.int .u32 (a : Nat), .int .u64 (b : Nat), .int .u64 (c : Nat)]) (.agg #[.int .u32 (a' : Nat), .int .u64 (b' : Nat), .int .u64 (c' : Nat)])).run Try.prog w = .ok q w := by
    rw [show (10000 : Nat) = 9998 + 1 + 1 from rfl, Op.equalIn]
    simp only [Sem.run_bind, run_underlying Try.underlying37, Result.andThen_ok]
    cases q
    · have hfirst := sgB_first hq.out
      clear hq
      rcases hfirst with g1 | ⟨g1, g2⟩ | ⟨g1, g2, g3⟩
      · simp only at g1; rw [beq_eq_false_iff_ne] at g1; go_simp
      · simp only at g1 g2; rw [beq_iff_eq] at g1; rw [beq_eq_false_iff_ne] at g2; rw [g1]; go_simp
      · simp only at g1 g2 g3; rw [beq_iff_eq] at g1 g2; rw [beq_eq_false_iff_ne] at g3; rw [g1, g2]; go_simp
    · have := (sgB_iff _ _).1 hq.out
      injection this with e1 e2 e3
      subst e1 e2 e3
      clear hq
      go_simp
  have h9 : ∀ a b : Value, (Op.equalIn Op.maxDepth 37 a b) = Op.equalIn 10000 37 a b := fun a b => rfl
  simp only
  rw [hq.out]
  clear hq
  simp only [binOp, Op.equal, Sem.run_bind, h9, h, Result.andThen_ok]
  rfl
/-- As a number: -1 where there is none. -/
def whichI (bl : List Sg) (g : Sg) (nx : Nat) : Int := match whichL bl g nx with | some k => (k : Int) | none => -1
def idxI (g : Sg) (l : List Sg) (k : Nat) : Int := match idxF g l k with | some j => (j : Int) | none => -1
/-- The next block, as the reference has it: -1 is none. -/
def NextI (v : Int) (nx : Nat) : Prop := v = (nx : Int) ∨ (v = -1 ∧ nx = 0)
theorem idxI_drop (g : Sg) (l : List Sg) (i : Nat) (x : Sg) (h : l[i]? = some x) : idxI g (l.drop i) i = if sgB x g = true then (i : Int) else idxI g (l.drop (i + 1)) (i + 1) := by
  obtain ⟨hlt, e⟩ := List.getElem?_eq_some_iff.1 h
  unfold idxI
  rw [List.drop_eq_getElem_cons hlt, e, idxF]
  by_cases hs : sgB x g = true
  · rw [if_pos hs, if_pos hs]
  · rw [if_neg hs, if_neg hs]

set_option maxHeartbeats 16000000 in
theorem refWhich_any (z : Int) (A : Option Addr) (bl : List Sg) (c : Nat) (tl : Int) (s g : Sg) (v : Int) (nx : Nat) (w : World) (hA : RdSg w w.heap.size A bl) (hl : bl.length ≤ 4096) (hv : NextI v nx) (hnx : nx ≤ 5000) :
    Calls Try.prog 94 #[.agg (sigC z A bl.length c tl s), .agg g.cells, .int .i64 v] w fun e w' => e = .returned (.int .i64 (whichI bl g nx)) ∧ Below w.heap.size w w' := by
  obtain ⟨sw, sh, slo⟩ := s
  obtain ⟨gw, gh, gl⟩ := g
  simp only [sigC, Sg.cells]
  obtain ⟨o0, h0⟩ : ∃ o, o = (Obj.cells #[.int .i64 z, .slice A bl.length c, .int .i64 tl, .int .u32 (sw : Nat), .int .u64 (sh : Nat), .int .u64 (slo : Nat)] 42) := ⟨_, rfl⟩
  obtain ⟨o1, h1⟩ : ∃ o, o = (Obj.cells #[.int .u32 (gw : Nat), .int .u64 (gh : Nat), .int .u64 (gl : Nat)] 37) := ⟨_, rfl⟩
  have B0 := (Below.refl w.heap.size w).alloc (Nat.le_refl _) o0
  have r0 := World.alloc_heap_new w o0
  have B1 := (Below.refl (w.alloc o0).heap.size (w.alloc o0)).alloc (Nat.le_refl _) o1
  have r1 := World.alloc_heap_new (w.alloc o0) o1
  have hsz : (w.alloc o0).heap.size = w.heap.size + 1 := by simp
  have HB := hide (B0.trans (B1.mono B0.size))
  have HR0 := hide ((B1.block w.heap.size (by omega)).trans r0)
  rw [hsz] at r1
  have HR1 := hide r1
  obtain ⟨w2, hw2⟩ : ∃ w2, w2 = (w.alloc o0).alloc o1 := ⟨_, rfl⟩
  rw [← hw2] at HB HR0 HR1
  rw [h0, h1] at hw2
  rw [h0] at HR0
  rw [h1] at HR1
  have HA := hide (hA.step HB.out)
  have e1 : w2.cell? ⟨w.heap.size, 1, none⟩ = some (.slice A bl.length c) := cell_of_row _ _ _ _ _ _ HR0.out
  have e2 : w2.cell? ⟨w.heap.size + 1, 0, none⟩ = some (.int .u32 (gw : Nat)) := cell_of_row _ _ _ _ _ _ HR1.out
  have e3 : w2.cell? ⟨w.heap.size + 1, 1, none⟩ = some (.int .u64 (gh : Nat)) := cell_of_row _ _ _ _ _ _ HR1.out
  have e4 : w2.cell? ⟨w.heap.size + 1, 2, none⟩ = some (.int .u64 (gl : Nat)) := cell_of_row _ _ _ _ _ _ HR1.out
  clear B0 r0 B1 r1 h0 h1 hA hsz
  have HV := hide hv
  clear hv
  obtain ⟨V, hV⟩ : ∃ V, V = whichI bl ⟨gw, gh, gl⟩ nx := ⟨_, rfl⟩
  rw [← hV]
  have HV1 := hide hV
  clear hV
  go_enter Try.func94, Try.ntmps94
  go_wp2_with fail
  rw [← hw2]
  clear hw2
  have hlw0 : w.heap.size < w2.heap.size := (Array.getElem?_eq_some_iff.1 HR0.out).1
  have hlw1 : w.heap.size + 1 < w2.heap.size := (Array.getElem?_eq_some_iff.1 HR1.out).1
  rcases HV.out with hv | ⟨hv, hn⟩
  · subst hv
    clear HV
    have hn0 : (0 : Int) ≤ (nx : Nat) := by omega
    by_cases hnl : nx < bl.length
    · have hn1 : (nx : Int) < bl.length := by omega
      have hnd : decide (nx < bl.length) = true := by simpa using hnl
      obtain ⟨y, hy⟩ : ∃ y, bl[nx]? = some y := ⟨_, List.getElem?_eq_getElem hnl⟩
      have HW9 := hide (show whichL bl ⟨gw, gh, gl⟩ nx = if sgB y ⟨gw, gh, gl⟩ = true then some nx else idxF ⟨gw, gh, gl⟩ bl 0 from by unfold whichL; rw [hy])
      obtain ⟨ad, rfl, hlt, hs⟩ := HA.out nx y hy
      have heq := rsg_eql y ⟨gw, gh, gl⟩
      obtain ⟨s0, s1, s2⟩ := hs
      obtain ⟨yw, yh, yl⟩ := y
      simp only at heq s0 s1 s2
      clear hy hlt
      cases hb : sgB ⟨yw, yh, yl⟩ ⟨gw, gh, gl⟩ with
      | true =>
        rw [hb] at heq
        rw [hb, if_pos rfl] at HW9
        have HE := hide (show V = (nx : Int) from by rw [HV1.out]; unfold whichI; rw [HW9.out])
        clear hb HV1 HW9
        go_quiet (fail)
        rename_i nq
        have HF := hide (below_drewN HB.out nq)
        go_wp2_with fail
        exact bodyPost_ret (results_tmp rfl _ _ _) rfl ⟨by rw [HE.out]; rfl, HF.out⟩
      | false =>
        rw [hb] at heq
        rw [hb, if_neg (by decide)] at HW9
        have HV0 := hide (show idxI ⟨gw, gh, gl⟩ (bl.drop 0) 0 = V from by rw [HV1.out]; unfold whichI; rw [HW9.out]; rfl)
        clear hb HV1 HW9
        go_quiet (fail)
        rename_i nq
        clear s0 s1 s2 heq
        go_wp2_with fail
        go_loopg [7] bl.length (fun gk iv wr => ∃ i : Nat, iv = .int .i64 i ∧ i + gk = bl.length ∧ Hid (idxI ⟨gw, gh, gl⟩ (bl.drop i) i = V) ∧ Hid (Below w2.heap.size w2 wr))
        case atStart => exact ⟨0, rfl, by omega, HV0, hide (below_drewN (Below.refl w2.heap.size w2) nq)⟩
        case round =>
          obtain ⟨i, rfl, hig, HQ, HW⟩ := hrel
          have k1 := (HW.out.cell (p := ⟨w.heap.size, 1, none⟩) hlw0).trans e1
          have k2 := (HW.out.cell (p := ⟨w.heap.size + 1, 0, none⟩) hlw1).trans e2
          have k3 := (HW.out.cell (p := ⟨w.heap.size + 1, 1, none⟩) hlw1).trans e3
          have k4 := (HW.out.cell (p := ⟨w.heap.size + 1, 2, none⟩) hlw1).trans e4
          clear e1 e2 e3 e4
          cases gk with
          | zero =>
            obtain rfl : i = bl.length := by omega
            have HE := hide (show V = -1 from by rw [← HQ.out, List.drop_length]; rfl)
            have HF := hide (HB.out.trans (HW.out.mono HB.out.size))
            clear HQ
            go_wp2_with fail
            exact bodyPost_ret (results_tmp rfl _ _ _) rfl ⟨by rw [HE.out]; rfl, HF.out⟩
          | succ g0 =>
            have hii : (i : Int) < bl.length := by omega
            have hi0 : (0 : Int) ≤ (i : Int) := by omega
            obtain ⟨y, hy⟩ : ∃ y, bl[i]? = some y := ⟨_, List.getElem?_eq_getElem (by omega)⟩
            have hiw : IntKind.i64.wrap ((i : Int) + 1) = ((i + 1 : Nat) : Int) := by rw [IntWalk.i64_in _ (by omega)]; rfl
            have hq := HQ.out
            rw [idxI_drop _ bl i y hy] at hq
            obtain ⟨ad, hA2, hlt, hs⟩ := (HA.out.below HW.out (Nat.le_refl _)) i y hy
            first | subst hA2 | (injection hA2 with hA2; subst hA2)
            have heq := rsg_eql y ⟨gw, gh, gl⟩
            obtain ⟨s0, s1, s2⟩ := hs
            obtain ⟨yw, yh, yl⟩ := y
            simp only at heq s0 s1 s2
            cases hb : sgB ⟨yw, yh, yl⟩ ⟨gw, gh, gl⟩ with
            | true =>
              rw [hb] at heq
              rw [hb, if_pos rfl] at hq
              have HE := hide hq.symm
              clear hb hq hy HQ hlt
              go_wp2_with fail
              go_quiet (fail)
              go_wp2_with fail
              exact bodyPost_ret (results_tmp rfl _ _ _) rfl ⟨by rw [HE.out]; rfl, HB.out.trans ((below_drewN HW.out _).mono HB.out.size)⟩
            | false =>
              rw [hb] at heq
              rw [hb, if_neg (by decide)] at hq
              have HQ2 := hide hq
              clear hb hq hy HQ hlt
              go_wp2_with fail
              go_quiet (fail)
              go_wp2_with fail
              go_roundg g0
              case rel => exact ⟨i + 1, rfl, by omega, HQ2, hide (below_drewN HW.out _)⟩
              case measure => omega
    · have hnd : decide (nx < bl.length) = false := by simpa using hnl
      have HV0 := hide (show idxI ⟨gw, gh, gl⟩ (bl.drop 0) 0 = V from by rw [HV1.out]; unfold whichI whichL; rw [List.getElem?_eq_none (by omega)]; rfl)
      clear HV1
      go_quiet (fail)
      rename_i nq
      go_wp2_with fail
      go_loopg [7] bl.length (fun gk iv wr => ∃ i : Nat, iv = .int .i64 i ∧ i + gk = bl.length ∧ Hid (idxI ⟨gw, gh, gl⟩ (bl.drop i) i = V) ∧ Hid (Below w2.heap.size w2 wr))
      case atStart => exact ⟨0, rfl, by omega, HV0, hide (below_drewN (Below.refl w2.heap.size w2) nq)⟩
      case round =>
        obtain ⟨i, rfl, hig, HQ, HW⟩ := hrel
        have k1 := (HW.out.cell (p := ⟨w.heap.size, 1, none⟩) hlw0).trans e1
        have k2 := (HW.out.cell (p := ⟨w.heap.size + 1, 0, none⟩) hlw1).trans e2
        have k3 := (HW.out.cell (p := ⟨w.heap.size + 1, 1, none⟩) hlw1).trans e3
        have k4 := (HW.out.cell (p := ⟨w.heap.size + 1, 2, none⟩) hlw1).trans e4
        clear e1 e2 e3 e4
        cases gk with
        | zero =>
          obtain rfl : i = bl.length := by omega
          have HE := hide (show V = -1 from by rw [← HQ.out, List.drop_length]; rfl)
          have HF := hide (HB.out.trans (HW.out.mono HB.out.size))
          clear HQ
          go_wp2_with fail
          exact bodyPost_ret (results_tmp rfl _ _ _) rfl ⟨by rw [HE.out]; rfl, HF.out⟩
        | succ g0 =>
          have hii : (i : Int) < bl.length := by omega
          have hi0 : (0 : Int) ≤ (i : Int) := by omega
          obtain ⟨y, hy⟩ : ∃ y, bl[i]? = some y := ⟨_, List.getElem?_eq_getElem (by omega)⟩
          have hiw : IntKind.i64.wrap ((i : Int) + 1) = ((i + 1 : Nat) : Int) := by rw [IntWalk.i64_in _ (by omega)]; rfl
          have hq := HQ.out
          rw [idxI_drop _ bl i y hy] at hq
          obtain ⟨ad, hA2, hlt, hs⟩ := (HA.out.below HW.out (Nat.le_refl _)) i y hy
          first | subst hA2 | (injection hA2 with hA2; subst hA2)
          have heq := rsg_eql y ⟨gw, gh, gl⟩
          obtain ⟨s0, s1, s2⟩ := hs
          obtain ⟨yw, yh, yl⟩ := y
          simp only at heq s0 s1 s2
          cases hb : sgB ⟨yw, yh, yl⟩ ⟨gw, gh, gl⟩ with
          | true =>
            rw [hb] at heq
            rw [hb, if_pos rfl] at hq
            have HE := hide hq.symm
            clear hb hq hy HQ hlt
            go_wp2_with fail
            go_quiet (fail)
            go_wp2_with fail
            exact bodyPost_ret (results_tmp rfl _ _ _) rfl ⟨by rw [HE.out]; rfl, HB.out.trans ((below_drewN HW.out _).mono HB.out.size)⟩
          | false =>
            rw [hb] at heq
            rw [hb, if_neg (by decide)] at hq
            have HQ2 := hide hq
            clear hb hq hy HQ hlt
            go_wp2_with fail
            go_quiet (fail)
            go_wp2_with fail
            go_roundg g0
            case rel => exact ⟨i + 1, rfl, by omega, HQ2, hide (below_drewN HW.out _)⟩
            case measure => omega
  · subst hn
    subst hv
    clear HV
    have HV0 := hide (show idxI ⟨gw, gh, gl⟩ (bl.drop 0) 0 = V from by rw [HV1.out]; unfold whichI; rw [whichL_zero]; rfl)
    clear HV1
    go_quiet (fail)
    rename_i nq
    go_wp2_with fail
    go_loopg [7] bl.length (fun gk iv wr => ∃ i : Nat, iv = .int .i64 i ∧ i + gk = bl.length ∧ Hid (idxI ⟨gw, gh, gl⟩ (bl.drop i) i = V) ∧ Hid (Below w2.heap.size w2 wr))
    case atStart => exact ⟨0, rfl, by omega, HV0, hide (below_drewN (Below.refl w2.heap.size w2) nq)⟩
    case round =>
      obtain ⟨i, rfl, hig, HQ, HW⟩ := hrel
      have k1 := (HW.out.cell (p := ⟨w.heap.size, 1, none⟩) hlw0).trans e1
      have k2 := (HW.out.cell (p := ⟨w.heap.size + 1, 0, none⟩) hlw1).trans e2
      have k3 := (HW.out.cell (p := ⟨w.heap.size + 1, 1, none⟩) hlw1).trans e3
      have k4 := (HW.out.cell (p := ⟨w.heap.size + 1, 2, none⟩) hlw1).trans e4
      clear e1 e2 e3 e4
      cases gk with
      | zero =>
        obtain rfl : i = bl.length := by omega
        have HE := hide (show V = -1 from by rw [← HQ.out, List.drop_length]; rfl)
        have HF := hide (HB.out.trans (HW.out.mono HB.out.size))
        clear HQ
        go_wp2_with fail
        exact bodyPost_ret (results_tmp rfl _ _ _) rfl ⟨by rw [HE.out]; rfl, HF.out⟩
      | succ g0 =>
        have hii : (i : Int) < bl.length := by omega
        have hi0 : (0 : Int) ≤ (i : Int) := by omega
        obtain ⟨y, hy⟩ : ∃ y, bl[i]? = some y := ⟨_, List.getElem?_eq_getElem (by omega)⟩
        have hiw : IntKind.i64.wrap ((i : Int) + 1) = ((i + 1 : Nat) : Int) := by rw [IntWalk.i64_in _ (by omega)]; rfl
        have hq := HQ.out
        rw [idxI_drop _ bl i y hy] at hq
        obtain ⟨ad, hA2, hlt, hs⟩ := (HA.out.below HW.out (Nat.le_refl _)) i y hy
        first | subst hA2 | (injection hA2 with hA2; subst hA2)
        have heq := rsg_eql y ⟨gw, gh, gl⟩
        obtain ⟨s0, s1, s2⟩ := hs
        obtain ⟨yw, yh, yl⟩ := y
        simp only at heq s0 s1 s2
        cases hb : sgB ⟨yw, yh, yl⟩ ⟨gw, gh, gl⟩ with
        | true =>
          rw [hb] at heq
          rw [hb, if_pos rfl] at hq
          have HE := hide hq.symm
          clear hb hq hy HQ hlt
          go_wp2_with fail
          go_quiet (fail)
          go_wp2_with fail
          exact bodyPost_ret (results_tmp rfl _ _ _) rfl ⟨by rw [HE.out]; rfl, HB.out.trans ((below_drewN HW.out _).mono HB.out.size)⟩
        | false =>
          rw [hb] at heq
          rw [hb, if_neg (by decide)] at hq
          have HQ2 := hide hq
          clear hb hq hy HQ hlt
          go_wp2_with fail
          go_quiet (fail)
          go_wp2_with fail
          go_roundg g0
          case rel => exact ⟨i + 1, rfl, by omega, HQ2, hide (below_drewN HW.out _)⟩
          case measure => omega
end Go.Proofs.Ytobgbheodlpclaa
