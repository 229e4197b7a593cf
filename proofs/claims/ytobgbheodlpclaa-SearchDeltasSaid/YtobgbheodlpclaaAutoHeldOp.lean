/-
  Texts that belong together: SrFind, RoundRegion, HeldOp, SrLit.
-/
import Derived.Test.YtobgbheodlpclaaSrFinder
import Derived.Deep.QuietTactic
import Derived.Deep.RegionHeld3
import Derived.Test.YtobgbheodlpclaaAutoBytes
import Derived.OrdersIn
import Derived.OwnWalkIn
import Derived.RangeFuncCalls
import Derived.OrdersHeld
import Derived.Test.YtobgbheodlpclaaSrMath
import Derived.Laws.OwnMore
/-
  search's find: which block a window is.
-/
namespace Go.Proofs.Ytobgbheodlpclaa
open Go.RowKit
set_option maxRecDepth 100000

theorem sg_eql (x y : Sg) (w : World) : (binOp .eql 30 (.agg #[.int .u32 (x.weak : Nat), .int .u64 (x.hi : Nat), .int .u64 (x.lo : Nat)]) (.agg #[.int .u32 (y.weak : Nat), .int .u64 (y.hi : Nat), .int .u64 (y.lo : Nat)])).run Try.prog w = .ok (.bool (sgB x y)) w := by
  obtain ⟨a, b, c⟩ := x
  obtain ⟨a', b', c'⟩ := y
  have u3 := Try.underlying26
  have u2 := Try.underlying25
  have u4 := Try.underlying28
  have a3' := Try.isAgg26
  have z3 := Try.sizeOf26
  have a2' := Try.isAgg25
  have z2 := Try.sizeOf25
  have a4' := Try.isAgg28
  have z4 := Try.sizeOf28
  obtain ⟨q, hq0⟩ : ∃ q, sgB ⟨a, b, c⟩ ⟨a', b', c'⟩ = q := ⟨_, rfl⟩
  have hq := hide hq0
  clear hq0
  have h : (Op.equalIn 10000 30 (.agg #[.int .u32 (a : Nat), .int .u64 (b : Nat), .int .u64 (c : Nat)]) (.agg #[.int .u32 (a' : Nat), .int .u64 (b' : Nat), .int .u64 (c' : Nat)])).run Try.prog w = .ok q w := by
    rw [show (10000 : Nat) = 9998 + 1 + 1 from rfl, Op.equalIn]
    simp only [Sem.run_bind, run_underlying Try.underlying30, Result.andThen_ok]
    cases q
    · have hfirst := sgB_first hq.out
      clear hq
      rcases hfirst with g1 | ⟨g1, g2⟩ | ⟨g1, g2, g3⟩
      · simp only at g1; rw [beq_eq_false_iff_ne] at g1; go_simp
      · simp only at g1 g2; rw [beq_iff_eq] at g1; rw [beq_eq_false_iff_ne] at g2; rw [g1]; go_simp
      · simp only at g1 g2 g3; rw [beq_iff_eq] at g1 g2; rw [beq_eq_false_iff_ne] at g3; rw [g1, g2]; go_simp
    · have := (sgB_iff _ _).1 hq.out
      injection this with e1 e2 e3
      subst e1 e2 e3
      go_simp
  have h9 : ∀ a b : Value, (Op.equalIn Op.maxDepth 30 a b) = Op.equalIn 10000 30 a b := fun a b => rfl
  simp only
  rw [hq.out]
  clear hq
  simp only [binOp, Op.equal, Sem.run_bind, h9, h, Result.andThen_ok]
  rfl
theorem which_none {bl : List Sg} {g : Sg} (h : cntW g.weak bl = 0) (nx : Nat) : whichL bl g nx = none := by
  cases hw : whichL bl g nx with
  | none => rfl
  | some k =>
    have := whichL_get hw
    exact absurd h (cntW_mem (List.mem_of_getElem? this) rfl)
/-- What a finder finds. -/
def FoundR (bl : List Sg) (g : Sg) (nx : Nat) (w0 : World) (e : Ending) (w' : World) : Prop :=
  e = .returned (.tuple #[.int .i64 (((whichL bl g nx).getD 0 : Nat) : Int), .bool (whichL bl g nx).isSome]) ∧ Below w0.heap.size w0 w'

set_option maxHeartbeats 16000000 in
theorem find_any (z : Int) (A : Option Addr) (bl : List Sg) (c : Nat) (tl : Int) (s : Sg) (m1 m2 N : Nat) (C : Option Addr) (x : List UInt8) (k nx : Nat) (w : World) (hA : RdSg w w.heap.size A bl) (hf : (signL x).fits)
    (h1 : MapG weakK w m1 N (weakF bl)) (h2 : MapG signK w m2 N (leastF bl 0)) (hx : RdB w w.heap.size C x) (hk : x.length ≤ k) (hxl : x.length ≤ 1000000) (hnx : nx ≤ 5000) :
    Calls Try.prog 120 #[.agg (finC z A bl.length c tl s m1 m2), .int .u32 (weakN x : Nat), .slice C x.length k, .int .i64 (nx : Nat)] w (FoundR bl (signL x) nx w) := by
  obtain ⟨sw, sh, slo⟩ := s
  have hwk : weakN x = (signL x).weak := rfl
  have hb1 := (Below.refl w.heap.size w).alloc (Nat.le_refl _) (Obj.cells (finC z A bl.length c tl ⟨sw, sh, slo⟩ m1 m2) 144)
  have hr1 := World.alloc_heap_new w (Obj.cells (finC z A bl.length c tl ⟨sw, sh, slo⟩ m1 m2) 144)
  have g1 := h1.below hb1 h1.lt
  have g2 := h2.below hb1 h2.lt
  have hlk := g1.look Try.underlying141 (z := .int .i64 0) (by kernel_rfl) (weakN x) hf.1
  rw [weakF_getD] at hlk
  change (Instr.lookup _ _ (.int .u32 (weakN x : Nat)) false).run _ _ = _ at hlk
  have c6 := cell_of_row _ _ 6 _ _ _ hr1
  by_cases h0 : cntW (weakN x) bl = 0
  · have hw := which_none (g := signL x) (by rw [← hwk]; exact h0) nx
    rw [h0] at hlk
    unfold FoundR
    rw [hw]
    have HB := hide hb1
    simp only [finC] at *
    clear hA h1 h2 hx hr1 g1 g2 hwk hf hw hb1
    generalize weakN x = wk at hlk
    go_enter Try.func120, Try.ntmps120
    go_wp2_with fail
    exact bodyPost_ret (results_tmp2 rfl _ _ _) rfl ⟨rfl, HB.out⟩
  · have hne : ((cntW (weakN x) bl : Nat) : Int) ≠ 0 := by omega
    have hcl := cntW_le (weakN x) bl
    have HSg := hide (fun (W : World) (q : Below w.heap.size w W) => signOf_any C x k W (hx.step q) hk hxl)
    have HF := hide hf
    have HB := hide hb1
    have HR := hide hr1
    have HG := hide g2
    have HA := hide hA
    unfold FoundR
    simp only [finC] at *
    clear hA h1 h2 hx hr1 g1 g2 hwk hf hb1
    generalize weakN x = wk at hlk h0 hne hcl ⊢
    generalize signL x = g at HSg HF ⊢
    obtain ⟨gw, gh, gl⟩ := g
    simp only [Sg.cells] at HSg
    generalize cntW wk bl = q at hlk h0 hne hcl
    go_enter Try.func120, Try.ntmps120
    go_wp2_with fail
    refine (HSg.out _ HB.out).mono ?_
    rintro e w2 ⟨rfl, hb2⟩
    have hB2 := HB.out.trans (hb2.mono HB.out.size)
    have r2 := (hb2.block w.heap.size (Array.getElem?_eq_some_iff.1 HR.out).1).trans HR.out
    have G2 := HG.out.below hb2 HG.out.lt
    have hb3 := (Below.refl w2.heap.size w2).alloc (Nat.le_refl _) (Obj.cells #[.int .u32 (gw : Nat), .int .u64 (gh : Nat), .int .u64 (gl : Nat)] 30)
    have HS3 := hide (World.alloc_heap_new w2 (Obj.cells #[.int .u32 (gw : Nat), .int .u64 (gh : Nat), .int .u64 (gl : Nat)] 30))
    have HB3 := hide (hB2.trans (hb3.mono hB2.size))
    have HR3 := hide ((hb3.block w.heap.size (Array.getElem?_eq_some_iff.1 r2).1).trans r2)
    have HG3 := hide (G2.below hb3 G2.lt)
    clear hb2 hB2 r2 G2 hb3 HSg HB HR HG c6 hlk
    go_wp2_with fail
    generalize w2.alloc (Obj.cells #[.int .u32 (gw : Nat), .int .u64 (gh : Nat), .int .u64 (gl : Nat)] 30) = W3 at HS3 HB3 HR3 HG3 ⊢
    have d1 : W3.cell? ⟨w.heap.size, 1, none⟩ = some (.slice A bl.length c) := cell_of_row _ _ _ _ _ _ HR3.out
    have d7 : W3.cell? ⟨w.heap.size, 7, none⟩ = some (.map (some m2)) := cell_of_row _ _ _ _ _ _ HR3.out
    have e0 : W3.cell? ⟨w2.heap.size, 0, none⟩ = some (.int .u32 (gw : Nat)) := cell_of_row _ _ _ _ _ _ HS3.out
    have e1 : W3.cell? ⟨w2.heap.size, 1, none⟩ = some (.int .u64 (gh : Nat)) := cell_of_row _ _ _ _ _ _ HS3.out
    have e2 : W3.cell? ⟨w2.heap.size, 2, none⟩ = some (.int .u64 (gl : Nat)) := cell_of_row _ _ _ _ _ _ HS3.out
    have hq := HG3.out.look_ok Try.underlying142 (z := .int .i64 0) (by kernel_rfl) ⟨gw, gh, gl⟩ HF.out
    change (Instr.lookup _ _ (.agg #[.int .u32 (gw : Nat), .int .u64 (gh : Nat), .int .u64 (gl : Nat)]) true).run _ _ = _ at hq
    have hq2 : ((leastF bl 0 ⟨gw, gh, gl⟩).getD (.int .i64 0)) = .int .i64 (((idxF ⟨gw, gh, gl⟩ bl 0).getD 0 : Nat) : Int) ∧ (leastF bl 0 ⟨gw, gh, gl⟩).isSome = (idxF ⟨gw, gh, gl⟩ bl 0).isSome := by
      unfold leastF
      cases idxF ⟨gw, gh, gl⟩ bl 0 <;> exact ⟨rfl, rfl⟩
    rw [hq2.1, hq2.2] at hq
    have HQ := hide (fun n => (show (Instr.lookup 142 (.map (some m2)) (.agg #[.int .u32 (gw : Nat), .int .u64 (gh : Nat), .int .u64 (gl : Nat)]) true).run Try.prog (W3.drewN n) = _ from ((HG3.out.stay rfl : MapG signK (W3.drewN n) m2 N (leastF bl 0)).look_ok Try.underlying142 (z := .int .i64 0) (by kernel_rfl) ⟨gw, gh, gl⟩ HF.out)))
    rw [hq2.1, hq2.2] at HQ
    clear hq hq2
    by_cases hn : nx < bl.length
    · have hn0 : decide (nx < bl.length) = true := by simpa using hn
      have hn1 : (nx : Int) < bl.length := by omega
      have hn2 : (0 : Int) ≤ nx := by omega
      obtain ⟨y, hy⟩ : ∃ y, bl[nx]? = some y := ⟨_, List.getElem?_eq_getElem hn⟩
      have HW := hide (show whichL bl ⟨gw, gh, gl⟩ nx = if sgB y ⟨gw, gh, gl⟩ = true then some nx else idxF ⟨gw, gh, gl⟩ bl 0 from by unfold whichL; rw [hy])
      obtain ⟨ad, rfl, hlt, hs⟩ := (HA.out.below HB3.out (Nat.le_refl _)) nx y hy
      have heq := sg_eql y ⟨gw, gh, gl⟩
      obtain ⟨s0, s1, s2⟩ := hs
      obtain ⟨yw, yh, yl⟩ := y
      simp only at heq s0 s1 s2
      clear hy hlt
      cases hb : sgB ⟨yw, yh, yl⟩ ⟨gw, gh, gl⟩ with
      | true =>
        rw [hb] at heq
        rw [hb, if_pos rfl] at HW
        clear hb HQ
        go_quiet (fail)
        rename_i nq
        go_wp2_with fail
        exact bodyPost_ret (results_tmp2 rfl _ _ _) rfl ⟨by rw [HW.out]; rfl, below_drewN HB3.out nq⟩
      | false =>
        rw [hb] at heq
        rw [hb, if_neg (by decide)] at HW
        clear hb
        go_quiet (fail)
        rename_i nq
        have hq := HQ.out nq
        go_wp2_with fail
        exact bodyPost_ret (results_tmp2 rfl _ _ _) rfl ⟨by rw [HW.out]; rfl, below_drewN HB3.out nq⟩
    · have hn0 : decide (nx < bl.length) = false := by simpa using hn
      have HW := hide (show whichL bl ⟨gw, gh, gl⟩ nx = idxF ⟨gw, gh, gl⟩ bl 0 from by unfold whichL; rw [List.getElem?_eq_none (by omega)])
      go_quiet (fail)
      rename_i nq
      have hq := HQ.out nq
      go_wp2_with fail
      exact bodyPost_ret (results_tmp2 rfl _ _ _) rfl ⟨by rw [HW.out]; rfl, below_drewN HB3.out nq⟩
end Go.Proofs.Ytobgbheodlpclaa
/-
  A region that draws its order, in a round of a range over a function, is walked as anywhere.
-/
namespace Go.Proofs.Ytobgbheodlpclaa
open Go.RowKit
set_option maxRecDepth 100000

variable {P : Program} {ops : Array Oper} {Q : Exit → Act → World → Prop}

theorem upon_round (l n : Nat) (o : Oper) (a : Act) (K : Act → World → Prop) (r : Result Next) (h : o.upon P a K Q r) : o.uponIn (Fence.wide.inRound l) n P a K Q r := by
  unfold Oper.upon at h
  unfold Oper.uponIn
  split at h
  · exact h
  · exact h
  · exact h
  · refine ⟨fun q => (by cases q), (CallsIn.inRound l (callsIn_wide.2 h)).mono ?_⟩
    intro e w'' q
    cases e <;> exact q
  · rename_i row args w'
    refine ⟨fun q => (by cases q), fun c cs _ => ?_⟩
    obtain ⟨v, w'', q1, q2⟩ := h c cs
    exact ⟨v, w'', q1, stepsIn_wide.2 q2⟩
  · exact h
  · exact h.elim
theorem wp_round (l n : Nat) (o : Oper) (hd : ∀ c, o.op ≠ .defer c) (a : Act) (w : World) (K : Act → World → Prop) (h : o.wp P a w K Q) : o.wpIn (Fence.wide.inRound l) n P a w K Q := by
  refine ⟨fun _ _ => trivial, ?_⟩
  rw [Oper.semAt_plain _ _ _ hd]
  exact upon_round l n o a K _ h
theorem wpAny_round (l n : Nat) (md : Region.Mode) (hd : ∀ (i : Nat) (o : Oper), ops[i]? = some o → ∀ c, o.op ≠ .defer c) (hQ : ¬ LetsOut Q) : ∀ (fuel : Nat) (listed : Array Bool) (a : Act) (w : World), wpAny P md ops Q fuel listed a w → wpAnyIn (Fence.wide.inRound l) n P md ops Q fuel listed a w
  | 0, _, _, _, h => h
  | fuel + 1, listed, a, w, h => by
    refine ⟨h.1, fun i hi => ?_⟩
    have h2 := h.2 i hi
    unfold wpOp at h2
    unfold wpOpIn
    cases ho : ops[i]? with
    | none =>
      rw [ho] at h2
      exact wpAny_round l n md hd hQ fuel _ a w h2
    | some o =>
      rw [ho] at h2
      simp only at h2 ⊢
      split
      · rename_i hw
        rw [if_pos hw] at h2
        rcases h2 with h2 | h2
        · exact Oper.wpIn_mono (fun a' w' q => wpAny_round l n md hd hQ fuel _ a' w' q) (wp_round l n o (hd i o ho) a w _ h2)
        · exact absurd h2.2 hQ
      · rename_i hw
        rw [if_neg hw] at h2
        exact ⟨fun _ _ => trivial, wpAny_round l n md hd hQ fuel _ _ w h2⟩
/-- No operation defers. -/
def calmOps (ops : Array Oper) : Bool := ops.all fun o => match o.op with | .defer _ => false | _ => true
/-- The region, as anywhere. -/
theorem region_round (l n : Nat) {id : Nat} {a : Act} {w : World} (hm : P.follows .mixedOrders = true) (hd : calmOps ops = true) (hQ : ¬ LetsOut Q)
    (h : wpAny P .any ops Q ops.size (Array.replicate ops.size false) a w.drew) : (Code.region id ops true).wpIn (Fence.wide.inRound l) n P Q a w :=
  wpIn_region_any hm (wpAny_round l n .any (fun i o ho c e => by
    unfold calmOps at hd
    rw [Array.all_eq_true] at hd
    obtain ⟨hlt, rfl⟩ := Array.getElem?_eq_some_iff.1 ho
    have := hd i hlt
    rw [e] at this
    cases this) hQ _ _ _ _ h)
/-- append, at a step: by its run. -/
theorem step_append_run {o : Oper} {a : Act} {w : World} {K : Act → World → Prop} {E : Prop} (hgd : o.guard = none) (s x : Operand) (t : TypeId)
    (ho : o.op = .call { callee := .builtin .append, args := #[s, x], argTypes := #[t, t] }) (v y : Value) (hs : a.eval s = v) (hx : a.eval x = y) (r : Value) (w' : World)
    (hrun : (Builtin.append_ #[t, t] o.type #[v, y]).run P w = .ok r w') (h : K (a.put o.dst r) w') : if Region.wanted o (yielded ops a.tmps) = true then Oper.wp P o a w K Q else E := by
  have hw : Region.wanted o (yielded ops a.tmps) = true := by simp [Region.wanted, hgd]
  rw [if_pos hw]
  unfold Oper.wp execOp
  simp only [ho, resolve, invoke, builtin, Sem.run_bind, Sem.run_pure, Result.andThen_ok, List.map_toArray, List.map_cons, List.map_nil, hs, hx, hrun]
  exact h
end Go.Proofs.Ytobgbheodlpclaa
/-
  A step of a region that draws its order, where a condition on the world is carried along.
-/
namespace Go.Proofs.Ytobgbheodlpclaa
open Go.RowKit
set_option maxRecDepth 100000

variable {P : Program} {ops : Array Oper} {Q : Exit → Act → World → Prop} {md : Region.Mode} {S : World → Prop}

theorem held_op {i : Nat} {o : Oper} {fuel : Nat} {listed : Array Bool} {a : Act} {w : World} (ho : ops[i]? = some o)
    (h : ∀ K : Act → World → Prop, (∀ a' w', S w' → wpAnyH P md ops Q S fuel (listed.setIfInBounds i true) a' w' → K a' w') → if Region.wanted o (yielded ops a.tmps) = true then Oper.wp P o a w K Q else K (a.put o.dst undef) w) :
    wpOp P ops Q i (fun a' w' => S w' ∧ wpAnyH P md ops Q S fuel (listed.setIfInBounds i true) a' w') a w := by
  have h1 := h (fun a' w' => S w' ∧ wpAnyH P md ops Q S fuel (listed.setIfInBounds i true) a' w') (fun _ _ q1 q2 => ⟨q1, q2⟩)
  unfold wpOp
  simp only [ho]
  split
  · rename_i hw
    rw [if_pos hw] at h1
    exact .inl h1
  · rename_i hw
    rw [if_neg hw] at h1
    exact h1
/-- One of them may come up. -/
theorem held_one {i : Nat} {o : Oper} {fuel : Nat} {listed : Array Bool} {a : Act} {w : World} (hr : Region.ready md ops listed = [i]) (ho : ops[i]? = some o)
    (h : ∀ K : Act → World → Prop, (∀ a' w', S w' → wpAnyH P md ops Q S fuel (listed.setIfInBounds i true) a' w' → K a' w') → if Region.wanted o (yielded ops a.tmps) = true then Oper.wp P o a w K Q else K (a.put o.dst undef) w) :
    wpAnyH P md ops Q S (fuel + 1) listed a w :=
  wpAnyH_all hr (by simp) (fun j hj => by
    obtain rfl : j = i := by simpa using hj
    exact held_op ho h)
/-- One of two may come up. -/
theorem held_two {i k : Nat} {o u : Oper} {fuel : Nat} {listed : Array Bool} {a : Act} {w : World} (hr : Region.ready md ops listed = [i, k]) (ho : ops[i]? = some o) (hu : ops[k]? = some u)
    (h1 : ∀ K : Act → World → Prop, (∀ a' w', S w' → wpAnyH P md ops Q S fuel (listed.setIfInBounds i true) a' w' → K a' w') → if Region.wanted o (yielded ops a.tmps) = true then Oper.wp P o a w K Q else K (a.put o.dst undef) w)
    (h2 : ∀ K : Act → World → Prop, (∀ a' w', S w' → wpAnyH P md ops Q S fuel (listed.setIfInBounds k true) a' w' → K a' w') → if Region.wanted u (yielded ops a.tmps) = true then Oper.wp P u a w K Q else K (a.put u.dst undef) w) :
    wpAnyH P md ops Q S (fuel + 1) listed a w :=
  wpAnyH_all hr (by simp) (fun j hj => by
    rcases List.mem_cons.1 hj with rfl | hj
    · exact held_op ho h1
    · obtain rfl : j = k := by simpa using hj
      exact held_op hu h2)
end Go.Proofs.Ytobgbheodlpclaa
/-
  search.literal.
-/
namespace Go.Proofs.Ytobgbheodlpclaa
open Go.RowKit
set_option maxRecDepth 100000

theorem litL_app (o : List Tk) (r : List UInt8) (h : r.length ≠ 0) : o ++ litL r = o ++ [⟨0, 0, ofL r⟩] := by unfold litL; rw [if_neg h]
theorem caps_drop {A : Option Addr} {n c k : Nat} (h : Caps A n c) (hk : k ≤ n) : Caps (if c = k then A else A.map (·.add k)) (n - k) (c - k) := by
  refine ⟨by have := h.1; omega, fun e => ?_⟩
  split at e
  · rename_i hc; omega
  · cases A with
    | none => have := h.2 rfl; omega
    | some a => cases e
set_option maxHeartbeats 16000000 in
theorem literal_all (A : Option Addr) (l : List UInt8) (c : Nat) (w : World) (hA : RdB w w.heap.size A l) (hc : Caps A l.length c) (hl : l.length ≤ 16384) :
    Calls Try.prog 95 #[.slice A l.length c] w fun e w' => ∃ v, e = .returned v ∧ TI w 71 v (litL l) w' := by
  obtain ⟨i0, hi, hz0, hz1, hz2⟩ := info_parts info_tk
  obtain ⟨V, hV⟩ : ∃ V, V = litL l := ⟨_, rfl⟩
  have HV := hide (show ([] : List Tk) ++ litL l = V by rw [hV]; rfl)
  rw [← hV]
  have HO := hide (World.ownsRow_nil w w.heap.size 71 3)
  have HA := hide (And.intro hA hc)
  clear hA hc hV
  go_enter Try.func95, Try.ntmps95
  go_wp2_with fail
  go_loopg [0, 3] 1 (fun gk bv ov wr => ∃ (C B : Option Addr) (k d : Nat) (r : List UInt8) (o : List Tk), bv = .slice C r.length k ∧ ov = .slice B o.length d ∧ (r.length = 0 ∨ gk = 1) ∧ r.length ≤ 16384 ∧ o.length ≤ 1 - gk ∧ Hid (RdB w w.heap.size C r ∧ Caps C r.length k) ∧ Hid (TI w 71 (.slice B o.length d) o wr) ∧ Hid (o ++ litL r = V))
  case atStart => exact ⟨A, none, c, 0, l, [], rfl, rfl, .inr rfl, hl, by simp, HA, hide ⟨Below.refl _ _, HO.out⟩, HV⟩
  case round =>
    obtain ⟨C, B, k, d, r, o, rfl, rfl, hg, hr, ho, HR, HI, HQ⟩ := hrel
    clear HV HO HA
    by_cases h0 : r.length = 0
    · have HE := hide (show V = o by rw [← HQ.out]; unfold litL; rw [if_pos h0, List.append_nil])
      have hr0 : ¬ (0 : Int) < r.length := by omega
      clear HQ
      go_wp2_with fail
      exact bodyPost_ret (results_tmp rfl _ _ _) rfl ⟨.slice B o.length d, rfl, by rw [HE.out]; exact HI.out⟩
    · obtain rfl : gk = 1 := hg.resolve_left h0
      have hr1 : (0 : Int) < r.length := by omega
      have hmin : min (r.length : Int) 16384 = r.length := by omega
      have hk1 := HR.out.2.1
      have hk2 : (r.length : Int) ≤ k := by omega
      have hcv := conv_any (HR.out.1.below HI.out.below (Nat.le_refl _)) k
      have hd := HQ.out
      rw [litL_app o r h0] at hd
      obtain ⟨s, hs⟩ : ∃ s, s = ofL r := ⟨_, rfl⟩
      rw [← hs] at hd hcv
      have HD := hide hd
      have HC2 := hide (caps_drop HR.out.2 (Nat.le_refl r.length))
      have hz : r.length - r.length = 0 := by omega
      clear hd hs HQ HR hg
      have HLt := hide (fun W => literal_any s W)
      simp only [Tk.cells] at HLt
      go_wp2_with fail
      refine (HLt.out wr).mono ?_
      rintro e w3 ⟨rfl, hb3⟩
      have hI3 := HI.out.step hb3
      have hO4 := hI3.own.alloc (.cells (Tk.cells ⟨0, 0, s⟩) 71)
      have hRn := RdT.one w3 ⟨0, 0, s⟩ 71
      have hB4 := hI3.below.alloc hI3.below.size (.cells (Tk.cells ⟨0, 0, s⟩) 71)
      have hsz := hB4.size
      clear hb3 hI3 HLt HI hcv
      simp only [Tk.cells] at *
      go_wp2_with (at_builtin; go_loud (refine wpList_append_toks rfl _ _ 65 rfl w.heap.size 71 i0 Try.underlying65 hi hz0 hz1 hz2 _ _ _ rfl hO4 (some ⟨w3.heap.size, 0, none⟩) _ 1 _ [⟨0, 0, s⟩] rfl rfl hRn (by unfold maxLen; omega) (by omega) hsz ?_))
      intro v5 w5 hO5 hg5
      have hB5 := hB4.grown hg5 hB4.size (fun r e => (hO4.lt r e).1)
      obtain ⟨E, g, rfl⟩ := ownsRow_slice hO5
      have hlen9 : (o ++ [(⟨0, 0, s⟩ : Tk)]).length = o.length + 1 := by simp
      have HO9 := hide (show TI w 71 (.slice E (o ++ [(⟨0, 0, s⟩ : Tk)]).length g) (o ++ [⟨0, 0, s⟩]) w5 from ⟨hB5, by rw [cellsT_app, hlen9]; exact hO5⟩)
      rw [hlen9] at HO9
      have HE9 := hide (show o ++ [(⟨0, 0, s⟩ : Tk)] ++ litL [] = V from by rw [HD.out.symm]; simp [litL])
      clear hO4 hRn hB4 hO5 hg5 hB5 hsz HD
      by_cases hkn : k = r.length
      · rw [if_pos hkn] at HC2
        go_wp2_with fail
        go_roundg 0
        case rel => exact ⟨C, E, k - r.length, g, [], o ++ [⟨0, 0, s⟩], by simp [hkn], by rw [hlen9], .inl rfl, by simp, by rw [hlen9]; omega, hide ⟨RdB.nil _ _ _, by have := HC2.out; rw [Nat.sub_self] at this; exact this⟩, by rw [hlen9]; exact HO9, HE9⟩
        case measure => omega
      · rw [if_neg hkn] at HC2
        go_wp2_with fail
        go_roundg 0
        case rel => exact ⟨C.map (·.add r.length), E, k - r.length, g, [], o ++ [⟨0, 0, s⟩], by simp, by rw [hlen9], .inl rfl, by simp, by rw [hlen9]; omega, hide ⟨RdB.nil _ _ _, by have := HC2.out; rw [Nat.sub_self] at this; exact this⟩, by rw [hlen9]; exact HO9, HE9⟩
        case measure => omega
end Go.Proofs.Ytobgbheodlpclaa
