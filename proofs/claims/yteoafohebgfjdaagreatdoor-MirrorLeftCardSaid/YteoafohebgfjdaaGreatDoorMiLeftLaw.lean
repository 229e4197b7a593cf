/-
  MirrorLeft, walked.
-/
import Derived.Test.YteoafohebgfjdaaGreatDoorMiLawMore
import Derived.Test.YteoafohebgfjdaaGreatDoorMiOpts
import Derived.Test.YteoafohebgfjdaaGreatDoorMiAwake
import Derived.Test.YteoafohebgfjdaaGreatDoorAutoRoundRegion
namespace Go.Proofs.YteoafohebgfjdaaGreatDoor
open Go.RowKit Go.Maps
set_option maxRecDepth 100000

set_option maxHeartbeats 64000000 in
theorem left_law (B : Option Addr) (b : List Nd) (d : Nat) (del dry trust : Bool) (C : Option Addr) (R : List (Bool × ByteArray)) (f : Nat) (x y : Int) (p : ByteArray) (w : World) (hB : RdN w w.heap.size B b) (hR : RdR w w.heap.size C R) :
    Calls Tryz.prog 3 #[.slice B b.length d, .agg (optC del dry trust C R.length f x y), .string p] w fun e w' => e = .returned (.bool true) ∧ Below w.heap.size w w' := by
  obtain ⟨W0, hW0⟩ : ∃ W0, W0 = w.alloc (.cells #[.bool del, .bool dry, .bool trust, .slice C R.length f, .int .i64 x, .int .i64 y] 25) := ⟨_, rfl⟩
  have hb0 : Below w.heap.size w W0 := by rw [hW0]; exact (Below.refl _ w).alloc (Nat.le_refl _) _
  have hO0 : OB w.heap.size del dry trust C R.length f x y W0 := ⟨by rw [hW0]; exact World.alloc_heap_new w _⟩
  unfold optC
  have hB0 := hB.step hb0
  have hR0 := hR.step hb0
  have HB0 := hide hb0
  have HFw := hide (show Calls Tryz.prog 6 #[.slice none 0 0, .slice B b.length d, .slice C R.length f] W0 fun e w' => e = .returned (.bool (smallL b && smallR R)) ∧ w' = W0 from few_any none [] 0 B b d C R f W0 (RdN.nil _ _ _) hB0 hR0)
  have HW0 := hide hW0
  clear hW0
  cases hs : (smallL b && smallR R) with
  | false =>
    rw [hs] at HFw
    have HAw := hide (awake_any W0)
    clear hB hR hB0 hR0 hO0 hb0
    go_enter Tryz.func3, Tryz.ntmps3
    go_wp2_with fail
    rw [← HW0.out]
    clear HW0
    refine HFw.out.mono ?_
    rintro e _ ⟨rfl, rfl⟩
    go_wp2_with fail
    refine HAw.out.mono ?_
    rintro e w9 ⟨rfl, hb9⟩
    go_wp2_with fail
    exact bodyPost_ret (results_tmp rfl _ _ _) rfl ⟨rfl, HB0.out.trans (hb9.mono HB0.out.size)⟩
  | true =>
  rw [hs] at HFw
  by_cases hp2 : (200 : Int) < p.size
  · have HAw := hide (awake_any W0)
    clear hB hR hB0 hR0 hO0 hb0
    go_enter Tryz.func3, Tryz.ntmps3
    go_wp2_with fail
    rw [← HW0.out]
    clear HW0
    refine HFw.out.mono ?_
    rintro e _ ⟨rfl, rfl⟩
    go_wp2_with fail
    refine HAw.out.mono ?_
    rintro e w9 ⟨rfl, hb9⟩
    go_wp2_with fail
    exact bodyPost_ret (results_tmp rfl _ _ _) rfl ⟨rfl, HB0.out.trans (hb9.mono HB0.out.size)⟩
  obtain ⟨hsb, hsr⟩ : smallL b = true ∧ smallR R = true := by simpa using hs
  obtain ⟨lb, ltb, fb⟩ := small_len hsb
  obtain ⟨fR, lR⟩ := smallR_few hsr
  have hb := TW.tree hsb
  have HTb := hide (refOfTree_any B b d W0 hB0 fb (by omega))
  generalize treeL b = t at hb HTb ltb
  have hLr : ∀ n ∈ t, rightB n.path ∧ n.path.size ≤ 200 := fun n hn => ⟨hb.rights n hn, (hb.few n hn).1⟩
  have hLl : t.length ≤ 48 := by omega
  have HRs := hide (fun (W : World) (h : Below W0.heap.size W0 W) => hR0.step h)
  have hrt := rest_tw (rulesL R) del hb
  have hrl : (restP2 (rulesL R) del t).length ≤ 24 := Nat.le_trans (List.length_filter_le _ _) (Nat.le_trans (List.length_filter_le _ _) ltb)
  have hrr := rest_rest (rulesL R) del t
  have hri : ∀ n ∈ restP2 (rulesL R) del t, n ∈ t := fun n hn => (List.mem_filter.1 (List.mem_filter.1 hn).1).1
  have hLe := fun (h : toL p ≠ []) => left_rest (rulesL R) del t h
  have hsd := fun (h : toL p = []) => side_root hrt.rights h
  have HSh := hide (fun (E1 : Option Addr) (c1 : Nat) (W : World) (h1 : RdN W W.heap.size E1 t) => (show Calls Tryz.prog 12 #[.slice E1 t.length c1] W fun e w' => ∃ v, e = .returned v ∧ NI W v (shownL t) w' from by
    rw [← side_shown]
    exact refShown_any E1 t c1 W h1 hb.fewN (by omega)))
  have hsl : (shownL t).length ≤ 24 := Nat.le_trans (List.length_filter_le _ _) ltb
  have H1 := hide (fun (E2 : Option Addr) (c2 : Nat) (W : World) (h2 : RdN W W.heap.size E2 t) (h3 : RdR W W.heap.size C R) => (show Calls Tryz.prog 9 #[.slice E2 t.length c2, .slice C R.length f, .bool del, .string p] W fun e w' => ∃ v, e = .returned v ∧ NI W v (leftP (guardL (rulesL R) t) del p (shownL t)) w' from
    mirLeftT_any hLr hLl E2 t c2 C R f del p W h2 hb (by omega) h3 fR (by omega) (fun n hn => hn) (by omega)))
  have H2 := hide (fun (E2 : Option Addr) (c2 : Nat) (W : World) (h2 : RdN W W.heap.size E2 (shownL t)) (h3 : RdR W W.heap.size C R) => (show Calls Tryz.prog 11 #[.slice E2 (shownL t).length c2, .slice C R.length f, .bool del, .string p] W fun e w' => ∃ v, e = .returned v ∧ NI W v (leftP (guardL (rulesL R) t) del p (shownL t)) w' from by
    have h9 := refLeft_any E2 (shownL t) c2 C R f del p W h2 hb.shown.fewN (by omega) h3 fR (by omega) (by omega)
    rw [left_eq hb.shown] at h9
    exact h9))
  have H3 := hide (fun (E2 : Option Addr) (c2 : Nat) (W : World) (h2 : RdN W W.heap.size E2 t) (h3 : RdR W W.heap.size C R) => (show Calls Tryz.prog 13 #[.slice none 0 0, .slice E2 t.length c2, .slice C R.length f, .bool del] W fun e w' => ∃ v, e = .returned v ∧ NI W v (restP2 (rulesL R) del t) w' from by
    refine (mirOfT_any hLr hLl none [] 0 E2 t c2 C R f del W (RdN.nil _ _ _) TW.nil (by simp) h2 hb (by omega) h3 fR (by omega) (fun n hn => hn.elim (fun h => (List.not_mem_nil h).elim) id)).mono ?_
    rintro e w' ⟨v, l, rfl, ht, -, hN⟩
    exact ⟨v, rfl, by rw [left_of hb ht] at hN; exact hN⟩))
  have H4 := hide (fun (E2 : Option Addr) (c2 : Nat) (W : World) (h2 : RdN W W.heap.size E2 (restP2 (rulesL R) del t)) (h3 : RdR W W.heap.size C R) => (show Calls Tryz.prog 13 #[.slice none 0 0, .slice E2 (restP2 (rulesL R) del t).length c2, .slice C R.length f, .bool del] W fun e w' => ∃ v, e = .returned v ∧ NI W v (restP2 (rulesL R) del t) w' from by
    refine (mirOfT_any hLr hLl none [] 0 E2 (restP2 (rulesL R) del t) c2 C R f del W (RdN.nil _ _ _) TW.nil (by simp) h2 hrt (by omega) h3 fR (by omega) (fun n hn => hn.elim (fun h => (List.not_mem_nil h).elim) (hri n))).mono ?_
    rintro e w' ⟨v, l, rfl, ht, -, hN⟩
    have e9 : l.map (·.node) = restP2 (rulesL R) del t := (left_of hrt ht).trans hrr
    exact ⟨v, rfl, by rw [← e9]; exact hN⟩))
  have H5 := hide (fun (E2 : Option Addr) (c2 : Nat) (W : World) (h2 : RdN W W.heap.size E2 (restP2 (rulesL R) del t)) (h3 : RdR W W.heap.size C R) => (show Calls Tryz.prog 9 #[.slice E2 (restP2 (rulesL R) del t).length c2, .slice C R.length f, .bool del, .string p] W fun e w' => ∃ v, e = .returned v ∧ NI W v (if toL p = [] then [] else sideL p true (restP2 (rulesL R) del t)) w' from by
    have h9 := mirLeftT_any hLr hLl E2 (restP2 (rulesL R) del t) c2 C R f del p W h2 hrt (by omega) h3 fR (by omega) hri (by omega)
    have e9 : leftP (guardL (rulesL R) (restP2 (rulesL R) del t)) del p (shownL (restP2 (rulesL R) del t)) = if toL p = [] then [] else sideL p true (restP2 (rulesL R) del t) := by
      by_cases h : toL p = []
      · rw [if_pos h, left_none _ _ _ h]
      · rw [if_neg h, hLe h]
    rw [← e9]
    exact h9))
  have H6 := hide (fun (E2 : Option Addr) (c2 : Nat) (W : World) (h2 : RdN W W.heap.size E2 (restP2 (rulesL R) del t)) => (show Calls Tryz.prog 14 #[.slice E2 (restP2 (rulesL R) del t).length c2, .string p, .bool true] W fun e w' => ∃ v, e = .returned v ∧ NI W v (sideL p true (restP2 (rulesL R) del t)) w' from
    refSide_any E2 (restP2 (rulesL R) del t) c2 p true W h2 hrt.fewN (by omega) (by omega)))
  have HSm := hide (fun (l : List Nd) (E1 : Option Addr) (c1 : Nat) (E2 : Option Addr) (c2 : Nat) (W : World) (h1 : RdN W W.heap.size E1 l) (h2 : RdN W W.heap.size E2 l) (h3 : (l.length : Int) ≤ 1000000) => (show Calls Tryz.prog 10 #[.slice E1 l.length c1, .slice E2 l.length c2] W fun e w' => e = .returned (.bool true) ∧ Below W.heap.size W w' from by
    have := refSame_any E1 E2 l l c1 c2 W h1 h2 h3
    rwa [(listB_iff _ _).2 rfl] at this))
  have HSn := hide (fun (l : List Nd) (E1 : Option Addr) (c1 : Nat) (E2 : Option Addr) (c2 : Nat) (W : World) (h1 : RdN W W.heap.size E1 []) (h2 : RdN W W.heap.size E2 l) => (show Calls Tryz.prog 10 #[.slice E1 0 c1, .slice E2 l.length c2] W fun e w' => e = .returned (.bool (listB [] l)) ∧ Below W.heap.size W w' from
    refSame_any E1 E2 [] l c1 c2 W h1 h2 (by simp)))
  have hkl : (leftP (guardL (rulesL R) t) del p (shownL t)).length ≤ 24 := by
    unfold leftP
    split
    · simp
    · exact Nat.le_trans (List.length_filter_le _ _) (Nat.le_trans (List.length_filter_le _ _) hsl)
  have hvl : (sideL p true (restP2 (rulesL R) del t)).length ≤ 24 := Nat.le_trans (List.length_filter_le _ _) hrl
  generalize leftP (guardL (rulesL R) t) del p (shownL t) = K at H1 H2 hkl
  generalize sideL p true (restP2 (rulesL R) del t) = V at H5 H6 hsd hvl
  generalize restP2 (rulesL R) del t = M at H3 H4 H5 H6 hsd hrl
  generalize shownL t = D at HSh H2 hsl
  have HAw := hide awake_any
  have HO0 := hide hO0
  have hpc : (toL p = [] ∧ V = M) ∨ toL p ≠ [] := by
    by_cases h : toL p = []
    · exact .inl ⟨h, hsd h⟩
    · exact .inr h
  have HPC := hide hpc
  clear hB hR hb fb fR hs hsb hsr hLr hLl hB0 hR0 hb0 hO0 hrt hrr hri hLe hsd hpc
  go_enter Tryz.func3, Tryz.ntmps3
  go_wp2_with fail
  rw [← HW0.out]
  clear HW0
  refine HFw.out.mono ?_
  rintro e _ ⟨rfl, rfl⟩
  clear HFw
  rename World => W0
  go_wp2_with fail
  refine HTb.out.mono ?_
  rintro e w2 ⟨v, rfl, hN2⟩
  obtain ⟨E2, c2, rfl⟩ := ownsRow_slice hN2.own
  have HB2 := hide hN2.below
  have HY := hide (fun (W : World) (h : Below w2.heap.size w2 W) => (RdN.own hN2.own).step h)
  have HZ := hide (fun (W : World) (h : Below w2.heap.size w2 W) => HRs.out W (HB2.out.trans (h.mono HB2.out.size)))
  have HO2 := hide (fun (W : World) (h : Below w2.heap.size w2 W) => HO0.out.step (HB2.out.trans (h.mono HB2.out.size)))
  clear hN2 HTb HRs HO0
  have HL3 := hide (H1.out E2 c2 w2 (HY.out _ (Below.refl _ _)) (HZ.out _ (Below.refl _ _)))
  have p3 := (HO2.out _ (Below.refl _ _)).rules
  have p0 := (HO2.out _ (Below.refl _ _)).del
  clear H1
  go_wp2_with fail
  refine HL3.out.mono ?_
  rintro e w3 ⟨v, rfl, hN3⟩
  clear HL3 p3 p0
  obtain ⟨E3, c3, rfl⟩ := ownsRow_slice hN3.own
  have HB3 := hide hN3.below
  have HM := hide (fun (W : World) (h : Below w3.heap.size w3 W) => (RdN.own hN3.own).step h)
  have HBW := hide (fun (W : World) (h : Below w3.heap.size w3 W) => (HB3.out.trans (h.mono HB3.out.size) : Below w2.heap.size w2 W))
  clear hN3
  go_upto_region 5 with fail
  have HSB := hide (fun (W : World) (q : Below w3.heap.size w3 W) => (⟨q, (HO2.out W (HBW.out W q)).rules, (HO2.out W (HBW.out W q)).del⟩ : Below w3.heap.size w3 W ∧ W.cell? ⟨w.heap.size, 3, none⟩ = some (.slice C R.length f) ∧ W.cell? ⟨w.heap.size, 0, none⟩ = some (.bool del)))
  have hS := HSB.out _ (Below.refl w3.heap.size w3).drew
  have hU0 := (Below.refl w3.heap.size w3).drew
  refine wp_region_held (by kernel_rfl) (S := fun W => Below w3.heap.size w3 W ∧ W.cell? ⟨w.heap.size, 3, none⟩ = some (.slice C R.length f) ∧ W.cell? ⟨w.heap.size, 0, none⟩ = some (.bool del)) ?_
  change wpAnyH _ _ _ _ _ _ _ _ (World.drew _)
  refine wpAnyH_take (i := 0) (v := .slice E3 K.length c3) rfl (by kernel_rfl) (by kernel_rfl) (by kernel_rfl) (fun _ _ _ h => h) (Or.inl ⟨by kernel_rfl, ?y0⟩) hS ?r0
  case y0 => intro W hS; obtain ⟨_, s3, s0⟩ := hS; go_simp; try with_reducible rfl
  try simp only [Act.put, List.getElem_toArray, List.getElem_cons_zero, List.setIfInBounds_toArray, List.set_cons_zero, List.set_cons_succ]
  refine wpAnyH_take (i := 1) (v := .slice E2 t.length c2) rfl (by kernel_rfl) (by kernel_rfl) (by kernel_rfl) (fun _ _ _ h => h) (Or.inl ⟨by kernel_rfl, ?y1⟩) hS ?r1
  case y1 => intro W hS; obtain ⟨_, s3, s0⟩ := hS; go_simp; try with_reducible rfl
  try simp only [Act.put, List.getElem_toArray, List.getElem_cons_succ, List.getElem_cons_zero, List.setIfInBounds_toArray, List.set_cons_zero, List.set_cons_succ]
  refine wpAnyH_take (i := 3) (v := ?v3) rfl (by kernel_rfl) (by kernel_rfl) (by kernel_rfl) (fun _ _ _ h => h) (Or.inl ⟨by kernel_rfl, ?y3⟩) hS ?r3
  case y3 => intro W hS; obtain ⟨_, s3, s0⟩ := hS; go_simp; try with_reducible rfl
  try simp only [Act.put, List.getElem_toArray, List.getElem_cons_succ, List.getElem_cons_zero, List.setIfInBounds_toArray, List.set_cons_zero, List.set_cons_succ]
  refine wpAnyH_take (i := 4) (v := .slice C R.length f) rfl (by kernel_rfl) (by kernel_rfl) (by kernel_rfl) (fun _ _ _ h => h) (Or.inl ⟨by kernel_rfl, ?y4⟩) hS ?r4
  case y4 => intro W hS; obtain ⟨_, s3, s0⟩ := hS; go_simp; try with_reducible rfl
  try simp only [Act.put, List.getElem_toArray, List.getElem_cons_succ, List.getElem_cons_zero, List.setIfInBounds_toArray, List.set_cons_zero, List.set_cons_succ]
  refine wpAnyH_take (i := 5) (v := ?v5) rfl (by kernel_rfl) (by kernel_rfl) (by kernel_rfl) (fun _ _ _ h => h) (Or.inl ⟨by kernel_rfl, ?y5⟩) hS ?r5
  case y5 => intro W hS; obtain ⟨_, s3, s0⟩ := hS; go_simp; try with_reducible rfl
  try simp only [Act.put, List.getElem_toArray, List.getElem_cons_succ, List.getElem_cons_zero, List.setIfInBounds_toArray, List.set_cons_zero, List.set_cons_succ]
  refine wpAnyH_take (i := 6) (v := .bool del) rfl (by kernel_rfl) (by kernel_rfl) (by kernel_rfl) (fun _ _ _ h => h) (Or.inl ⟨by kernel_rfl, ?y6⟩) hS ?r6
  case y6 => intro W hS; obtain ⟨_, s3, s0⟩ := hS; go_simp; try with_reducible rfl
  try simp only [Act.put, List.getElem_toArray, List.getElem_cons_succ, List.getElem_cons_zero, List.setIfInBounds_toArray, List.set_cons_zero, List.set_cons_succ]
  refine wpAnyH_take (i := 7) (v := .string p) rfl (by kernel_rfl) (by kernel_rfl) (by kernel_rfl) (fun _ _ _ h => h) (Or.inl ⟨by kernel_rfl, ?y7⟩) hS ?r7
  case y7 => intro W hS; obtain ⟨_, s3, s0⟩ := hS; go_simp; try with_reducible rfl
  try simp only [Act.put, List.getElem_toArray, List.getElem_cons_succ, List.getElem_cons_zero, List.setIfInBounds_toArray, List.set_cons_zero, List.set_cons_succ]
  generalize w3.drew = U0 at hU0 hS ⊢
  refine heldS_one (i := 2) (by kernel_rfl) rfl (fun K9 hK => ?_)
  go_simp
  refine (HSh.out E2 c2 _ (HY.out _ (HBW.out _ hU0))).mono ?_
  rintro en U1 ⟨v, rfl, hN⟩
  obtain ⟨E4, c4, rfl⟩ := ownsRow_slice hN.own
  have hU1 := hU0.trans (hN.below.mono hU0.size)
  have hS := HSB.out _ hU1
  have HX4 := hide (RdN.own hN.own)
  clear hN
  refine hK _ _ hS ?_
  clear hK K9
  try simp only [Act.put, List.getElem_toArray, List.getElem_cons_succ, List.getElem_cons_zero, List.setIfInBounds_toArray, List.set_cons_zero, List.set_cons_succ]
  refine heldS_one (i := 8) (by kernel_rfl) rfl (fun K9 hK => ?_)
  go_simp
  refine (H2.out E4 c4 _ HX4.out (HZ.out _ (HBW.out _ hU1))).mono ?_
  rintro en U2 ⟨v, rfl, hN⟩
  obtain ⟨E5, c5, rfl⟩ := ownsRow_slice hN.own
  have hU2 := hU1.trans (hN.below.mono hU1.size)
  have hS := HSB.out _ hU2
  have HX5 := hide (RdN.own hN.own)
  clear hN
  refine hK _ _ hS ?_
  clear hK K9
  try simp only [Act.put, List.getElem_toArray, List.getElem_cons_succ, List.getElem_cons_zero, List.setIfInBounds_toArray, List.set_cons_zero, List.set_cons_succ]
  refine heldS_one (i := 9) (by kernel_rfl) rfl (fun K9 hK => ?_)
  go_simp
  refine (HSm.out K E3 c3 E5 c5 _ (HM.out _ hU2) HX5.out (by omega)).mono ?_
  rintro en U3 ⟨rfl, hb⟩
  have hU3 := hU2.trans (hb.mono hU2.size)
  have hS := HSB.out _ hU3
  clear hb
  refine hK _ _ hS ?_
  clear hK K9
  try simp only [Act.put, List.getElem_toArray, List.getElem_cons_succ, List.getElem_cons_zero, List.setIfInBounds_toArray, List.set_cons_zero, List.set_cons_succ]
  refine wpAnyH_take (i := 10) (v := .bool false) rfl (by kernel_rfl) (by kernel_rfl) (by kernel_rfl) (fun _ _ _ h => h) (Or.inl ⟨by kernel_rfl, ?y10⟩) hS ?r10
  case y10 => intro W hS; obtain ⟨_, s3, s0⟩ := hS; go_simp; try with_reducible rfl
  try simp only [Act.put, List.getElem_toArray, List.getElem_cons_succ, List.getElem_cons_zero, List.setIfInBounds_toArray, List.set_cons_zero, List.set_cons_succ]
  have HB5 := hide (HBW.out _ hU3)
  have HO5 := hide (H3.out E2 c2 U3 (HY.out _ HB5.out) (HZ.out _ HB5.out))
  obtain ⟨-, p3, p0⟩ := hS
  clear H2 H3 HSh HX4 HX5 hU0 hU1 hU2 hU3 HSB HM HBW HB3
  refine wpAnyH_done (by kernel_rfl) ?_ _
  go_wp2_with fail
  refine HO5.out.mono ?_
  rintro e w6 ⟨v, rfl, hN6⟩
  obtain ⟨E6, c6, rfl⟩ := ownsRow_slice hN6.own
  have HB6 := hide (HB5.out.trans (hN6.below.mono HB5.out.size))
  have HM := hide (fun (W : World) (h : Below w6.heap.size w6 W) => (RdN.own hN6.own).step h)
  have HW := hide (fun (W : World) (h : Below w6.heap.size w6 W) => (HB6.out.trans (h.mono HB6.out.size) : Below w2.heap.size w2 W))
  have HA1 := hide (HAw.out w6)
  clear hN6 HO5 HB5 p3 p0
  go_wp2_with fail
  refine HA1.out.mono ?_
  rintro e w7 ⟨rfl, hb7⟩
  have HB7 := hide hb7
  have HO7 := hide (H4.out E6 c6 w7 (HM.out _ hb7) (HZ.out _ (HW.out _ hb7)))
  have p3 := (HO2.out _ (HW.out _ hb7)).rules
  have p0 := (HO2.out _ (HW.out _ hb7)).del
  clear hb7 HA1 H4
  go_wp2_with fail
  refine HO7.out.mono ?_
  rintro e w8 ⟨v, rfl, hN8⟩
  obtain ⟨E8, c8, rfl⟩ := ownsRow_slice hN8.own
  have HB8 := hide (HB7.out.trans (hN8.below.mono HB7.out.size))
  have HS8 := hide (HSm.out M E8 c8 E6 c6 w8 (RdN.own hN8.own) (HM.out _ HB8.out) (by omega))
  clear hN8 HO7 HB7 p3 p0
  go_wp2_with fail
  refine HS8.out.mono ?_
  rintro e w9 ⟨rfl, hb9⟩
  have HB9 := hide (HB8.out.trans (hb9.mono HB8.out.size))
  have HL9 := hide (H5.out E6 c6 w9 (HM.out _ HB9.out) (HZ.out _ (HW.out _ HB9.out)))
  have p3 := (HO2.out _ (HW.out _ HB9.out)).rules
  have p0 := (HO2.out _ (HW.out _ HB9.out)).del
  clear hb9 HS8 HB8 H5
  go_wp2_with fail
  refine HL9.out.mono ?_
  rintro e w10 ⟨v, rfl, hN10⟩
  obtain ⟨E10, c10, rfl⟩ := ownsRow_slice hN10.own
  have HB10 := hide (HB9.out.trans (hN10.below.mono HB9.out.size))
  have HX10 := hide (RdN.own hN10.own)
  have HI10 := hide (H6.out E6 c6 w10 (HM.out _ HB10.out))
  clear hN10 HL9 HB9 H6 p3 p0
  rcases HPC.out with ⟨hp, rfl⟩ | hp
  · rw [if_pos hp] at HX10 ⊢
    go_wp2_with fail
    refine HI10.out.mono ?_
    rintro e w11 ⟨v, rfl, hN11⟩
    obtain ⟨E11, c11, rfl⟩ := ownsRow_slice hN11.own
    have HB11 := hide (HB10.out.trans (hN11.below.mono HB10.out.size))
    have HS11 := hide (HSn.out V E10 c10 E11 c11 w11 (HX10.out.step hN11.below) (RdN.own hN11.own))
    clear hN11 HI10 HB10 HX10
    obtain rfl : p = ⟨#[]⟩ := toL_inj hp
    go_wp2_with fail
    refine HS11.out.mono ?_
    rintro e w12 ⟨rfl, hb12⟩
    have HF := hide (HB0.out.trans ((HB2.out.trans ((HB6.out.trans ((HB11.out.trans (hb12.mono HB11.out.size)).mono HB6.out.size)).mono HB2.out.size)).mono HB0.out.size))
    clear hb12 HS11
    cases V with
    | nil =>
      go_wp2_with fail
      exact bodyPost_ret (results_tmp rfl _ _ _) rfl ⟨rfl, HF.out⟩
    | cons n V =>
      have hne : ((((n :: V).length : Nat) : Int) == 0) = false := by simp; omega
      rw [show listB [] (n :: V) = false from rfl]
      generalize (n :: V).length = k at hne ⊢
      go_wp2_with fail
      exact bodyPost_ret (results_tmp rfl _ _ _) rfl ⟨rfl, HF.out⟩
  · rw [if_neg hp] at HX10 ⊢
    go_wp2_with fail
    refine HI10.out.mono ?_
    rintro e w11 ⟨v, rfl, hN11⟩
    obtain ⟨E11, c11, rfl⟩ := ownsRow_slice hN11.own
    have HB11 := hide (HB10.out.trans (hN11.below.mono HB10.out.size))
    have HS11 := hide (HSm.out V E10 c10 E11 c11 w11 (HX10.out.step hN11.below) (RdN.own hN11.own) (by omega))
    clear hN11 HI10 HB10 HX10
    go_wp2_with fail
    refine HS11.out.mono ?_
    rintro e w12 ⟨rfl, hb12⟩
    have HF := hide (HB0.out.trans ((HB2.out.trans ((HB6.out.trans ((HB11.out.trans (hb12.mono HB11.out.size)).mono HB6.out.size)).mono HB2.out.size)).mono HB0.out.size))
    clear hb12 HS11
    have he : p.toList.isEmpty = false := by
      cases h9 : p.toList.isEmpty with
      | false => rfl
      | true => exact absurd (mt_iff.1 h9) hp
    have he2 : (p.toList == []) = false := by
      cases h9 : p.toList with
      | nil => rw [h9] at he; cases he
      | cons _ _ => rfl
    go_wp2_with fail
    exact bodyPost_ret (results_tmp rfl _ _ _) rfl ⟨rfl, HF.out⟩
end Go.Proofs.YteoafohebgfjdaaGreatDoor
