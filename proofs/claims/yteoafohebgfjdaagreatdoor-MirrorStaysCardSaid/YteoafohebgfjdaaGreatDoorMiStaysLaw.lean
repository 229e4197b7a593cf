/-
  MirrorStays, walked.
-/
import Derived.Test.YteoafohebgfjdaaGreatDoorMiLawMore
import Derived.Test.YteoafohebgfjdaaGreatDoorMiOpts
import Derived.Test.YteoafohebgfjdaaGreatDoorMiAwake
import Derived.Test.YteoafohebgfjdaaGreatDoorMiNeq
import Derived.Test.YteoafohebgfjdaaGreatDoorAutoRoundRegion
import Derived.Lib.QuietBelow
import Derived.BigQuiet
namespace Go.Proofs.YteoafohebgfjdaaGreatDoor
open Go.RowKit Go.Maps
set_option maxRecDepth 100000

set_option maxHeartbeats 64000000 in
theorem stays_law (A : Option Addr) (a : List Nd) (c : Nat) (B : Option Addr) (b : List Nd) (d : Nat) (del dry trust : Bool) (C : Option Addr) (R : List (Bool × ByteArray)) (f : Nat) (x y : Int) (w : World) (hA : RdN w w.heap.size A a) (hB : RdN w w.heap.size B b) (hR : RdR w w.heap.size C R) :
    Calls Tryz.prog 4 #[.slice A a.length c, .slice B b.length d, .agg (optC del dry trust C R.length f x y)] w fun e w' => e = .returned (.bool true) ∧ Below w.heap.size w w' := by
  obtain ⟨W0, hW0⟩ : ∃ W0, W0 = w.alloc (.cells #[.bool del, .bool dry, .bool trust, .slice C R.length f, .int .i64 x, .int .i64 y] 25) := ⟨_, rfl⟩
  have hb0 : Below w.heap.size w W0 := by rw [hW0]; exact (Below.refl _ w).alloc (Nat.le_refl _) _
  have hO0 : OB w.heap.size del dry trust C R.length f x y W0 := ⟨by rw [hW0]; exact World.alloc_heap_new w _⟩
  unfold optC
  have hA0 := hA.step hb0
  have hB0 := hB.step hb0
  have hR0 := hR.step hb0
  have HB0 := hide hb0
  have HFw := hide (few_any A a c B b d C R f W0 hA0 hB0 hR0)
  have HW0 := hide hW0
  clear hW0
  cases hs : (smallL a && (smallL b && smallR R)) with
  | false =>
    rw [hs] at HFw
    have HAw := hide (awake_any W0)
    clear hA hB hR hA0 hB0 hR0 hO0 hb0
    go_enter Tryz.func4, Tryz.ntmps4
    go_wp2_with fail
    rw [← HW0.out]
    clear HW0
    refine HFw.out.mono ?_
    rintro e _ ⟨rfl, rfl⟩
    go_wp2_with fail
    refine HAw.out.mono ?_
    rintro e w9 ⟨rfl, hb9⟩
    go_wp2_with fail
    exact bodyPost_ret (results_tmp rfl _ _ _) rfl ⟨rfl, HB0.out.trans (hb9.mono HB0.out.size)⟩
  | true =>
  rw [hs] at HFw
  obtain ⟨hsa, hsb, hsr⟩ : smallL a = true ∧ smallL b = true ∧ smallR R = true := by simpa using hs
  obtain ⟨la, lta, fa⟩ := small_len hsa
  obtain ⟨lb, ltb, fb⟩ := small_len hsb
  obtain ⟨fR, lR⟩ := smallR_few hsr
  have ha := TW.tree hsa
  have hb := TW.tree hsb
  have HTa := hide (refOfTree_any A a c W0 hA0 fa (by omega))
  have HTb := hide (fun (W : World) (h : Below W0.heap.size W0 W) => refOfTree_any B b d W (hB0.step h) fb (by omega))
  generalize treeL a = s at ha HTa lta
  generalize treeL b = t at hb HTb ltb
  have hLr := both_ok ha hb
  have hLl : (s ++ t).length ≤ 48 := by rw [List.length_append]; omega
  have HRs := hide (fun (W : World) (h : Below W0.heap.size W0 W) => hR0.step h)
  have hss : (sentL (rulesL R) s).length ≤ 24 := Nat.le_trans (List.length_filter_le _ _) (Nat.le_trans (List.length_filter_le _ _) lta)
  have hgl : (guardL (rulesL R) t).length ≤ 24 := Nat.le_trans (List.length_filter_le _ _) (Nat.le_trans (List.length_filter_le _ _) ltb)
  have hsin : ∀ n ∈ sentL (rulesL R) s, n ∈ s := fun n hn => (List.mem_filter.1 (List.mem_filter.1 hn).1).1
  have H1 := hide (fun (E1 : Option Addr) (c1 : Nat) (E2 : Option Addr) (c2 : Nat) (W : World) (h1 : RdN W W.heap.size E1 s) (h2 : RdN W W.heap.size E2 t) (h3 : RdR W W.heap.size C R) => (show Calls Tryz.prog 13 #[.slice E1 s.length c1, .slice E2 t.length c2, .slice C R.length f, .bool del] W fun e w' => ∃ v l, e = .returned v ∧ Told (layV (sentL (rulesL R) s) (shownL t) (guardL (rulesL R) t) del) l ∧ l.length ≤ 1000 ∧ NI W v (l.map (·.node)) w' from
    mirOfT_any hLr hLl E1 s c1 E2 t c2 C R f del W h1 ha (by omega) h2 hb (by omega) h3 fR (by omega) (fun n hn => List.mem_append.2 hn)))
  have HMt := fun (l : List Fd) (ht : Told (layV (sentL (rulesL R) s) (shownL t) (guardL (rulesL R) t) del) l) => mirror_tw ha hb ht
  have HMin := fun (l : List Fd) (ht : Told (layV (sentL (rulesL R) s) (shownL t) (guardL (rulesL R) t) del) l) (n : Nd) (h : n ∈ l.map (·.node)) => (show n ∈ s ∨ n ∈ t from (mirror_mem ha hb ht h).imp (hsin n) fun h9 => (List.mem_filter.1 h9).1)
  have H2 := hide (fun (l : List Fd) (ht : Told (layV (sentL (rulesL R) s) (shownL t) (guardL (rulesL R) t) del) l) (hl : l.length ≤ 1000) (m : List Nd) (hm : m = l.map (·.node)) (E1 : Option Addr) (c1 : Nat) (E2 : Option Addr) (c2 : Nat) (W : World) (h1 : RdN W W.heap.size E1 s) (h2 : RdN W W.heap.size E2 m) (h3 : RdR W W.heap.size C R) => (show Calls Tryz.prog 13 #[.slice E1 s.length c1, .slice E2 m.length c2, .slice C R.length f, .bool del] W fun e w' => ∃ v, e = .returned v ∧ NI W v m w' from by
    have hmT : TW m := by rw [hm]; exact HMt l ht
    have hmL : m.length ≤ 1000 := by rw [hm, List.length_map]; exact hl
    have hmI : ∀ n, n ∈ s ∨ n ∈ m → n ∈ s ++ t := fun n hn => List.mem_append.2 (hn.elim .inl fun h => HMin l ht n (by rw [← hm]; exact h))
    refine (mirOfT_any hLr hLl E1 s c1 E2 m c2 C R f del W h1 ha (by omega) h2 hmT hmL h3 fR (by omega) hmI).mono ?_
    rintro e w' ⟨v, l', rfl, ht', -, hN⟩
    have e9 : l'.map (·.node) = m := by
      rw [hm] at ht' ⊢
      exact stays_is ha hb ht ht'
    exact ⟨v, rfl, by rw [← e9]; exact hN⟩))
  have H3 := hide (fun (l : List Fd) (ht : Told (layV (sentL (rulesL R) s) (shownL t) (guardL (rulesL R) t) del) l) (m : List Nd) (hm : m = l.map (·.node)) (E1 : Option Addr) (c1 : Nat) (E2 : Option Addr) (c2 : Nat) (W : World) (h1 : RdN W W.heap.size E1 (sentL (rulesL R) s)) (h2 : RdN W W.heap.size E2 t) (h3 : RdR W W.heap.size C R) => (show Calls Tryz.prog 13 #[.slice E1 (sentL (rulesL R) s).length c1, .slice E2 t.length c2, .slice C R.length f, .bool del] W fun e w' => ∃ v, e = .returned v ∧ NI W v m w' from by
    subst hm
    refine (mirOfT_any hLr hLl E1 (sentL (rulesL R) s) c1 E2 t c2 C R f del W h1 (ha.sent _) (by omega) h2 hb (by omega) h3 fR (by omega) (fun n hn => List.mem_append.2 (hn.imp (hsin n) id))).mono ?_
    rintro e w' ⟨v, l', rfl, ht', -, hN⟩
    exact ⟨v, rfl, by rw [← stays_sent ha hb ht ht']; exact hN⟩))
  have HPk := hide (fun (E1 : Option Addr) (c1 : Nat) (W : World) (h1 : RdN W W.heap.size E1 s) (h3 : RdR W W.heap.size C R) => (show Calls Tryz.prog 15 #[.slice E1 s.length c1, .slice C R.length f, .bool false] W fun e w' => ∃ v, e = .returned v ∧ NI W v (sentL (rulesL R) s) w' from by
    rw [← pick_sent]
    exact refPick_any E1 s c1 C R f false W h1 ha.fewN (by omega) h3 fR (by omega)))
  have HPg := hide (fun (E1 : Option Addr) (c1 : Nat) (W : World) (h1 : RdN W W.heap.size E1 t) (h3 : RdR W W.heap.size C R) => (show Calls Tryz.prog 15 #[.slice E1 t.length c1, .slice C R.length f, .bool true] W fun e w' => ∃ v, e = .returned v ∧ NI W v (guardL (rulesL R) t) w' from by
    rw [← pick_guard]
    exact refPick_any E1 t c1 C R f true W h1 hb.fewN (by omega) h3 fR (by omega)))
  have HSm := hide (fun (l : List Nd) (E1 : Option Addr) (c1 : Nat) (E2 : Option Addr) (c2 : Nat) (W : World) (h1 : RdN W W.heap.size E1 l) (h2 : RdN W W.heap.size E2 l) (h3 : (l.length : Int) ≤ 1000000) => (show Calls Tryz.prog 10 #[.slice E1 l.length c1, .slice E2 l.length c2] W fun e w' => e = .returned (.bool true) ∧ Below W.heap.size W w' from by
    have := refSame_any E1 E2 l l c1 c2 W h1 h2 h3
    rwa [(listB_iff _ _).2 rfl] at this))
  have HFi := hide (fun (l : List Fd) (ht : Told (layV (sentL (rulesL R) s) (shownL t) (guardL (rulesL R) t) del) l) (n : Nd) (hn : n ∈ guardL (rulesL R) t) => stays_find ha hb ht hn)
  have HAw := hide awake_any
  generalize sentL (rulesL R) s = ss at H1 H2 H3 HPk HFi hss
  generalize guardL (rulesL R) t = G at H1 H2 H3 HPg HFi hgl
  clear hA hB hR ha hb fa fb fR hs hsa hsb hsr hLr hLl hA0 hB0 hR0 hsin hb0
  have HO0 := hide hO0
  clear hO0
  go_enter Tryz.func4, Tryz.ntmps4
  go_wp2_with fail
  rw [← HW0.out]
  clear HW0
  refine HFw.out.mono ?_
  rintro e _ ⟨rfl, rfl⟩
  clear HFw
  rename World => W0
  go_wp2_with fail
  refine HTa.out.mono ?_
  rintro e w1 ⟨v, rfl, hN1⟩
  obtain ⟨E1, c1, rfl⟩ := ownsRow_slice hN1.own
  have HB1 := hide hN1.below
  have HX1 := hide (RdN.own hN1.own)
  have HTb1 := hide (HTb.out w1 HB1.out)
  clear hN1 HTa HTb
  go_wp2_with fail
  refine HTb1.out.mono ?_
  rintro e w2 ⟨v, rfl, hN2⟩
  obtain ⟨E2, c2, rfl⟩ := ownsRow_slice hN2.own
  have HB2 := hide (HB1.out.trans (hN2.below.mono HB1.out.size))
  have HX := hide (fun (W : World) (h : Below w2.heap.size w2 W) => (HX1.out.step hN2.below).step h)
  have HY := hide (fun (W : World) (h : Below w2.heap.size w2 W) => (RdN.own hN2.own).step h)
  have HZ := hide (fun (W : World) (h : Below w2.heap.size w2 W) => HRs.out W (HB2.out.trans (h.mono HB2.out.size)))
  have HO2 := hide (fun (W : World) (h : Below w2.heap.size w2 W) => HO0.out.step (HB2.out.trans (h.mono HB2.out.size)))
  clear hN2 HTb1 HB1 HX1 HRs HO0
  have HO3 := hide (H1.out E1 c1 E2 c2 w2 (HX.out _ (Below.refl _ _)) (HY.out _ (Below.refl _ _)) (HZ.out _ (Below.refl _ _)))
  have p3 := (HO2.out _ (Below.refl _ _)).rules
  have p0 := (HO2.out _ (Below.refl _ _)).del
  clear H1
  go_wp2_with fail
  refine HO3.out.mono ?_
  rintro e w3 ⟨v, l, rfl, ht, hll, hN3⟩
  obtain ⟨m, hm⟩ : ∃ m, m = l.map (·.node) := ⟨_, rfl⟩
  have H2b := hide (H2.out l ht hll m hm)
  have H3b := hide (H3.out l ht m hm)
  have hf9 := HFi.out l ht
  rw [← hm] at hN3 hf9
  have HF9 := hide hf9
  have hml : m.length ≤ 1000 := by rw [hm, List.length_map]; exact hll
  clear hm hf9 HFi H2 H3 hll HO3 p3 p0
  obtain ⟨E3, c3, rfl⟩ := ownsRow_slice hN3.own
  have HB3 := hide hN3.below
  have HM := hide (fun (W : World) (h : Below w3.heap.size w3 W) => (RdN.own hN3.own).step h)
  have HBW := hide (fun (W : World) (h : Below w3.heap.size w3 W) => (HB3.out.trans (h.mono HB3.out.size) : Below w2.heap.size w2 W))
  clear hN3 ht
  go_upto_region 5 with fail
  have HSB := hide (fun (W : World) (q : Below w3.heap.size w3 W) => (⟨q, (HO2.out W (HBW.out W q)).rules, (HO2.out W (HBW.out W q)).del⟩ : Below w3.heap.size w3 W ∧ W.cell? ⟨w.heap.size, 3, none⟩ = some (.slice C R.length f) ∧ W.cell? ⟨w.heap.size, 0, none⟩ = some (.bool del)))
  have hS := HSB.out _ (Below.refl w3.heap.size w3).drew
  have hU0 := (Below.refl w3.heap.size w3).drew
  refine wp_region_held (by kernel_rfl) (S := fun W => Below w3.heap.size w3 W ∧ W.cell? ⟨w.heap.size, 3, none⟩ = some (.slice C R.length f) ∧ W.cell? ⟨w.heap.size, 0, none⟩ = some (.bool del)) ?_
  change wpAnyH _ _ _ _ _ _ _ _ (World.drew _)
  refine wpAnyH_take (i := 0) (v := .slice E1 s.length c1) rfl (by kernel_rfl) (by kernel_rfl) (by kernel_rfl) (fun _ _ _ h => h) (Or.inl ⟨by kernel_rfl, ?y0⟩) hS ?r0
  case y0 => intro W hS; obtain ⟨_, s3, s0⟩ := hS; go_simp; try with_reducible rfl
  try simp only [Act.put, List.getElem_toArray, List.getElem_cons_zero, List.setIfInBounds_toArray, List.set_cons_zero, List.set_cons_succ]
  refine wpAnyH_take (i := 1) (v := .slice E3 m.length c3) rfl (by kernel_rfl) (by kernel_rfl) (by kernel_rfl) (fun _ _ _ h => h) (Or.inl ⟨by kernel_rfl, ?y1⟩) hS ?r1
  case y1 => intro W hS; obtain ⟨_, s3, s0⟩ := hS; go_simp; try with_reducible rfl
  try simp only [Act.put, List.getElem_toArray, List.getElem_cons_succ, List.getElem_cons_zero, List.setIfInBounds_toArray, List.set_cons_zero, List.set_cons_succ]
  refine wpAnyH_take (i := 2) (v := ?v2) rfl (by kernel_rfl) (by kernel_rfl) (by kernel_rfl) (fun _ _ _ h => h) (Or.inl ⟨by kernel_rfl, ?y2⟩) hS ?r2
  case y2 => intro W hS; obtain ⟨_, s3, s0⟩ := hS; go_simp; try with_reducible rfl
  try simp only [Act.put, List.getElem_toArray, List.getElem_cons_succ, List.getElem_cons_zero, List.setIfInBounds_toArray, List.set_cons_zero, List.set_cons_succ]
  refine wpAnyH_take (i := 3) (v := .slice C R.length f) rfl (by kernel_rfl) (by kernel_rfl) (by kernel_rfl) (fun _ _ _ h => h) (Or.inl ⟨by kernel_rfl, ?y3⟩) hS ?r3
  case y3 => intro W hS; obtain ⟨_, s3, s0⟩ := hS; go_simp; try with_reducible rfl
  try simp only [Act.put, List.getElem_toArray, List.getElem_cons_succ, List.getElem_cons_zero, List.setIfInBounds_toArray, List.set_cons_zero, List.set_cons_succ]
  refine wpAnyH_take (i := 4) (v := ?v4) rfl (by kernel_rfl) (by kernel_rfl) (by kernel_rfl) (fun _ _ _ h => h) (Or.inl ⟨by kernel_rfl, ?y4⟩) hS ?r4
  case y4 => intro W hS; obtain ⟨_, s3, s0⟩ := hS; go_simp; try with_reducible rfl
  try simp only [Act.put, List.getElem_toArray, List.getElem_cons_succ, List.getElem_cons_zero, List.setIfInBounds_toArray, List.set_cons_zero, List.set_cons_succ]
  refine wpAnyH_take (i := 5) (v := .bool del) rfl (by kernel_rfl) (by kernel_rfl) (by kernel_rfl) (fun _ _ _ h => h) (Or.inl ⟨by kernel_rfl, ?y5⟩) hS ?r5
  case y5 => intro W hS; obtain ⟨_, s3, s0⟩ := hS; go_simp; try with_reducible rfl
  try simp only [Act.put, List.getElem_toArray, List.getElem_cons_succ, List.getElem_cons_zero, List.setIfInBounds_toArray, List.set_cons_zero, List.set_cons_succ]
  refine wpAnyH_take (i := 7) (v := .slice E3 m.length c3) rfl (by kernel_rfl) (by kernel_rfl) (by kernel_rfl) (fun _ _ _ h => h) (Or.inl ⟨by kernel_rfl, ?y7⟩) hS ?r7
  case y7 => intro W hS; obtain ⟨_, s3, s0⟩ := hS; go_simp; try with_reducible rfl
  try simp only [Act.put, List.getElem_toArray, List.getElem_cons_succ, List.getElem_cons_zero, List.setIfInBounds_toArray, List.set_cons_zero, List.set_cons_succ]
  generalize w3.drew = U0 at hU0 hS ⊢
  refine heldS_one (i := 6) (by kernel_rfl) rfl (fun K9 hK => ?_)
  go_simp
  refine (H2b.out E1 c1 E3 c3 _ (HX.out _ (HBW.out _ hU0)) (HM.out _ hU0) (HZ.out _ (HBW.out _ hU0))).mono ?_
  rintro en U1 ⟨v, rfl, hN⟩
  obtain ⟨E4, c4, rfl⟩ := ownsRow_slice hN.own
  have hU1 := hU0.trans (hN.below.mono hU0.size)
  have hS := HSB.out _ hU1
  have HX4 := hide (RdN.own hN.own)
  clear hN
  refine hK _ _ hS ?_
  clear hK K9
  try simp only [Act.put, List.getElem_toArray, List.getElem_cons_succ, List.getElem_cons_zero, List.setIfInBounds_toArray, List.set_cons_zero, List.set_cons_succ]
  refine heldS_one (i := 8) (by kernel_rfl) rfl (fun K9 hK => ?_)
  go_simp
  refine (HSm.out m E4 c4 E3 c3 _ HX4.out (HM.out _ hU1) (by omega)).mono ?_
  rintro en U2 ⟨rfl, hb⟩
  have hU2 := hU1.trans (hb.mono hU1.size)
  have hS := HSB.out _ hU2
  clear hb
  refine hK _ _ hS ?_
  clear hK K9
  try simp only [Act.put, List.getElem_toArray, List.getElem_cons_succ, List.getElem_cons_zero, List.setIfInBounds_toArray, List.set_cons_zero, List.set_cons_succ]
  refine wpAnyH_take (i := 9) (v := .bool false) rfl (by kernel_rfl) (by kernel_rfl) (by kernel_rfl) (fun _ _ _ h => h) (Or.inl ⟨by kernel_rfl, ?y9⟩) hS ?r9
  case y9 => intro W hS; obtain ⟨_, s3, s0⟩ := hS; go_simp; try with_reducible rfl
  try simp only [Act.put, List.getElem_toArray, List.getElem_cons_succ, List.getElem_cons_zero, List.setIfInBounds_toArray, List.set_cons_zero, List.set_cons_succ]
  refine wpAnyH_take (i := 10) (v := .bool false) rfl (by kernel_rfl) (by kernel_rfl) (by kernel_rfl) (fun _ _ _ h => h) (Or.inl ⟨by kernel_rfl, ?y10⟩) hS ?r10
  case y10 => intro W hS; obtain ⟨_, s3, s0⟩ := hS; go_simp; try with_reducible rfl
  try simp only [Act.put, List.getElem_toArray, List.getElem_cons_succ, List.getElem_cons_zero, List.setIfInBounds_toArray, List.set_cons_zero, List.set_cons_succ]
  refine wpAnyH_take (i := 11) (v := .slice E1 s.length c1) rfl (by kernel_rfl) (by kernel_rfl) (by kernel_rfl) (fun _ _ _ h => h) (Or.inl ⟨by kernel_rfl, ?y11⟩) hS ?r11
  case y11 => intro W hS; obtain ⟨_, s3, s0⟩ := hS; go_simp; try with_reducible rfl
  try simp only [Act.put, List.getElem_toArray, List.getElem_cons_succ, List.getElem_cons_zero, List.setIfInBounds_toArray, List.set_cons_zero, List.set_cons_succ]
  refine wpAnyH_take (i := 12) (v := ?v12) rfl (by kernel_rfl) (by kernel_rfl) (by kernel_rfl) (fun _ _ _ h => h) (Or.inl ⟨by kernel_rfl, ?y12⟩) hS ?r12
  case y12 => intro W hS; obtain ⟨_, s3, s0⟩ := hS; go_simp; try with_reducible rfl
  try simp only [Act.put, List.getElem_toArray, List.getElem_cons_succ, List.getElem_cons_zero, List.setIfInBounds_toArray, List.set_cons_zero, List.set_cons_succ]
  refine wpAnyH_take (i := 13) (v := .slice C R.length f) rfl (by kernel_rfl) (by kernel_rfl) (by kernel_rfl) (fun _ _ _ h => h) (Or.inl ⟨by kernel_rfl, ?y13⟩) hS ?r13
  case y13 => intro W hS; obtain ⟨_, s3, s0⟩ := hS; go_simp; try with_reducible rfl
  try simp only [Act.put, List.getElem_toArray, List.getElem_cons_succ, List.getElem_cons_zero, List.setIfInBounds_toArray, List.set_cons_zero, List.set_cons_succ]
  refine wpAnyH_take (i := 15) (v := .slice E2 t.length c2) rfl (by kernel_rfl) (by kernel_rfl) (by kernel_rfl) (fun _ _ _ h => h) (Or.inl ⟨by kernel_rfl, ?y15⟩) hS ?r15
  case y15 => intro W hS; obtain ⟨_, s3, s0⟩ := hS; go_simp; try with_reducible rfl
  try simp only [Act.put, List.getElem_toArray, List.getElem_cons_succ, List.getElem_cons_zero, List.setIfInBounds_toArray, List.set_cons_zero, List.set_cons_succ]
  refine wpAnyH_take (i := 16) (v := ?v16) rfl (by kernel_rfl) (by kernel_rfl) (by kernel_rfl) (fun _ _ _ h => h) (Or.inl ⟨by kernel_rfl, ?y16⟩) hS ?r16
  case y16 => intro W hS; obtain ⟨_, s3, s0⟩ := hS; go_simp; try with_reducible rfl
  try simp only [Act.put, List.getElem_toArray, List.getElem_cons_succ, List.getElem_cons_zero, List.setIfInBounds_toArray, List.set_cons_zero, List.set_cons_succ]
  refine wpAnyH_take (i := 17) (v := .slice C R.length f) rfl (by kernel_rfl) (by kernel_rfl) (by kernel_rfl) (fun _ _ _ h => h) (Or.inl ⟨by kernel_rfl, ?y17⟩) hS ?r17
  case y17 => intro W hS; obtain ⟨_, s3, s0⟩ := hS; go_simp; try with_reducible rfl
  try simp only [Act.put, List.getElem_toArray, List.getElem_cons_succ, List.getElem_cons_zero, List.setIfInBounds_toArray, List.set_cons_zero, List.set_cons_succ]
  refine wpAnyH_take (i := 18) (v := ?v18) rfl (by kernel_rfl) (by kernel_rfl) (by kernel_rfl) (fun _ _ _ h => h) (Or.inl ⟨by kernel_rfl, ?y18⟩) hS ?r18
  case y18 => intro W hS; obtain ⟨_, s3, s0⟩ := hS; go_simp; try with_reducible rfl
  try simp only [Act.put, List.getElem_toArray, List.getElem_cons_succ, List.getElem_cons_zero, List.setIfInBounds_toArray, List.set_cons_zero, List.set_cons_succ]
  refine wpAnyH_take (i := 19) (v := .bool del) rfl (by kernel_rfl) (by kernel_rfl) (by kernel_rfl) (fun _ _ _ h => h) (Or.inl ⟨by kernel_rfl, ?y19⟩) hS ?r19
  case y19 => intro W hS; obtain ⟨_, s3, s0⟩ := hS; go_simp; try with_reducible rfl
  try simp only [Act.put, List.getElem_toArray, List.getElem_cons_succ, List.getElem_cons_zero, List.setIfInBounds_toArray, List.set_cons_zero, List.set_cons_succ]
  refine wpAnyH_take (i := 21) (v := .slice E3 m.length c3) rfl (by kernel_rfl) (by kernel_rfl) (by kernel_rfl) (fun _ _ _ h => h) (Or.inl ⟨by kernel_rfl, ?y21⟩) hS ?r21
  case y21 => intro W hS; obtain ⟨_, s3, s0⟩ := hS; go_simp; try with_reducible rfl
  try simp only [Act.put, List.getElem_toArray, List.getElem_cons_succ, List.getElem_cons_zero, List.setIfInBounds_toArray, List.set_cons_zero, List.set_cons_succ]
  refine heldS_one (i := 14) (by kernel_rfl) rfl (fun K9 hK => ?_)
  go_simp
  refine (HPk.out E1 c1 _ (HX.out _ (HBW.out _ hU2)) (HZ.out _ (HBW.out _ hU2))).mono ?_
  rintro en U3 ⟨v, rfl, hN⟩
  obtain ⟨E5, c5, rfl⟩ := ownsRow_slice hN.own
  have hU3 := hU2.trans (hN.below.mono hU2.size)
  have hS := HSB.out _ hU3
  have HX5 := hide (RdN.own hN.own)
  clear hN
  refine hK _ _ hS ?_
  clear hK K9
  try simp only [Act.put, List.getElem_toArray, List.getElem_cons_succ, List.getElem_cons_zero, List.setIfInBounds_toArray, List.set_cons_zero, List.set_cons_succ]
  refine heldS_one (i := 20) (by kernel_rfl) rfl (fun K9 hK => ?_)
  go_simp
  refine (H3b.out E5 c5 E2 c2 _ HX5.out (HY.out _ (HBW.out _ hU3)) (HZ.out _ (HBW.out _ hU3))).mono ?_
  rintro en U4 ⟨v, rfl, hN⟩
  obtain ⟨E6, c6, rfl⟩ := ownsRow_slice hN.own
  have hU4 := hU3.trans (hN.below.mono hU3.size)
  have hS := HSB.out _ hU4
  have HX6 := hide (RdN.own hN.own)
  clear hN
  refine hK _ _ hS ?_
  clear hK K9
  try simp only [Act.put, List.getElem_toArray, List.getElem_cons_succ, List.getElem_cons_zero, List.setIfInBounds_toArray, List.set_cons_zero, List.set_cons_succ]
  refine heldS_one (i := 22) (by kernel_rfl) rfl (fun K9 hK => ?_)
  go_simp
  refine (HSm.out m E6 c6 E3 c3 _ HX6.out (HM.out _ hU4) (by omega)).mono ?_
  rintro en U5 ⟨rfl, hb⟩
  have hU5 := hU4.trans (hb.mono hU4.size)
  have hS := HSB.out _ hU5
  clear hb
  refine hK _ _ hS ?_
  clear hK K9
  try simp only [Act.put, List.getElem_toArray, List.getElem_cons_succ, List.getElem_cons_zero, List.setIfInBounds_toArray, List.set_cons_zero, List.set_cons_succ]
  refine wpAnyH_take (i := 23) (v := .bool false) rfl (by kernel_rfl) (by kernel_rfl) (by kernel_rfl) (fun _ _ _ h => h) (Or.inl ⟨by kernel_rfl, ?y23⟩) hS ?r23
  case y23 => intro W hS; obtain ⟨_, s3, s0⟩ := hS; go_simp; try with_reducible rfl
  try simp only [Act.put, List.getElem_toArray, List.getElem_cons_succ, List.getElem_cons_zero, List.setIfInBounds_toArray, List.set_cons_zero, List.set_cons_succ]
  refine wpAnyH_take (i := 24) (v := .bool false) rfl (by kernel_rfl) (by kernel_rfl) (by kernel_rfl) (fun _ _ _ h => h) (Or.inl ⟨by kernel_rfl, ?y24⟩) hS ?r24
  case y24 => intro W hS; obtain ⟨_, s3, s0⟩ := hS; go_simp; try with_reducible rfl
  try simp only [Act.put, List.getElem_toArray, List.getElem_cons_succ, List.getElem_cons_zero, List.setIfInBounds_toArray, List.set_cons_zero, List.set_cons_succ]
  have HB5 := hide (HBW.out _ hU5)
  have HU5 := hide hU5
  have HPg5 := hide (HPg.out E2 c2 U5 (HY.out _ HB5.out) (HZ.out _ HB5.out))
  have p3 := hS.2.1
  clear H2b H3b HPk HX4 HX5 HX6 HPg hS hU0 hU1 hU2 hU3 hU4 hU5 HSB
  refine wpAnyH_done (by kernel_rfl) ?_ _
  go_wp2_with fail
  refine HPg5.out.mono ?_
  rintro e w10 ⟨v, rfl, hN10⟩
  obtain ⟨E10, c10, rfl⟩ := ownsRow_slice hN10.own
  have HB10 := hide (HB5.out.trans (hN10.below.mono HB5.out.size))
  have HMm := hide ((HM.out _ HU5.out).step hN10.below)
  have HD := hide (RdN.own hN10.own)
  clear hN10 HPg5 HB5 HU5 HM HBW p3
  go_wp2_with fail
  obtain ⟨W9, rfl⟩ : ∃ W9, W9 = w10 := ⟨_, rfl⟩
  go_loopg [11] G.length (fun gk iv wr => ∃ j : Nat, iv = .int .i64 j ∧ j + gk = G.length ∧ Hid (Below W9.heap.size W9 wr))
  case atStart => exact ⟨0, rfl, by omega, hide (Below.refl _ _)⟩
  case round =>
    obtain ⟨j, rfl, hjg, HBr⟩ := hrel
    cases gk with
    | zero =>
      obtain rfl : j = G.length := by omega
      have HA1 := hide (HAw.out wr)
      go_wp2_with fail
      refine HA1.out.mono ?_
      rintro e w11 ⟨rfl, hb11⟩
      have HF := hide (HB0.out.trans ((HB2.out.trans ((HB10.out.trans ((HBr.out.trans (hb11.mono HBr.out.size)).mono HB10.out.size)).mono HB2.out.size)).mono HB0.out.size))
      clear hb11 HA1
      go_wp2_with fail
      exact bodyPost_ret (results_tmp rfl _ _ _) rfl ⟨rfl, HF.out⟩
    | succ g1 =>
      have hji : (j : Int) < G.length := by omega
      have hj0 : (0 : Int) ≤ (j : Int) := by omega
      obtain ⟨n, hn⟩ : ∃ n, G[j]? = some n := ⟨_, List.getElem?_eq_getElem (by omega)⟩
      have hfx := HF9.out n (List.mem_of_getElem? hn)
      have HFd := hide (find_any E3 m c3 n.path wr (HMm.out.step HBr.out) (by omega))
      rw [hfx] at HFd
      obtain ⟨ad, rfl, hlt, hnd⟩ := (HD.out.step HBr.out) j n hn
      have hltx : ad.block < wr.heap.size := hlt
      have HND := hide (fun W (hb : Below wr.heap.size wr W) => hnd.below hb (by rw [add_block]; exact hltx))
      have hjw : IntKind.i64.wrap ((j : Int) + 1) = ((j + 1 : Nat) : Int) := by rw [IntWalk.i64_in _ (by omega)]; rfl
      obtain ⟨c0, c1', c2', c3', c4'⟩ := hnd
      clear hfx hn hlt hltx
      obtain ⟨path, kind, mode, time, data⟩ := n
      simp only [Nd.cells] at c0 c1' c2' c3' c4' HFd HND
      go_wp2_with fail
      refine HFd.out.mono ?_
      rintro e w11 ⟨rfl, hb11⟩
      have r12 := World.alloc_heap_new w11 (Obj.cells #[.string path, .int .i64 kind, .int .i64 mode, .int .i64 time, .string data] 36)
      have hb12 := hb11.alloc hb11.size (.cells #[.string path, .int .i64 kind, .int .i64 mode, .int .i64 time, .string data] 36)
      obtain ⟨W12, hW12⟩ : ∃ W12, W12 = w11.alloc (.cells #[.string path, .int .i64 kind, .int .i64 mode, .int .i64 time, .string data] 36) := ⟨_, rfl⟩
      rw [← hW12] at r12 hb12
      obtain ⟨k0, k1, k2, k3, k4⟩ := HND.out W12 hb12
      have d0 := cell_of_row _ _ 0 _ _ _ r12
      have d1 := cell_of_row _ _ 1 _ _ _ r12
      have d2 := cell_of_row _ _ 2 _ _ _ r12
      have d3 := cell_of_row _ _ 3 _ _ _ r12
      have d4 := cell_of_row _ _ 4 _ _ _ r12
      simp only at k0 k1 k2 k3 k4
      have f0 := fun d os => cell_regrown k0 d os
      have f1 := fun d os => cell_regrown k1 d os
      have f2 := fun d os => cell_regrown k2 d os
      have f3 := fun d os => cell_regrown k3 d os
      have f4 := fun d os => cell_regrown k4 d os
      have q0 := fun d os => cell_regrown d0 d os
      have q1 := fun d os => cell_regrown d1 d os
      have q2 := fun d os => cell_regrown d2 d os
      have q3 := fun d os => cell_regrown d3 d os
      have q4 := fun d os => cell_regrown d4 d os
      have HB12 := hide (HBr.out.trans (hb12.mono HBr.out.size))
      clear HFd hb11 hb12 r12 HND k0 k1 k2 k3 k4 d0 d1 d2 d3 d4 c0 c1' c2' c3' c4'
      go_wp2_with fail
      rw [← hW12]
      clear hW12
      refine wp_region_quiet_below (by kernel_rfl) (by kernel_rfl) ?_
      repeat (go_big_quiet_step (fail))
      refine wpQuiet_nil ?_
      intro w13 hw13
      obtain ⟨⟨d9, os9⟩, rfl⟩ := hw13
      have hb13 := below_regrown W12 d9 os9
      go_wp2_with fail
      go_roundg g1
      case rel => exact ⟨j + 1, rfl, by omega, hide (HB12.out.trans (hb13.mono HB12.out.size))⟩
      case measure => omega
end Go.Proofs.YteoafohebgfjdaaGreatDoor
