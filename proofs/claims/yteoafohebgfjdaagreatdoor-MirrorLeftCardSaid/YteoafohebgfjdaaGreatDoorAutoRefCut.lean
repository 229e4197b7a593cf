/-
  Texts that belong together: MiAt, PathGlue, RefCut.
-/
import Derived.Test.YteoafohebgfjdaaGreatDoorAutoMiAdd
import Derived.Test.YteoafohebgfjdaaGreatDoorAutoRoundRegion
import Derived.OwnWalk
import Derived.IntWalk
import Derived.RangeFuncBox
import Derived.StillTailTactics
/-
  (*place).at: the place at a path; what isn't there yet is made.
-/
namespace Go.Proofs.YteoafohebgfjdaaGreatDoor
open Go.RowKit Go.Maps
set_option maxRecDepth 100000

theorem Ext.mono {A A' : Where} {n m : Nat} (h : Ext A A' n) (hm : m ≤ n) : Ext A A' m := ⟨h.keep, fun P q e => by
  rcases h.new P q e with e | ⟨e1, e2⟩
  · exact .inl e
  · exact .inr ⟨by omega, by omega⟩⟩
/-- What at leaves. -/
def AtTo (B : Nat) (LL : Bd) (A : Where) (V : Ns → Pl) (R : Ns) (w : World) (e : Ending) (w' : World) : Prop :=
  ∃ A' q, e = .returned (.pointer (some ⟨q.1, 0, none⟩)) ∧ A' R = some q ∧ PT w' B LL A' V ∧ Ext A A' w.heap.size ∧ Fr A w w'
/-- Between two names. -/
def AtI (B : Nat) (LL : Bd) (A : Where) (V : Ns → Pl) (P : Ns) (w : World) (X : Nat) (pre : List ByteArray) (W : World) : Prop :=
  ∃ A' q, A' (P ++ pre.map toL) = some q ∧ PT W B LL A' V ∧ Ext A A' X ∧ Fr A w W ∧ W.heap[w.heap.size]? = some (.cells #[.pointer (some ⟨q.1, 0, none⟩)] 50 (0, 0))
theorem AtI.bears {B : Nat} {LL : Bd} {A : Where} {V : Ns → Pl} {P : Ns} {w : World} {X : Nat} (h0 : PT w B LL A V) : Bears (Its [] (w.heap.size + 2) X) (AtI B LL A V P w X) := by
  rintro pre U W row ⟨A', q, h1, h2, h3, h4, h5⟩ hg hr
  have hne : ∀ k, Own A' k → some k ≠ row := fun k hk e => by
    rcases hr k e.symm with h6 | h6
    · simp at h6
    · rcases h3.own hk with h | h
      · have := (h0.lt h).2
        omega
      · omega
  refine ⟨A', q, h1, h2.same fun k hk => hg.block k (h2.lt hk).2 (hne k hk), h3, ⟨hg.os.trans h4.os, hg.tape.trans h4.tape, hg.output.trans h4.output, Nat.le_trans h4.size hg.size, fun k hk hno => (hg.block k (Nat.lt_of_lt_of_le hk h4.size) (fun e => ?_)).trans (h4.block k hk hno)⟩, (hg.block _ (Array.getElem?_eq_some_iff.1 h5).1 (fun e => ?_)).trans h5⟩
  · rcases hr k e.symm with h6 | h6
    · simp at h6
    · omega
  · rcases hr _ e.symm with h6 | h6
    · simp at h6
    · omega
theorem zero_ptr (w : World) : Sem.run Tryz.prog (zeroValue 50) w = .ok (.pointer none) w := by kernel_rfl
theorem kid_look {w : World} {B : Nat} {LL : Bd} {A : Where} {V : Ns → Pl} (h : PT w B LL A V) {P : Ns} {q : Nat × Nat} (hP : A P = some q) (x : ByteArray) (hx : x.size ≤ maxLen) :
    (Instr.lookup 69 (.map (some q.2)) (.string x) false).run Tryz.prog w = .ok ((kidF A P x).getD (.pointer none)) w :=
  (h.map P q hP).look (by kernel_rfl) (zero_ptr w) x hx

/-- The pointer goes on to the kid. -/
theorem AtI.next {B : Nat} {LL : Bd} {A A' : Where} {V : Ns → Pl} {P : Ns} {w W : World} {X : Nat} {pre : List ByteArray} {x : ByteArray} {q r : Nat × Nat} (h0 : PT w B LL A V) (hX : w.heap.size + 2 ≤ X)
    (h1 : A' (P ++ pre.map toL ++ [toL x]) = some q) (h2 : PT W B LL A' V) (h3 : Ext A A' X) (h4 : Fr A w W) (h5 : W.heap[w.heap.size]? = some (.cells #[.pointer (some ⟨r.1, 0, none⟩)] 50 (0, 0))) :
    AtI B LL A V P w X (pre ++ [x]) (W.setCell ⟨w.heap.size, 0, none⟩ (.pointer (some ⟨q.1, 0, none⟩))) := by
  have hno : ∀ k, Own A' k → k ≠ w.heap.size := fun k hk => by
    rcases h3.own hk with h | h
    · have := (h0.lt h).2; omega
    · omega
  refine ⟨A', q, by rw [List.map_append, ← List.append_assoc]; exact h1, h2.same fun k hk => heap_setCell_other W _ k _ (hno k hk), h3, ⟨h4.os, h4.tape, h4.output, by simpa using h4.size, fun k hk hn => (heap_setCell_other W _ k _ (by simp; omega)).trans (h4.block k hk hn)⟩, heap_setCell_same W _ 0 _ _ _ h5⟩
attribute [local go_sem] Oper.semAt_some
set_option maxHeartbeats 8000000 in
theorem at_in (B : Nat) (LL : Bd) (A : Where) (V : Ns → Pl) (P : Ns) (q : Nat × Nat) (p : ByteArray) (w : World) (h : PT w B LL A V) (hP : A P = some q) (hp : (p.size : Int) ≤ 1000000)
    (hL : LL.names.length < maxLen) (hk : ∀ x : ByteArray, toL x ∈ namesL (toL p) → x ∈ LL.names ∧ x.size ≤ maxLen) (hd : ∀ k, P ++ (namesL (toL p)).take k ∈ LL.paths) :
    CallsIn Fence.wide 5 Tryz.prog 48 #[.pointer (some ⟨q.1, 0, none⟩), .string p] w (AtTo B LL A V (P ++ namesL (toL p)) w) := by
  have HK := hide hk
  have HD := hide hd
  clear hd
  have HH := hide h
  refine callsIn_of_wp_marks Tryz.func48 rfl trivial ?_ rfl
  simp only [Tryz.ntmps48, List.size_toArray, List.length_cons, List.length_nil, Nat.reduceAdd, Nat.reduceSub, Array.replicate_succ, Array.replicate_zero, List.push_toArray, List.append_toArray, List.nil_append, List.cons_append]
  gi_wp2_with fail
  refine ⟨trivial, (callsIn_wide.2 (names_any p _)).mono ?_⟩
  rintro e w1 ⟨rfl, hw1⟩
  have hz1 : w1.heap.size = w.heap.size + 2 := by rw [hw1]; simp
  have hB1 : Below w.heap.size w w1 := by rw [hw1]; exact ((Below.refl _ w).alloc (Nat.le_refl _) _).alloc (by simp) _
  have r0 : w1.heap[w.heap.size]? = some (.cells #[.pointer (some ⟨q.1, 0, none⟩)] 50 (0, 0)) := by
    rw [hw1]
    rw [Below.heap_alloc _ _ _ (by simp)]
    exact World.alloc_heap_new _ _
  have r1 : w1.heap[w.heap.size + 1]? = some (.cells #[.string p] 9 (0, 0)) := by
    rw [hw1]
    have h := World.alloc_heap_new (w.alloc (.cells #[.pointer (some ⟨q.1, 0, none⟩)] 50)) (Obj.cells #[.string p] 9)
    simp only [World.size_alloc] at h
    exact h
  clear hw1
  have e1 : (w.alloc (Obj.cells #[.pointer (some ⟨q.1, 0, none⟩)] 50)).heap.size = w.heap.size + 1 := by simp
  rw [e1]
  gi_wp2_with fail
  refine wpIn_rangeT (α := ByteArray) (encs := fun x : ByteArray => #[.string x]) rfl (by omega) (gf := 84) (lb := #[.pointer (some ⟨w.heap.size + 1, 0, none⟩)]) rfl trivial
    (enters_of Tryz.func84 (by kernel_rfl) rfl) (L := []) (by intro k hk; simp at hk)
    (names_seq 4 (w.heap.size + 1) p w1 (by omega) (by omega) r1) (fun _ => rfl)
    (fun X pre W => Hid (AtI B LL A V P w X pre W)) (fun X c pre W => False)
    ?hI (fun X c hX => fun _ _ _ _ h => h.elim) ?h0 (fun x => { tmps := #[.pointer (some ⟨q.1, 0, none⟩), .string p, .pointer (some ⟨w.heap.size, 0, none⟩), undef, .pointer none, .string x, .string p, .func (.func 84) #[] #[.pointer (some ⟨w.heap.size + 1, 0, none⟩)], .string x, undef, undef, undef, undef, undef, undef, undef, undef, undef, undef, undef, undef, undef, undef, undef, undef, undef, undef, undef, undef], defers := [] }) ?assign ?body ?done ?stop
  case hI =>
    intro X hX
    rw [hz1]
    exact AtI.bears HH.out
  case h0 =>
    intro X hX
    exact ⟨A, q, by simpa using hP, HH.out.step hB1, Ext.refl A X, Fr.of_below hB1, r0⟩
  case assign =>
    intro l x W K hK
    gi_wp2
    exact hK
  case body =>
    rintro X ll pre x W hX hXW HI hpre
    obtain ⟨A', q', h1, h2, h3, h4, h5⟩ := HI.out
    rw [List.map_append] at hpre
    obtain ⟨hxL, hxs⟩ := HK.out x (hpre.subset (by simp))
    have hdx : P ++ pre.map toL ++ [toL x] ∈ LL.paths := by
      have h := HD.out (pre.length + 1)
      rw [show (namesL (toL p)).take (pre.length + 1) = pre.map toL ++ [toL x] from by
        rw [List.prefix_iff_eq_take] at hpre
        rw [show pre.map toL ++ [toL x] = pre.map toL ++ [x].map toL from rfl, hpre]
        simp] at h
      rwa [List.append_assoc]
    have HDX := hide hdx
    clear hdx
    have c2 : W.cell? ⟨w.heap.size, 0, none⟩ = some (.pointer (some ⟨q'.1, 0, none⟩)) := cell_of_row _ _ _ _ _ _ h5
    have z2 : W.frozen? ⟨w.heap.size, 0, none⟩ = false := frozen_of_row _ _ _ _ _ h5
    have cm : W.cell? ⟨q'.1, 12, none⟩ = some (.map (some q'.2)) := cell_of_row _ _ 12 _ _ _ (h2.cell _ _ h1)
    have hlk := kid_look h2 h1 x hxs
    have HQ := hide (And.intro h1 (And.intro h2 (And.intro h3 (And.intro h4 h5))))
    have HX := hide (And.intro hX (And.intro hXW (And.intro hz1 hxL)))
    clear h1 h2 h3 h4 h5 HI hpre hX hXW hz1 e1 r0 r1 hB1 h hk
    cases hf : A' (P ++ pre.map toL ++ [toL x]) with
    | some q2 =>
      have hkf : kidF A' (P ++ pre.map toL) x = some (.pointer (some ⟨q2.1, 0, none⟩)) := by unfold kidF; rw [hf]; rfl
      rw [hkf, Option.getD_some] at hlk
      have HF := hide hf
      clear hf hkf
      gi_wp2_with fail
      have hq := HQ.out
      have hx := HX.out
      refine ⟨⟨by simp, fun k hk => heap_setCell_other W _ k _ ?_⟩, AtI.next HH.out (by omega) HF.out hq.2.1 hq.2.2.1 hq.2.2.2.1 hq.2.2.2.2⟩
      rcases hk with hk | hk
      · simp at hk
      · simp; omega
    | none =>
      have hkf : kidF A' (P ++ pre.map toL) x = none := by unfold kidF; rw [hf]; rfl
      rw [hkf, Option.getD_none] at hlk
      have HF := hide hf
      clear hf hkf
      gi_wp2_with fail
      have hmx : Tryz.prog.follows .mixedOrders = true := by kernel_rfl
      have hq := HQ.out
      have HVB := hide (fun (W' : World) (bb : Below W.heap.size W W') => (⟨(bb.cell (p := ⟨w.heap.size, 0, none⟩) (Array.getElem?_eq_some_iff.1 hq.2.2.2.2).1).trans c2, (bb.cell (p := ⟨q'.1, 12, none⟩) (hq.2.1.lt ⟨_, _, hq.1, .inl rfl⟩).2).trans cm⟩ : W'.cell? ⟨w.heap.size, 0, none⟩ = some (.pointer (some ⟨q'.1, 0, none⟩)) ∧ W'.cell? ⟨q'.1, 12, none⟩ = some (.map (some q'.2))))
      clear hq c2 cm z2 hlk
      refine region_round ll _ hmx (by kernel_rfl) (fun ⟨_, _, q⟩ => q) (wpAny_of_held (S := fun W' => W'.cell? ⟨w.heap.size, 0, none⟩ = some (.pointer (some ⟨q'.1, 0, none⟩)) ∧ W'.cell? ⟨q'.1, 12, none⟩ = some (.map (some q'.2))) _ _ _ _ ?_)
      have hS := HVB.out _ (Below.refl W.heap.size W).drew
      refine wpAnyH_take (i := 0) (v := .pointer (some ⟨q'.1, 0, none⟩)) rfl (by kernel_rfl) (by kernel_rfl) (by kernel_rfl) (fun _ _ _ h => h) (Or.inl ⟨by kernel_rfl, ?_⟩) hS ?_
      · intro W' hS; obtain ⟨s0, s1⟩ := hS; go_simp; try with_reducible rfl
      try simp only [Act.put, List.getElem_toArray, List.getElem_cons_zero, List.setIfInBounds_toArray, List.set_cons_zero, List.set_cons_succ]
      refine wpAnyH_take (i := 1) (v := .pointer (some ⟨q'.1, 0, none⟩)) rfl (by kernel_rfl) (by kernel_rfl) (by kernel_rfl) (fun _ _ _ h => h) (Or.inl ⟨by kernel_rfl, ?_⟩) hS ?_
      · intro W' hS; obtain ⟨s0, s1⟩ := hS; go_simp; try with_reducible rfl
      try simp only [Act.put, List.getElem_toArray, List.getElem_cons_succ, List.getElem_cons_zero, List.setIfInBounds_toArray, List.set_cons_zero, List.set_cons_succ]
      refine wpAnyH_take (i := 2) (v := .pointer (some ⟨q'.1, 12, none⟩)) rfl (by kernel_rfl) (by kernel_rfl) (by kernel_rfl) (fun _ _ _ h => h) (Or.inl ⟨by kernel_rfl, ?_⟩) hS ?_
      · intro W' hS; obtain ⟨s0, s1⟩ := hS; go_simp; try with_reducible rfl
      try simp only [Act.put, List.getElem_toArray, List.getElem_cons_succ, List.getElem_cons_zero, List.setIfInBounds_toArray, List.set_cons_zero, List.set_cons_succ]
      refine wpAnyH_take (i := 3) (v := .map (some q'.2)) rfl (by kernel_rfl) (by kernel_rfl) (by kernel_rfl) (fun _ _ _ h => h) (Or.inl ⟨by kernel_rfl, ?_⟩) hS ?_
      · intro W' hS; obtain ⟨s0, s1⟩ := hS; go_simp; try with_reducible rfl
      try simp only [Act.put, List.getElem_toArray, List.getElem_cons_succ, List.getElem_cons_zero, List.setIfInBounds_toArray, List.set_cons_zero, List.set_cons_succ]
      refine wpAnyH_take (i := 4) (v := .string x) rfl (by kernel_rfl) (by kernel_rfl) (by kernel_rfl) (fun _ _ _ h => h) (Or.inl ⟨by kernel_rfl, ?_⟩) hS ?_
      · intro W' hS; obtain ⟨s0, s1⟩ := hS; go_simp; try with_reducible rfl
      try simp only [Act.put, List.getElem_toArray, List.getElem_cons_succ, List.getElem_cons_zero, List.setIfInBounds_toArray, List.set_cons_zero, List.set_cons_succ]
      clear hS
      have hB0 := (Below.refl W.heap.size W).drew
      have hp0 := HQ.out.2.1.step hB0
      generalize World.drew W = U0 at hB0 hp0 ⊢
      refine heldS_one (i := 5) (by kernel_rfl) rfl (fun K hK => ?_)
      go_simp
      refine (empty_any U0).mono ?_
      rintro e U1 ⟨rfl, hU1⟩
      have hb1 : Below U0.heap.size U0 U1 := by rw [hU1]; exact ((Below.refl U0.heap.size U0).alloc (Nat.le_refl _) _).alloc (by simp) _
      have hb1w := hB0.trans (hb1.mono hB0.size)
      have HU1 := hide hU1
      clear hU1
      have hm1 := (hp0.step hb1).map _ _ HQ.out.1
      obtain ⟨U2, hrun, hm2, hg2⟩ := hm1.put (t := 69) (e := 50) (by kernel_rfl) x hxs hxL hL (.pointer (some ⟨U0.heap.size + 1, 0, none⟩))
      refine hK _ _ (HVB.out _ hb1w) ?_
      clear hK K
      try simp only [Act.put, List.getElem_toArray, List.getElem_cons_succ, List.getElem_cons_zero, List.setIfInBounds_toArray, List.set_cons_zero, List.set_cons_succ]
      refine heldS_one (i := 6) (by kernel_rfl) rfl (fun K hK => ?_)
      go_simp
      have hq := HQ.out
      have hx := HX.out
      have hBU : B ≤ U0.heap.size := by have := (hp0.lt ⟨_, _, hq.1, .inl rfl⟩); omega
      rw [HU1.out] at hg2
      obtain ⟨hp2, hx2, hf2⟩ := hp0.add hq.1 x HF.out HDX.out hBU hm2 hg2
      rw [← HU1.out] at hg2
      have hne : w.heap.size ≠ q'.2 := fun e => by
        rcases hq.2.2.1.own ⟨_, _, hq.1, .inr rfl⟩ with h | h
        · have := (HH.out.lt h).2; omega
        · omega
      have k2 : U2.heap[w.heap.size]? = _ := (hg2.block _ (by have := (Array.getElem?_eq_some_iff.1 hq.2.2.2.2).1; have := hb1w.size; omega) (fun e => hne (by injection e))).trans ((hb1w.block _ (Array.getElem?_eq_some_iff.1 hq.2.2.2.2).1).trans hq.2.2.2.2)
      have hA2 := hx2.keep _ _ hq.1
      have d2 : U2.cell? ⟨w.heap.size, 0, none⟩ = some (.pointer (some ⟨q'.1, 0, none⟩)) := cell_of_row _ _ _ _ _ _ k2
      have dm : U2.cell? ⟨q'.1, 12, none⟩ = some (.map (some q'.2)) := cell_of_row _ _ 12 _ _ _ (hp2.cell _ _ hA2)
      have y2 : U2.frozen? ⟨w.heap.size, 0, none⟩ = false := frozen_of_row _ _ _ _ _ k2
      have hlk := kid_look hp2 hA2 x hxs
      have hkf : kidF (addA A' (P ++ pre.map toL ++ [toL x]) (U0.heap.size + 1, U0.heap.size)) (P ++ pre.map toL) x = some (.pointer (some ⟨U0.heap.size + 1, 0, none⟩)) := by unfold kidF; rw [addA_same]; rfl
      rw [hkf, Option.getD_some] at hlk
      have HN := hide (show AtI B LL A V P w X (pre ++ [x]) (U2.setCell ⟨w.heap.size, 0, none⟩ (.pointer (some ⟨U0.heap.size + 1, 0, none⟩))) from AtI.next (q := (U0.heap.size + 1, U0.heap.size)) (r := q') HH.out (by omega) (addA_same _ _ _) hp2 (hq.2.2.1.trans hx2 (by have := hB0.size; omega)) ((hq.2.2.2.1.below hB0).trans hf2 (hq.2.2.1.mono (by have := hB0.size; omega))) k2)
      have HLi := hide (show Lies (Its [] w1.heap.size X) W (U2.setCell ⟨w.heap.size, 0, none⟩ (.pointer (some ⟨U0.heap.size + 1, 0, none⟩))) from ⟨by have := hb1w.size; have := hg2.size; simp; omega, fun k hk => by
        rcases hk with hk | hk
        · simp at hk
        · refine (heap_setCell_other U2 _ k _ (by simp; omega)).trans ((hg2.block k (by have := hb1w.size; omega) (fun e => ?_)).trans (hb1w.block k (by omega)))
          injection e with e
          rcases hq.2.2.1.own ⟨_, _, hq.1, .inr rfl⟩ with h | h
          · have := (HH.out.lt h).2; omega
          · omega⟩)
      refine hK _ _ ⟨d2, dm⟩ ?_
      clear hK K hq hx hBU hp2 hx2 hf2 hne k2 hA2 hkf hg2 hm2 hrun hm1 hb1w hb1 hp0 hB0 HVB
      try simp only [Act.put, List.getElem_toArray, List.getElem_cons_succ, List.getElem_cons_zero, List.setIfInBounds_toArray, List.set_cons_zero, List.set_cons_succ]
      refine wpAnyH_done (by kernel_rfl) ?_ _
      gi_wp2_with fail
      exact ⟨HLi.out, HN.out⟩
  case done =>
    rintro X D xs W hX hD hDX hS HI hK
    obtain ⟨A', q', h1, h2, h3, h4, h5⟩ := HI.out
    rw [hS] at h1
    have c2 : W.cell? ⟨w.heap.size, 0, none⟩ = some (.pointer (some ⟨q'.1, 0, none⟩)) := cell_of_row _ _ _ _ _ _ h5
    have HQ := hide (show AtTo B LL A V (P ++ namesL (toL p)) w (.returned (.pointer (some ⟨q'.1, 0, none⟩))) (W.putObj D (.deferred none)) from by
      have hno : ∀ k, Own A' k → k ≠ D := fun k hk => by
        rcases h3.own hk with h | h
        · have := (HH.out.lt h).2; omega
        · omega
      exact ⟨A', q', rfl, h1, h2.same fun k hk => World.putObj_heap_other (hno k hk), h3.mono (by omega), ⟨h4.os, h4.tape, h4.output, Nat.le_trans h4.size (grownBy_putObj' W D (.deferred none)).size, fun k hk hn => (World.putObj_heap_other (by omega)).trans (h4.block k hk hn)⟩⟩)
    clear h1 h2 h3 h4 h5 HI hS hX hD hDX hz1 e1 r0 r1 hB1 h hk
    gi_wp2_with fail
    refine ⟨by simp, .inl ⟨_, _, rfl, run_takeDeferred hK, ?_⟩⟩
    refine ⟨.pointer (some ⟨q'.1, 0, none⟩), ?_, HQ.out⟩
    simp [results, Tryz.f48, go_sem]
  case stop => exact fun _ _ _ _ _ _ _ _ _ h => h.elim
theorem at_any (B : Nat) (LL : Bd) (A : Where) (V : Ns → Pl) (P : Ns) (q : Nat × Nat) (p : ByteArray) (w : World) (h : PT w B LL A V) (hP : A P = some q) (hp : (p.size : Int) ≤ 1000000)
    (hL : LL.names.length < maxLen) (hk : ∀ x : ByteArray, toL x ∈ namesL (toL p) → x ∈ LL.names ∧ x.size ≤ maxLen) (hd : ∀ k, P ++ (namesL (toL p)).take k ∈ LL.paths) :
    Calls Tryz.prog 48 #[.pointer (some ⟨q.1, 0, none⟩), .string p] w (AtTo B LL A V (P ++ namesL (toL p)) w) :=
  callsIn_wide.1 (at_in B LL A V P q p w h hP hp hL hk hd)
end Go.Proofs.YteoafohebgfjdaaGreatDoor
/-
  What stands between slashes, as a list: putting together again, prefixes, the order name by name.
-/
namespace Go.Proofs.YteoafohebgfjdaaGreatDoor
open Go.RowKit
set_option maxRecDepth 100000

/-- The names between slashes; none of the empty text. -/
def cutL (p : List UInt8) : List (List UInt8) := if p.isEmpty then [] else splitL p
/-- Names with slashes between. -/
def glueL : List (List UInt8) → List UInt8
  | [] => []
  | [x] => x
  | x :: y :: r => x ++ 47 :: glueL (y :: r)

theorem splitL_snoc : ∀ l : List UInt8, ∃ a x, splitL l = a ++ [x] ∧ splitL (l ++ [47]) = a ++ [x] ++ [[]] ∧ ∀ c : UInt8, (c == 47) = false → splitL (l ++ [c]) = a ++ [x ++ [c]]
  | [] => ⟨[], [], rfl, rfl, fun c h => by simp [splitL, h]⟩
  | d :: r => by
    obtain ⟨a, x, h0, h1, h2⟩ := splitL_snoc r
    by_cases hd : (d == 47) = true
    · refine ⟨[] :: a, x, by simp [splitL, hd, h0], by simp [splitL, hd, h1], fun c hc => by simp [splitL, hd, h2 c hc]⟩
    · have hd : (d == 47) = false := by simpa using hd
      cases a with
      | nil => exact ⟨[], d :: x, by simp [splitL, hd, h0], by simp [splitL, hd, h1], fun c hc => by simp [splitL, hd, h2 c hc]⟩
      | cons b t => exact ⟨(d :: b) :: t, x, by simp [splitL, hd, h0], by simp [splitL, hd, h1], fun c hc => by simp [splitL, hd, h2 c hc]⟩

theorem glue_cons (x : List UInt8) (r : List (List UInt8)) (h : r ≠ []) : glueL (x :: r) = x ++ 47 :: glueL r := by
  cases r with
  | nil => exact absurd rfl h
  | cons => rfl
theorem glue_split : ∀ l : List UInt8, glueL (splitL l) = l
  | [] => rfl
  | c :: r => by
    have ih := glue_split r
    by_cases hc : (c == 47) = true
    · have e : c = 47 := by simpa using hc
      unfold splitL
      rw [if_pos hc, glue_cons _ _ (splitL_ne r), ih, e]; rfl
    · unfold splitL
      rw [if_neg hc]
      cases hs : splitL r with
      | nil => exact absurd hs (splitL_ne r)
      | cons h t =>
        rw [hs] at ih
        cases t with
        | nil => simp [glueL] at ih ⊢; exact ih
        | cons y z => simp only [glueL] at ih ⊢; simp [ih]
theorem glue_cut (l : List UInt8) : glueL (cutL l) = l := by
  unfold cutL
  split
  · rename_i h; rw [List.isEmpty_iff.1 h]; rfl
  · exact glue_split l
theorem glue_append : ∀ (a r : List (List UInt8)), a ≠ [] → r ≠ [] → glueL (a ++ r) = glueL a ++ 47 :: glueL r
  | [], _, h, _ => absurd rfl h
  | [x], r, _, h => glue_cons x r h
  | x :: y :: t, r, _, h => by
    rw [List.cons_append, glue_cons _ _ (by simp), glue_append (y :: t) r (by simp) h, glue_cons x (y :: t) (by simp)]
    simp
theorem split_append : ∀ (t y : List UInt8), splitL (t ++ 47 :: y) = splitL t ++ splitL y
  | [], y => by simp [splitL]
  | c :: r, y => by
    have ih := split_append r y
    by_cases hc : (c == 47) = true
    · simp [splitL, hc, ih]
    · have hc : (c == 47) = false := by simpa using hc
      simp only [List.cons_append, splitL, hc, ih, Bool.false_eq_true, if_false]
      cases hs : splitL r with
      | nil => exact absurd hs (splitL_ne r)
      | cons h t => simp
theorem cut_ne (p : List UInt8) (h : p ≠ []) : cutL p = splitL p := by unfold cutL; rw [if_neg (by simpa using h)]
theorem cut_nil : cutL [] = [] := rfl
theorem right_cut (p : List UInt8) : rightL p = ((cutL p).all nameL && decide ((cutL p).length ≤ 16)) := by
  unfold rightL cutL
  split
  · rename_i h; rw [h]; rfl
  · rename_i h; simp only [Bool.not_eq_true] at h; rw [h, Bool.false_or]
theorem names_cut (p : List UInt8) : namesL p = if rightL p then cutL p else [] := by
  unfold namesL cutL
  cases p.isEmpty <;> cases rightL p <;> rfl
theorem letters_noslash (hl : letter 47 = false) : ∀ x : List UInt8, x.all (fun c => letter c.toNat) = true → splitL x = [x]
  | [], _ => rfl
  | c :: r, h => by
    rw [List.all_cons, Bool.and_eq_true] at h
    unfold splitL
    rw [if_neg, letters_noslash hl r h.2]
    intro e
    have e : c = 47 := by simpa using e
    subst e
    have := h.1
    rw [show ((47 : UInt8).toNat : Int) = 47 from rfl, hl] at this
    cases this
/-- A name has no slash, and is not empty. -/
theorem name_noslash (hl : letter 47 = false) (x : List UInt8) (h : nameL x = true) : x ≠ [] ∧ splitL x = [x] := by
  unfold nameL at h
  simp only [Bool.and_eq_true] at h
  refine ⟨?_, letters_noslash hl x h.2⟩
  rintro rfl; simp at h
theorem split_glue (hl : letter 47 = false) : ∀ l : List (List UInt8), l.all nameL = true → l ≠ [] → splitL (glueL l) = l
  | [], _, h => absurd rfl h
  | [x], h, _ => by
    simp at h
    exact (name_noslash hl x h).2
  | x :: y :: r, h, _ => by
    rw [List.all_cons, Bool.and_eq_true] at h
    rw [glue_cons _ _ (by simp), split_append, (name_noslash hl x h.1).2, split_glue hl (y :: r) h.2 (by simp)]; rfl
theorem glue_ne (hl : letter 47 = false) (l : List (List UInt8)) (h : l.all nameL = true) (hne : l ≠ []) : glueL l ≠ [] := by
  cases l with
  | nil => exact absurd rfl hne
  | cons x r =>
    rw [List.all_cons, Bool.and_eq_true] at h
    have := (name_noslash hl x h.1).1
    cases r with
    | nil => exact this
    | cons y z => rw [glue_cons _ _ (by simp)]; simp
theorem cut_glue (hl : letter 47 = false) (l : List (List UInt8)) (h : l.all nameL = true) : cutL (glueL l) = l := by
  by_cases hne : l = []
  · subst hne; rfl
  · rw [cut_ne _ (glue_ne hl l h hne), split_glue hl l h hne]

theorem split_slash (l : List UInt8) : splitL (47 :: l) = [] :: splitL l := rfl
theorem split_other {a : UInt8} (ha : a ≠ 47) {l h : List UInt8} {t : List (List UInt8)} (hs : splitL l = h :: t) : splitL (a :: l) = (a :: h) :: t := by
  have ha' : (a == 47) = false := by simpa using ha
  simp only [splitL, ha', hs, if_false, Bool.false_eq_true]
theorem split_some (l : List UInt8) : ∃ h t, splitL l = h :: t := by
  cases hs : splitL l with
  | nil => exact absurd hs (splitL_ne l)
  | cons h t => exact ⟨h, t, rfl⟩
theorem letter_slash : letter 47 = false := by rfl
end Go.Proofs.YteoafohebgfjdaaGreatDoor
/-
  The reference's Cut; slices of texts that are read.
-/
namespace Go.Proofs.YteoafohebgfjdaaGreatDoor
open Go.RowKit
set_option maxRecDepth 100000

/-- Texts that lie at an address, one behind the other, below block B. -/
def Rd (w : World) (B : Nat) (A : Option Addr) (l : List ByteArray) : Prop :=
  ∀ k x, l[k]? = some x → ∃ ad : Addr, A = some ad ∧ ad.block < B ∧ w.cell? (ad.add k) = some (.string x)
theorem Rd.below {w w' : World} {B B' : Nat} {A : Option Addr} {l : List ByteArray} (h : Rd w B A l) (hb : Below B' w w') (hB : B ≤ B') : Rd w' B A l := fun k x hx => by
  obtain ⟨ad, e, hlt, hc⟩ := h k x hx
  exact ⟨ad, e, hlt, (hb.cell (by rw [add_block]; omega)).trans hc⟩
theorem Rd.mono {w : World} {B B' : Nat} {A : Option Addr} {l : List ByteArray} (h : Rd w B A l) (hB : B ≤ B') : Rd w B' A l := fun k x hx => by
  obtain ⟨ad, e, hlt, hc⟩ := h k x hx
  exact ⟨ad, e, by omega, hc⟩
theorem Rd.nil (w : World) (B : Nat) (A : Option Addr) : Rd w B A [] := fun k x hx => by simp at hx
theorem Rd.own {w : World} {base n c : Nat} {e : TypeId} {A : Option Addr} {l : List ByteArray} (h : w.ownsRow base e 1 (.slice A n c) n (l.map Value.string)) : Rd w w.heap.size A l := fun k x hx => by
  rcases h.2 with ⟨hv, h0⟩ | ⟨g, cap, cur, hv, _, hg, _⟩
  · have := h.1
    rw [h0] at this
    simp at this
    subst this
    simp at hx
  · injection hv with hA
    subst hA
    refine ⟨_, rfl, (Array.getElem?_eq_some_iff.1 hg).1, h.cells (g := g) rfl k _ ?_⟩
    rw [List.getElem?_map, hx]; rfl
theorem toL_app (s t : ByteArray) : toL (s ++ t) = toL s ++ toL t := by simp [toL]
theorem toL_ext (s : ByteArray) (i j : Nat) : toL (s.extract i j) = ((toL s).drop i).take (j - i) := Lib.extract_data s i j
/-- A call's answer: a slice of these texts. -/
def Cuts (w0 : World) (l : List (List UInt8)) (e : Ending) (w' : World) : Prop :=
  ∃ A c, ∃ cs : List ByteArray, e = .returned (.slice A cs.length c) ∧ cs.map toL = l ∧ cs.length ≤ c ∧ Rd w' w'.heap.size A cs ∧ Below w0.heap.size w0 w'

theorem info_string : (Tryz.prog.info? 9).map (fun i => (i.zero, i.size, i.bytes)) = some (some (.string ⟨#[]⟩), 1, 16) := by kernel_rfl

set_option maxHeartbeats 2000000 in
theorem refCut_any (p : ByteArray) (w : World) (hp : (p.size : Int) ≤ 1000000) :
    Calls Tryz.prog 41 #[.string p] w (Cuts w (cutL (toL p))) := by
  obtain ⟨i0, hi, hz0, hz1, hz2⟩ := info_parts info_string
  cases he : p.toList.isEmpty with
  | true =>
    have HC := hide (show cutL (toL p) = [] by unfold cutL toL; rw [← Lib.toList_data, he]; rfl)
    go_enter Tryz.func41, Tryz.ntmps41
    go_wp2_with fail
    refine bodyPost_ret (results_tmp rfl _ _ _) rfl ⟨none, 0, [], rfl, HC.out.symm, by simp, Rd.nil _ _ _, Below.refl _ _⟩
  | false =>
    have HC := hide (show cutL (toL p) = splitL (toL p) by unfold cutL toL; rw [← Lib.toList_data, he]; rfl)
    go_enter Tryz.func41, Tryz.ntmps41
    go_wp2_with fail
    go_loopw [3, 4] (fun v i wr => ∃ (k : Nat) (a : List ByteArray) (x : ByteArray) (g cap : Nat), k ≤ p.size ∧ i = .int .i64 k ∧ v = .slice (some ⟨g, 0, none⟩) (a.length + 1) cap ∧ a.length + 1 ≤ cap ∧ a.length ≤ k ∧ x.size ≤ k ∧ Hid ((a ++ [x]).map toL = splitL ((toL p).take k)) ∧
        wr.ownsRow w.heap.size 9 1 v (a.length + 1) (a.map Value.string ++ [.string x]) ∧ Below w.heap.size w wr) (fun _ i _ => p.size - (intOf i).toNat)
    case atStart => exact ⟨0, [], ⟨#[]⟩, _, 1, Nat.zero_le _, rfl, rfl, by simp, by simp, Nat.zero_le _, hide (by simp [splitL, toL]), World.ownsRow_lit w _ _ (Nat.le_refl _) (by decide) rfl, (Below.refl _ _).alloc (Nat.le_refl _) _⟩
    case round =>
      obtain ⟨k, a, x, g, cap, hk, rfl, rfl, hcap, hak, hxk, HS, hown, hB⟩ := hrel
      by_cases hlt : (k : Int) < p.size
      · have hlt' : k < p.size := by omega
        have hts : (toL p).take (k + 1) = (toL p).take k ++ [p[k]] := by
          rw [List.take_succ_eq_append_getElem (by simpa [toL] using hlt')]; rfl
        obtain ⟨a', x', s0, s1, s2⟩ := splitL_snoc ((toL p).take k)
        by_cases hc : p[k] = 47
        · have HN := hide (show ((a ++ [x]) ++ [(⟨#[]⟩ : ByteArray)]).map toL = splitL ((toL p).take (k + 1)) by
            rw [hts, hc, s1, ← s0, ← HS.out, List.map_append]; rfl)
          have hb : ((p[k].toNat : Int) == 47) = true := by rw [hc]; rfl
          clear s0 s1 s2 hts hc
          have HZ := hB.size
          go_wp2_with (at_builtin; refine wpList_append_own _ rfl _ _ 66 rfl w.heap.size 9 i0 (.string ⟨#[]⟩) 1 16 Tryz.underlying66 hi hz0 hz1 hz2 rfl (by decide) _ _ _ rfl (hown.alloc _) ⟨wr.heap.size, 0, none⟩ 1 1 [.string ⟨#[]⟩] rfl rfl (cell_one_new _ _ _) (by simp [Value.oneCell']) (by unfold maxLen; omega) (by omega) (by simp; omega) ?_)
          intro v' w' hown' hgrow hnil
          obtain ⟨g', cap', rfl⟩ := ownsRow_succ hown'
          go_wp2_with fail
          go_roundw
          case rel =>
            refine ⟨k + 1, a ++ [x], ⟨#[]⟩, g', cap', by omega, rfl, by simp, ?_, by simp; omega, Nat.zero_le _, HN, by simpa using hown', (hB.alloc hB.size _).grown hgrow (by simp; omega) (fun r e => (hown.lt r e).1)⟩
            have := ownsRow_cap hown'
            simpa using this
          case measure => simp [intOf]; omega
        · have HN := hide (show (a ++ [x ++ p.extract k (k + 1)]).map toL = splitL ((toL p).take (k + 1)) by
            have h0 := HS.out
            rw [s0, List.map_append] at h0
            obtain ⟨e1, e2⟩ := List.append_inj' h0 rfl
            have e2 : toL x = x' := by simpa using e2
            rw [hts, s2 _ (by simpa using hc), List.map_append, e1, ← e2]
            rw [List.map_cons, List.map_nil, toL_app, toL_ext, List.drop_eq_getElem_cons (by simpa [toL] using hlt')]
            rw [show k + 1 - k = 1 by omega]
            rfl)
          have hb : ((p[k].toNat : Int) == 47) = false := by
            have : ¬ (p[k].toNat : Int) = 47 := fun e => hc (UInt8.toNat_inj.1 (by have : (47 : UInt8).toNat = 47 := rfl; omega))
            simpa using this
          clear s0 s1 s2 hts hc
          go_wp2_with fail
          have hc1 : wr.cell? ⟨g, a.length, none⟩ = some (.string x) := by rw [hown.cellAt _ (by omega)]; simp
          have hf1 := hown.frozenAt a.length
          have w1 : IntKind.i64.wrap ((a.length : Nat) : Int) = a.length := IntWalk.i64_in _ (by omega)
          have w2 : IntKind.i64.wrap ((k : Int) + 1) = (k : Int) + 1 := IntWalk.i64_in _ (by omega)
          have w3 : ((k : Int) + 1).toNat = k + 1 := by omega
          have w4 : (k : Int) + 1 ≤ p.size := by omega
          have w5 : ((a.length : Nat) : Int) < ((a.length : Nat) : Int) + 1 := by omega
          have w8 : ¬ 9223372036854775807 < x.size + (min (k + 1) p.size - k) := by omega
          have w6 : (k : Int) ≤ (k : Int) + 1 := by omega
          have w7 : (0 : Int) ≤ (k : Int) + 1 := by omega
          go_still_tail 17, (by kernel_rfl)
          change wpList _ _ _ _ _ wr.drew
          have HB2 := hB.drew
          have HO2 := hown.drew
          clear hB hown hc1 w1 w2 w3 w4 w5 w6 w7 w8
          generalize wr.drew = wq at HB2 HO2
          have hf2 := HO2.frozenAt a.length
          have hc2 : wq.cell? ⟨g, a.length, none⟩ = some (.string x) := by rw [HO2.cellAt _ (by omega)]; simp
          go_wp2_with fail
          go_roundw
          case rel =>
            obtain ⟨ho, hg⟩ := HO2.stored a.length (.string (x ++ p.extract k (k + 1)))
            refine ⟨k + 1, a, x ++ p.extract k (k + 1), g, cap, by omega, rfl, rfl, hcap, by omega, by simp; omega, HN, ?_, HB2.grown hg HB2.size (fun r e => by cases e; exact (HO2.lt g rfl).1)⟩
            rw [show (a.map Value.string ++ [Value.string x]).set a.length (Value.string (x ++ p.extract k (k + 1))) = a.map Value.string ++ [Value.string (x ++ p.extract k (k + 1))] by simp] at ho
            exact ho
          case measure => simp [intOf]; omega
      · obtain rfl : k = p.size := by omega
        have HT := hide (show (a ++ [x]).map toL = cutL (toL p) by
          rw [HC.out, HS.out, List.take_of_length_le (by simp [toL])])
        go_wp2_with fail
        refine bodyPost_ret (results_tmp rfl _ _ _) rfl ⟨some ⟨g, 0, none⟩, cap, a ++ [x], by simp, HT.out, by simpa using hcap, Rd.own (n := (a ++ [x]).length) (by simpa using hown), hB⟩
end Go.Proofs.YteoafohebgfjdaaGreatDoor
