/-
  block.Of.
-/
import Derived.Test.YtobgbheodlpclaaAutoBkSeq
import Derived.Test.YtobgbheodlpclaaBkRight
import Derived.Test.YtobgbheodlpclaaAutoHeldOp
namespace Go.Proofs.Ytobgbheodlpclaa
open Go.RowKit Go.Shelf
set_option maxRecDepth 100000
attribute [local go_sem] Oper.semAt_some

/-- One block more in a signature. -/
def ofStep (h : Nat) (st : List Sg × Nat × Sg) (x : List UInt8) : List Sg × Nat × Sg := if x.length = h then (st.1 ++ [signL x], st.2) else (st.1, x.length, signL x)
/-- A signature of blocks: the signs of whole ones, the tail's length and its sign. -/
def sigF (h : Nat) (xs : List (List UInt8)) : List Sg × Nat × Sg := xs.foldl (ofStep h) ([], 0, ⟨0, 0, 0⟩)
theorem sigF_snoc (h : Nat) (xs : List (List UInt8)) (x : List UInt8) : sigF h (xs ++ [x]) = ofStep h (sigF h xs) x := by unfold sigF; rw [List.foldl_append]; rfl

theorem sigF_len (h : Nat) (xs : List (List UInt8)) : (sigF h xs).1.length ≤ xs.length := by
  suffices q : ∀ (xs : List (List UInt8)) (st : List Sg × Nat × Sg), (xs.foldl (ofStep h) st).1.length ≤ st.1.length + xs.length by
    have := q xs ([], 0, ⟨0, 0, 0⟩); unfold sigF; simpa using this
  intro xs
  induction xs with
  | nil => intro st; simp
  | cons x r ih =>
    intro st
    have q1 := ih (ofStep h st x)
    have q2 : (ofStep h st x).1.length ≤ st.1.length + 1 := by unfold ofStep; split <;> simp
    rw [List.foldl_cons, List.length_cons]
    omega
theorem own_cell2 {w : World} {base n size b j : Nat} {e : TypeId} {v u : Value} {xs : List Value} (h : w.ownsRow base e size v n xs) (hb : b < base) : (w.setCell ⟨b, j, none⟩ u).ownsRow base e size v n xs := by
  refine h.kept (⟨rfl, rfl, rfl, by simp [World.setCell], fun k _ hk => Below.heap_setCell w ⟨b, j, none⟩ u k (fun e => hk (by rw [e]))⟩ : w.grownBy (w.setCell ⟨b, j, none⟩ u) (some b)) ?_
  cases hv : v.ownBlock with
  | none => exact .inl rfl
  | some g => exact .inr (fun e => by have := (h.lt g hv).1; cases e; omega)
/-- append of one sign that has just been laid: its run. -/
theorem append_sign (W : World) (base : Nat) (B : Option Addr) (d : Nat) (bl : List Sg) (s : Sg) (hown : W.ownsRow base 30 3 (.slice B bl.length d) bl.length (cellsSg bl)) (hb : base ≤ W.heap.size) (hn : bl.length ≤ 100000) :
    ∃ g cap w5, (Builtin.append_ #[24, 24] 24 #[.slice B bl.length d, .slice (some ⟨W.heap.size, 0, none⟩) 1 1]).run Try.prog (W.alloc (.cells s.cells 30)) = .ok (.slice (some ⟨g, 0, none⟩) (bl.length + 1) cap) w5 ∧
      w5.ownsRow base 30 3 (.slice (some ⟨g, 0, none⟩) (bl.length + 1) cap) (bl.length + 1) (cellsSg (bl ++ [s])) ∧ (W.alloc (.cells s.cells 30)).grownBy w5 (Value.slice B bl.length d).ownBlock := by
  obtain ⟨i0, hi, hz0, hz1, hz2⟩ := info_parts info_sg
  obtain ⟨v', w', h1, h2, h3, _⟩ := run_append_own (P := Try.prog) (W.alloc (.cells s.cells 30)) base 24 24 30 i0 _ 3 24 Try.underlying24 hi hz0 hz1 hz2 rfl (by decide) _ _ _ (hown.alloc _)
    ⟨W.heap.size, 0, none⟩ 1 1 (cellsSg [s]) rfl (RdSg.one W s 30).cell (cellsSg_one _) (by unfold maxLen; omega) (by omega) (by simp; omega)
  obtain ⟨g, cap, rfl⟩ := ownsRow_succ h2
  exact ⟨g, cap, w', h1, by rw [cellsSg_app]; exact h2, h3⟩
/-- What the loop keeps. -/
def OfI (w3 : World) (n1 h X : Nat) (pre : List Told) (W : World) : Prop :=
  ∃ B d, W.heap[n1]? = some (.cells (sigC h B (sigF h (pre.map (·.2.2))).1.length d ((sigF h (pre.map (·.2.2))).2.1 : Nat) (sigF h (pre.map (·.2.2))).2.2) 32 (0, 0)) ∧
    W.ownsRow X 30 3 (.slice B (sigF h (pre.map (·.2.2))).1.length d) (sigF h (pre.map (·.2.2))).1.length (cellsSg (sigF h (pre.map (·.2.2))).1) ∧ Below n1 w3 W

set_option maxHeartbeats 16000000 in
theorem bkOf_in (A : Option Addr) (l : List UInt8) (c : Nat) (size : Int) (h : Nat) (w : World) (hA : RdB w w.heap.size A l) (hc : Caps A l.length c) (hl : l.length ≤ 40000) (hh : fitN size = h) :
    CallsIn Fence.wide 5 Try.prog 16 #[.slice A l.length c, .int .i64 size] w fun e w' => ∃ B d, e = .returned (.agg (sigC h B (sigF h (blocksL l h)).1.length d (sigF h (blocksL l h)).2.1 (sigF h (blocksL l h)).2.2)) ∧ SI w 30 (.slice B (sigF h (blocksL l h)).1.length d) (sigF h (blocksL l h)).1 w' := by
  have HF := hide (show ∀ W, Calls Try.prog 67 #[.int .i64 size] W fun e w' => e = .returned (.int .i64 (h : Int)) ∧ w' = W from fun W => by have q := fit_any size W; rw [hh] at q; exact q)
  obtain ⟨o0, ho0⟩ : ∃ o, o = (Obj.cells #[.int .i64 0, .slice none 0 0, .int .i64 0, .int .u32 0, .int .u64 0, .int .u64 0] 32) := ⟨_, rfl⟩
  obtain ⟨o1, ho1⟩ : ∃ o, o = (Obj.cells #[.int .i64 h, .slice none 0 0, .int .i64 0, .int .u32 0, .int .u64 0, .int .u64 0] 32) := ⟨_, rfl⟩
  obtain ⟨o2, ho2⟩ : ∃ o, o = (Obj.cells #[.slice A l.length c] 22) := ⟨_, rfl⟩
  obtain ⟨o3, ho3⟩ : ∃ o, o = (Obj.cells #[.int .i64 h] 3) := ⟨_, rfl⟩
  have B0 := (Below.refl w.heap.size w).alloc (Nat.le_refl _) o0
  have B1 := (Below.refl (w.alloc o0).heap.size (w.alloc o0)).alloc (Nat.le_refl _) o1
  have B2 := (Below.refl ((w.alloc o0).alloc o1).heap.size ((w.alloc o0).alloc o1)).alloc (Nat.le_refl _) o2
  have B3 := (Below.refl (((w.alloc o0).alloc o1).alloc o2).heap.size (((w.alloc o0).alloc o1).alloc o2)).alloc (Nat.le_refl _) o3
  have B23 := B2.trans (B3.mono B2.size)
  have B13 := B1.trans (B23.mono B1.size)
  have r0 := (B13.block w.heap.size (by simp)).trans (World.alloc_heap_new w o0)
  have r1 := (B23.block (w.alloc o0).heap.size (by simp)).trans (World.alloc_heap_new (w.alloc o0) o1)
  have r2 := (B3.block ((w.alloc o0).alloc o1).heap.size (by simp)).trans (World.alloc_heap_new ((w.alloc o0).alloc o1) o2)
  have r3 := World.alloc_heap_new (((w.alloc o0).alloc o1).alloc o2) o3
  have BB := B0.trans (B13.mono B0.size)
  have hz := show ((((w.alloc o0).alloc o1).alloc o2).alloc o3).heap.size = w.heap.size + 1 + 1 + 1 + 1 by simp
  simp only [World.size_alloc] at r1 r2 r3
  clear B0 B1 B2 B3 B23 B13
  refine callsIn_of_wp_marks Try.func16 rfl trivial ?_ rfl
  simp only [Try.ntmps16, List.size_toArray, List.length_cons, List.length_nil, Nat.reduceAdd, Nat.reduceSub, Array.replicate_succ, Array.replicate_zero, List.push_toArray, List.append_toArray, List.nil_append, List.cons_append]
  gi_wp2_with fail
  refine ⟨trivial, (callsIn_wide.2 (HF.out _)).mono ?_⟩
  rintro e w1 ⟨rfl, rfl⟩
  gi_wp2_with fail
  refine ⟨trivial, (callsIn_wide.2 (blocks_any _ _ _ _ _)).mono ?_⟩
  rintro e w1 ⟨rfl, rfl⟩
  gi_wp2_with fail
  rw [← ho0, ← ho1, ← ho2, ← ho3]
  generalize (((w.alloc o0).alloc o1).alloc o2).alloc o3 = w3 at r0 r1 r2 r3 BB hz ⊢
  rw [ho0] at r0
  rw [ho1] at r1
  rw [ho2] at r2
  rw [ho3] at r3
  clear ho0 ho1 ho2 ho3
  have hA3 := (hA.below BB (Nat.le_refl _)).mono BB.size
  have hg := blkR_lt hA
  refine wpIn_rangeB (α := Told) rfl (by omega) (gf := 103) (lb := #[.pointer (some ⟨w.heap.size + 1 + 1, 0, none⟩), .pointer (some ⟨w.heap.size + 1 + 1 + 1, 0, none⟩)]) rfl trivial
    (enters_of Try.func103 (by kernel_rfl) rfl) (R := ToldAt) told_put (L := []) (K := (w.heap.size + 1 + 1) :: (w.heap.size + 1 + 1 + 1) :: blkR A l) (by intro j hj; simp at hj)
    (by
      intro j hj
      rcases List.mem_cons.1 hj with rfl | hj
      · omega
      · rcases List.mem_cons.1 hj with rfl | hj
        · omega
        · have := hg j hj; omega)
    (blocks_seq 4 (w.heap.size + 1 + 1) (w.heap.size + 1 + 1 + 1) A l c h w3 hA3 hc hl (by omega) (by omega) r2 r3) (fun _ => rfl)
    (fun X pre W => OfI w3 (w.heap.size + 1) h X pre W)
    (fun X c pre W => False)
    ?hI ?hIx (fun X hX => ⟨none, 0, r1, World.ownsRow_nil _ _ _ _, Below.refl _ _⟩)
    (fun x => { tmps := #[.slice A l.length c, .int .i64 size, undef, undef, .pointer (some ⟨w.heap.size, 0, none⟩), .pointer (some ⟨w.heap.size + 1, 0, none⟩), .slice x.1 x.2.2.length x.2.1, .int .i64 size, .int .i64 h,
        .agg #[.int .i64 h, .slice none 0 0, .int .i64 0, .int .u32 0, .int .u64 0, .int .u64 0], .slice A l.length c, .pointer (some ⟨w.heap.size + 1, 0, none⟩), .int .i64 h,
        .func (.func 103) #[] #[.pointer (some ⟨w.heap.size + 1 + 1, 0, none⟩), .pointer (some ⟨w.heap.size + 1 + 1 + 1, 0, none⟩)], .slice x.1 x.2.2.length x.2.1,
        undef, undef, undef, undef, undef, undef, undef, undef, undef, undef, undef, undef, undef, undef, undef, undef, undef, undef, undef], defers := [] }) ?assign ?body ?done ?stop
  case hI =>
    rintro X hX pre A2 B2 row ⟨B, d, h1, h2, h3⟩ hgr hr
    have ne : ∀ j, row = some j → w3.heap.size ≤ j ∧ j < X := fun j e => by
      rcases hr j e with q | q
      · simp at q
      · exact q
    refine ⟨B, d, (hgr.block _ (Array.getElem?_eq_some_iff.1 h1).1 (fun e => by have := ne _ e.symm; omega)).trans h1, h2.kept hgr ?_, h3.grown hgr (Nat.le_trans (by omega) h3.size) (fun r e => by have := ne _ e; omega)⟩
    cases hv : (Value.slice B (sigF h (pre.map (·.2.2))).1.length d).ownBlock with
    | none => exact .inl rfl
    | some g => exact .inr (fun e => by have q1 := (h2.lt g hv).1; have q2 := ne g e.symm; omega)
  case hIx => exact fun X c hX pre A2 B2 row h => h.elim
  case assign =>
    intro lp x W KK hK
    gi_wp2
    exact hK
  case body =>
    rintro X lp pre ⟨xa, xc, xl⟩ W hX hXW ⟨B, d, h1, h2, h3⟩ hpre hR
    have hnew : sigF h ((pre ++ [((xa, xc, xl) : Told)]).map (·.2.2)) = ofStep h (sigF h (pre.map (·.2.2))) xl := by rw [List.map_append]; exact sigF_snoc _ _ _
    have hlen : (sigF h (pre.map (·.2.2))).1.length ≤ 40000 := by
      have q1 := sigF_len h (pre.map (·.2.2))
      have q2 := (hpre.length_le)
      have q3 := blocksL_len l h
      have q4 := countN_le l.length h
      rw [List.map_append, List.length_append] at q2
      omega
    have hxl : xl.length ≤ 64 := by
      have q : xl ∈ blocksL l h := hpre.subset (by simp)
      unfold blocksL at q
      obtain ⟨k, _, rfl⟩ := List.mem_map.1 q
      exact blkL_len _ _ _
    obtain ⟨hRx, hRc⟩ := hR
    simp only at hRx hRc
    have HSg := hide (fun (W' : World) (hb : Below W.heap.size W W') => signOf_any xa xl xc W' (hRx.step hb) hRc.1 (by omega))
    have hIts : ∀ k, ItsB [] ((w.heap.size + 1 + 1) :: (w.heap.size + 1 + 1 + 1) :: blkR A l) w3.heap.size X k → k < X ∧ k ≠ w.heap.size + 1 := fun k hk => by
      rcases hk with (hk | hk) | hk
      · simp at hk
      · omega
      · rcases List.mem_cons.1 hk with rfl | hk
        · omega
        · rcases List.mem_cons.1 hk with rfl | hk
          · omega
          · have := hg k hk; omega
    generalize sigF h (pre.map (·.2.2)) = st at h1 h2 hlen hnew
    obtain ⟨bl, tl, s⟩ := st
    simp only at h1 h2 hlen
    have hlt1 := (Array.getElem?_eq_some_iff.1 h1).1
    have hs3 := h3.size
    have c0 : W.cell? ⟨w.heap.size + 1, 0, none⟩ = some (.int .i64 h) := cell_of_row _ _ _ _ _ _ h1
    have hmx : Try.prog.follows .mixedOrders = true := by kernel_rfl
    by_cases hxh : xl.length = h
    · have E0 : ((xl.length : Int) == (h : Int)) = true := by rw [beq_iff_eq]; omega
      have hst : ofStep h (bl, tl, s) xl = (bl ++ [signL xl], tl, s) := by unfold ofStep; rw [if_pos hxh]
      rw [hst] at hnew
      have HAp := hide (fun (w4 : World) (hb : Below W.drew.heap.size W.drew w4) => (show ∃ g cap w5, (Builtin.append_ #[24, 24] 24 #[.slice B bl.length d, .slice (some ⟨w4.heap.size, 0, none⟩) 1 1]).run Try.prog (w4.alloc (.cells #[.int .u32 ((signL xl).weak : Nat), .int .u64 ((signL xl).hi : Nat), .int .u64 ((signL xl).lo : Nat)] 30)) = .ok (.slice (some ⟨g, 0, none⟩) (bl.length + 1) cap) w5 ∧
          w4.cell? ⟨w.heap.size + 1, 1, none⟩ = some (.slice B bl.length d) ∧ (w4.alloc (.cells #[.int .u32 ((signL xl).weak : Nat), .int .u64 ((signL xl).hi : Nat), .int .u64 ((signL xl).lo : Nat)] 30)).cell? ⟨w.heap.size + 1, 1, none⟩ = some (.slice B bl.length d) ∧ w5.cell? ⟨w.heap.size + 1, 1, none⟩ = some (.slice B bl.length d) ∧ w5.frozen? ⟨w.heap.size + 1, 1, none⟩ = false ∧
          (Lies (ItsB [] ((w.heap.size + 1 + 1) :: (w.heap.size + 1 + 1 + 1) :: blkR A l) w3.heap.size X) W (w5.setCell ⟨w.heap.size + 1, 1, none⟩ (.slice (some ⟨g, 0, none⟩) (bl.length + 1) cap)) ∧ OfI w3 (w.heap.size + 1) h X (pre ++ [((xa, xc, xl) : Told)]) (w5.setCell ⟨w.heap.size + 1, 1, none⟩ (.slice (some ⟨g, 0, none⟩) (bl.length + 1) cap))) from by
        have hb0 : Below W.heap.size W w4 := (Below.refl W.heap.size W).drew.trans hb
        have hb1 := hb0.alloc hb0.size (Obj.cells (signL xl).cells 30)
        have ho4 := own_below h2 hb0
        obtain ⟨g, cap, w5, q1, q2, q3⟩ := append_sign w4 X B d bl (signL xl) ho4 (by have := hb0.size; omega) (by omega)
        have hor : ∀ r, (Value.slice B bl.length d).ownBlock = some r → X ≤ r := fun r e => (h2.lt r e).1
        have k4 := (hb0.block _ hlt1).trans h1
        have k4a := (hb1.block _ hlt1).trans h1
        have k5 := (q3.block (w.heap.size + 1) (Nat.lt_of_lt_of_le hlt1 hb1.size) (fun e => by have := hor _ e.symm; omega)).trans k4a
        have k6 := heap_setCell_same w5 (w.heap.size + 1) 1 _ _ (.slice (some ⟨g, 0, none⟩) (bl.length + 1) cap) k5
        have hlen1 : (bl ++ [signL xl]).length = bl.length + 1 := by simp
        have hsz6 : (w5.setCell ⟨w.heap.size + 1, 1, none⟩ (.slice (some ⟨g, 0, none⟩) (bl.length + 1) cap)).heap.size = w5.heap.size := by simp [World.setCell]
        refine ⟨g, cap, w5, q1, cell_of_row _ _ _ _ _ _ k4, cell_of_row _ _ _ _ _ _ k4a, cell_of_row _ _ _ _ _ _ k5, frozen_of_row _ _ _ _ _ k5, ⟨?_, fun k hk => ?_⟩, ?_⟩
        · rw [hsz6]; exact Nat.le_trans hb1.size q3.size
        · obtain ⟨p1, p2⟩ := hIts k hk
          have hkW : k < W.heap.size := by omega
          exact (heap_setCell_other w5 _ _ _ (by simpa using p2)).trans ((q3.block k (Nat.lt_of_lt_of_le hkW hb1.size) (fun e => by have := hor _ e.symm; omega)).trans (hb1.block k hkW))
        · unfold OfI
          rw [hnew]
          refine ⟨some ⟨g, 0, none⟩, cap, by rw [hlen1]; exact k6, by rw [hlen1]; exact own_cell2 q2 (by omega), ?_⟩
          exact Below.setCell (p := ⟨w.heap.size + 1, 1, none⟩) ((h3.trans (hb1.mono (by omega))).grown q3 (by have := hb1.size; omega) (fun r e => by have := hor r e; omega)) (Nat.le_refl _) _))
      have c1 : W.cell? ⟨w.heap.size + 1, 1, none⟩ = some (.slice B bl.length d) := cell_of_row _ _ _ _ _ _ h1
      clear h1 h2 h3 hxh hst hpre hRx hRc hnew hIts r0 r1 r2 r3 BB hz hA3 hg hlt1 hs3
      generalize signL xl = sg at HSg HAp
      obtain ⟨sw, sh, sl⟩ := sg
      simp only [Sg.cells] at HSg HAp
      gi_wp2_with fail
      refine region_round lp _ hmx (by kernel_rfl) (fun ⟨_, _, q⟩ => q) ?_
      refine wpAny_take (i := 0) (v := .pointer (some ⟨w.heap.size + 1, 1, none⟩)) rfl (by kernel_rfl) (by kernel_rfl) (by kernel_rfl) (fun _ _ _ h => h) (Or.inl ⟨by kernel_rfl, fun W => by go_simp⟩) ?_
      try simp only [Act.put, List.getElem_toArray, List.getElem_cons_zero, List.setIfInBounds_toArray, List.set_cons_zero, List.set_cons_succ]
      refine wpAny_take (i := 2) (v := .slice xa xl.length xc) rfl (by kernel_rfl) (by kernel_rfl) (by kernel_rfl) (fun _ _ _ h => h) (Or.inl ⟨by kernel_rfl, fun W => by go_simp⟩) ?_
      try simp only [Act.put, List.getElem_toArray, List.getElem_cons_succ, List.getElem_cons_zero, List.setIfInBounds_toArray, List.set_cons_zero, List.set_cons_succ]
      refine wpAny_ready (rs := [1, 3]) (by kernel_rfl) (by simp) ?_
      refine AllReady.cons rfl (fun K hK => ?_) (AllReady.cons rfl (fun K hK => ?_) AllReady.nil)
      · go_simp
        refine hK _ _ ?_
        clear hK K
        try simp only [Act.put, List.getElem_toArray, List.getElem_cons_succ, List.getElem_cons_zero, List.setIfInBounds_toArray, List.set_cons_zero, List.set_cons_succ]
        refine wpAny_ready (rs := [3]) (by kernel_rfl) (by simp) ?_
        refine AllReady.cons rfl (fun K hK => ?_) AllReady.nil
        go_simp
        refine (HSg.out _ (Below.refl W.heap.size W).drew).mono ?_
        rintro en w4 ⟨rfl, hb4⟩
        obtain ⟨g, cap, w5, hrun, k1, k2, k3, k4, hpost⟩ := HAp.out w4 hb4
        have HPost := hide hpost
        clear hpost hb4
        refine hK _ _ ?_
        clear hK K
        try simp only [Act.put, List.getElem_toArray, List.getElem_cons_succ, List.getElem_cons_zero, List.setIfInBounds_toArray, List.set_cons_zero, List.set_cons_succ]
        refine wpAny_ready (rs := [4]) (by kernel_rfl) (by simp) ?_
        refine AllReady.cons rfl (fun K hK => ?_) AllReady.nil
        go_simp
        refine hK _ _ ?_
        clear hK K
        try simp only [Act.put, List.getElem_toArray, List.getElem_cons_succ, List.getElem_cons_zero, List.setIfInBounds_toArray, List.set_cons_zero, List.set_cons_succ]
        refine wpAny_ready (rs := [5]) (by kernel_rfl) (by simp) ?_
        refine AllReady.cons rfl (fun K hK => ?_) AllReady.nil
        refine step_append_run rfl (.tmp 21) (.tmp 24) 24 rfl _ _ rfl rfl _ _ hrun ?_
        refine hK _ _ ?_
        clear hK K
        try simp only [Act.put, List.getElem_toArray, List.getElem_cons_succ, List.getElem_cons_zero, List.setIfInBounds_toArray, List.set_cons_zero, List.set_cons_succ]
        clear hrun
        refine wpAny_take (i := 6) (v := .pointer (some ⟨w.heap.size + 1, 1, none⟩)) rfl (by kernel_rfl) (by kernel_rfl) (by kernel_rfl) (fun _ _ _ h => h) (Or.inl ⟨by kernel_rfl, fun W => by go_simp⟩) ?_
        try simp only [Act.put, List.getElem_toArray, List.getElem_cons_succ, List.getElem_cons_zero, List.setIfInBounds_toArray, List.set_cons_zero, List.set_cons_succ]
        refine wpAny_ready (rs := [7]) (by kernel_rfl) (by simp) ?_
        refine AllReady.cons rfl (fun K hK => ?_) AllReady.nil
        go_simp
        refine hK _ _ ?_
        clear hK K
        try simp only [Act.put, List.getElem_toArray, List.getElem_cons_succ, List.getElem_cons_zero, List.setIfInBounds_toArray, List.set_cons_zero, List.set_cons_succ]
        refine wpAny_done (by kernel_rfl) ?_ _
        exact HPost.out
      · go_simp
        refine (HSg.out _ (Below.refl W.heap.size W).drew).mono ?_
        rintro en w4 ⟨rfl, hb4⟩
        obtain ⟨g, cap, w5, hrun, k1, k2, k3, k4, hpost⟩ := HAp.out w4 hb4
        have HPost := hide hpost
        clear hpost hb4
        refine hK _ _ ?_
        clear hK K
        try simp only [Act.put, List.getElem_toArray, List.getElem_cons_succ, List.getElem_cons_zero, List.setIfInBounds_toArray, List.set_cons_zero, List.set_cons_succ]
        refine wpAny_ready (rs := [1, 4]) (by kernel_rfl) (by simp) ?_
        refine AllReady.cons rfl (fun K hK => ?_) (AllReady.cons rfl (fun K hK => ?_) AllReady.nil)
        · go_simp
          refine hK _ _ ?_
          clear hK K
          try simp only [Act.put, List.getElem_toArray, List.getElem_cons_succ, List.getElem_cons_zero, List.setIfInBounds_toArray, List.set_cons_zero, List.set_cons_succ]
          refine wpAny_ready (rs := [4]) (by kernel_rfl) (by simp) ?_
          refine AllReady.cons rfl (fun K hK => ?_) AllReady.nil
          go_simp
          refine hK _ _ ?_
          clear hK K
          try simp only [Act.put, List.getElem_toArray, List.getElem_cons_succ, List.getElem_cons_zero, List.setIfInBounds_toArray, List.set_cons_zero, List.set_cons_succ]
          refine wpAny_ready (rs := [5]) (by kernel_rfl) (by simp) ?_
          refine AllReady.cons rfl (fun K hK => ?_) AllReady.nil
          refine step_append_run rfl (.tmp 21) (.tmp 24) 24 rfl _ _ rfl rfl _ _ hrun ?_
          refine hK _ _ ?_
          clear hK K
          try simp only [Act.put, List.getElem_toArray, List.getElem_cons_succ, List.getElem_cons_zero, List.setIfInBounds_toArray, List.set_cons_zero, List.set_cons_succ]
          clear hrun
          refine wpAny_take (i := 6) (v := .pointer (some ⟨w.heap.size + 1, 1, none⟩)) rfl (by kernel_rfl) (by kernel_rfl) (by kernel_rfl) (fun _ _ _ h => h) (Or.inl ⟨by kernel_rfl, fun W => by go_simp⟩) ?_
          try simp only [Act.put, List.getElem_toArray, List.getElem_cons_succ, List.getElem_cons_zero, List.setIfInBounds_toArray, List.set_cons_zero, List.set_cons_succ]
          refine wpAny_ready (rs := [7]) (by kernel_rfl) (by simp) ?_
          refine AllReady.cons rfl (fun K hK => ?_) AllReady.nil
          go_simp
          refine hK _ _ ?_
          clear hK K
          try simp only [Act.put, List.getElem_toArray, List.getElem_cons_succ, List.getElem_cons_zero, List.setIfInBounds_toArray, List.set_cons_zero, List.set_cons_succ]
          refine wpAny_done (by kernel_rfl) ?_ _
          exact HPost.out
        · go_simp
          refine hK _ _ ?_
          clear hK K
          try simp only [Act.put, List.getElem_toArray, List.getElem_cons_succ, List.getElem_cons_zero, List.setIfInBounds_toArray, List.set_cons_zero, List.set_cons_succ]
          refine wpAny_ready (rs := [1]) (by kernel_rfl) (by simp) ?_
          refine AllReady.cons rfl (fun K hK => ?_) AllReady.nil
          go_simp
          refine hK _ _ ?_
          clear hK K
          try simp only [Act.put, List.getElem_toArray, List.getElem_cons_succ, List.getElem_cons_zero, List.setIfInBounds_toArray, List.set_cons_zero, List.set_cons_succ]
          refine wpAny_ready (rs := [5]) (by kernel_rfl) (by simp) ?_
          refine AllReady.cons rfl (fun K hK => ?_) AllReady.nil
          refine step_append_run rfl (.tmp 21) (.tmp 24) 24 rfl _ _ rfl rfl _ _ hrun ?_
          refine hK _ _ ?_
          clear hK K
          try simp only [Act.put, List.getElem_toArray, List.getElem_cons_succ, List.getElem_cons_zero, List.setIfInBounds_toArray, List.set_cons_zero, List.set_cons_succ]
          clear hrun
          refine wpAny_take (i := 6) (v := .pointer (some ⟨w.heap.size + 1, 1, none⟩)) rfl (by kernel_rfl) (by kernel_rfl) (by kernel_rfl) (fun _ _ _ h => h) (Or.inl ⟨by kernel_rfl, fun W => by go_simp⟩) ?_
          try simp only [Act.put, List.getElem_toArray, List.getElem_cons_succ, List.getElem_cons_zero, List.setIfInBounds_toArray, List.set_cons_zero, List.set_cons_succ]
          refine wpAny_ready (rs := [7]) (by kernel_rfl) (by simp) ?_
          refine AllReady.cons rfl (fun K hK => ?_) AllReady.nil
          go_simp
          refine hK _ _ ?_
          clear hK K
          try simp only [Act.put, List.getElem_toArray, List.getElem_cons_succ, List.getElem_cons_zero, List.setIfInBounds_toArray, List.set_cons_zero, List.set_cons_succ]
          refine wpAny_done (by kernel_rfl) ?_ _
          exact HPost.out
    · have E0 : ((xl.length : Int) == (h : Int)) = false := by rw [beq_eq_false_iff_ne]; omega
      have hst : ofStep h (bl, tl, s) xl = (bl, xl.length, signL xl) := by unfold ofStep; rw [if_neg hxh]
      rw [hst] at hnew
      obtain ⟨tw, th, tlo⟩ := s
      have hnew2 := hnew
      generalize hsg : signL xl = sg at HSg hnew2
      obtain ⟨sw, sh, sl⟩ := sg
      simp only [Sg.cells] at HSg
      have HFin := hide (fun (w4 : World) (hb : Below W.heap.size W w4) => (show (w4.cell? ⟨w.heap.size + 1, 2, none⟩ = some (.int .i64 (tl : Nat)) ∧ w4.cell? ⟨w.heap.size + 1, 3, none⟩ = some (.int .u32 (tw : Nat)) ∧ w4.cell? ⟨w.heap.size + 1, 4, none⟩ = some (.int .u64 (th : Nat)) ∧ w4.cell? ⟨w.heap.size + 1, 5, none⟩ = some (.int .u64 (tlo : Nat))) ∧
          (∀ j, w4.frozen? ⟨w.heap.size + 1, j, none⟩ = false) ∧
          (Lies (ItsB [] ((w.heap.size + 1 + 1) :: (w.heap.size + 1 + 1 + 1) :: blkR A l) w3.heap.size X) W ((((w4.setCell ⟨w.heap.size + 1, 2, none⟩ (.int .i64 xl.length)).setCell ⟨w.heap.size + 1, 3, none⟩ (.int .u32 (sw : Nat))).setCell ⟨w.heap.size + 1, 4, none⟩ (.int .u64 (sh : Nat))).setCell ⟨w.heap.size + 1, 5, none⟩ (.int .u64 (sl : Nat))) ∧
            OfI w3 (w.heap.size + 1) h X (pre ++ [((xa, xc, xl) : Told)]) ((((w4.setCell ⟨w.heap.size + 1, 2, none⟩ (.int .i64 xl.length)).setCell ⟨w.heap.size + 1, 3, none⟩ (.int .u32 (sw : Nat))).setCell ⟨w.heap.size + 1, 4, none⟩ (.int .u64 (sh : Nat))).setCell ⟨w.heap.size + 1, 5, none⟩ (.int .u64 (sl : Nat)))) from by
        have ho4 := own_below h2 hb
        have k4 := (hb.block _ hlt1).trans h1
        have k6 := heap_setCell_same _ (w.heap.size + 1) 5 _ _ (.int .u64 (sl : Nat)) (heap_setCell_same _ (w.heap.size + 1) 4 _ _ (.int .u64 (sh : Nat)) (heap_setCell_same _ (w.heap.size + 1) 3 _ _ (.int .u32 (sw : Nat)) (heap_setCell_same w4 (w.heap.size + 1) 2 _ _ (.int .i64 xl.length) k4)))
        refine ⟨⟨cell_of_row _ _ _ _ _ _ k4, cell_of_row _ _ _ _ _ _ k4, cell_of_row _ _ _ _ _ _ k4, cell_of_row _ _ _ _ _ _ k4⟩, fun j => frozen_of_row _ _ _ _ _ k4, ⟨by simp [World.setCell]; exact hb.size, fun k hk => ?_⟩, ?_⟩
        · obtain ⟨p1, p2⟩ := hIts k hk
          have hn : ∀ (U : World) (j : Nat) (v : Value), (U.setCell ⟨w.heap.size + 1, j, none⟩ v).heap[k]? = U.heap[k]? := fun U j v => heap_setCell_other _ _ _ _ (by simpa using p2)
          rw [hn, hn, hn, hn]
          exact hb.block k (by omega)
        · unfold OfI
          rw [hnew2]
          refine ⟨B, d, k6, own_cell2 (own_cell2 (own_cell2 (own_cell2 ho4 (by omega)) (by omega)) (by omega)) (by omega), ?_⟩
          exact Below.setCell (p := ⟨w.heap.size + 1, 5, none⟩) (Below.setCell (p := ⟨w.heap.size + 1, 4, none⟩) (Below.setCell (p := ⟨w.heap.size + 1, 3, none⟩) (Below.setCell (p := ⟨w.heap.size + 1, 2, none⟩) (h3.trans (hb.mono (by omega))) (Nat.le_refl _) _) (Nat.le_refl _) _) (Nat.le_refl _) _) (Nat.le_refl _) _))
      clear h1 h2 h3 hxh hst hpre hRx hRc hnew hnew2 hsg hIts r0 r1 r2 r3 BB hz hA3 hg hlt1 hs3
      gi_wp2_with fail
      refine ⟨trivial, (CallsIn.inRound lp (callsIn_wide.2 (HSg.out _ (Below.refl W.heap.size W)))).mono ?_⟩
      rintro e w4 ⟨rfl, hb4⟩
      obtain ⟨⟨k2, k3, k4, k5⟩, kf, hpost⟩ := HFin.out w4 hb4
      have f2 := kf 2
      have f3 := kf 3
      have f4 := kf 4
      have f5 := kf 5
      have HPost := hide hpost
      clear kf hpost hb4
      gi_wp2_with fail
      exact HPost.out
  case done =>
    rintro X D xs W hX hD hDX hS ⟨B, d, h1, h2, h3⟩ hK
    rw [hS] at h1 h2
    obtain ⟨st, hst⟩ : ∃ st, st = sigF h (blocksL l h) := ⟨_, rfl⟩
    rw [← hst] at h1 h2
    obtain ⟨bl, tl, s⟩ := st
    obtain ⟨sw, sh, sl⟩ := s
    simp only at h1 h2
    have HM := hide hst.symm
    have q0 := (h3.block w.heap.size (by omega)).trans r0
    have j0 : W.cell? ⟨w.heap.size + 1, 0, none⟩ = some (.int .i64 h) := cell_of_row _ _ _ _ _ _ h1
    have y0 : W.cell? ⟨w.heap.size, 0, none⟩ = some (.int .i64 0) := cell_of_row _ _ _ _ _ _ q0
    have z0 : W.frozen? ⟨w.heap.size, 0, none⟩ = false := frozen_of_row _ _ _ _ _ q0
    have j1 : W.cell? ⟨w.heap.size + 1, 1, none⟩ = some (.slice B bl.length d) := cell_of_row _ _ _ _ _ _ h1
    have y1 : W.cell? ⟨w.heap.size, 1, none⟩ = some (.slice none 0 0) := cell_of_row _ _ _ _ _ _ q0
    have z1 : W.frozen? ⟨w.heap.size, 1, none⟩ = false := frozen_of_row _ _ _ _ _ q0
    have j2 : W.cell? ⟨w.heap.size + 1, 2, none⟩ = some (.int .i64 (tl : Nat)) := cell_of_row _ _ _ _ _ _ h1
    have y2 : W.cell? ⟨w.heap.size, 2, none⟩ = some (.int .i64 0) := cell_of_row _ _ _ _ _ _ q0
    have z2 : W.frozen? ⟨w.heap.size, 2, none⟩ = false := frozen_of_row _ _ _ _ _ q0
    have j3 : W.cell? ⟨w.heap.size + 1, 3, none⟩ = some (.int .u32 (sw : Nat)) := cell_of_row _ _ _ _ _ _ h1
    have y3 : W.cell? ⟨w.heap.size, 3, none⟩ = some (.int .u32 0) := cell_of_row _ _ _ _ _ _ q0
    have z3 : W.frozen? ⟨w.heap.size, 3, none⟩ = false := frozen_of_row _ _ _ _ _ q0
    have j4 : W.cell? ⟨w.heap.size + 1, 4, none⟩ = some (.int .u64 (sh : Nat)) := cell_of_row _ _ _ _ _ _ h1
    have y4 : W.cell? ⟨w.heap.size, 4, none⟩ = some (.int .u64 0) := cell_of_row _ _ _ _ _ _ q0
    have z4 : W.frozen? ⟨w.heap.size, 4, none⟩ = false := frozen_of_row _ _ _ _ _ q0
    have j5 : W.cell? ⟨w.heap.size + 1, 5, none⟩ = some (.int .u64 (sl : Nat)) := cell_of_row _ _ _ _ _ _ h1
    have y5 : W.cell? ⟨w.heap.size, 5, none⟩ = some (.int .u64 0) := cell_of_row _ _ _ _ _ _ q0
    have z5 : W.frozen? ⟨w.heap.size, 5, none⟩ = false := frozen_of_row _ _ _ _ _ q0
    have x0 := heap_setCell_same _ w.heap.size 0 _ _ (.int .i64 h) q0
    have x1 := heap_setCell_same _ w.heap.size 1 _ _ (.slice B bl.length d) x0
    have x2 := heap_setCell_same _ w.heap.size 2 _ _ (.int .i64 (tl : Nat)) x1
    have x3 := heap_setCell_same _ w.heap.size 3 _ _ (.int .u32 (sw : Nat)) x2
    have x4 := heap_setCell_same _ w.heap.size 4 _ _ (.int .u64 (sh : Nat)) x3
    have x5 := heap_setCell_same _ w.heap.size 5 _ _ (.int .u64 (sl : Nat)) x4
    have HX := hide (show ((((((W.setCell ⟨w.heap.size, 0, none⟩ (.int .i64 h)).setCell ⟨w.heap.size, 1, none⟩ (.slice B bl.length d)).setCell ⟨w.heap.size, 2, none⟩ (.int .i64 (tl : Nat))).setCell ⟨w.heap.size, 3, none⟩ (.int .u32 (sw : Nat))).setCell ⟨w.heap.size, 4, none⟩ (.int .u64 (sh : Nat))).setCell ⟨w.heap.size, 5, none⟩ (.int .u64 (sl : Nat))).heap[w.heap.size]? = some (.cells #[.int .i64 h, .slice B bl.length d, .int .i64 (tl : Nat), .int .u32 (sw : Nat), .int .u64 (sh : Nat), .int .u64 (sl : Nat)] 32 (0, 0)) ∧ Below w.heap.size w ((((((W.setCell ⟨w.heap.size, 0, none⟩ (.int .i64 h)).setCell ⟨w.heap.size, 1, none⟩ (.slice B bl.length d)).setCell ⟨w.heap.size, 2, none⟩ (.int .i64 (tl : Nat))).setCell ⟨w.heap.size, 3, none⟩ (.int .u32 (sw : Nat))).setCell ⟨w.heap.size, 4, none⟩ (.int .u64 (sh : Nat))).setCell ⟨w.heap.size, 5, none⟩ (.int .u64 (sl : Nat))) ∧ ((((((W.setCell ⟨w.heap.size, 0, none⟩ (.int .i64 h)).setCell ⟨w.heap.size, 1, none⟩ (.slice B bl.length d)).setCell ⟨w.heap.size, 2, none⟩ (.int .i64 (tl : Nat))).setCell ⟨w.heap.size, 3, none⟩ (.int .u32 (sw : Nat))).setCell ⟨w.heap.size, 4, none⟩ (.int .u64 (sh : Nat))).setCell ⟨w.heap.size, 5, none⟩ (.int .u64 (sl : Nat))).ownsRow X 30 3 (.slice B bl.length d) bl.length (cellsSg bl) ∧ ((((((W.setCell ⟨w.heap.size, 0, none⟩ (.int .i64 h)).setCell ⟨w.heap.size, 1, none⟩ (.slice B bl.length d)).setCell ⟨w.heap.size, 2, none⟩ (.int .i64 (tl : Nat))).setCell ⟨w.heap.size, 3, none⟩ (.int .u32 (sw : Nat))).setCell ⟨w.heap.size, 4, none⟩ (.int .u64 (sh : Nat))).setCell ⟨w.heap.size, 5, none⟩ (.int .u64 (sl : Nat))).heap[D]? = some (.deferred (some [])) from ⟨x5, (Below.setCell (p := ⟨w.heap.size, 5, none⟩) (Below.setCell (p := ⟨w.heap.size, 4, none⟩) (Below.setCell (p := ⟨w.heap.size, 3, none⟩) (Below.setCell (p := ⟨w.heap.size, 2, none⟩) (Below.setCell (p := ⟨w.heap.size, 1, none⟩) (Below.setCell (p := ⟨w.heap.size, 0, none⟩) (BB.trans (h3.mono (by omega))) (Nat.le_refl _) (.int .i64 h)) (Nat.le_refl _) (.slice B bl.length d)) (Nat.le_refl _) (.int .i64 (tl : Nat))) (Nat.le_refl _) (.int .u32 (sw : Nat))) (Nat.le_refl _) (.int .u64 (sh : Nat))) (Nat.le_refl _) (.int .u64 (sl : Nat))), (own_cell2 (j := 5) (u := (.int .u64 (sl : Nat))) (own_cell2 (j := 4) (u := (.int .u64 (sh : Nat))) (own_cell2 (j := 3) (u := (.int .u32 (sw : Nat))) (own_cell2 (j := 2) (u := (.int .i64 (tl : Nat))) (own_cell2 (j := 1) (u := (.slice B bl.length d)) (own_cell2 (j := 0) (u := (.int .i64 h)) h2 (by omega)) (by omega)) (by omega)) (by omega)) (by omega)) (by omega)), by
      have hn : ∀ (U : World) (j : Nat) (v : Value), (U.setCell ⟨w.heap.size, j, none⟩ v).heap[D]? = U.heap[D]? := fun U j v => heap_setCell_other _ _ _ _ (by show D ≠ w.heap.size; omega)
      rw [hn, hn, hn, hn, hn, hn]
      exact hK⟩)
    have hne : w.heap.size ≠ D := by omega
    have hDw : w.heap.size ≤ D := by omega
    have HDX := hide hDX
    have HXw := hide (show w.heap.size ≤ X by omega)
    clear h1 h2 h3 hK hst hS q0 x0 x1 x2 x3 x4 x5 r0 r1 r2 r3 BB hz hA3 hg
    gi_wp2_with fail
    obtain ⟨hf, hBf, hOf, kD⟩ := HX.out
    generalize ((((((W.setCell ⟨w.heap.size, 0, none⟩ (.int .i64 h)).setCell ⟨w.heap.size, 1, none⟩ (.slice B bl.length d)).setCell ⟨w.heap.size, 2, none⟩ (.int .i64 (tl : Nat))).setCell ⟨w.heap.size, 3, none⟩ (.int .u32 (sw : Nat))).setCell ⟨w.heap.size, 4, none⟩ (.int .u64 (sh : Nat))).setCell ⟨w.heap.size, 5, none⟩ (.int .u64 (sl : Nat))) = W9 at hf hBf hOf kD ⊢
    refine ⟨by simp, .inl ⟨_, _, rfl, run_takeDeferred kD, ?_⟩⟩
    have hp := (World.putObj_heap_other (w := W9) (o := .deferred none) hne).trans hf
    have t0 : (W9.putObj D (.deferred none)).cell? ⟨w.heap.size, 0, none⟩ = some (.int .i64 h) := cell_of_row _ _ _ _ _ _ hp
    have t1 : (W9.putObj D (.deferred none)).cell? ⟨w.heap.size, 1, none⟩ = some (.slice B bl.length d) := cell_of_row _ _ _ _ _ _ hp
    have t2 : (W9.putObj D (.deferred none)).cell? ⟨w.heap.size, 2, none⟩ = some (.int .i64 (tl : Nat)) := cell_of_row _ _ _ _ _ _ hp
    have t3 : (W9.putObj D (.deferred none)).cell? ⟨w.heap.size, 3, none⟩ = some (.int .u32 (sw : Nat)) := cell_of_row _ _ _ _ _ _ hp
    have t4 : (W9.putObj D (.deferred none)).cell? ⟨w.heap.size, 4, none⟩ = some (.int .u64 (sh : Nat)) := cell_of_row _ _ _ _ _ _ hp
    have t5 : (W9.putObj D (.deferred none)).cell? ⟨w.heap.size, 5, none⟩ = some (.int .u64 (sl : Nat)) := cell_of_row _ _ _ _ _ _ hp
    refine ⟨.agg #[.int .i64 h, .slice B bl.length d, .int .i64 (tl : Nat), .int .u32 (sw : Nat), .int .u64 (sh : Nat), .int .u64 (sl : Nat)], by simp [results, Try.results16, go_sem, t0, t1, t2, t3, t4, t5], ?_⟩
    refine ⟨B, d, by rw [HM.out]; rfl, ?_⟩
    rw [HM.out]
    refine ⟨hBf.grown (grownBy_putObj' _ D (.deferred none)) hBf.size (fun r e => by cases e; omega), ?_⟩
    refine ownsRow_lowerSg (hOf.kept (grownBy_putObj' _ D (.deferred none)) ?_) HXw.out
    cases hv : (Value.slice B bl.length d).ownBlock with
    | none => exact .inl rfl
    | some g => exact .inr (fun e => by have q1 := (hOf.lt g hv).1; have q2 := HDX.out; cases e; omega)
  case stop => exact fun X D c pre W hX hD hDX hS h => h.elim
theorem bkOf_any (A : Option Addr) (l : List UInt8) (c : Nat) (size : Int) (h : Nat) (w : World) (hA : RdB w w.heap.size A l) (hc : Caps A l.length c) (hl : l.length ≤ 40000) (hh : fitN size = h) :
    Calls Try.prog 16 #[.slice A l.length c, .int .i64 size] w fun e w' => ∃ B d, e = .returned (.agg (sigC h B (sigF h (blocksL l h)).1.length d (sigF h (blocksL l h)).2.1 (sigF h (blocksL l h)).2.2)) ∧ SI w 30 (.slice B (sigF h (blocksL l h)).1.length d) (sigF h (blocksL l h)).1 w' :=
  callsIn_wide.1 (bkOf_in A l c size h w hA hc hl hh)
end Go.Proofs.Ytobgbheodlpclaa
