/-
  The law BlockGets: its walk.
-/
import Derived.Test.YtobgbheodlpclaaBkRefGet
import Derived.Test.YtobgbheodlpclaaAutoBkAwake
import Derived.Test.YtobgbheodlpclaaBkFrom
import Derived.Test.YtobgbheodlpclaaBkRefSame
import Derived.Test.YtobgbheodlpclaaHeldOp
import Derived.Deep.RegionHeld3
namespace Go.Proofs.Ytobgbheodlpclaa
open Go.RowKit Go.Shelf
set_option maxRecDepth 100000

theorem refBkGet_any (l : List UInt8) (w : World) (hl : l.length ≤ 100000) :
    Calls Try.prog 33 #[.string (ofL l)] w fun e w' => ∃ B d, e = .returned (.tuple #[.agg (sigC (getSig l).1.size B (getSig l).1.blocks.length d (getSig l).1.tail (getSig l).1.last), .int .i64 ((getSig l).2 : Nat)]) ∧ SI w 37 (.slice B (getSig l).1.blocks.length d) (getSig l).1.blocks w' :=
  refBkGet_in l w hl (sgs1 l).1 (sgs1 l).2.2 (sgs2 l).1 (sgs2 l).2.2 (sgs3 l).2.2 (sgs4 l).1 (sgs4 l).2.2 (sgs5 l).2.2 (sgs1 l).2.1 (sgs2 l).2.1 (sgs3 l).2.1 (sgs4 l).2.1 (sgs5 l).2.1 (sgs3 l).1 (sgs5 l).1 rfl rfl rfl rfl rfl (getSig l) rfl
theorem halfN_lt (l : List UInt8) : halfN l < 18446744073709551616 := by
  have := halfF_lt l 8
  unfold halfN
  exact this
theorem readSg_fits (l : List UInt8) (e : Nat) : (readSg l e).1.fits := by
  have h1 := readN_le l e 4294967295
  refine ⟨by show (readN l e 4294967295).1 < _; omega, ?_, ?_⟩
  · show (readS _ _).1.1 < _
    unfold readS
    split
    · show (0 : Nat) < _; decide
    · split
      · show (0 : Nat) < _; decide
      · exact halfN_lt _
  · show (readS _ _).1.2 < _
    unfold readS
    split
    · show (0 : Nat) < _; decide
    · split
      · show (0 : Nat) < _; decide
      · exact halfN_lt _
theorem readSgs_fits : ∀ (n : Nat) (o : List Sg) (l : List UInt8) (e : Nat), (∀ x ∈ o, x.fits) → ∀ x ∈ (readSgs n o l e).1, x.fits
  | 0, o, l, e, h => h
  | n + 1, o, l, e, h => by
    unfold readSgs
    refine readSgs_fits n _ _ _ (fun x hx => ?_)
    rcases List.mem_append.1 hx with hx | hx
    · exact h x hx
    · rw [List.mem_singleton.1 hx]; exact readSg_fits l e
theorem getSig_facts (l : List UInt8) : (getSig l).1.blocks.length ≤ 4096 ∧ (∀ x ∈ (getSig l).1.blocks, x.fits) ∧ (getSig l).1.last.fits ∧ ((getSig l).2 = 0 → putS ((getSig l).1.size : Nat) (getSig l).1.blocks ((getSig l).1.tail : Nat) (getSig l).1.last = l) := by
  have hz : sigZero.blocks.length ≤ 4096 ∧ (∀ x ∈ sigZero.blocks, x.fits) ∧ sigZero.last.fits := ⟨by show (0 : Nat) ≤ 4096; decide, ⟨fun x hx => absurd hx (List.not_mem_nil), show (⟨0, 0, 0⟩ : Sg).fits from ⟨by decide, by decide, by decide⟩⟩⟩
  have ho := readSig_once l
  have h1 : (readSig l).1.blocks.length ≤ 4096 := by
    have a := (readSgs_len (sgs2 l).1 [] (sgs2 l).2.1 (sgs2 l).2.2).1
    have b : (sgs2 l).1 ≤ 4096 := readN_le _ _ 4096
    show (sgs3 l).1.length ≤ 4096
    unfold sgs3
    rw [a]
    simpa using b
  have h2 : ∀ x ∈ (readSig l).1.blocks, x.fits := readSgs_fits _ _ _ _ (fun x hx => by cases hx)
  have h3 : (readSig l).1.last.fits := by
    show (readLast _ _ _).1.fits
    unfold readLast
    split
    · exact readSg_fits _ _
    · exact show (⟨0, 0, 0⟩ : Sg).fits from ⟨by decide, by decide, by decide⟩
  unfold getSig
  generalize readSig l = r at ho h1 h2 h3
  obtain ⟨⟨z, bl, tl, s⟩, l5, e5⟩ := r
  simp only at ho h1 h2 h3 ⊢
  by_cases hee : endN e5 l5 = 0
  · rw [if_neg (by simp [hee])]
    by_cases hr : rightS (z : Nat) bl.length (tl : Nat) s = true
    · rw [if_pos hr]
      refine ⟨h1, h2, h3, fun _ => ?_⟩
      show putS (z : Nat) bl (tl : Nat) s = l
      have he : e5 = 0 := by
        by_cases q : e5 = 0
        · exact q
        · unfold endN at hee; rw [if_pos q] at hee; exact absurd hee q
      have hl5 : l5 = [] := by
        unfold endN at hee
        rw [if_neg (by simp [he])] at hee
        by_cases q : l5.length = 0
        · exact List.length_eq_zero_iff.1 q
        · rw [if_neg q] at hee; cases hee
      have hq := (ho he).1
      rw [hl5, List.append_nil] at hq
      rw [putS_by _ _ _ _ hr]
      exact hq.symm
    · rw [if_neg hr]
      exact ⟨hz.1, hz.2.1, hz.2.2, fun q => by cases q⟩
  · rw [if_pos hee]
    exact ⟨hz.1, hz.2.1, hz.2.2, fun q => absurd q hee⟩

theorem readN_er15 (l : List UInt8) (e m : Nat) (h : e ≤ 5) : (readN l e m).2.2 ≤ 5 := by
  have := (numL_facts l).2.2
  unfold readN
  split
  · exact h
  · split
    · show (numL l).2.2 ≤ 5; omega
    · split
      · exact Nat.le_refl _
      · exact Nat.zero_le _
theorem readSg_er (l : List UInt8) (e : Nat) (h : e ≤ 5) : (readSg l e).2.2 ≤ 5 := by
  have h1 := readN_er15 l e 4294967295 h
  show (readS _ (readN l e 4294967295).2.2).2.2 ≤ 5
  unfold readS
  split
  · exact h1
  · split
    · show 4 ≤ 5; decide
    · exact Nat.zero_le _
theorem readSgs_er : ∀ (n : Nat) (o : List Sg) (l : List UInt8) (e : Nat), e ≤ 5 → (readSgs n o l e).2.2 ≤ 5
  | 0, _, _, _, h => h
  | n + 1, o, l, e, h => by
    unfold readSgs
    exact readSgs_er n _ _ _ (readSg_er l e h)
theorem getSig_er (l : List UInt8) : (getSig l).2 ≤ 5 := by
  have h1 : (sgs1 l).2.2 ≤ 5 := readN_er15 l 0 64 (by decide)
  have h2 : (sgs2 l).2.2 ≤ 5 := readN_er15 _ _ 4096 h1
  have h3 : (sgs3 l).2.2 ≤ 5 := readSgs_er _ _ _ _ h2
  have h4 : (sgs4 l).2.2 ≤ 5 := readN_er15 _ _ 63 h3
  have h5 : (readSig l).2.2 ≤ 5 := by
    show (readLast _ _ _).2.2 ≤ 5
    unfold readLast
    split
    · exact readSg_er _ _ h4
    · exact h4
  unfold getSig
  split
  · show endN _ _ ≤ 5
    unfold endN
    split
    · exact h5
    · split
      · exact Nat.zero_le _
      · exact Nat.le_refl _
  · split
    · exact Nat.zero_le _
    · show 3 ≤ 5; decide

set_option maxHeartbeats 32000000 in
theorem bkGets_law (A : Option Addr) (l : List UInt8) (c : Nat) (w : World) (hR : RdB w w.heap.size A l) (hc : Caps A l.length c) :
    Calls Try.prog 5 #[.slice A l.length c] w fun e w' => e = .returned (.bool true) ∧ Below w.heap.size w w' := by
  by_cases h5 : (500 : Int) < l.length
  · go_enter Try.func5, Try.ntmps5
    clear hR hc
    go_wp2_with fail
    refine (bkAwake_any w).mono ?_
    rintro e w1 ⟨rfl, hb⟩
    go_wp2_with fail
    exact bodyPost_ret (results_tmp rfl _ _ _) rfl ⟨rfl, hb⟩
  have hl : l.length ≤ 500 := by omega
  have HG := hide (bkGet_any A l c w hR hc (by omega))
  have HRf := hide (fun W => refBkGet_any l W (by omega))
  obtain ⟨g1, g2, g3, g4⟩ := getSig_facts l
  have g5 := getSig_er l
  obtain ⟨g, hg⟩ : ∃ g, g = getSig l := ⟨_, rfl⟩
  rw [← hg] at HG HRf g1 g2 g3 g4 g5
  obtain ⟨⟨z, bl, tl, s⟩, er⟩ := g
  simp only at HG HRf g1 g2 g3 g4 g5
  have HPt := hide (fun (W : World) (B : Option Addr) (d : Nat) (q : RdSg W W.heap.size B bl) => bkPut_any (z : Nat) (tl : Nat) B bl d s W q g1 g2 g3)
  have HFr := hide (fun (W : World) (B : Option Addr) (d : Nat) (q : RdSg W W.heap.size B bl) => bkFrom_any (z : Nat) (tl : Nat) B bl d s W q (by omega))
  have HSm := hide (fun (W : World) (B E : Option Addr) (d f : Nat) (q1 : RdSg W W.heap.size B bl) (q2 : RdSg W W.heap.size E bl) => (show Calls Try.prog 20 #[.agg (sigC (z : Nat) B bl.length d (tl : Nat) s), .agg (sigC (z : Nat) E bl.length f (tl : Nat) s)] W fun e w' => e = .returned (.bool true) ∧ Below W.heap.size W w' from by
    have q := refSigSame_any (z : Nat) (z : Nat) (tl : Nat) (tl : Nat) B E bl bl d f s s W q1 q2 (by omega)
    rw [(sameSig_iff _ _ _ _ bl bl s s).2 ⟨rfl, rfl, rfl, rfl⟩] at q
    exact q))
  have HRl := hide hR
  obtain ⟨sw, sh, slo⟩ := s
  simp only [sigC] at HG HRf HPt HFr HSm
  obtain ⟨eI, hE⟩ : ∃ q : Int, q = (er : Nat) := ⟨_, rfl⟩
  rw [← hE] at HG HRf
  have HeI := hide hE
  clear hg hR hc g2 g3 hE
  go_enter Try.func5, Try.ntmps5
  go_wp2_with fail
  refine HG.out.mono ?_
  rintro en w1 ⟨B, d, rfl, hI⟩
  have hb2 := (Below.refl w1.heap.size w1).alloc (Nat.le_refl _) (Obj.cells #[.int .i64 (z : Nat), .slice B bl.length d, .int .i64 (tl : Nat), .int .u32 (sw : Nat), .int .u64 (sh : Nat), .int .u64 (slo : Nat)] 32)
  have HRow3 := hide (World.alloc_heap_new w1 (Obj.cells #[.int .i64 (z : Nat), .slice B bl.length d, .int .i64 (tl : Nat), .int .u32 (sw : Nat), .int .u64 (sh : Nat), .int .u64 (slo : Nat)] 32))
  have hB2 := hI.below.trans (hb2.mono hI.below.size)
  have hD2 := (RdSg.own hI.own).step hb2
  have hcv := conv_any (HRl.out.step hB2) c
  have HB2 := hide hB2
  have HD2 := hide hD2
  clear hI hb2 hB2 hD2 HG
  go_wp2_with fail
  generalize w1.alloc (Obj.cells #[.int .i64 (z : Nat), .slice B bl.length d, .int .i64 (tl : Nat), .int .u32 (sw : Nat), .int .u64 (sh : Nat), .int .u64 (slo : Nat)] 32) = w2 at HRow3 HB2 HD2 hcv ⊢
  refine (HRf.out w2).mono ?_
  rintro en w3 ⟨E, f, rfl, hI⟩
  have hb4 := (Below.refl w3.heap.size w3).alloc (Nat.le_refl _) (Obj.cells #[.int .i64 (z : Nat), .slice E bl.length f, .int .i64 (tl : Nat), .int .u32 (sw : Nat), .int .u64 (sh : Nat), .int .u64 (slo : Nat)] 42)
  have HRow5 := hide (World.alloc_heap_new w3 (Obj.cells #[.int .i64 (z : Nat), .slice E bl.length f, .int .i64 (tl : Nat), .int .u32 (sw : Nat), .int .u64 (sh : Nat), .int .u64 (slo : Nat)] 42))
  have hb24 := hI.below.trans (hb4.mono hI.below.size)
  have HB4 := hide (HB2.out.trans (hb24.mono HB2.out.size))
  have HRow4 := hide ((hb24.block _ (Array.getElem?_eq_some_iff.1 HRow3.out).1).trans HRow3.out)
  have HD4 := hide (HD2.out.step hb24)
  have HE4 := hide ((RdSg.own hI.own).step hb4)
  clear hI hb4 hb24 HRf HRow3 HB2 HD2 hcv
  go_wp2_with fail
  generalize w3.alloc (Obj.cells #[.int .i64 (z : Nat), .slice E bl.length f, .int .i64 (tl : Nat), .int .u32 (sw : Nat), .int .u64 (sh : Nat), .int .u64 (slo : Nat)] 42) = w4 at HRow5 HB4 HRow4 HD4 HE4 ⊢
  obtain ⟨X, hX⟩ : ∃ X, X = Value.slice A l.length c := ⟨_, rfl⟩
  obtain ⟨sl, hsl⟩ : ∃ sl, sl = ofL l := ⟨_, rfl⟩
  have HSB := hide (fun (W : World) (q : Below w4.heap.size w4 W) => (⟨q, by rw [hX, hsl]; exact conv_any (HRl.out.step (HB4.out.trans (q.mono HB4.out.size))) c, cell_of_row _ _ 0 _ _ _ ((q.block _ (Array.getElem?_eq_some_iff.1 HRow4.out).1).trans HRow4.out), cell_of_row _ _ 1 _ _ _ ((q.block _ (Array.getElem?_eq_some_iff.1 HRow4.out).1).trans HRow4.out), cell_of_row _ _ 2 _ _ _ ((q.block _ (Array.getElem?_eq_some_iff.1 HRow4.out).1).trans HRow4.out), cell_of_row _ _ 3 _ _ _ ((q.block _ (Array.getElem?_eq_some_iff.1 HRow4.out).1).trans HRow4.out), cell_of_row _ _ 4 _ _ _ ((q.block _ (Array.getElem?_eq_some_iff.1 HRow4.out).1).trans HRow4.out), cell_of_row _ _ 5 _ _ _ ((q.block _ (Array.getElem?_eq_some_iff.1 HRow4.out).1).trans HRow4.out), cell_of_row _ _ 0 _ _ _ ((q.block _ (Array.getElem?_eq_some_iff.1 HRow5.out).1).trans HRow5.out), cell_of_row _ _ 1 _ _ _ ((q.block _ (Array.getElem?_eq_some_iff.1 HRow5.out).1).trans HRow5.out), cell_of_row _ _ 2 _ _ _ ((q.block _ (Array.getElem?_eq_some_iff.1 HRow5.out).1).trans HRow5.out), cell_of_row _ _ 3 _ _ _ ((q.block _ (Array.getElem?_eq_some_iff.1 HRow5.out).1).trans HRow5.out), cell_of_row _ _ 4 _ _ _ ((q.block _ (Array.getElem?_eq_some_iff.1 HRow5.out).1).trans HRow5.out), cell_of_row _ _ 5 _ _ _ ((q.block _ (Array.getElem?_eq_some_iff.1 HRow5.out).1).trans HRow5.out)⟩ : Below w4.heap.size w4 W ∧ (convert 22 9 X).run Try.prog W = .ok (.string sl) W ∧ W.cell? ⟨w1.heap.size, 0, none⟩ = some (.int .i64 (z : Nat)) ∧ W.cell? ⟨w1.heap.size, 1, none⟩ = some (.slice B bl.length d) ∧ W.cell? ⟨w1.heap.size, 2, none⟩ = some (.int .i64 (tl : Nat)) ∧ W.cell? ⟨w1.heap.size, 3, none⟩ = some (.int .u32 (sw : Nat)) ∧ W.cell? ⟨w1.heap.size, 4, none⟩ = some (.int .u64 (sh : Nat)) ∧ W.cell? ⟨w1.heap.size, 5, none⟩ = some (.int .u64 (slo : Nat)) ∧ W.cell? ⟨w3.heap.size, 0, none⟩ = some (.int .i64 (z : Nat)) ∧ W.cell? ⟨w3.heap.size, 1, none⟩ = some (.slice E bl.length f) ∧ W.cell? ⟨w3.heap.size, 2, none⟩ = some (.int .i64 (tl : Nat)) ∧ W.cell? ⟨w3.heap.size, 3, none⟩ = some (.int .u32 (sw : Nat)) ∧ W.cell? ⟨w3.heap.size, 4, none⟩ = some (.int .u64 (sh : Nat)) ∧ W.cell? ⟨w3.heap.size, 5, none⟩ = some (.int .u64 (slo : Nat))))
  have HD := hide (Below.refl w4.heap.size w4).drew
  have hSd := (HSB.out _ HD.out).2
  have HTr := hide (fun (W W2 : World) (q1 : Below w4.heap.size w4 W) (q2 : Below W.heap.size W W2) => q1.trans (q2.mono q1.size))
  have HDD := hide (fun (W : World) (q : Below w4.heap.size w4 W) => HD4.out.step q)
  have HEE := hide (fun (W : World) (q : Below w4.heap.size w4 W) => HE4.out.step q)
  have HBf := hide (fun (W : World) (q : Below w4.heap.size w4 W) => HB4.out.trans (q.mono HB4.out.size))
  rw [← hX]
  clear HD4 HE4 HB4 HRow4 HRow5 HRl hX
  by_cases he : er = 0
  · have hput := g4 he
    have hE0 : eI = 0 := by have := HeI.out; omega
    subst hE0
    clear HeI he g5
    have HPt2 := hide (fun (W : World) (q : Below w4.heap.size w4 W) => (show Calls Try.prog 28 #[.agg #[.int .i64 (z : Nat), .slice B bl.length d, .int .i64 (tl : Nat), .int .u32 (sw : Nat), .int .u64 (sh : Nat), .int .u64 (slo : Nat)]] W fun e w' => (∃ Y, e = .returned Y ∧ (convert 22 9 Y).run Try.prog w' = .ok (.string sl) w') ∧ Below W.heap.size W w' from by
      refine (HPt.out W B d (HDD.out W q)).mono ?_
      rintro e w' ⟨G, g, h1, _, h3, h4⟩
      rw [hput] at h1 h3
      exact ⟨⟨_, h1, by rw [hsl]; exact conv_any h3 g⟩, h4⟩))
    clear HPt hput g4 hsl
    go_wp2_with fail
    go_region_held (fun W => Below w4.heap.size w4 W ∧ (convert 22 9 X).run Try.prog W = .ok (.string sl) W ∧ W.cell? ⟨w1.heap.size, 0, none⟩ = some (.int .i64 (z : Nat)) ∧ W.cell? ⟨w1.heap.size, 1, none⟩ = some (.slice B bl.length d) ∧ W.cell? ⟨w1.heap.size, 2, none⟩ = some (.int .i64 (tl : Nat)) ∧ W.cell? ⟨w1.heap.size, 3, none⟩ = some (.int .u32 (sw : Nat)) ∧ W.cell? ⟨w1.heap.size, 4, none⟩ = some (.int .u64 (sh : Nat)) ∧ W.cell? ⟨w1.heap.size, 5, none⟩ = some (.int .u64 (slo : Nat)) ∧ W.cell? ⟨w3.heap.size, 0, none⟩ = some (.int .i64 (z : Nat)) ∧ W.cell? ⟨w3.heap.size, 1, none⟩ = some (.slice E bl.length f) ∧ W.cell? ⟨w3.heap.size, 2, none⟩ = some (.int .i64 (tl : Nat)) ∧ W.cell? ⟨w3.heap.size, 3, none⟩ = some (.int .u32 (sw : Nat)) ∧ W.cell? ⟨w3.heap.size, 4, none⟩ = some (.int .u64 (sh : Nat)) ∧ W.cell? ⟨w3.heap.size, 5, none⟩ = some (.int .u64 (slo : Nat)))
      (first
        | exact HSB.out _ hbk2
        | exact ⟨HD.out, hSd⟩)
      (first
        | (go_at_call 15; refine (bkAwake_any _).mono ?_; rintro en wk ⟨rfl, hbk⟩; have hbk2 := HTr.out _ _ (And.left (by assumption)) hbk)
        | (go_at_call 21; refine (HFr.out _ B d (HDD.out _ (And.left (by assumption)))).mono ?_; rintro en wk ⟨B4, d4, rfl, hI⟩; have hbk := hI.below; have hRd4 := RdSg.own hI.own; have hbk2 := HTr.out _ _ (And.left (by assumption)) hbk)
        | (go_at_call 20; refine (HSm.out _ B4 E d4 f hRd4 (HEE.out _ (And.left (by assumption)))).mono ?_; rintro en wk ⟨rfl, hbk⟩; have hbk2 := HTr.out _ _ (And.left (by assumption)) hbk)
        | (go_at_call 28; refine (HPt2.out _ (And.left (by assumption))).mono ?_; rintro en wk ⟨⟨Y, rfl, hcv2⟩, hbk⟩; have hbk2 := HTr.out _ _ (And.left (by assumption)) hbk))
    all_goals
      rename_i hSz
      have HF := hide (HBf.out _ hSz.1)
      clear hSz
      go_wp2_with fail
      exact bodyPost_ret (results_tmp rfl _ _ _) rfl ⟨rfl, HF.out⟩
  · have heN : eI ≠ 0 := by have := HeI.out; omega
    have E1 : (eI != 0) = true := by rw [bne_iff_ne]; omega
    have E2 : (eI == 0) = false := by rw [beq_eq_false_iff_ne]; omega
    clear HPt g4 hsl he g5 HeI
    have hS := HSB.out _ HD.out
    go_wp2_with fail
    refine wp_region_noPanic ?_
    refine wp_region_held (by kernel_rfl) (S := fun W => Below w4.heap.size w4 W ∧ (convert 22 9 X).run Try.prog W = .ok (.string sl) W ∧ W.cell? ⟨w1.heap.size, 0, none⟩ = some (.int .i64 (z : Nat)) ∧ W.cell? ⟨w1.heap.size, 1, none⟩ = some (.slice B bl.length d) ∧ W.cell? ⟨w1.heap.size, 2, none⟩ = some (.int .i64 (tl : Nat)) ∧ W.cell? ⟨w1.heap.size, 3, none⟩ = some (.int .u32 (sw : Nat)) ∧ W.cell? ⟨w1.heap.size, 4, none⟩ = some (.int .u64 (sh : Nat)) ∧ W.cell? ⟨w1.heap.size, 5, none⟩ = some (.int .u64 (slo : Nat)) ∧ W.cell? ⟨w3.heap.size, 0, none⟩ = some (.int .i64 (z : Nat)) ∧ W.cell? ⟨w3.heap.size, 1, none⟩ = some (.slice E bl.length f) ∧ W.cell? ⟨w3.heap.size, 2, none⟩ = some (.int .i64 (tl : Nat)) ∧ W.cell? ⟨w3.heap.size, 3, none⟩ = some (.int .u32 (sw : Nat)) ∧ W.cell? ⟨w3.heap.size, 4, none⟩ = some (.int .u64 (sh : Nat)) ∧ W.cell? ⟨w3.heap.size, 5, none⟩ = some (.int .u64 (slo : Nat))) ?_
    change wpAnyH _ _ _ _ _ _ _ _ (World.drew _)
    refine held_one (i := 0) (by kernel_rfl) rfl (fun K hK => ?_)
    go_simp
    refine (bkAwake_any _).mono ?_
    rintro en wk0 ⟨rfl, hbk⟩
    have hS := HSB.out _ (HTr.out _ _ hS.1 hbk)
    clear hbk
    refine hK _ _ hS ?_
    clear hK K
    try simp only [Act.put, List.getElem_toArray, List.getElem_cons_succ, List.getElem_cons_zero, List.setIfInBounds_toArray, List.set_cons_zero, List.set_cons_succ]
    refine wpAnyH_take (i := 1) (v := .bool true) rfl (by kernel_rfl) (by kernel_rfl) (by kernel_rfl) (fun _ _ _ h => h) (Or.inl ⟨by kernel_rfl, fun W hT => (by obtain ⟨_, s0, s1, s2, s3, s4, s5, s6, s7, s8, s9, s10, s11, s12⟩ := hT; go_simp; try with_reducible rfl)⟩) hS ?_
    try simp only [Act.put, List.getElem_toArray, List.getElem_cons_succ, List.getElem_cons_zero, List.setIfInBounds_toArray, List.set_cons_zero, List.set_cons_succ]
    refine wpAnyH_take (i := 2) (v := .agg #[.int .i64 (z : Nat), .slice B bl.length d, .int .i64 (tl : Nat), .int .u32 (sw : Nat), .int .u64 (sh : Nat), .int .u64 (slo : Nat)]) rfl (by kernel_rfl) (by kernel_rfl) (by kernel_rfl) (fun _ _ _ h => h) (Or.inl ⟨by kernel_rfl, fun W hT => (by obtain ⟨_, s0, s1, s2, s3, s4, s5, s6, s7, s8, s9, s10, s11, s12⟩ := hT; go_simp; try with_reducible rfl)⟩) hS ?_
    try simp only [Act.put, List.getElem_toArray, List.getElem_cons_succ, List.getElem_cons_zero, List.setIfInBounds_toArray, List.set_cons_zero, List.set_cons_succ]
    refine wpAnyH_take (i := 4) (v := .agg #[.int .i64 (z : Nat), .slice E bl.length f, .int .i64 (tl : Nat), .int .u32 (sw : Nat), .int .u64 (sh : Nat), .int .u64 (slo : Nat)]) rfl (by kernel_rfl) (by kernel_rfl) (by kernel_rfl) (fun _ _ _ h => h) (Or.inl ⟨by kernel_rfl, fun W hT => (by obtain ⟨_, s0, s1, s2, s3, s4, s5, s6, s7, s8, s9, s10, s11, s12⟩ := hT; go_simp; try with_reducible rfl)⟩) hS ?_
    try simp only [Act.put, List.getElem_toArray, List.getElem_cons_succ, List.getElem_cons_zero, List.setIfInBounds_toArray, List.set_cons_zero, List.set_cons_succ]
    refine held_one (i := 3) (by kernel_rfl) rfl (fun K hK => ?_)
    go_simp
    refine (HFr.out _ B d (HDD.out _ hS.1)).mono ?_
    rintro en wk3 ⟨B4, d4, rfl, hI⟩
    have hbk := hI.below
    have hRd4 := RdSg.own hI.own
    clear hI
    have hS := HSB.out _ (HTr.out _ _ hS.1 hbk)
    clear hbk
    refine hK _ _ hS ?_
    clear hK K
    try simp only [Act.put, List.getElem_toArray, List.getElem_cons_succ, List.getElem_cons_zero, List.setIfInBounds_toArray, List.set_cons_zero, List.set_cons_succ]
    refine held_one (i := 5) (by kernel_rfl) rfl (fun K hK => ?_)
    go_simp
    refine (HSm.out _ B4 E d4 f hRd4 (HEE.out _ hS.1)).mono ?_
    rintro en wk5 ⟨rfl, hbk⟩
    have hS := HSB.out _ (HTr.out _ _ hS.1 hbk)
    clear hbk
    refine hK _ _ hS ?_
    clear hK K
    try simp only [Act.put, List.getElem_toArray, List.getElem_cons_succ, List.getElem_cons_zero, List.setIfInBounds_toArray, List.set_cons_zero, List.set_cons_succ]
    refine wpAnyH_take (i := 6) (v := .bool true) rfl (by kernel_rfl) (by kernel_rfl) (by kernel_rfl) (fun _ _ _ h => h) (Or.inl ⟨by kernel_rfl, fun W hT => (by obtain ⟨_, s0, s1, s2, s3, s4, s5, s6, s7, s8, s9, s10, s11, s12⟩ := hT; go_simp; try with_reducible rfl)⟩) hS ?_
    try simp only [Act.put, List.getElem_toArray, List.getElem_cons_succ, List.getElem_cons_zero, List.setIfInBounds_toArray, List.set_cons_zero, List.set_cons_succ]
    refine wpAnyH_take (i := 7) (v := .bool true) rfl (by kernel_rfl) (by kernel_rfl) (by kernel_rfl) (fun _ _ _ h => h) (Or.inl ⟨by kernel_rfl, fun W hT => (by obtain ⟨_, s0, s1, s2, s3, s4, s5, s6, s7, s8, s9, s10, s11, s12⟩ := hT; go_simp; try with_reducible rfl)⟩) hS ?_
    try simp only [Act.put, List.getElem_toArray, List.getElem_cons_succ, List.getElem_cons_zero, List.setIfInBounds_toArray, List.set_cons_zero, List.set_cons_succ]
    refine wpAnyH_take (i := 8) (v := .int .i64 eI) rfl (by kernel_rfl) (by kernel_rfl) (by kernel_rfl) (fun _ _ _ h => h) (Or.inl ⟨by kernel_rfl, fun W hT => (by obtain ⟨_, s0, s1, s2, s3, s4, s5, s6, s7, s8, s9, s10, s11, s12⟩ := hT; go_simp; try with_reducible rfl)⟩) hS ?_
    try simp only [Act.put, List.getElem_toArray, List.getElem_cons_succ, List.getElem_cons_zero, List.setIfInBounds_toArray, List.set_cons_zero, List.set_cons_succ]
    refine wpAnyH_take (i := 9) (v := .int .i64 eI) rfl (by kernel_rfl) (by kernel_rfl) (by kernel_rfl) (fun _ _ _ h => h) (Or.inl ⟨by kernel_rfl, fun W hT => (by obtain ⟨_, s0, s1, s2, s3, s4, s5, s6, s7, s8, s9, s10, s11, s12⟩ := hT; go_simp; try with_reducible rfl)⟩) hS ?_
    try simp only [Act.put, List.getElem_toArray, List.getElem_cons_succ, List.getElem_cons_zero, List.setIfInBounds_toArray, List.set_cons_zero, List.set_cons_succ]
    refine wpAnyH_take (i := 10) (v := .bool true) rfl (by kernel_rfl) (by kernel_rfl) (by kernel_rfl) (fun _ _ _ h => h) (Or.inl ⟨by kernel_rfl, fun W hT => (by obtain ⟨_, s0, s1, s2, s3, s4, s5, s6, s7, s8, s9, s10, s11, s12⟩ := hT; go_simp; try with_reducible rfl)⟩) hS ?_
    try simp only [Act.put, List.getElem_toArray, List.getElem_cons_succ, List.getElem_cons_zero, List.setIfInBounds_toArray, List.set_cons_zero, List.set_cons_succ]
    refine wpAnyH_take (i := 11) (v := .bool true) rfl (by kernel_rfl) (by kernel_rfl) (by kernel_rfl) (fun _ _ _ h => h) (Or.inl ⟨by kernel_rfl, fun W hT => (by obtain ⟨_, s0, s1, s2, s3, s4, s5, s6, s7, s8, s9, s10, s11, s12⟩ := hT; go_simp; try with_reducible rfl)⟩) hS ?_
    try simp only [Act.put, List.getElem_toArray, List.getElem_cons_succ, List.getElem_cons_zero, List.setIfInBounds_toArray, List.set_cons_zero, List.set_cons_succ]
    refine wpAnyH_take (i := 12) (v := .bool true) rfl (by kernel_rfl) (by kernel_rfl) (by kernel_rfl) (fun _ _ _ h => h) (Or.inl ⟨by kernel_rfl, fun W hT => (by obtain ⟨_, s0, s1, s2, s3, s4, s5, s6, s7, s8, s9, s10, s11, s12⟩ := hT; go_simp; try with_reducible rfl)⟩) hS ?_
    try simp only [Act.put, List.getElem_toArray, List.getElem_cons_succ, List.getElem_cons_zero, List.setIfInBounds_toArray, List.set_cons_zero, List.set_cons_succ]
    refine wpAnyH_take (i := 13) (v := .int .i64 eI) rfl (by kernel_rfl) (by kernel_rfl) (by kernel_rfl) (fun _ _ _ h => h) (Or.inl ⟨by kernel_rfl, fun W hT => (by obtain ⟨_, s0, s1, s2, s3, s4, s5, s6, s7, s8, s9, s10, s11, s12⟩ := hT; go_simp; try with_reducible rfl)⟩) hS ?_
    try simp only [Act.put, List.getElem_toArray, List.getElem_cons_succ, List.getElem_cons_zero, List.setIfInBounds_toArray, List.set_cons_zero, List.set_cons_succ]
    refine wpAnyH_take (i := 14) (v := .bool true) rfl (by kernel_rfl) (by kernel_rfl) (by kernel_rfl) (fun _ _ _ h => h) (Or.inl ⟨by kernel_rfl, fun W hT => (by obtain ⟨_, s0, s1, s2, s3, s4, s5, s6, s7, s8, s9, s10, s11, s12⟩ := hT; go_simp; try with_reducible rfl)⟩) hS ?_
    try simp only [Act.put, List.getElem_toArray, List.getElem_cons_succ, List.getElem_cons_zero, List.setIfInBounds_toArray, List.set_cons_zero, List.set_cons_succ]
    refine wpAnyH_take (i := 15) (v := .bool true) rfl (by kernel_rfl) (by kernel_rfl) (by kernel_rfl) (fun _ _ _ h => h) (Or.inl ⟨by kernel_rfl, fun W hT => (by obtain ⟨_, s0, s1, s2, s3, s4, s5, s6, s7, s8, s9, s10, s11, s12⟩ := hT; go_simp; try with_reducible rfl)⟩) hS ?_
    try simp only [Act.put, List.getElem_toArray, List.getElem_cons_succ, List.getElem_cons_zero, List.setIfInBounds_toArray, List.set_cons_zero, List.set_cons_succ]
    refine wpAnyH_take (i := 16) (v := undef) rfl (by kernel_rfl) (by kernel_rfl) (by kernel_rfl) (fun _ _ _ h => h) (Or.inr ⟨by kernel_rfl, rfl⟩) hS ?_
    try simp only [Act.put, List.getElem_toArray, List.getElem_cons_succ, List.getElem_cons_zero, List.setIfInBounds_toArray, List.set_cons_zero, List.set_cons_succ]
    refine wpAnyH_take (i := 17) (v := undef) rfl (by kernel_rfl) (by kernel_rfl) (by kernel_rfl) (fun _ _ _ h => h) (Or.inr ⟨by kernel_rfl, rfl⟩) hS ?_
    try simp only [Act.put, List.getElem_toArray, List.getElem_cons_succ, List.getElem_cons_zero, List.setIfInBounds_toArray, List.set_cons_zero, List.set_cons_succ]
    refine wpAnyH_take (i := 18) (v := undef) rfl (by kernel_rfl) (by kernel_rfl) (by kernel_rfl) (fun _ _ _ h => h) (Or.inr ⟨by kernel_rfl, rfl⟩) hS ?_
    try simp only [Act.put, List.getElem_toArray, List.getElem_cons_succ, List.getElem_cons_zero, List.setIfInBounds_toArray, List.set_cons_zero, List.set_cons_succ]
    refine wpAnyH_take (i := 19) (v := undef) rfl (by kernel_rfl) (by kernel_rfl) (by kernel_rfl) (fun _ _ _ h => h) (Or.inr ⟨by kernel_rfl, rfl⟩) hS ?_
    try simp only [Act.put, List.getElem_toArray, List.getElem_cons_succ, List.getElem_cons_zero, List.setIfInBounds_toArray, List.set_cons_zero, List.set_cons_succ]
    refine wpAnyH_take (i := 20) (v := undef) rfl (by kernel_rfl) (by kernel_rfl) (by kernel_rfl) (fun _ _ _ h => h) (Or.inr ⟨by kernel_rfl, rfl⟩) hS ?_
    try simp only [Act.put, List.getElem_toArray, List.getElem_cons_succ, List.getElem_cons_zero, List.setIfInBounds_toArray, List.set_cons_zero, List.set_cons_succ]
    refine wpAnyH_take (i := 21) (v := undef) rfl (by kernel_rfl) (by kernel_rfl) (by kernel_rfl) (fun _ _ _ h => h) (Or.inr ⟨by kernel_rfl, rfl⟩) hS ?_
    try simp only [Act.put, List.getElem_toArray, List.getElem_cons_succ, List.getElem_cons_zero, List.setIfInBounds_toArray, List.set_cons_zero, List.set_cons_succ]
    refine wpAnyH_take (i := 22) (v := .bool true) rfl (by kernel_rfl) (by kernel_rfl) (by kernel_rfl) (fun _ _ _ h => h) (Or.inl ⟨by kernel_rfl, fun W hT => (by obtain ⟨_, s0, s1, s2, s3, s4, s5, s6, s7, s8, s9, s10, s11, s12⟩ := hT; go_simp; try with_reducible rfl)⟩) hS ?_
    try simp only [Act.put, List.getElem_toArray, List.getElem_cons_succ, List.getElem_cons_zero, List.setIfInBounds_toArray, List.set_cons_zero, List.set_cons_succ]
    refine wpAnyH_take (i := 23) (v := .bool true) rfl (by kernel_rfl) (by kernel_rfl) (by kernel_rfl) (fun _ _ _ h => h) (Or.inl ⟨by kernel_rfl, fun W hT => (by obtain ⟨_, s0, s1, s2, s3, s4, s5, s6, s7, s8, s9, s10, s11, s12⟩ := hT; go_simp; try with_reducible rfl)⟩) hS ?_
    try simp only [Act.put, List.getElem_toArray, List.getElem_cons_succ, List.getElem_cons_zero, List.setIfInBounds_toArray, List.set_cons_zero, List.set_cons_succ]
    refine wpAnyH_take (i := 24) (v := .bool true) rfl (by kernel_rfl) (by kernel_rfl) (by kernel_rfl) (fun _ _ _ h => h) (Or.inl ⟨by kernel_rfl, fun W hT => (by obtain ⟨_, s0, s1, s2, s3, s4, s5, s6, s7, s8, s9, s10, s11, s12⟩ := hT; go_simp; try with_reducible rfl)⟩) hS ?_
    try simp only [Act.put, List.getElem_toArray, List.getElem_cons_succ, List.getElem_cons_zero, List.setIfInBounds_toArray, List.set_cons_zero, List.set_cons_succ]
    refine wpAnyH_done (by kernel_rfl) ?_ _
    refine NoPanic.normal ?_
    have HF := hide (HBf.out _ hS.1)
    clear hS
    go_wp2_with fail
    exact bodyPost_ret (results_tmp rfl _ _ _) rfl ⟨rfl, HF.out⟩
end Go.Proofs.Ytobgbheodlpclaa
