/-
  search.Of, Delta, Cost: of signatures that are right.
-/
import Derived.Test.YtobgbheodlpclaaSrTokens
import Derived.Test.YtobgbheodlpclaaAutoSrVals
namespace Go.Proofs.Ytobgbheodlpclaa
open Go.RowKit
set_option maxRecDepth 100000

/-- What a search finds. -/
def foundL (bl : List Sg) (n tl : Nat) (ls : Sg) (b : List UInt8) : List Tk := joinP (progW litL bl n tl ls (b.length + 1) b 0)

set_option maxHeartbeats 16000000 in
theorem srOf_any (n : Nat) (A : Option Addr) (bl : List Sg) (c tl : Nat) (s : Sg) (C : Option Addr) (b : List UInt8) (k : Nat) (w : World) (hr : rightS (n : Nat) bl.length (tl : Nat) s = true) (hA : RdSg w w.heap.size A bl) (hf : ∀ x ∈ bl, x.fits)
    (hC : RdB w w.heap.size C b) (hk : Caps C b.length k) (hl : b.length ≤ 400) :
    Calls Try.prog 54 #[.agg (sigC (n : Nat) A bl.length c (tl : Nat) s), .slice C b.length k] w fun e w' => ∃ v, e = .returned v ∧ TI w 71 v (foundL bl n tl s b) w' := by
  have hin : 4 ≤ n ∧ n ≤ 64 ∧ bl.length ≤ 4096 ∧ tl < n := by
    have h := hr
    unfold rightS at h
    simp only [Bool.and_eq_true, decide_eq_true_eq] at h
    obtain ⟨h1, h2, h3, h4⟩ := h
    refine ⟨by omega, by omega, h3, ?_⟩
    split at h4
    · omega
    · simp only [Bool.and_eq_true, decide_eq_true_eq] at h4; omega
  obtain ⟨g1, g2, g3, g4⟩ := hin
  have hb1 := (Below.refl w.heap.size w).alloc (Nat.le_refl _) (Obj.cells (sigC (n : Nat) A bl.length c (tl : Nat) s) 32)
  have hr1 := World.alloc_heap_new w (Obj.cells (sigC (n : Nat) A bl.length c (tl : Nat) s) 32)
  have HRi := hide (fun W => (show Calls Try.prog 26 #[.agg (sigC (n : Nat) A bl.length c (tl : Nat) s)] W fun e w' => e = .returned (.bool true) ∧ Below W.heap.size W w' from by
    have q := sigRight_any (n : Nat) A bl.length c (tl : Nat) s W
    rw [hr] at q
    exact q))
  have HF := hide (fun (W : World) (q : Below w.heap.size w W) => newFinder_any (n : Nat) A bl c (tl : Nat) s W ((hA.below q (Nat.le_refl _)).mono q.size) hf g3)
  have HT := hide (fun (W : World) (q : Below w.heap.size w W) (m1 m2 : Nat) (q1 : MapG weakK W m1 bl.length (weakF bl)) (q2 : MapG signK W m2 bl.length (leastF bl 0)) =>
    tokens_any n A bl c tl s m1 m2 bl.length C b k W g1 g2 ((hA.below q (Nat.le_refl _)).mono q.size) g3 (by omega) q1 q2 (hC.step q) hk (by omega))
  have hpl := progW_len bl n tl s (by omega) (b.length + 1) b 0
  unfold foundL
  generalize progW litL bl n tl s (b.length + 1) b 0 = pt at HT hpl ⊢
  obtain ⟨w1, hw1⟩ : ∃ w1, w1 = w.alloc (Obj.cells (sigC (n : Nat) A bl.length c (tl : Nat) s) 32) := ⟨_, rfl⟩
  have hW1 := hw1
  rw [← hw1] at hb1 hr1
  obtain ⟨sw, sh, slo⟩ := s
  simp only [sigC] at HRi HF hW1 hr1 ⊢
  have HB := hide hb1
  have HR := hide hr1
  have hc0 := cell_of_row _ _ 0 _ _ _ hr1
  have hc1 := cell_of_row _ _ 1 _ _ _ hr1
  have hc2 := cell_of_row _ _ 2 _ _ _ hr1
  have hc3 := cell_of_row _ _ 3 _ _ _ hr1
  have hc4 := cell_of_row _ _ 4 _ _ _ hr1
  have hc5 := cell_of_row _ _ 5 _ _ _ hr1
  clear hr hA hf hC hk hb1 hr1 hw1
  go_enter Try.func54, Try.ntmps54
  go_wp2_with fail
  rw [← hW1]
  clear hW1 hc0 hc1 hc2 hc3 hc4 hc5
  refine (HRi.out _).mono ?_
  rintro e w2 ⟨rfl, hb2⟩
  have HB2 := hide (HB.out.trans (hb2.mono HB.out.size))
  have r2 := (hb2.block w.heap.size (Array.getElem?_eq_some_iff.1 HR.out).1).trans HR.out
  have hc0 := cell_of_row _ _ 0 _ _ _ r2
  have hc1 := cell_of_row _ _ 1 _ _ _ r2
  have hc2 := cell_of_row _ _ 2 _ _ _ r2
  have hc3 := cell_of_row _ _ 3 _ _ _ r2
  have hc4 := cell_of_row _ _ 4 _ _ _ r2
  have hc5 := cell_of_row _ _ 5 _ _ _ r2
  clear hb2 r2 HRi
  go_wp2_with fail
  refine (HF.out _ HB2.out).mono ?_
  rintro e w3 ⟨rfl, hb3, q1, q2⟩
  have hB3 := HB2.out.trans (hb3.mono HB2.out.size)
  have HTk := hide (HT.out _ hB3 _ _ q1 q2)
  have HB3 := hide hB3
  simp only [finC] at HTk ⊢
  clear hc0 hc1 hc2 hc3 hc4 hc5 hb3 q1 q2 hB3 HF HT
  go_wp2_with fail
  refine HTk.out.mono ?_
  rintro e w4 ⟨v, rfl, hI4⟩
  obtain ⟨D, d, rfl⟩ := ownsRow_slice hI4.own
  have HJ := hide (joinP_any D pt d w4 (RdT.own hI4.own) (by omega) (by omega))
  have HB4 := hide (HB3.out.trans (hI4.below.mono HB3.out.size))
  clear hI4 HTk
  go_wp2_with fail
  refine HJ.out.mono ?_
  rintro e w5 ⟨v, rfl, hI5⟩
  have HF := hide (show TI w 71 v (joinP pt) w5 from ⟨HB4.out.trans (hI5.below.mono HB4.out.size), ownsRow_lowerT hI5.own HB4.out.size⟩)
  clear hI5
  go_wp2_with fail
  exact bodyPost_ret (results_tmp rfl _ _ _) rfl ⟨v, rfl, HF.out⟩

theorem found_facts (bl : List Sg) (n tl : Nat) (s : Sg) (b : List UInt8) (hr : rightS (n : Nat) bl.length (tl : Nat) s = true) (hl : b.length ≤ 400) :
    foundL bl n tl s b = joinR (refS bl n tl s b.length b 0) ∧ (foundL bl n tl s b).length ≤ 1000 ∧ sizeL (foundL bl n tl s b) ≤ b.length ∧ (∀ t ∈ foundL bl n tl s b, rightT t = true) := by
  have h := hr
  unfold rightS at h
  simp only [Bool.and_eq_true, decide_eq_true_eq] at h
  obtain ⟨h1, h2, h3, h4⟩ := h
  have h5 : tl < n := by
    split at h4
    · omega
    · simp only [Bool.and_eq_true, decide_eq_true_eq] at h4; omega
  have e := search_join bl n tl s b (by omega) h5 h3 (by omega)
  have hpl := progW_len bl n tl s (by omega) (b.length + 1) b 0
  refine ⟨e, ?_, ?_, ?_⟩
  · unfold foundL
    rw [joinP_eq]
    have := joinR_len (progW litL bl n tl s (b.length + 1) b 0)
    omega
  · unfold foundL
    rw [joinP_eq]
    have := joinR_size (progW litL bl n tl s (b.length + 1) b 0)
    omega
  · unfold foundL
    rw [joinP_eq]
    exact joinR_right _

set_option maxHeartbeats 16000000 in
theorem cost_any (n : Nat) (A : Option Addr) (bl : List Sg) (c tl : Nat) (s : Sg) (C : Option Addr) (b : List UInt8) (k : Nat) (w : World) (hr : rightS (n : Nat) bl.length (tl : Nat) s = true) (hA : RdSg w w.heap.size A bl) (hf : ∀ x ∈ bl, x.fits)
    (hC : RdB w w.heap.size C b) (hk : Caps C b.length k) (hl : b.length ≤ 400) :
    Calls Try.prog 55 #[.agg (sigC (n : Nat) A bl.length c (tl : Nat) s), .slice C b.length k] w fun e w' => e = .returned (.int .i64 (bytesL (foundL bl n tl s b) : Nat)) ∧ Below w.heap.size w w' := by
  obtain ⟨_, f2, f3, _⟩ := found_facts bl n tl s b hr hl
  have hb1 := (Below.refl w.heap.size w).alloc (Nat.le_refl _) (Obj.cells (sigC (n : Nat) A bl.length c (tl : Nat) s) 32)
  have hr1 := World.alloc_heap_new w (Obj.cells (sigC (n : Nat) A bl.length c (tl : Nat) s) 32)
  have HO := hide (srOf_any n A bl c tl s C b k _ hr (hA.step hb1) hf (hC.step hb1) hk hl)
  have HB := hide hb1
  generalize foundL bl n tl s b = F at HO f2 f3 ⊢
  obtain ⟨sw, sh, slo⟩ := s
  simp only [sigC] at *
  have hc0 := cell_of_row _ _ 0 _ _ _ hr1
  have hc1 := cell_of_row _ _ 1 _ _ _ hr1
  have hc2 := cell_of_row _ _ 2 _ _ _ hr1
  have hc3 := cell_of_row _ _ 3 _ _ _ hr1
  have hc4 := cell_of_row _ _ 4 _ _ _ hr1
  have hc5 := cell_of_row _ _ 5 _ _ _ hr1
  clear hr hA hf hC hk hb1 hr1
  go_enter Try.func55, Try.ntmps55
  go_wp2_with fail
  refine HO.out.mono ?_
  rintro e w2 ⟨v, rfl, hI⟩
  obtain ⟨D, d, rfl⟩ := ownsRow_slice hI.own
  have HBy := hide (bytesL_any D F d w2 (RdT.own hI.own) (by omega) (by omega))
  have HB2 := hide (HB.out.trans (hI.below.mono HB.out.size))
  clear hI HO hc0 hc1 hc2 hc3 hc4 hc5
  go_wp2_with fail
  refine HBy.out.mono ?_
  rintro e w3 ⟨rfl, hb3⟩
  have HB3 := hide (HB2.out.trans (hb3.mono HB2.out.size))
  clear hb3
  go_wp2_with fail
  exact bodyPost_ret (results_tmp rfl _ _ _) rfl ⟨rfl, HB3.out⟩

/-- A signature of bytes, its block size, its tail and what is found by it. -/
def sigOf (l : List UInt8) (h : Nat) : List Sg × Nat × Sg := sigF h (blocksL l h)
def deltaL (l : List UInt8) (h : Nat) (b : List UInt8) : List Tk := foundL (sigOf l h).1 h (sigOf l h).2.1 (sigOf l h).2.2 b
theorem sigOf_facts (l : List UInt8) (size : Int) (h : Nat) (hh : fitN size = h) (hl : l.length ≤ 16384) :
    (sigOf l h).1.length * h + (sigOf l h).2.1 = l.length ∧ rightS h (sigOf l h).1.length ((sigOf l h).2.1 : Nat) (sigOf l h).2.2 = true ∧ (sigOf l h).1.length ≤ 4096 ∧ ∀ x ∈ (sigOf l h).1, x.fits :=
  sig_facts l (h : Int) h (fitN_fit size h hh) hl

set_option maxHeartbeats 16000000 in
theorem delta_any (A : Option Addr) (l : List UInt8) (c : Nat) (size : Int) (h : Nat) (C : Option Addr) (b : List UInt8) (k : Nat) (w : World) (hA : RdB w w.heap.size A l) (hc : Caps A l.length c) (hl : l.length ≤ 400) (hC : RdB w w.heap.size C b) (hk : Caps C b.length k) (hb : b.length ≤ 400) (hh : fitN size = h) :
    Calls Try.prog 52 #[.slice A l.length c, .int .i64 size, .slice C b.length k] w fun e w' => ∃ v, e = .returned v ∧ TI w 71 v (deltaL l h b) w' := by
  obtain ⟨_, f2, f3, f4⟩ := sigOf_facts l size h hh (by omega)
  have HO := hide (bkOf_any A l c size h w hA hc (by omega) hh)
  change Hid (Calls _ _ _ _ fun e w' => ∃ B d, e = .returned (.agg (sigC h B (sigOf l h).1.length d (sigOf l h).2.1 (sigOf l h).2.2)) ∧ SI w 30 (.slice B (sigOf l h).1.length d) (sigOf l h).1 w') at HO
  unfold deltaL
  obtain ⟨⟨bl, tl, s⟩, hs⟩ : ∃ q, q = sigOf l h := ⟨_, rfl⟩
  rw [← hs] at HO f2 f3 f4 ⊢
  simp only at HO f2 f3 f4 ⊢
  have HF := hide (fun (W : World) (B : Option Addr) (d : Nat) (q : RdSg W W.heap.size B bl) (q2 : Below w.heap.size w W) => srOf_any h B bl d tl s C b k W f2 q f4 (hC.step q2) hk hb)
  clear hs hA hc hC hk
  generalize foundL bl h tl s b = F at HF ⊢
  obtain ⟨sw, sh, slo⟩ := s
  simp only [sigC] at *
  clear f2 f4
  go_enter Try.func52, Try.ntmps52
  go_wp2_with fail
  refine HO.out.mono ?_
  rintro e w2 ⟨B, d, rfl, hI⟩
  have HF2 := hide (HF.out w2 B d (RdSg.own hI.own) hI.below)
  have HB := hide hI.below
  clear hI HF HO
  go_wp2_with fail
  refine HF2.out.mono ?_
  rintro e w3 ⟨v, rfl, hI⟩
  have HE := hide (show TI w 71 v F w3 from ⟨HB.out.trans (hI.below.mono HB.out.size), ownsRow_lowerT hI.own HB.out.size⟩)
  clear hI
  go_wp2_with fail
  exact bodyPost_ret (results_tmp rfl _ _ _) rfl ⟨v, rfl, HE.out⟩
end Go.Proofs.Ytobgbheodlpclaa
