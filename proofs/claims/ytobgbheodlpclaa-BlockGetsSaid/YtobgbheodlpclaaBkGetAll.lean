/-
  The signature that bytes are: the program's Get.
-/
import Derived.Test.YtobgbheodlpclaaBkRead
import Derived.Test.YtobgbheodlpclaaBkTo
namespace Go.Proofs.Ytobgbheodlpclaa
open Go.RowKit Go.Shelf
set_option maxRecDepth 100000

theorem bkRead_any (b : Nat) (l : List UInt8) (w : World) (h : IsR w b l 0) (hl : l.length ≤ 100000) (S : Sig) (l5 : List UInt8) (e5 : Nat) (hr : readSig l = (S, l5, e5)) :
    Calls Try.prog 79 #[.pointer (some ⟨b, 0, none⟩)] w fun en w' => ∃ B d, en = .returned (.agg (sigC S.size B S.blocks.length d S.tail S.last)) ∧ IsR w' b l5 e5 ∧ w.grownBy w' (some b) ∧ Below b w w' ∧ w'.ownsRow w.heap.size 30 3 (.slice B S.blocks.length d) S.blocks.length (cellsSg S.blocks) := by
  have q := bkRead_in b l w h hl (sgs1 l).1 (sgs1 l).2.2 (sgs2 l).1 (sgs2 l).2.2 (sgs3 l).2.2 (sgs4 l).1 (sgs4 l).2.2 (sgs5 l).2.2 (sgs1 l).2.1 (sgs2 l).2.1 (sgs3 l).2.1 (sgs4 l).2.1 (sgs5 l).2.1 (sgs3 l).1 (sgs5 l).1 rfl rfl rfl rfl rfl
  unfold readSig at hr
  have h0 := congrArg (fun x => x.1) hr
  have h1 : (sgs5 l).2.1 = l5 := congrArg (fun x => x.2.1) hr
  have h2 : (sgs5 l).2.2 = e5 := congrArg (fun x => x.2.2) hr
  simp only at h0
  subst h0
  rw [h1, h2] at q
  exact q
theorem readSig_len (l : List UInt8) : (readSig l).2.1.length ≤ l.length := by
  show (sgs5 l).2.1.length ≤ l.length
  have h1 : (sgs1 l).2.1.length ≤ l.length := readN_len2 l 0 64
  have h2 : (sgs2 l).2.1.length ≤ (sgs1 l).2.1.length := readN_len2 _ _ 4096
  have h3 : (sgs3 l).2.1.length ≤ (sgs2 l).2.1.length := (readSgs_len _ _ _ _).2
  have h4 : (sgs4 l).2.1.length ≤ (sgs3 l).2.1.length := readN_len2 _ _ 63
  have h5 : (sgs5 l).2.1.length ≤ (sgs4 l).2.1.length := by
    unfold sgs5 readLast
    split
    · exact readSg_len2 _ _
    · exact Nat.le_refl _
  omega
/-- No signature. -/
def sigZero : Sig := ⟨0, [], 0, ⟨0, 0, 0⟩⟩
/-- The signature that bytes are, and the error. -/
def getSig (l : List UInt8) : Sig × Nat :=
  if endN (readSig l).2.2 (readSig l).2.1 ≠ 0 then (sigZero, endN (readSig l).2.2 (readSig l).2.1)
  else if rightS (readSig l).1.size (readSig l).1.blocks.length (readSig l).1.tail (readSig l).1.last = true then ((readSig l).1, 0) else (sigZero, 3)

set_option maxHeartbeats 16000000 in
theorem bkGet_any (A : Option Addr) (l : List UInt8) (c : Nat) (w : World) (hR : RdB w w.heap.size A l) (hc : Caps A l.length c) (hl : l.length ≤ 100000) :
    Calls Try.prog 32 #[.slice A l.length c] w fun e w' => ∃ B d, e = .returned (.tuple #[.agg (sigC (getSig l).1.size B (getSig l).1.blocks.length d (getSig l).1.tail (getSig l).1.last), .int .i64 ((getSig l).2 : Nat)]) ∧ SI w 30 (.slice B (getSig l).1.blocks.length d) (getSig l).1.blocks w' := by
  obtain ⟨G, hG⟩ : ∃ G, G = getSig l := ⟨_, rfl⟩
  rw [← hG]
  unfold getSig at hG
  have HRead := hide (bkRead_any · l · · hl)
  have hl5 := readSig_len l
  generalize hrs : readSig l = rs at hG hl5
  obtain ⟨⟨z, bl, tl, s⟩, l5, e5⟩ := rs
  have HRead := hide (fun b W h => HRead.out b W h _ _ _ hrs)
  clear hrs
  simp only at hG HRead hl5
  obtain ⟨sw, sh, slo⟩ := s
  simp only [sigC] at HRead
  have hb0 : Below w.heap.size w (w.alloc (.cells #[.int .i64 0, .slice none 0 0, .int .i64 0, .int .u32 0, .int .u64 0, .int .u64 0] 32)) := (Below.refl _ w).alloc (Nat.le_refl _) _
  have hr0 := World.alloc_heap_new w (Obj.cells #[.int .i64 0, .slice none 0 0, .int .i64 0, .int .u32 0, .int .u64 0, .int .u64 0] 32)
  have hs0 : (w.alloc (.cells #[.int .i64 0, .slice none 0 0, .int .i64 0, .int .u32 0, .int .u64 0, .int .u64 0] 32)).heap.size = w.heap.size + 1 := by simp
  have HRd := hide (read_any A l c _ (hR.step hb0) hc (by omega))
  have HB0 := hide hb0
  have HR0 := hide hr0
  clear hR hc hb0 hr0
  go_enter Try.func32, Try.ntmps32
  go_wp2_with fail
  generalize w.alloc (.cells #[.int .i64 0, .slice none 0 0, .int .i64 0, .int .u32 0, .int .u64 0, .int .u64 0] 32) = w0 at HRd HB0 HR0 hs0 ⊢
  refine HRd.out.mono ?_
  rintro en w1 ⟨⟨bR, rfl, hI, hbR⟩, hB⟩
  have HB1 := hide (HB0.out.trans (hB.mono (by omega)))
  have HR1 := hide ((hB.block w.heap.size (by omega)).trans HR0.out)
  have HI1 := hide hI
  have hs1 := hI.lt
  clear hI hB HB0 HR0 HRd
  go_wp2_with fail
  refine (HRead.out bR w1 HI1.out).mono ?_
  rintro en w2 ⟨B, d, rfl, g1, g2, g3, g4⟩
  have hB2 := HB1.out.trans (g3.mono (by omega))
  have hR2 := (g3.block w.heap.size (by omega)).trans HR1.out
  have hb3 : Below w2.heap.size w2 (w2.alloc (.cells #[.int .i64 (z : Nat), .slice B bl.length d, .int .i64 (tl : Nat), .int .u32 (sw : Nat), .int .u64 (sh : Nat), .int .u64 (slo : Nat)] 32)) := (Below.refl _ w2).alloc (Nat.le_refl _) _
  have hs2 := g2.size
  have HB3 := hide (hB2.alloc (by omega) (Obj.cells #[.int .i64 (z : Nat), .slice B bl.length d, .int .i64 (tl : Nat), .int .u32 (sw : Nat), .int .u64 (sh : Nat), .int .u64 (slo : Nat)] 32))
  have HR3 := hide ((hb3.block w.heap.size (by omega)).trans hR2)
  have HS3 := hide (World.alloc_heap_new w2 (Obj.cells #[.int .i64 (z : Nat), .slice B bl.length d, .int .i64 (tl : Nat), .int .u32 (sw : Nat), .int .u64 (sh : Nat), .int .u64 (slo : Nat)] 32))
  have HI3 := hide (g1.keep (hb3.mono (by omega)))
  have HO3 := hide (g4.alloc (Obj.cells #[.int .i64 (z : Nat), .slice B bl.length d, .int .i64 (tl : Nat), .int .u32 (sw : Nat), .int .u64 (sh : Nat), .int .u64 (slo : Nat)] 32))
  have hs3 : w2.heap.size < (w2.alloc (.cells #[.int .i64 (z : Nat), .slice B bl.length d, .int .i64 (tl : Nat), .int .u32 (sw : Nat), .int .u64 (sh : Nat), .int .u64 (slo : Nat)] 32)).heap.size := by simp
  clear g1 g2 g3 g4 hB2 hR2 hb3 HB1 HR1 HI1 HRead
  go_wp2_with fail
  generalize w2.alloc (.cells #[.int .i64 (z : Nat), .slice B bl.length d, .int .i64 (tl : Nat), .int .u32 (sw : Nat), .int .u64 (sh : Nat), .int .u64 (slo : Nat)] 32) = w3 at HB3 HR3 HS3 HI3 HO3 hs3 ⊢
  refine (end_any bR e5 l5 w3 HI3.out (by omega)).mono ?_
  rintro en w4 ⟨rfl, rfl⟩
  generalize endN e5 l5 = ee at hG
  by_cases hee : ee = 0
  · subst hee
    rw [if_neg (by simp)] at hG
    have HRt := hide (sigRight_any (z : Nat) B bl.length d (tl : Nat) ⟨sw, sh, slo⟩ w4)
    simp only [sigC] at HRt
    have c0 : w4.cell? ⟨w2.heap.size, 0, none⟩ = some (.int .i64 (z : Nat)) := cell_of_row _ _ _ _ _ _ HS3.out
    have c1 : w4.cell? ⟨w2.heap.size, 1, none⟩ = some (.slice B bl.length d) := cell_of_row _ _ _ _ _ _ HS3.out
    have c2 : w4.cell? ⟨w2.heap.size, 2, none⟩ = some (.int .i64 (tl : Nat)) := cell_of_row _ _ _ _ _ _ HS3.out
    have c3 : w4.cell? ⟨w2.heap.size, 3, none⟩ = some (.int .u32 (sw : Nat)) := cell_of_row _ _ _ _ _ _ HS3.out
    have c4 : w4.cell? ⟨w2.heap.size, 4, none⟩ = some (.int .u64 (sh : Nat)) := cell_of_row _ _ _ _ _ _ HS3.out
    have c5 : w4.cell? ⟨w2.heap.size, 5, none⟩ = some (.int .u64 (slo : Nat)) := cell_of_row _ _ _ _ _ _ HS3.out
    cases hrt : rightS (z : Nat) bl.length (tl : Nat) ⟨sw, sh, slo⟩ with
    | true =>
      rw [hrt, if_pos rfl] at hG
      rw [hrt] at HRt
      subst hG
      clear hrt HI3
      go_wp2_with fail
      refine HRt.out.mono ?_
      rintro en w5 ⟨rfl, hb5⟩
      have hr5 := (hb5.block w.heap.size (by omega)).trans HR3.out
      have hs5 := (hb5.block w2.heap.size hs3).trans HS3.out
      have hB5 := HB3.out.trans (hb5.mono HB3.out.size)
      have hO5 := ownsRow_lowerSg (base' := w.heap.size) (own_below HO3.out hb5) (by omega)
      have hap : ∀ r, (Value.slice B bl.length d).ownBlock = some r → r ≠ w.heap.size := fun r e => by have := (HO3.out.lt r e).1; omega
      have d0 : w5.cell? ⟨w2.heap.size, 0, none⟩ = some (.int .i64 (z : Nat)) := cell_of_row _ _ _ _ _ _ hs5
      have d1 : w5.cell? ⟨w2.heap.size, 1, none⟩ = some (.slice B bl.length d) := cell_of_row _ _ _ _ _ _ hs5
      have d2 : w5.cell? ⟨w2.heap.size, 2, none⟩ = some (.int .i64 (tl : Nat)) := cell_of_row _ _ _ _ _ _ hs5
      have d3 : w5.cell? ⟨w2.heap.size, 3, none⟩ = some (.int .u32 (sw : Nat)) := cell_of_row _ _ _ _ _ _ hs5
      have d4 : w5.cell? ⟨w2.heap.size, 4, none⟩ = some (.int .u64 (sh : Nat)) := cell_of_row _ _ _ _ _ _ hs5
      have d5 : w5.cell? ⟨w2.heap.size, 5, none⟩ = some (.int .u64 (slo : Nat)) := cell_of_row _ _ _ _ _ _ hs5
      have y0 : w5.cell? ⟨w.heap.size, 0, none⟩ = some (.int .i64 0) := cell_of_row _ _ _ _ _ _ hr5
      have z0 : w5.frozen? ⟨w.heap.size, 0, none⟩ = false := frozen_of_row _ _ _ _ _ hr5
      have y1 : w5.cell? ⟨w.heap.size, 1, none⟩ = some (.slice none 0 0) := cell_of_row _ _ _ _ _ _ hr5
      have z1 : w5.frozen? ⟨w.heap.size, 1, none⟩ = false := frozen_of_row _ _ _ _ _ hr5
      have y2 : w5.cell? ⟨w.heap.size, 2, none⟩ = some (.int .i64 0) := cell_of_row _ _ _ _ _ _ hr5
      have z2 : w5.frozen? ⟨w.heap.size, 2, none⟩ = false := frozen_of_row _ _ _ _ _ hr5
      have y3 : w5.cell? ⟨w.heap.size, 3, none⟩ = some (.int .u32 0) := cell_of_row _ _ _ _ _ _ hr5
      have z3 : w5.frozen? ⟨w.heap.size, 3, none⟩ = false := frozen_of_row _ _ _ _ _ hr5
      have y4 : w5.cell? ⟨w.heap.size, 4, none⟩ = some (.int .u64 0) := cell_of_row _ _ _ _ _ _ hr5
      have z4 : w5.frozen? ⟨w.heap.size, 4, none⟩ = false := frozen_of_row _ _ _ _ _ hr5
      have y5 : w5.cell? ⟨w.heap.size, 5, none⟩ = some (.int .u64 0) := cell_of_row _ _ _ _ _ _ hr5
      have z5 : w5.frozen? ⟨w.heap.size, 5, none⟩ = false := frozen_of_row _ _ _ _ _ hr5
      have x0 := heap_setCell_same w5 w.heap.size 0 _ _ (.int .i64 (z : Nat)) hr5
      have x1 := heap_setCell_same _ w.heap.size 1 _ _ (.slice B bl.length d) x0
      have x2 := heap_setCell_same _ w.heap.size 2 _ _ (.int .i64 (tl : Nat)) x1
      have x3 := heap_setCell_same _ w.heap.size 3 _ _ (.int .u32 (sw : Nat)) x2
      have x4 := heap_setCell_same _ w.heap.size 4 _ _ (.int .u64 (sh : Nat)) x3
      have x5 := heap_setCell_same _ w.heap.size 5 _ _ (.int .u64 (slo : Nat)) x4
      have HBf := hide (Below.setCell (p := ⟨w.heap.size, 5, none⟩) (Below.setCell (p := ⟨w.heap.size, 4, none⟩) (Below.setCell (p := ⟨w.heap.size, 3, none⟩) (Below.setCell (p := ⟨w.heap.size, 2, none⟩) (Below.setCell (p := ⟨w.heap.size, 1, none⟩) (Below.setCell (p := ⟨w.heap.size, 0, none⟩) hB5 (Nat.le_refl _) (.int .i64 (z : Nat))) (Nat.le_refl _) (.slice B bl.length d)) (Nat.le_refl _) (.int .i64 (tl : Nat))) (Nat.le_refl _) (.int .u32 (sw : Nat))) (Nat.le_refl _) (.int .u64 (sh : Nat))) (Nat.le_refl _) (.int .u64 (slo : Nat)))
      have HOf := hide (sig_own_cell (b := w.heap.size) (j := 5) (u := .int .u64 (slo : Nat)) (sig_own_cell (b := w.heap.size) (j := 4) (u := .int .u64 (sh : Nat)) (sig_own_cell (b := w.heap.size) (j := 3) (u := .int .u32 (sw : Nat)) (sig_own_cell (b := w.heap.size) (j := 2) (u := .int .i64 (tl : Nat)) (sig_own_cell (b := w.heap.size) (j := 1) (u := .slice B bl.length d) (sig_own_cell (b := w.heap.size) (j := 0) (u := .int .i64 (z : Nat)) hO5 hap) hap) hap) hap) hap) hap)
      have HX := hide x5
      clear x0 x1 x2 x3 x4 x5
      clear hr5 hs5 hB5 hO5 hap hb5 HRt HB3 HR3 HS3 HO3
      go_wp2_with fail
      have t0 := cell_of_row _ _ 0 _ _ _ HX.out
      have t1 := cell_of_row _ _ 1 _ _ _ HX.out
      have t2 := cell_of_row _ _ 2 _ _ _ HX.out
      have t3 := cell_of_row _ _ 3 _ _ _ HX.out
      have t4 := cell_of_row _ _ 4 _ _ _ HX.out
      have t5 := cell_of_row _ _ 5 _ _ _ HX.out
      refine bodyPost_ret (v := .tuple #[.agg #[.int .i64 (z : Nat), .slice B bl.length d, .int .i64 (tl : Nat), .int .u32 (sw : Nat), .int .u64 (sh : Nat), .int .u64 (slo : Nat)], .int .i64 0]) (by simp [results, Try.results32, go_sem, t0, t1, t2, t3, t4, t5]) rfl ⟨B, d, rfl, HBf.out, HOf.out⟩
    | false =>
      rw [hrt, if_neg (by decide)] at hG
      rw [hrt] at HRt
      subst hG
      clear hrt HI3
      go_wp2_with fail
      refine HRt.out.mono ?_
      rintro en w5 ⟨rfl, hb5⟩
      have hr5 := (hb5.block w.heap.size (by omega)).trans HR3.out
      have hB5 := HB3.out.trans (hb5.mono HB3.out.size)
      have y0 : w5.cell? ⟨w.heap.size, 0, none⟩ = some (.int .i64 0) := cell_of_row _ _ _ _ _ _ hr5
      have z0 : w5.frozen? ⟨w.heap.size, 0, none⟩ = false := frozen_of_row _ _ _ _ _ hr5
      have y1 : w5.cell? ⟨w.heap.size, 1, none⟩ = some (.slice none 0 0) := cell_of_row _ _ _ _ _ _ hr5
      have z1 : w5.frozen? ⟨w.heap.size, 1, none⟩ = false := frozen_of_row _ _ _ _ _ hr5
      have y2 : w5.cell? ⟨w.heap.size, 2, none⟩ = some (.int .i64 0) := cell_of_row _ _ _ _ _ _ hr5
      have z2 : w5.frozen? ⟨w.heap.size, 2, none⟩ = false := frozen_of_row _ _ _ _ _ hr5
      have y3 : w5.cell? ⟨w.heap.size, 3, none⟩ = some (.int .u32 0) := cell_of_row _ _ _ _ _ _ hr5
      have z3 : w5.frozen? ⟨w.heap.size, 3, none⟩ = false := frozen_of_row _ _ _ _ _ hr5
      have y4 : w5.cell? ⟨w.heap.size, 4, none⟩ = some (.int .u64 0) := cell_of_row _ _ _ _ _ _ hr5
      have z4 : w5.frozen? ⟨w.heap.size, 4, none⟩ = false := frozen_of_row _ _ _ _ _ hr5
      have y5 : w5.cell? ⟨w.heap.size, 5, none⟩ = some (.int .u64 0) := cell_of_row _ _ _ _ _ _ hr5
      have z5 : w5.frozen? ⟨w.heap.size, 5, none⟩ = false := frozen_of_row _ _ _ _ _ hr5
      have x0 := heap_setCell_same w5 w.heap.size 0 _ _ (.int .i64 0) hr5
      have x1 := heap_setCell_same _ w.heap.size 1 _ _ (.slice none 0 0) x0
      have x2 := heap_setCell_same _ w.heap.size 2 _ _ (.int .i64 0) x1
      have x3 := heap_setCell_same _ w.heap.size 3 _ _ (.int .u32 0) x2
      have x4 := heap_setCell_same _ w.heap.size 4 _ _ (.int .u64 0) x3
      have x5 := heap_setCell_same _ w.heap.size 5 _ _ (.int .u64 0) x4
      have HBf := hide (Below.setCell (p := ⟨w.heap.size, 5, none⟩) (Below.setCell (p := ⟨w.heap.size, 4, none⟩) (Below.setCell (p := ⟨w.heap.size, 3, none⟩) (Below.setCell (p := ⟨w.heap.size, 2, none⟩) (Below.setCell (p := ⟨w.heap.size, 1, none⟩) (Below.setCell (p := ⟨w.heap.size, 0, none⟩) hB5 (Nat.le_refl _) (.int .i64 0)) (Nat.le_refl _) (.slice none 0 0)) (Nat.le_refl _) (.int .i64 0)) (Nat.le_refl _) (.int .u32 0)) (Nat.le_refl _) (.int .u64 0)) (Nat.le_refl _) (.int .u64 0))
      have HX := hide x5
      clear x0 x1 x2 x3 x4 x5
      clear hr5 hB5 hb5 HRt HB3 HR3 HS3 HO3
      go_wp2_with fail
      have t0 := cell_of_row _ _ 0 _ _ _ HX.out
      have t1 := cell_of_row _ _ 1 _ _ _ HX.out
      have t2 := cell_of_row _ _ 2 _ _ _ HX.out
      have t3 := cell_of_row _ _ 3 _ _ _ HX.out
      have t4 := cell_of_row _ _ 4 _ _ _ HX.out
      have t5 := cell_of_row _ _ 5 _ _ _ HX.out
      refine bodyPost_ret (v := .tuple #[.agg #[.int .i64 0, .slice none 0 0, .int .i64 0, .int .u32 0, .int .u64 0, .int .u64 0], .int .i64 3]) (by simp [results, Try.results32, go_sem, t0, t1, t2, t3, t4, t5]) rfl ⟨none, 0, rfl, HBf.out, World.ownsRow_nil _ _ _ _⟩
  · rw [if_pos hee] at hG
    subst hG
    have E0 : ((ee : Int) != 0) = true := by rw [bne_iff_ne]; omega
    have hr5 := HR3.out
    have hB5 := HB3.out
    have y0 : w4.cell? ⟨w.heap.size, 0, none⟩ = some (.int .i64 0) := cell_of_row _ _ _ _ _ _ hr5
    have z0 : w4.frozen? ⟨w.heap.size, 0, none⟩ = false := frozen_of_row _ _ _ _ _ hr5
    have y1 : w4.cell? ⟨w.heap.size, 1, none⟩ = some (.slice none 0 0) := cell_of_row _ _ _ _ _ _ hr5
    have z1 : w4.frozen? ⟨w.heap.size, 1, none⟩ = false := frozen_of_row _ _ _ _ _ hr5
    have y2 : w4.cell? ⟨w.heap.size, 2, none⟩ = some (.int .i64 0) := cell_of_row _ _ _ _ _ _ hr5
    have z2 : w4.frozen? ⟨w.heap.size, 2, none⟩ = false := frozen_of_row _ _ _ _ _ hr5
    have y3 : w4.cell? ⟨w.heap.size, 3, none⟩ = some (.int .u32 0) := cell_of_row _ _ _ _ _ _ hr5
    have z3 : w4.frozen? ⟨w.heap.size, 3, none⟩ = false := frozen_of_row _ _ _ _ _ hr5
    have y4 : w4.cell? ⟨w.heap.size, 4, none⟩ = some (.int .u64 0) := cell_of_row _ _ _ _ _ _ hr5
    have z4 : w4.frozen? ⟨w.heap.size, 4, none⟩ = false := frozen_of_row _ _ _ _ _ hr5
    have y5 : w4.cell? ⟨w.heap.size, 5, none⟩ = some (.int .u64 0) := cell_of_row _ _ _ _ _ _ hr5
    have z5 : w4.frozen? ⟨w.heap.size, 5, none⟩ = false := frozen_of_row _ _ _ _ _ hr5
    have x0 := heap_setCell_same w4 w.heap.size 0 _ _ (.int .i64 0) hr5
    have x1 := heap_setCell_same _ w.heap.size 1 _ _ (.slice none 0 0) x0
    have x2 := heap_setCell_same _ w.heap.size 2 _ _ (.int .i64 0) x1
    have x3 := heap_setCell_same _ w.heap.size 3 _ _ (.int .u32 0) x2
    have x4 := heap_setCell_same _ w.heap.size 4 _ _ (.int .u64 0) x3
    have x5 := heap_setCell_same _ w.heap.size 5 _ _ (.int .u64 0) x4
    have HBf := hide (Below.setCell (p := ⟨w.heap.size, 5, none⟩) (Below.setCell (p := ⟨w.heap.size, 4, none⟩) (Below.setCell (p := ⟨w.heap.size, 3, none⟩) (Below.setCell (p := ⟨w.heap.size, 2, none⟩) (Below.setCell (p := ⟨w.heap.size, 1, none⟩) (Below.setCell (p := ⟨w.heap.size, 0, none⟩) hB5 (Nat.le_refl _) (.int .i64 0)) (Nat.le_refl _) (.slice none 0 0)) (Nat.le_refl _) (.int .i64 0)) (Nat.le_refl _) (.int .u32 0)) (Nat.le_refl _) (.int .u64 0)) (Nat.le_refl _) (.int .u64 0))
    have HX := hide x5
    clear x0 x1 x2 x3 x4 x5
    clear hr5 hB5 HI3 HB3 HR3 HS3 HO3
    go_wp2_with fail
    have t0 := cell_of_row _ _ 0 _ _ _ HX.out
    have t1 := cell_of_row _ _ 1 _ _ _ HX.out
    have t2 := cell_of_row _ _ 2 _ _ _ HX.out
    have t3 := cell_of_row _ _ 3 _ _ _ HX.out
    have t4 := cell_of_row _ _ 4 _ _ _ HX.out
    have t5 := cell_of_row _ _ 5 _ _ _ HX.out
    refine bodyPost_ret (v := .tuple #[.agg #[.int .i64 0, .slice none 0 0, .int .i64 0, .int .u32 0, .int .u64 0, .int .u64 0], .int .i64 (ee : Nat)]) (by simp [results, Try.results32, go_sem, t0, t1, t2, t3, t4, t5]) rfl ⟨none, 0, rfl, HBf.out, World.ownsRow_nil _ _ _ _⟩
end Go.Proofs.Ytobgbheodlpclaa
