/-
  The reference's Of (layer 15).
-/
import Derived.Test.YtobgbheodlpclaaBkOf
import Derived.Test.YtobgbheodlpclaaAutoHeldOp
import Derived.Deep.QuietTactic
import Derived.BigQuiet
namespace Go.Proofs.Ytobgbheodlpclaa
open Go.RowKit
set_option maxRecDepth 100000

theorem fitN_fit (size : Int) (h : Nat) (hh : fitN size = h) : fitN (h : Int) = h := by
  have := fitN_in size
  unfold fitN
  omega
theorem blocksL_fit (l : List UInt8) (size : Int) (h : Nat) (hh : fitN size = h) : blocksL l (h : Int) = blocksL l size := by
  have hf := fitN_fit size h hh
  have hc : countN (l.length : Int) (h : Int) = countN l.length size := by rw [countN_nat, countN_nat, hf, hh]
  unfold blocksL
  rw [hc]
  apply List.map_congr_left
  intro k _
  unfold blkL
  rw [hc, hf, hh]
theorem sigF_take (h : Nat) (L : List (List UInt8)) (i : Nat) (x : List UInt8) (hx : L[i]? = some x) : sigF h (L.take (i + 1)) = ofStep h (sigF h (L.take i)) x := by
  obtain ⟨hlt, e⟩ := List.getElem?_eq_some_iff.1 hx
  rw [← List.take_append_getElem hlt, e]
  exact sigF_snoc _ _ _
/-- append of one sign that has just been laid: its run (the reference's signs). -/
theorem append_rsign (W : World) (base : Nat) (B : Option Addr) (d : Nat) (bl : List Sg) (s : Sg) (hown : W.ownsRow base 37 3 (.slice B bl.length d) bl.length (cellsSg bl)) (hb : base ≤ W.heap.size) (hn : bl.length ≤ 1000000) :
    ∃ g cap w5, (Builtin.append_ #[40, 40] 40 #[.slice B bl.length d, .slice (some ⟨W.heap.size, 0, none⟩) 1 1]).run Try.prog (W.alloc (.cells s.cells 37)) = .ok (.slice (some ⟨g, 0, none⟩) (bl.length + 1) cap) w5 ∧
      w5.ownsRow base 37 3 (.slice (some ⟨g, 0, none⟩) (bl.length + 1) cap) (bl.length + 1) (cellsSg (bl ++ [s])) ∧ (W.alloc (.cells s.cells 37)).grownBy w5 (Value.slice B bl.length d).ownBlock := by
  obtain ⟨i0, hi, hz0, hz1, hz2⟩ := info_parts info_rsg
  obtain ⟨v', w', h1, h2, h3, _⟩ := run_append_own (P := Try.prog) (W.alloc (.cells s.cells 37)) base 40 40 37 i0 _ 3 24 Try.underlying40 hi hz0 hz1 hz2 rfl (by decide) _ _ _ (hown.alloc _)
    ⟨W.heap.size, 0, none⟩ 1 1 (cellsSg [s]) rfl (RdSg.one W s 37).cell (cellsSg_one _) (by unfold maxLen; omega) (by omega) (by simp; omega)
  obtain ⟨g, cap, rfl⟩ := ownsRow_succ h2
  exact ⟨g, cap, w', h1, by rw [cellsSg_app]; exact h2, h3⟩
/-- What the loop keeps. -/
def RofI (w3 : World) (n1 h : Nat) (L : List (List UInt8)) (N gk : Nat) (iv : Value) (wr : World) : Prop :=
  ∃ (i : Nat) (B : Option Addr) (d : Nat), iv = .int .i64 i ∧ i + gk = N ∧
    wr.heap[n1]? = some (.cells (sigC h B (sigF h (L.take i)).1.length d ((sigF h (L.take i)).2.1 : Nat) (sigF h (L.take i)).2.2) 42 (0, 0)) ∧
    wr.ownsRow w3.heap.size 37 3 (.slice B (sigF h (L.take i)).1.length d) (sigF h (L.take i)).1.length (cellsSg (sigF h (L.take i)).1) ∧ Below n1 w3 wr ∧ w3.heap.size ≤ wr.heap.size ∧ (∀ k, k < w3.heap.size → k ≠ n1 → wr.heap[k]? = w3.heap[k]?)

set_option maxHeartbeats 32000000 in
theorem refBkOf_any (s : ByteArray) (size : Int) (h : Nat) (w : World) (hs : s.size ≤ 1000000) (hh : fitN size = h) :
    Calls Try.prog 22 #[.string s, .int .i64 size] w fun e w' => ∃ B d, e = .returned (.agg (sigC h B (sigF h (blocksL (toL s) size)).1.length d (sigF h (blocksL (toL s) size)).2.1 (sigF h (blocksL (toL s) size)).2.2)) ∧ SI w 37 (.slice B (sigF h (blocksL (toL s) size)).1.length d) (sigF h (blocksL (toL s) size)).1 w' := by
  have HF := hide (show ∀ W, Calls Try.prog 34 #[.int .i64 size] W fun e w' => e = .returned (.int .i64 (h : Int)) ∧ w' = W from fun W => by have q := hold_any size W; rw [hh] at q; exact q)
  have HBl := hide (fun W => refBlocks_any s size W hs)
  have hLl : (blocksL (toL s) size).length ≤ 1000000 := by
    have q1 := blocksL_len (toL s) size
    have q2 := countN_le (toL s).length size
    have q3 : (toL s).length = s.size := by simp [toL]
    omega
  have hLx : ∀ x ∈ blocksL (toL s) size, x.length ≤ 64 := by
    intro x hx
    unfold blocksL at hx
    obtain ⟨k, _, rfl⟩ := List.mem_map.1 hx
    exact blkL_len _ _ _
  generalize blocksL (toL s) size = L at HBl hLl hLx ⊢
  obtain ⟨o0, ho0⟩ : ∃ o, o = (Obj.cells #[.int .i64 0, .slice none 0 0, .int .i64 0, .int .u32 0, .int .u64 0, .int .u64 0] 42) := ⟨_, rfl⟩
  obtain ⟨o1, ho1⟩ : ∃ o, o = (Obj.cells #[.int .i64 h, .slice none 0 0, .int .i64 0, .int .u32 0, .int .u64 0, .int .u64 0] 42) := ⟨_, rfl⟩
  have B0 := (Below.refl w.heap.size w).alloc (Nat.le_refl _) o0
  have B1 := (Below.refl (w.alloc o0).heap.size (w.alloc o0)).alloc (Nat.le_refl _) o1
  have r0 := (B1.block w.heap.size (by simp)).trans (World.alloc_heap_new w o0)
  have r1 := World.alloc_heap_new (w.alloc o0) o1
  have BB := B0.trans (B1.mono B0.size)
  have hz := show ((w.alloc o0).alloc o1).heap.size = w.heap.size + 1 + 1 by simp
  simp only [World.size_alloc] at r1
  clear B0 B1
  go_enter Try.func22, Try.ntmps22
  go_wp2_with fail
  refine (HF.out _).mono ?_
  rintro e w1 ⟨rfl, rfl⟩
  go_wp2_with fail
  rw [← ho0, ← ho1]
  generalize (w.alloc o0).alloc o1 = w2 at r0 r1 BB hz ⊢
  rw [ho0] at r0
  rw [ho1] at r1
  clear ho0 ho1
  have HBB := hide BB
  have HZ := hide hz
  have HR0 := hide r0
  have HR1 := hide r1
  clear BB hz r0 r1
  refine (HBl.out _).mono ?_
  rintro e w3 ⟨v, rfl, hXI⟩
  obtain ⟨C, cc, rfl⟩ := ownsRow_slice hXI.own
  have hg0 : ∀ ad : Addr, C = some ad → w.heap.size + 1 < ad.block := fun ad e => by
    subst e
    have q1 := hXI.own.lt ad.block rfl
    have q2 := HZ.out
    omega
  have hRx := RdTx.own hXI.own
  have HI0 := hide (show RofI w3 (w.heap.size + 1) h L L.length L.length (.int .i64 0) w3 from
    ⟨0, none, 0, rfl, by omega, (hXI.below.block _ (by have := HZ.out; omega)).trans HR1.out, World.ownsRow_nil _ _ _ _, Below.refl _ _, Nat.le_refl _, fun _ _ _ => rfl⟩)
  have HR0' := hide ((hXI.below.block w.heap.size (by have := HZ.out; omega)).trans HR0.out)
  have hs3 : w.heap.size + 1 + 1 ≤ w3.heap.size := by have := HZ.out; have := hXI.below.size; omega
  have HB3 := hide (HBB.out.trans (hXI.below.mono HBB.out.size))
  clear hXI HBl HR0 HR1
  go_wp2_with fail
  go_loopg [7] L.length (fun gk iv wr => RofI w3 (w.heap.size + 1) h L L.length gk iv wr)
  case atStart => exact HI0.out
  case round =>
    obtain ⟨i, B, d, rfl, hig, h1, h2, h3, h4, h5⟩ := hrel
    clear HI0
    cases gk with
    | zero =>
      obtain rfl : i = L.length := by omega
      have hst : sigF h (L.take L.length) = sigF h L := by rw [List.take_length]
      rw [hst] at h1 h2
      obtain ⟨st, hst2⟩ : ∃ st, st = sigF h L := ⟨_, rfl⟩
      rw [← hst2] at h1 h2
      obtain ⟨bl, tl, sg⟩ := st
      obtain ⟨sw, sh, sl⟩ := sg
      simp only at h1 h2
      have HM := hide hst2.symm
      have q0 := (h5 w.heap.size (by omega) (by omega)).trans HR0'.out
      have j0 : wr.cell? ⟨w.heap.size + 1, 0, none⟩ = some (.int .i64 h) := cell_of_row _ _ _ _ _ _ h1
      have y0 : wr.cell? ⟨w.heap.size, 0, none⟩ = some (.int .i64 0) := cell_of_row _ _ _ _ _ _ q0
      have z0 : wr.frozen? ⟨w.heap.size, 0, none⟩ = false := frozen_of_row _ _ _ _ _ q0
      have j1 : wr.cell? ⟨w.heap.size + 1, 1, none⟩ = some (.slice B bl.length d) := cell_of_row _ _ _ _ _ _ h1
      have y1 : wr.cell? ⟨w.heap.size, 1, none⟩ = some (.slice none 0 0) := cell_of_row _ _ _ _ _ _ q0
      have z1 : wr.frozen? ⟨w.heap.size, 1, none⟩ = false := frozen_of_row _ _ _ _ _ q0
      have j2 : wr.cell? ⟨w.heap.size + 1, 2, none⟩ = some (.int .i64 (tl : Nat)) := cell_of_row _ _ _ _ _ _ h1
      have y2 : wr.cell? ⟨w.heap.size, 2, none⟩ = some (.int .i64 0) := cell_of_row _ _ _ _ _ _ q0
      have z2 : wr.frozen? ⟨w.heap.size, 2, none⟩ = false := frozen_of_row _ _ _ _ _ q0
      have j3 : wr.cell? ⟨w.heap.size + 1, 3, none⟩ = some (.int .u32 (sw : Nat)) := cell_of_row _ _ _ _ _ _ h1
      have y3 : wr.cell? ⟨w.heap.size, 3, none⟩ = some (.int .u32 0) := cell_of_row _ _ _ _ _ _ q0
      have z3 : wr.frozen? ⟨w.heap.size, 3, none⟩ = false := frozen_of_row _ _ _ _ _ q0
      have j4 : wr.cell? ⟨w.heap.size + 1, 4, none⟩ = some (.int .u64 (sh : Nat)) := cell_of_row _ _ _ _ _ _ h1
      have y4 : wr.cell? ⟨w.heap.size, 4, none⟩ = some (.int .u64 0) := cell_of_row _ _ _ _ _ _ q0
      have z4 : wr.frozen? ⟨w.heap.size, 4, none⟩ = false := frozen_of_row _ _ _ _ _ q0
      have j5 : wr.cell? ⟨w.heap.size + 1, 5, none⟩ = some (.int .u64 (sl : Nat)) := cell_of_row _ _ _ _ _ _ h1
      have y5 : wr.cell? ⟨w.heap.size, 5, none⟩ = some (.int .u64 0) := cell_of_row _ _ _ _ _ _ q0
      have z5 : wr.frozen? ⟨w.heap.size, 5, none⟩ = false := frozen_of_row _ _ _ _ _ q0
      have x0 := heap_setCell_same _ w.heap.size 0 _ _ (.int .i64 h) q0
      have x1 := heap_setCell_same _ w.heap.size 1 _ _ (.slice B bl.length d) x0
      have x2 := heap_setCell_same _ w.heap.size 2 _ _ (.int .i64 (tl : Nat)) x1
      have x3 := heap_setCell_same _ w.heap.size 3 _ _ (.int .u32 (sw : Nat)) x2
      have x4 := heap_setCell_same _ w.heap.size 4 _ _ (.int .u64 (sh : Nat)) x3
      have x5 := heap_setCell_same _ w.heap.size 5 _ _ (.int .u64 (sl : Nat)) x4
      have HX := hide (show ((((((wr.setCell ⟨w.heap.size, 0, none⟩ (.int .i64 h)).setCell ⟨w.heap.size, 1, none⟩ (.slice B bl.length d)).setCell ⟨w.heap.size, 2, none⟩ (.int .i64 (tl : Nat))).setCell ⟨w.heap.size, 3, none⟩ (.int .u32 (sw : Nat))).setCell ⟨w.heap.size, 4, none⟩ (.int .u64 (sh : Nat))).setCell ⟨w.heap.size, 5, none⟩ (.int .u64 (sl : Nat))).heap[w.heap.size]? = some (.cells #[.int .i64 h, .slice B bl.length d, .int .i64 (tl : Nat), .int .u32 (sw : Nat), .int .u64 (sh : Nat), .int .u64 (sl : Nat)] 42 (0, 0)) ∧ Below w.heap.size w ((((((wr.setCell ⟨w.heap.size, 0, none⟩ (.int .i64 h)).setCell ⟨w.heap.size, 1, none⟩ (.slice B bl.length d)).setCell ⟨w.heap.size, 2, none⟩ (.int .i64 (tl : Nat))).setCell ⟨w.heap.size, 3, none⟩ (.int .u32 (sw : Nat))).setCell ⟨w.heap.size, 4, none⟩ (.int .u64 (sh : Nat))).setCell ⟨w.heap.size, 5, none⟩ (.int .u64 (sl : Nat))) ∧ ((((((wr.setCell ⟨w.heap.size, 0, none⟩ (.int .i64 h)).setCell ⟨w.heap.size, 1, none⟩ (.slice B bl.length d)).setCell ⟨w.heap.size, 2, none⟩ (.int .i64 (tl : Nat))).setCell ⟨w.heap.size, 3, none⟩ (.int .u32 (sw : Nat))).setCell ⟨w.heap.size, 4, none⟩ (.int .u64 (sh : Nat))).setCell ⟨w.heap.size, 5, none⟩ (.int .u64 (sl : Nat))).ownsRow w3.heap.size 37 3 (.slice B bl.length d) bl.length (cellsSg bl) from ⟨x5, (Below.setCell (p := ⟨w.heap.size, 5, none⟩) (Below.setCell (p := ⟨w.heap.size, 4, none⟩) (Below.setCell (p := ⟨w.heap.size, 3, none⟩) (Below.setCell (p := ⟨w.heap.size, 2, none⟩) (Below.setCell (p := ⟨w.heap.size, 1, none⟩) (Below.setCell (p := ⟨w.heap.size, 0, none⟩) (HB3.out.trans (h3.mono (by omega))) (Nat.le_refl _) (.int .i64 h)) (Nat.le_refl _) (.slice B bl.length d)) (Nat.le_refl _) (.int .i64 (tl : Nat))) (Nat.le_refl _) (.int .u32 (sw : Nat))) (Nat.le_refl _) (.int .u64 (sh : Nat))) (Nat.le_refl _) (.int .u64 (sl : Nat))), (own_cell2 (j := 5) (u := (.int .u64 (sl : Nat))) (own_cell2 (j := 4) (u := (.int .u64 (sh : Nat))) (own_cell2 (j := 3) (u := (.int .u32 (sw : Nat))) (own_cell2 (j := 2) (u := (.int .i64 (tl : Nat))) (own_cell2 (j := 1) (u := (.slice B bl.length d)) (own_cell2 (j := 0) (u := (.int .i64 h)) h2 (by omega)) (by omega)) (by omega)) (by omega)) (by omega)) (by omega))⟩)
      have HXw := hide (show w.heap.size ≤ w3.heap.size by omega)
      clear h1 h2 h3 h4 h5 hst hst2 q0 x0 x1 x2 x3 x4 x5 hRx hg0 hLx hLl
      go_wp2_with fail
      obtain ⟨hf, hBf, hOf⟩ := HX.out
      generalize ((((((wr.setCell ⟨w.heap.size, 0, none⟩ (.int .i64 h)).setCell ⟨w.heap.size, 1, none⟩ (.slice B bl.length d)).setCell ⟨w.heap.size, 2, none⟩ (.int .i64 (tl : Nat))).setCell ⟨w.heap.size, 3, none⟩ (.int .u32 (sw : Nat))).setCell ⟨w.heap.size, 4, none⟩ (.int .u64 (sh : Nat))).setCell ⟨w.heap.size, 5, none⟩ (.int .u64 (sl : Nat))) = W9 at hf hBf hOf ⊢
      have t0 : W9.cell? ⟨w.heap.size, 0, none⟩ = some (.int .i64 h) := cell_of_row _ _ _ _ _ _ hf
      have t1 : W9.cell? ⟨w.heap.size, 1, none⟩ = some (.slice B bl.length d) := cell_of_row _ _ _ _ _ _ hf
      have t2 : W9.cell? ⟨w.heap.size, 2, none⟩ = some (.int .i64 (tl : Nat)) := cell_of_row _ _ _ _ _ _ hf
      have t3 : W9.cell? ⟨w.heap.size, 3, none⟩ = some (.int .u32 (sw : Nat)) := cell_of_row _ _ _ _ _ _ hf
      have t4 : W9.cell? ⟨w.heap.size, 4, none⟩ = some (.int .u64 (sh : Nat)) := cell_of_row _ _ _ _ _ _ hf
      have t5 : W9.cell? ⟨w.heap.size, 5, none⟩ = some (.int .u64 (sl : Nat)) := cell_of_row _ _ _ _ _ _ hf
      refine bodyPost_ret (v := .agg #[.int .i64 h, .slice B bl.length d, .int .i64 (tl : Nat), .int .u32 (sw : Nat), .int .u64 (sh : Nat), .int .u64 (sl : Nat)]) (by simp [results, Try.results22, go_sem, t0, t1, t2, t3, t4, t5]) rfl ?_
      refine ⟨B, d, by rw [HM.out]; rfl, ?_⟩
      rw [HM.out]
      exact ⟨hBf, ownsRow_lowerSg hOf HXw.out⟩
    | succ g0 =>
      have hii : (i : Int) < L.length := by omega
      have hi0 : (0 : Int) ≤ (i : Int) := by omega
      obtain ⟨x, hx⟩ : ∃ x, L[i]? = some x := ⟨_, List.getElem?_eq_getElem (by omega)⟩
      have hxl := hLx x (List.mem_of_getElem? hx)
      obtain ⟨ad, rfl, hadl, hadc⟩ := hRx i x hx
      have hadn := hg0 ad rfl
      have hnew := sigF_take h L i x hx
      have hcellr : ∀ W : World, (∀ k, k < w3.heap.size → k ≠ w.heap.size + 1 → W.heap[k]? = w3.heap[k]?) → W.cell? (ad.add i) = some (.string (ofL x)) := fun W q => by
        rw [World.cell?_of_block (q (ad.add i).block (by rw [add_block]; exact hadl) (by rw [add_block]; omega))]
        exact hadc
      have hlen := sigF_len h (L.take i)
      rw [List.length_take] at hlen
      have u0 := hcellr wr h5
      have hzx : ((ofL x).size : Int) = x.length := by rw [ofL_size]
      have HSg := hide (fun (W : World) => refSignOf_any x W (by omega))
      have hiw : IntKind.i64.wrap ((i : Int) + 1) = ((i + 1 : Nat) : Int) := by rw [IntWalk.i64_in _ (by omega)]; rfl
      generalize sigF h (L.take i) = st at h1 h2 hlen hnew
      obtain ⟨bl, tl, sg⟩ := st
      simp only at h1 h2 hlen
      have hlt1 := (Array.getElem?_eq_some_iff.1 h1).1
      have c0 : wr.cell? ⟨w.heap.size + 1, 0, none⟩ = some (.int .i64 h) := cell_of_row _ _ _ _ _ _ h1
      have c1 : wr.cell? ⟨w.heap.size + 1, 1, none⟩ = some (.slice B bl.length d) := cell_of_row _ _ _ _ _ _ h1
      by_cases hxh : x.length = h
      · have E0 : (((ofL x).size : Int) == (h : Int)) = true := by rw [beq_iff_eq]; omega
        have hst : ofStep h (bl, tl, sg) x = (bl ++ [signL x], tl, sg) := by unfold ofStep; rw [if_pos hxh]
        rw [hst] at hnew
        generalize signL x = sgx at HSg hnew
        obtain ⟨sw, sh, sl⟩ := sgx
        simp only [Sg.cells] at HSg
        have HAp := hide (fun (w4 : World) (hb0 : Below wr.heap.size wr w4) => (show ∃ g cap w5, (Builtin.append_ #[40, 40] 40 #[.slice B bl.length d, .slice (some ⟨w4.heap.size, 0, none⟩) 1 1]).run Try.prog (w4.alloc (.cells #[.int .u32 (sw : Nat), .int .u64 (sh : Nat), .int .u64 (sl : Nat)] 37)) = .ok (.slice (some ⟨g, 0, none⟩) (bl.length + 1) cap) w5 ∧
            w4.cell? ⟨w.heap.size + 1, 1, none⟩ = some (.slice B bl.length d) ∧ (w4.alloc (.cells #[.int .u32 (sw : Nat), .int .u64 (sh : Nat), .int .u64 (sl : Nat)] 37)).cell? ⟨w.heap.size + 1, 1, none⟩ = some (.slice B bl.length d) ∧ w5.cell? ⟨w.heap.size + 1, 1, none⟩ = some (.slice B bl.length d) ∧ w5.frozen? ⟨w.heap.size + 1, 1, none⟩ = false ∧
            w4.cell? (ad.add i) = some (.string (ofL x)) ∧ (w4.alloc (.cells #[.int .u32 (sw : Nat), .int .u64 (sh : Nat), .int .u64 (sl : Nat)] 37)).cell? (ad.add i) = some (.string (ofL x)) ∧ w5.cell? (ad.add i) = some (.string (ofL x)) ∧ (w5.setCell ⟨w.heap.size + 1, 1, none⟩ (.slice (some ⟨g, 0, none⟩) (bl.length + 1) cap)).cell? (ad.add i) = some (.string (ofL x)) ∧
            RofI w3 (w.heap.size + 1) h L L.length g0 (.int .i64 ((i : Int) + 1)) (w5.setCell ⟨w.heap.size + 1, 1, none⟩ (.slice (some ⟨g, 0, none⟩) (bl.length + 1) cap)) from by
          have hb1 := hb0.alloc hb0.size (Obj.cells (Sg.cells ⟨sw, sh, sl⟩) 37)
          have ho4 := own_below h2 hb0
          obtain ⟨g, cap, w5, q1, q2, q3⟩ := append_rsign w4 w3.heap.size B d bl ⟨sw, sh, sl⟩ ho4 (by have := hb0.size; omega) (by omega)
          have hor : ∀ r, (Value.slice B bl.length d).ownBlock = some r → w3.heap.size ≤ r := fun r e => (h2.lt r e).1
          have k4 := (hb0.block _ hlt1).trans h1
          have k4a := (hb1.block _ hlt1).trans h1
          have k5 := (q3.block (w.heap.size + 1) (Nat.lt_of_lt_of_le hlt1 hb1.size) (fun e => by have := hor _ e.symm; omega)).trans k4a
          have k6 := heap_setCell_same w5 (w.heap.size + 1) 1 _ _ (.slice (some ⟨g, 0, none⟩) (bl.length + 1) cap) k5
          have hlen1 : (bl ++ [(⟨sw, sh, sl⟩ : Sg)]).length = bl.length + 1 := by simp
          have hsz6 : (w5.setCell ⟨w.heap.size + 1, 1, none⟩ (.slice (some ⟨g, 0, none⟩) (bl.length + 1) cap)).heap.size = w5.heap.size := by simp [World.setCell]
          have e4 : ∀ k, k < w3.heap.size → k ≠ w.heap.size + 1 → w4.heap[k]? = w3.heap[k]? := fun k p1 p2 => (hb0.block k (by omega)).trans (h5 k p1 p2)
          have e4a : ∀ k, k < w3.heap.size → k ≠ w.heap.size + 1 → (w4.alloc (.cells #[.int .u32 (sw : Nat), .int .u64 (sh : Nat), .int .u64 (sl : Nat)] 37)).heap[k]? = w3.heap[k]? := fun k p1 p2 => (hb1.block k (by omega)).trans (h5 k p1 p2)
          have e5 : ∀ k, k < w3.heap.size → k ≠ w.heap.size + 1 → w5.heap[k]? = w3.heap[k]? := fun k p1 p2 => (q3.block k (Nat.lt_of_lt_of_le (show k < wr.heap.size by omega) hb1.size) (fun e => by have := hor _ e.symm; omega)).trans (e4a k p1 p2)
          have e6 : ∀ k, k < w3.heap.size → k ≠ w.heap.size + 1 → (w5.setCell ⟨w.heap.size + 1, 1, none⟩ (.slice (some ⟨g, 0, none⟩) (bl.length + 1) cap)).heap[k]? = w3.heap[k]? := fun k p1 p2 => (heap_setCell_other w5 _ _ _ (by simpa using p2)).trans (e5 k p1 p2)
          refine ⟨g, cap, w5, q1, cell_of_row _ _ _ _ _ _ k4, cell_of_row _ _ _ _ _ _ k4a, cell_of_row _ _ _ _ _ _ k5, frozen_of_row _ _ _ _ _ k5, hcellr _ e4, hcellr _ e4a, hcellr _ e5, hcellr _ e6, i + 1, some ⟨g, 0, none⟩, cap, rfl, by omega, ?_, ?_, ?_, ?_, e6⟩
          · rw [hnew, hlen1]; exact k6
          · rw [hnew, hlen1]; exact own_cell2 q2 (by omega)
          · exact Below.setCell (p := ⟨w.heap.size + 1, 1, none⟩) ((h3.trans (hb1.mono (by omega))).grown q3 (by have := hb1.size; omega) (fun r e => by have := hor r e; omega)) (Nat.le_refl _) _
          · rw [hsz6]; exact Nat.le_trans h4 (Nat.le_trans hb1.size q3.size)))
        clear h1 h2 h3 h4 h5 hxh hst hnew hcellr hx hRx hg0 hzx hlt1 hadc hxl hLx
        generalize ofL x = sx at u0 E0 HSg HAp
        go_wp2_with fail
        go_quiet (fail)
        go_wp2_with fail
        obtain ⟨wq, hwq⟩ : ∃ wq, wq = wr.drewN nq := ⟨_, rfl⟩
        rw [← hwq]
        have hbq : Below wr.heap.size wr wq.drew := by rw [hwq]; exact (below_drewN (Below.refl wr.heap.size wr) nq).drew
        have hszq : wq.drew.heap.size = wr.heap.size := by rw [hwq]; rfl
        have u0' : wq.drew.cell? (ad.add i) = some (.string sx) := by rw [hwq]; exact u0
        have c1' : wq.drew.cell? ⟨w.heap.size + 1, 1, none⟩ = some (.slice B bl.length d) := by rw [hwq]; exact c1
        have HBq := hide (fun (w4 : World) (hb : Below wq.drew.heap.size wq.drew w4) => (show Below wr.heap.size wr w4 from hbq.trans (by rw [hszq] at hb; exact hb)))
        clear hwq hbq hszq u0 c0 c1
        refine wp_region_held (by kernel_rfl) (S := fun W => W.cell? (ad.add i) = some (.string sx)) ?_
        change wpAnyH _ _ _ _ _ _ _ _ (World.drew _)
        refine wpAnyH_take (i := 0) (v := ?vq1) rfl (by kernel_rfl) (by kernel_rfl) (by kernel_rfl) (fun _ _ _ h => h) (Or.inl ⟨by kernel_rfl, ?yq1⟩) u0' ?rq1
        case yq1 => intro W hS; go_simp; try with_reducible rfl
        try simp only [Act.put, List.getElem_toArray, List.getElem_cons_zero, List.setIfInBounds_toArray, List.set_cons_zero, List.set_cons_succ]
        refine wpAnyH_take (i := 2) (v := ?vq2) rfl (by kernel_rfl) (by kernel_rfl) (by kernel_rfl) (fun _ _ _ h => h) (Or.inl ⟨by kernel_rfl, ?yq2⟩) u0' ?rq2
        case yq2 => intro W hS; go_simp; try with_reducible rfl
        try simp only [Act.put, List.getElem_toArray, List.getElem_cons_succ, List.getElem_cons_zero, List.setIfInBounds_toArray, List.set_cons_zero, List.set_cons_succ]
        refine wpAnyH_take (i := 3) (v := ?vq3) rfl (by kernel_rfl) (by kernel_rfl) (by kernel_rfl) (fun _ _ _ h => h) (Or.inl ⟨by kernel_rfl, ?yq3⟩) u0' ?rq3
        case yq3 => intro W hS; go_simp; try with_reducible rfl
        try simp only [Act.put, List.getElem_toArray, List.getElem_cons_succ, List.getElem_cons_zero, List.setIfInBounds_toArray, List.set_cons_zero, List.set_cons_succ]
        refine wpAnyH_take (i := 4) (v := ?vq4) rfl (by kernel_rfl) (by kernel_rfl) (by kernel_rfl) (fun _ _ _ h => h) (Or.inl ⟨by kernel_rfl, ?yq4⟩) u0' ?rq4
        case yq4 => intro W hS; go_simp; try with_reducible rfl
        try simp only [Act.put, List.getElem_toArray, List.getElem_cons_succ, List.getElem_cons_zero, List.setIfInBounds_toArray, List.set_cons_zero, List.set_cons_succ]
        refine wpAnyH_take (i := 5) (v := ?vq5) rfl (by kernel_rfl) (by kernel_rfl) (by kernel_rfl) (fun _ _ _ h => h) (Or.inl ⟨by kernel_rfl, ?yq5⟩) u0' ?rq5
        case yq5 => intro W hS; go_simp; try with_reducible rfl
        try simp only [Act.put, List.getElem_toArray, List.getElem_cons_succ, List.getElem_cons_zero, List.setIfInBounds_toArray, List.set_cons_zero, List.set_cons_succ]
        refine held_two (i := 1) (k := 6) (by kernel_rfl) rfl rfl (fun K hK => ?_) (fun K hK => ?_)
        · go_simp
          refine hK _ _ u0' ?_
          clear hK K
          try simp only [Act.put, List.getElem_toArray, List.getElem_cons_succ, List.getElem_cons_zero, List.setIfInBounds_toArray, List.set_cons_zero, List.set_cons_succ]
          refine held_one (i := 6) (by kernel_rfl) rfl (fun K hK => ?_)
          go_simp
          refine (HSg.out _).mono ?_
          rintro en w4 ⟨rfl, hb4⟩
          obtain ⟨g, cap, w5, hrun, k1, k2, k3, k4, u1, u2, u3, u4, hpost⟩ := HAp.out w4 (HBq.out w4 hb4)
          have HPost := hide hpost
          clear hpost hb4
          refine hK _ _ u1 ?_
          clear hK K
          try simp only [Act.put, List.getElem_toArray, List.getElem_cons_succ, List.getElem_cons_zero, List.setIfInBounds_toArray, List.set_cons_zero, List.set_cons_succ]
          refine held_one (i := 7) (by kernel_rfl) rfl (fun K hK => ?_)
          go_simp
          refine hK _ _ u2 ?_
          clear hK K
          try simp only [Act.put, List.getElem_toArray, List.getElem_cons_succ, List.getElem_cons_zero, List.setIfInBounds_toArray, List.set_cons_zero, List.set_cons_succ]
          refine held_one (i := 8) (by kernel_rfl) rfl (fun K hK => ?_)
          refine step_append_run rfl (.tmp 29) (.tmp 35) 40 rfl _ _ rfl rfl _ _ hrun ?_
          refine hK _ _ u3 ?_
          clear hK K
          try simp only [Act.put, List.getElem_toArray, List.getElem_cons_succ, List.getElem_cons_zero, List.setIfInBounds_toArray, List.set_cons_zero, List.set_cons_succ]
          clear hrun
          refine wpAnyH_take (i := 9) (v := ?vq6) rfl (by kernel_rfl) (by kernel_rfl) (by kernel_rfl) (fun _ _ _ h => h) (Or.inl ⟨by kernel_rfl, ?yq6⟩) u3 ?rq6
          case yq6 => intro W hS; go_simp; try with_reducible rfl
          try simp only [Act.put, List.getElem_toArray, List.getElem_cons_succ, List.getElem_cons_zero, List.setIfInBounds_toArray, List.set_cons_zero, List.set_cons_succ]
          refine held_one (i := 10) (by kernel_rfl) rfl (fun K hK => ?_)
          go_simp
          refine hK _ _ u4 ?_
          clear hK K
          try simp only [Act.put, List.getElem_toArray, List.getElem_cons_succ, List.getElem_cons_zero, List.setIfInBounds_toArray, List.set_cons_zero, List.set_cons_succ]
          refine wpAnyH_done (by kernel_rfl) ?_ _
          go_wp2_with fail
          go_roundg g0
          case rel => exact HPost.out
          case measure => omega
        · go_simp
          refine (HSg.out _).mono ?_
          rintro en w4 ⟨rfl, hb4⟩
          obtain ⟨g, cap, w5, hrun, k1, k2, k3, k4, u1, u2, u3, u4, hpost⟩ := HAp.out w4 (HBq.out w4 hb4)
          have HPost := hide hpost
          clear hpost hb4
          refine hK _ _ u1 ?_
          clear hK K
          try simp only [Act.put, List.getElem_toArray, List.getElem_cons_succ, List.getElem_cons_zero, List.setIfInBounds_toArray, List.set_cons_zero, List.set_cons_succ]
          refine held_two (i := 1) (k := 7) (by kernel_rfl) rfl rfl (fun K hK => ?_) (fun K hK => ?_)
          · go_simp
            refine hK _ _ u1 ?_
            clear hK K
            try simp only [Act.put, List.getElem_toArray, List.getElem_cons_succ, List.getElem_cons_zero, List.setIfInBounds_toArray, List.set_cons_zero, List.set_cons_succ]
            refine held_one (i := 7) (by kernel_rfl) rfl (fun K hK => ?_)
            go_simp
            refine hK _ _ u2 ?_
            clear hK K
            try simp only [Act.put, List.getElem_toArray, List.getElem_cons_succ, List.getElem_cons_zero, List.setIfInBounds_toArray, List.set_cons_zero, List.set_cons_succ]
            refine held_one (i := 8) (by kernel_rfl) rfl (fun K hK => ?_)
            refine step_append_run rfl (.tmp 29) (.tmp 35) 40 rfl _ _ rfl rfl _ _ hrun ?_
            refine hK _ _ u3 ?_
            clear hK K
            try simp only [Act.put, List.getElem_toArray, List.getElem_cons_succ, List.getElem_cons_zero, List.setIfInBounds_toArray, List.set_cons_zero, List.set_cons_succ]
            clear hrun
            refine wpAnyH_take (i := 9) (v := ?vq7) rfl (by kernel_rfl) (by kernel_rfl) (by kernel_rfl) (fun _ _ _ h => h) (Or.inl ⟨by kernel_rfl, ?yq7⟩) u3 ?rq7
            case yq7 => intro W hS; go_simp; try with_reducible rfl
            try simp only [Act.put, List.getElem_toArray, List.getElem_cons_succ, List.getElem_cons_zero, List.setIfInBounds_toArray, List.set_cons_zero, List.set_cons_succ]
            refine held_one (i := 10) (by kernel_rfl) rfl (fun K hK => ?_)
            go_simp
            refine hK _ _ u4 ?_
            clear hK K
            try simp only [Act.put, List.getElem_toArray, List.getElem_cons_succ, List.getElem_cons_zero, List.setIfInBounds_toArray, List.set_cons_zero, List.set_cons_succ]
            refine wpAnyH_done (by kernel_rfl) ?_ _
            go_wp2_with fail
            go_roundg g0
            case rel => exact HPost.out
            case measure => omega
          · go_simp
            refine hK _ _ u2 ?_
            clear hK K
            try simp only [Act.put, List.getElem_toArray, List.getElem_cons_succ, List.getElem_cons_zero, List.setIfInBounds_toArray, List.set_cons_zero, List.set_cons_succ]
            refine held_one (i := 1) (by kernel_rfl) rfl (fun K hK => ?_)
            go_simp
            refine hK _ _ u2 ?_
            clear hK K
            try simp only [Act.put, List.getElem_toArray, List.getElem_cons_succ, List.getElem_cons_zero, List.setIfInBounds_toArray, List.set_cons_zero, List.set_cons_succ]
            refine held_one (i := 8) (by kernel_rfl) rfl (fun K hK => ?_)
            refine step_append_run rfl (.tmp 29) (.tmp 35) 40 rfl _ _ rfl rfl _ _ hrun ?_
            refine hK _ _ u3 ?_
            clear hK K
            try simp only [Act.put, List.getElem_toArray, List.getElem_cons_succ, List.getElem_cons_zero, List.setIfInBounds_toArray, List.set_cons_zero, List.set_cons_succ]
            clear hrun
            refine wpAnyH_take (i := 9) (v := ?vq8) rfl (by kernel_rfl) (by kernel_rfl) (by kernel_rfl) (fun _ _ _ h => h) (Or.inl ⟨by kernel_rfl, ?yq8⟩) u3 ?rq8
            case yq8 => intro W hS; go_simp; try with_reducible rfl
            try simp only [Act.put, List.getElem_toArray, List.getElem_cons_succ, List.getElem_cons_zero, List.setIfInBounds_toArray, List.set_cons_zero, List.set_cons_succ]
            refine held_one (i := 10) (by kernel_rfl) rfl (fun K hK => ?_)
            go_simp
            refine hK _ _ u4 ?_
            clear hK K
            try simp only [Act.put, List.getElem_toArray, List.getElem_cons_succ, List.getElem_cons_zero, List.setIfInBounds_toArray, List.set_cons_zero, List.set_cons_succ]
            refine wpAnyH_done (by kernel_rfl) ?_ _
            go_wp2_with fail
            go_roundg g0
            case rel => exact HPost.out
            case measure => omega
      · have E0 : (((ofL x).size : Int) == (h : Int)) = false := by rw [beq_eq_false_iff_ne]; omega
        have hst : ofStep h (bl, tl, sg) x = (bl, x.length, signL x) := by unfold ofStep; rw [if_neg hxh]
        rw [hst] at hnew
        obtain ⟨tw, th, tlo⟩ := sg
        generalize signL x = sgx at HSg hnew
        obtain ⟨sw, sh, sl⟩ := sgx
        simp only [Sg.cells] at HSg
        have HFin := hide (fun (wq : World) (hbq : Below wr.heap.size wr wq) => (show (wq.cell? ⟨w.heap.size + 1, 2, none⟩ = some (.int .i64 (tl : Nat)) ∧ wq.frozen? ⟨w.heap.size + 1, 2, none⟩ = false ∧ wq.cell? (ad.add i) = some (.string (ofL x)) ∧ (wq.setCell ⟨w.heap.size + 1, 2, none⟩ (.int .i64 (ofL x).size)).cell? (ad.add i) = some (.string (ofL x))) ∧
            ∀ w4, Below (wq.setCell ⟨w.heap.size + 1, 2, none⟩ (.int .i64 (ofL x).size)).heap.size (wq.setCell ⟨w.heap.size + 1, 2, none⟩ (.int .i64 (ofL x).size)) w4 →
              (w4.cell? ⟨w.heap.size + 1, 3, none⟩ = some (.int .u32 (tw : Nat)) ∧ w4.cell? ⟨w.heap.size + 1, 4, none⟩ = some (.int .u64 (th : Nat)) ∧ w4.cell? ⟨w.heap.size + 1, 5, none⟩ = some (.int .u64 (tlo : Nat)) ∧ (∀ j, w4.frozen? ⟨w.heap.size + 1, j, none⟩ = false)) ∧
              RofI w3 (w.heap.size + 1) h L L.length g0 (.int .i64 ((i : Int) + 1)) (((w4.setCell ⟨w.heap.size + 1, 3, none⟩ (.int .u32 (sw : Nat))).setCell ⟨w.heap.size + 1, 4, none⟩ (.int .u64 (sh : Nat))).setCell ⟨w.heap.size + 1, 5, none⟩ (.int .u64 (sl : Nat))) from by
          have kq := (hbq.block _ hlt1).trans h1
          have eq : ∀ k, k < w3.heap.size → k ≠ w.heap.size + 1 → wq.heap[k]? = w3.heap[k]? := fun k p1 p2 => (hbq.block k (by omega)).trans (h5 k p1 p2)
          have hn : ∀ (U : World) (j : Nat) (v : Value) (k : Nat), k ≠ w.heap.size + 1 → (U.setCell ⟨w.heap.size + 1, j, none⟩ v).heap[k]? = U.heap[k]? := fun U j v k p2 => heap_setCell_other _ _ _ _ (by simpa using p2)
          have hsA : (wq.setCell ⟨w.heap.size + 1, 2, none⟩ (.int .i64 (ofL x).size)).heap.size = wq.heap.size := by simp [World.setCell]
          have kA := heap_setCell_same wq (w.heap.size + 1) 2 _ _ (.int .i64 (ofL x).size) kq
          have oA := own_cell2 (j := 2) (u := .int .i64 (ofL x).size) (own_below h2 hbq) (show w.heap.size + 1 < w3.heap.size by omega)
          refine ⟨⟨cell_of_row _ _ _ _ _ _ kq, frozen_of_row _ _ _ _ _ kq, hcellr _ eq, hcellr _ (fun k p1 p2 => (hn _ _ _ k p2).trans (eq k p1 p2))⟩, fun w4 hb => ?_⟩
          have k4 := (hb.block (w.heap.size + 1) (by rw [hsA]; exact Nat.lt_of_lt_of_le hlt1 hbq.size)).trans kA
          have k6 := heap_setCell_same _ (w.heap.size + 1) 5 _ _ (.int .u64 (sl : Nat)) (heap_setCell_same _ (w.heap.size + 1) 4 _ _ (.int .u64 (sh : Nat)) (heap_setCell_same w4 (w.heap.size + 1) 3 _ _ (.int .u32 (sw : Nat)) k4))
          have e4 : ∀ k, k < w3.heap.size → k ≠ w.heap.size + 1 → w4.heap[k]? = w3.heap[k]? := fun k p1 p2 => (hb.block k (by rw [hsA]; have := hbq.size; omega)).trans ((hn _ _ _ k p2).trans (eq k p1 p2))
          have hs4 := hb.size
          rw [hsA] at hs4
          refine ⟨⟨cell_of_row _ _ _ _ _ _ k4, cell_of_row _ _ _ _ _ _ k4, cell_of_row _ _ _ _ _ _ k4, fun j => frozen_of_row _ _ _ _ _ k4⟩, i + 1, B, d, rfl, by omega, ?_, ?_, ?_, ?_, ?_⟩
          · rw [hnew]
            have hz2 : ((ofL x).size : Int) = ((x.length : Nat) : Int) := hzx
            rw [hz2] at k6
            exact k6
          · rw [hnew]
            exact own_cell2 (own_cell2 (own_cell2 (own_below oA hb) (by omega)) (by omega)) (by omega)
          · exact Below.setCell (p := ⟨w.heap.size + 1, 5, none⟩) (Below.setCell (p := ⟨w.heap.size + 1, 4, none⟩) (Below.setCell (p := ⟨w.heap.size + 1, 3, none⟩) ((Below.setCell (p := ⟨w.heap.size + 1, 2, none⟩) (h3.trans (hbq.mono (by omega))) (Nat.le_refl _) _).trans (hb.mono (by rw [hsA]; have := hbq.size; omega))) (Nat.le_refl _) _) (Nat.le_refl _) _) (Nat.le_refl _) _
          · have hs5 : (((w4.setCell ⟨w.heap.size + 1, 3, none⟩ (.int .u32 (sw : Nat))).setCell ⟨w.heap.size + 1, 4, none⟩ (.int .u64 (sh : Nat))).setCell ⟨w.heap.size + 1, 5, none⟩ (.int .u64 (sl : Nat))).heap.size = w4.heap.size := by simp [World.setCell]
            rw [hs5]
            have := hbq.size
            omega
          · exact fun k p1 p2 => (hn _ _ _ k p2).trans ((hn _ _ _ k p2).trans ((hn _ _ _ k p2).trans (e4 k p1 p2)))))
        clear h1 h2 h3 h4 h5 hxh hst hnew hcellr hx hRx hg0 hzx hlt1 hadc hxl hLx c1
        generalize ofL x = sx at u0 E0 HSg HFin
        go_wp2_with fail
        go_quiet (fail)
        obtain ⟨wq, hwq⟩ : ∃ wq, wq = wr.drewN nq := ⟨_, rfl⟩
        rw [← hwq]
        have hbq : Below wr.heap.size wr wq := by rw [hwq]; exact below_drewN (Below.refl wr.heap.size wr) nq
        obtain ⟨⟨q1, q2, q3, q4⟩, hF⟩ := HFin.out wq hbq
        have HF4 := hide hF
        clear hwq hbq hF u0 c0
        go_wp2_with fail
        refine (HSg.out _).mono ?_
        rintro e w4 ⟨rfl, hb4⟩
        obtain ⟨⟨s3, s4, s5, sf⟩, hpost⟩ := HF4.out w4 hb4
        have f3 := sf 3
        have f4 := sf 4
        have f5 := sf 5
        have HPost := hide hpost
        clear sf hpost hb4 q1 q2 q3 q4
        go_wp2_with fail
        go_roundg g0
        case rel => exact HPost.out
        case measure => omega
end Go.Proofs.Ytobgbheodlpclaa
