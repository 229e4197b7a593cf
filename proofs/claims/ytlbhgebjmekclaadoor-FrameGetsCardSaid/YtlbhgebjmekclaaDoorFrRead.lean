/-
  frame.read.
-/
import Derived.Test.YtlbhgebjmekclaaDoorFrPut
import Derived.Test.YtlbhgebjmekclaaDoorVintText
namespace Go.Proofs.YtlbhgebjmekclaaDoor
open Go.RowKit
set_option maxRecDepth 100000

/-- A frame that is read, what is left, the error. -/
def rd3 (k n m : Nat) (r : List UInt8 × List UInt8 × Nat) : Fr × List UInt8 × Nat := (⟨(k : Nat), n, m, ofL r.1⟩, r.2)
def rd2 (k n : Nat) (r : Nat × List UInt8 × Nat) : Fr × List UInt8 × Nat := rd3 k n r.1 (readT r.2.1 r.2.2 131072)
def rd1 (k : Nat) (r : Nat × List UInt8 × Nat) : Fr × List UInt8 × Nat := rd2 k r.1 (readN r.2.1 r.2.2 18446744073709551615)
def rd0 (r : Nat × List UInt8 × Nat) : Fr × List UInt8 × Nat := rd1 r.1 (readN r.2.1 r.2.2 18446744073709551615)
def readF (l : List UInt8) : Fr × List UInt8 × Nat := rd0 (readN l 0 255)

/-- While it is read: the reader, the frame's row, the answer's. -/
structure FrS (w0 : World) (b n : Nat) (W : World) (l : List UInt8) (e : Nat) (c z : Array Value) : Prop where
  rd : IsR W b l e
  grown : w0.grownBy W (some b)
  below : Below b w0 W
  row : W.heap[n]? = some (.cells c 26 (0, 0))
  low : W.heap[w0.heap.size]? = some (.cells z 26 (0, 0))
theorem FrS.start {w : World} {b : Nat} {l : List UInt8} {e : Nat} (h : IsR w b l e) (c : Array Value) : FrS w b (w.heap.size + 1) ((w.alloc (.cells c 26)).alloc (.cells c 26)) l e c c := by
  have hb := ((Below.refl w.heap.size w).alloc (Nat.le_refl _) (.cells c 26)).alloc (by simp) (.cells c 26)
  have hr := World.alloc_heap_new (w.alloc (.cells c 26)) (Obj.cells c 26)
  rw [World.size_alloc] at hr
  have hr0 : ((w.alloc (.cells c 26)).alloc (.cells c 26)).heap[w.heap.size]? = some (.cells c 26 (0, 0)) := by
    rw [Below.heap_alloc _ _ _ (by simp)]
    exact World.alloc_heap_new _ _
  exact ⟨h.keep (hb.mono h.lt), ⟨hb.os, hb.tape, hb.output, hb.size, fun k hk _ => hb.block k hk⟩, hb.mono (Nat.le_of_lt h.lt), hr, hr0⟩
theorem FrS.call {w0 : World} {b n : Nat} {W W' : World} {l l' : List UInt8} {e e' : Nat} {c z : Array Value} (h : FrS w0 b n W l e c z) (hb : b < w0.heap.size) (hn : w0.heap.size < n) (h2 : IsR W' b l' e') (h3 : W.grownBy W' (some b)) (h4 : Below b W W') : FrS w0 b n W' l' e' c z :=
  ⟨h2, ⟨h3.os.trans h.grown.os, h3.tape.trans h.grown.tape, h3.output.trans h.grown.output, Nat.le_trans h.grown.size h3.size, fun k hk hkb => (h3.block k (Nat.lt_of_lt_of_le hk h.grown.size) hkb).trans (h.grown.block k hk hkb)⟩, h.below.trans h4, (h3.block _ (Array.getElem?_eq_some_iff.1 h.row).1 (fun e => by injection e; omega)).trans h.row, (h3.block _ (Array.getElem?_eq_some_iff.1 h.low).1 (fun e => by injection e; omega)).trans h.low⟩
theorem FrS.keep {w0 : World} {b : Nat} {W W' : World} {l : List UInt8} {e : Nat} (h : IsR W b l e ∧ w0.grownBy W (some b) ∧ Below b w0 W) (hb : b < w0.heap.size) (h1 : Below w0.heap.size W W') : IsR W' b l e ∧ w0.grownBy W' (some b) ∧ Below b w0 W' :=
  ⟨h.1.keep (h1.mono hb), ⟨h1.os.trans h.2.1.os, h1.tape.trans h.2.1.tape, h1.output.trans h.2.1.output, Nat.le_trans h.2.1.size h1.size, fun k hk hkb => (h1.block k hk).trans (h.2.1.block k hk hkb)⟩, h.2.2.trans (h1.mono (Nat.le_of_lt hb))⟩
theorem FrS.set {w0 : World} {b n : Nat} {W : World} {l : List UInt8} {e : Nat} {c z : Array Value} (h : FrS w0 b n W l e c z) (hb : b < w0.heap.size) (hn : w0.heap.size < n) (j : Nat) (v : Value) : FrS w0 b n (W.setCell ⟨n, j, none⟩ v) l e (c.setIfInBounds j v) z := by
  obtain ⟨x1, x2, x3⟩ := FrS.keep ⟨h.rd, h.grown, h.below⟩ hb ((Below.refl _ W).setCell (p := ⟨n, j, none⟩) (Nat.le_of_lt hn) v)
  exact ⟨x1, x2, x3, heap_setCell_same _ _ j _ _ v h.row, (Below.heap_setCell _ _ _ _ (by show w0.heap.size ≠ n; omega)).trans h.low⟩
/-- The answer's four stores. -/
theorem FrS.last {w0 : World} {b n : Nat} {W : World} {l : List UInt8} {e : Nat} {c : Array Value} {y0 y1 y2 y3 : Value} (h : FrS w0 b n W l e c #[y0, y1, y2, y3]) (hb : b < w0.heap.size) (v0 v1 v2 v3 : Value) :
    (IsR ((((W.setCell ⟨w0.heap.size, 0, none⟩ v0).setCell ⟨w0.heap.size, 1, none⟩ v1).setCell ⟨w0.heap.size, 2, none⟩ v2).setCell ⟨w0.heap.size, 3, none⟩ v3) b l e ∧ w0.grownBy ((((W.setCell ⟨w0.heap.size, 0, none⟩ v0).setCell ⟨w0.heap.size, 1, none⟩ v1).setCell ⟨w0.heap.size, 2, none⟩ v2).setCell ⟨w0.heap.size, 3, none⟩ v3) (some b) ∧ Below b w0 ((((W.setCell ⟨w0.heap.size, 0, none⟩ v0).setCell ⟨w0.heap.size, 1, none⟩ v1).setCell ⟨w0.heap.size, 2, none⟩ v2).setCell ⟨w0.heap.size, 3, none⟩ v3)) ∧
    ((((W.setCell ⟨w0.heap.size, 0, none⟩ v0).setCell ⟨w0.heap.size, 1, none⟩ v1).setCell ⟨w0.heap.size, 2, none⟩ v2).setCell ⟨w0.heap.size, 3, none⟩ v3).heap[w0.heap.size]? = some (.cells #[v0, v1, v2, v3] 26 (0, 0)) := by
  have r0 := heap_setCell_same _ _ 0 _ _ v0 h.low
  have r1 := heap_setCell_same _ _ 1 _ _ v1 r0
  have r2 := heap_setCell_same _ _ 2 _ _ v2 r1
  have r3 := heap_setCell_same _ _ 3 _ _ v3 r2
  have b0 := (Below.refl w0.heap.size W).setCell (p := ⟨w0.heap.size, 0, none⟩) (Nat.le_refl _) v0
  have b1 := b0.setCell (p := ⟨w0.heap.size, 1, none⟩) (Nat.le_refl _) v1
  have b2 := b1.setCell (p := ⟨w0.heap.size, 2, none⟩) (Nat.le_refl _) v2
  have b3 := b2.setCell (p := ⟨w0.heap.size, 3, none⟩) (Nat.le_refl _) v3
  exact ⟨FrS.keep ⟨h.rd, h.grown, h.below⟩ hb b3, r3⟩

set_option maxHeartbeats 8000000 in
theorem frRead_any (b : Nat) (l : List UInt8) (w : World) (h : IsR w b l 0) (hl : l.length ≤ 1000000) :
    Calls Tryd.prog 27 #[.pointer (some ⟨b, 0, none⟩)] w fun en w' => en = .returned (.agg (readF l).1.cells) ∧ IsR w' b (readF l).2.1 (readF l).2.2 ∧ w.grownBy w' (some b) ∧ Below b w w' := by
  have hb := h.lt
  have HS0 := hide (FrS.start h #[.int .i64 0, .int .u64 0, .int .u64 0, .string ⟨#[]⟩])
  have HI := hide (fun W (hI : IsR W b l 0) => readInt_any b 0 255 l W hI hl (by decide))
  have hlen := readN_len2 l 0 255
  rw [show (255 : Int).toNat = 255 from rfl] at HI
  unfold readF
  generalize readN l 0 255 = r at HI hlen ⊢
  obtain ⟨K, l1, e1⟩ := r
  unfold rd0
  simp only at HI hlen ⊢
  have HN1 := hide (fun W (hI : IsR W b l1 e1) => readNum_any b 18446744073709551615 e1 l1 W hI (by omega))
  have hlen1 := readN_len2 l1 e1 18446744073709551615
  generalize readN l1 e1 18446744073709551615 = r at HN1 hlen1 ⊢
  obtain ⟨bt, l2, e2⟩ := r
  unfold rd1
  simp only at HN1 hlen1 ⊢
  have HN2 := hide (fun W (hI : IsR W b l2 e2) => readNum_any b 18446744073709551615 e2 l2 W hI (by omega))
  have hlen2 := readN_len2 l2 e2 18446744073709551615
  generalize readN l2 e2 18446744073709551615 = r at HN2 hlen2 ⊢
  obtain ⟨nm, l3, e3⟩ := r
  unfold rd2
  simp only at HN2 hlen2 ⊢
  have HT := hide (fun W (hI : IsR W b l3 e3) => readText_any b e3 131072 l3 W hI (by omega) (by decide))
  rw [show (131072 : Int).toNat = 131072 from rfl] at HT
  generalize readT l3 e3 131072 = r at HT ⊢
  obtain ⟨s, l4, e4⟩ := r
  unfold rd3
  simp only [Fr.cells] at HT ⊢
  generalize ofL s = t at HT ⊢
  clear hlen hlen1 hlen2 hl
  have HB := hide hb
  have HN := hide (Nat.lt_succ_self w.heap.size)
  have HZ := hide HS0.out.rd
  clear h hb
  go_enter Tryd.func27, Tryd.ntmps27
  go_wp2_with fail
  refine (HI.out _ HZ.out).mono ?_
  rintro en w1 ⟨rfl, h2, h3, h4⟩
  have HS1 := hide (HS0.out.call HB.out HN.out h2 h3 h4)
  have z0 : w1.frozen? ⟨w.heap.size + 1, 0, none⟩ = false := frozen_of_row _ _ _ _ _ HS1.out.row
  have k0 : w1.cell? ⟨w.heap.size + 1, 0, none⟩ = some (.int .i64 0) := cell_of_row _ _ _ _ _ _ HS1.out.row
  have HS2 := hide (HS1.out.set HB.out HN.out 0 (.int .i64 K))
  clear h2 h3 h4 HS0 HZ HI
  go_wp2_with fail
  refine (HN1.out _ HS2.out.rd).mono ?_
  rintro en w2 ⟨rfl, h2, h3, h4⟩
  have HS3 := hide (HS2.out.call HB.out HN.out h2 h3 h4)
  clear h2 h3 h4 HS1 HS2 HN1 z0 k0
  have z1 : w2.frozen? ⟨w.heap.size + 1, 1, none⟩ = false := frozen_of_row _ _ _ _ _ HS3.out.row
  have k1 : w2.cell? ⟨w.heap.size + 1, 1, none⟩ = some (.int .u64 0) := cell_of_row _ _ _ _ _ _ HS3.out.row
  have HS4 := hide (HS3.out.set HB.out HN.out 1 (.int .u64 bt))
  go_wp2_with fail
  refine (HN2.out _ HS4.out.rd).mono ?_
  rintro en w3 ⟨rfl, h2, h3, h4⟩
  have HS5 := hide (HS4.out.call HB.out HN.out h2 h3 h4)
  clear h2 h3 h4 HS3 HS4 HN2 z1 k1
  have z2 : w3.frozen? ⟨w.heap.size + 1, 2, none⟩ = false := frozen_of_row _ _ _ _ _ HS5.out.row
  have k2 : w3.cell? ⟨w.heap.size + 1, 2, none⟩ = some (.int .u64 0) := cell_of_row _ _ _ _ _ _ HS5.out.row
  have HS6 := hide (HS5.out.set HB.out HN.out 2 (.int .u64 nm))
  go_wp2_with fail
  refine (HT.out _ HS6.out.rd).mono ?_
  rintro en w4 ⟨rfl, h2, h3, h4⟩
  have HS7 := hide (HS6.out.call HB.out HN.out h2 h3 h4)
  clear h2 h3 h4 HS5 HS6 HT z2 k2
  have z3 : w4.frozen? ⟨w.heap.size + 1, 3, none⟩ = false := frozen_of_row _ _ _ _ _ HS7.out.row
  have k3 : w4.cell? ⟨w.heap.size + 1, 3, none⟩ = some (.string ⟨#[]⟩) := cell_of_row _ _ _ _ _ _ HS7.out.row
  have HS8 := hide (HS7.out.set HB.out HN.out 3 (.string t))
  have y0 : (w4.setCell ⟨w.heap.size + 1, 3, none⟩ (.string t)).cell? ⟨w.heap.size + 1, 0, none⟩ = some (.int .i64 K) := cell_of_row _ _ _ _ _ _ HS8.out.row
  have y1 : (w4.setCell ⟨w.heap.size + 1, 3, none⟩ (.string t)).cell? ⟨w.heap.size + 1, 1, none⟩ = some (.int .u64 bt) := cell_of_row _ _ _ _ _ _ HS8.out.row
  have y2 : (w4.setCell ⟨w.heap.size + 1, 3, none⟩ (.string t)).cell? ⟨w.heap.size + 1, 2, none⟩ = some (.int .u64 nm) := cell_of_row _ _ _ _ _ _ HS8.out.row
  have y3 : (w4.setCell ⟨w.heap.size + 1, 3, none⟩ (.string t)).cell? ⟨w.heap.size + 1, 3, none⟩ = some (.string t) := cell_of_row _ _ _ _ _ _ HS8.out.row
  have g0 : (w4.setCell ⟨w.heap.size + 1, 3, none⟩ (.string t)).frozen? ⟨w.heap.size, 0, none⟩ = false := frozen_of_row _ _ _ _ _ HS8.out.low
  have q0 : (w4.setCell ⟨w.heap.size + 1, 3, none⟩ (.string t)).cell? ⟨w.heap.size, 0, none⟩ = some (.int .i64 0) := cell_of_row _ _ _ _ _ _ HS8.out.low
  have g1 : (w4.setCell ⟨w.heap.size + 1, 3, none⟩ (.string t)).frozen? ⟨w.heap.size, 1, none⟩ = false := frozen_of_row _ _ _ _ _ HS8.out.low
  have q1 : (w4.setCell ⟨w.heap.size + 1, 3, none⟩ (.string t)).cell? ⟨w.heap.size, 1, none⟩ = some (.int .u64 0) := cell_of_row _ _ _ _ _ _ HS8.out.low
  have g2 : (w4.setCell ⟨w.heap.size + 1, 3, none⟩ (.string t)).frozen? ⟨w.heap.size, 2, none⟩ = false := frozen_of_row _ _ _ _ _ HS8.out.low
  have q2 : (w4.setCell ⟨w.heap.size + 1, 3, none⟩ (.string t)).cell? ⟨w.heap.size, 2, none⟩ = some (.int .u64 0) := cell_of_row _ _ _ _ _ _ HS8.out.low
  have g3 : (w4.setCell ⟨w.heap.size + 1, 3, none⟩ (.string t)).frozen? ⟨w.heap.size, 3, none⟩ = false := frozen_of_row _ _ _ _ _ HS8.out.low
  have q3 : (w4.setCell ⟨w.heap.size + 1, 3, none⟩ (.string t)).cell? ⟨w.heap.size, 3, none⟩ = some (.string ⟨#[]⟩) := cell_of_row _ _ _ _ _ _ HS8.out.low
  have HX := hide (HS8.out.last HB.out (.int .i64 K) (.int .u64 bt) (.int .u64 nm) (.string t))
  clear HS8 HS7
  go_wp2_with fail
  obtain ⟨hx, hr⟩ := HX.out
  have x0 := cell_of_row _ _ 0 _ _ _ hr
  have x1 := cell_of_row _ _ 1 _ _ _ hr
  have x2 := cell_of_row _ _ 2 _ _ _ hr
  have x3 := cell_of_row _ _ 3 _ _ _ hr
  refine bodyPost_ret (v := .agg #[.int .i64 K, .int .u64 bt, .int .u64 nm, .string t]) (by simp [results, Tryd.results27, go_sem, x0, x1, x2, x3]) rfl ⟨rfl, hx⟩
end Go.Proofs.YtlbhgebjmekclaaDoor
