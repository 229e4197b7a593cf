/-
  The program's read of a signature.
-/
import Derived.Test.YtobgbheodlpclaaAutoBkGet
import Derived.Test.YtobgbheodlpclaaBkOf
namespace Go.Proofs.Ytobgbheodlpclaa
open Go.RowKit Go.Shelf
set_option maxRecDepth 100000

theorem readS_len2 (l : List UInt8) (e : Nat) : (readS l e).2.1.length ≤ l.length := by
  unfold readS
  split
  · exact Nat.le_refl _
  · split
    · exact Nat.le_refl _
    · show (l.drop 16).length ≤ _; rw [List.length_drop]; omega
theorem readSg_len2 (l : List UInt8) (e : Nat) : (readSg l e).2.1.length ≤ l.length :=
  Nat.le_trans (readS_len2 _ _) (readN_len2 l e 4294967295)
theorem readSgs_len : ∀ (n : Nat) (o : List Sg) (l : List UInt8) (e : Nat), (readSgs n o l e).1.length = o.length + n ∧ (readSgs n o l e).2.1.length ≤ l.length
  | 0, o, l, e => ⟨rfl, Nat.le_refl _⟩
  | n + 1, o, l, e => by
    unfold readSgs
    obtain ⟨h1, h2⟩ := readSgs_len n (o ++ [(readSg l e).1]) (readSg l e).2.1 (readSg l e).2.2
    refine ⟨by rw [h1]; simp; omega, Nat.le_trans h2 (readSg_len2 l e)⟩
/-- What lies by while a signature is read. -/
structure Lay (w : World) (b n0 : Nat) (W : World) : Prop where
  grown : w.grownBy W (some b)
  below : Below b w W
  row : W.heap[n0]? = some (.cells #[.int .i64 0, .slice none 0 0, .int .i64 0, .int .u32 0, .int .u64 0, .int .u64 0] 32 (0, 0))
theorem Lay.go {w W W' : World} {b n0 : Nat} (h : Lay w b n0 W) (hb : b < n0) (hg : W.grownBy W' (some b)) (hB : Below b W W') : Lay w b n0 W' :=
  ⟨grown_two h.grown hg, h.below.trans hB, (hg.block n0 (Array.getElem?_eq_some_iff.1 h.row).1 (fun e => by injection e; omega)).trans h.row⟩
theorem Lay.over {w W W' : World} {b n0 : Nat} (h : Lay w b n0 W) (hb : b ≤ n0) (hB : Below (n0 + 1) W W') (hw : w.heap.size ≤ n0 + 1) : Lay w b n0 W' :=
  ⟨⟨hB.os.trans h.grown.os, hB.tape.trans h.grown.tape, hB.output.trans h.grown.output, Nat.le_trans h.grown.size hB.size, fun k hk hkb => (hB.block k (by omega)).trans (h.grown.block k hk hkb)⟩, h.below.trans (hB.mono (by omega)), (hB.block n0 (by omega)).trans h.row⟩

set_option maxHeartbeats 32000000 in
theorem bkRead_in (b : Nat) (l : List UInt8) (w : World) (h : IsR w b l 0) (hl : l.length ≤ 100000) (z e1 n e2 e3 tl e4 e5 : Nat) (l1 l2 l3 l4 l5 : List UInt8) (bl : List Sg) (s : Sg)
    (h1 : readN l 0 64 = (z, l1, e1)) (h2 : readN l1 e1 4096 = (n, l2, e2)) (h3 : readSgs n [] l2 e2 = (bl, l3, e3)) (h4 : readN l3 e3 63 = (tl, l4, e4)) (h5 : readLast tl l4 e4 = (s, l5, e5)) :
    Calls Try.prog 79 #[.pointer (some ⟨b, 0, none⟩)] w fun en w' => ∃ B d, en = .returned (.agg (sigC z B bl.length d tl s)) ∧ IsR w' b l5 e5 ∧ w.grownBy w' (some b) ∧ Below b w w' ∧ w'.ownsRow w.heap.size 30 3 (.slice B bl.length d) bl.length (cellsSg bl) := by
  have hb := h.lt
  have p1 := readN_len2 l 0 64
  have p2 := readN_len2 l1 e1 4096
  have p3 := readSgs_len n [] l2 e2
  have p4 := readN_len2 l3 e3 63
  have p5 := readN_le l1 e1 4096
  have p6 := readN_le l3 e3 63
  have p7 := readN_le l 0 64
  rw [h1] at p1 p7
  rw [h2] at p2 p5
  rw [h3] at p3
  rw [h4] at p4 p6
  simp only [List.length_nil, Nat.zero_add] at p1 p2 p3 p4 p5 p6 p7
  obtain ⟨p3a, p3b⟩ := p3
  obtain ⟨n0, hn0⟩ : ∃ n, n = w.heap.size := ⟨_, rfl⟩
  have hrow := World.alloc_heap_new w (Obj.cells #[.int .i64 0, .slice none 0 0, .int .i64 0, .int .u32 0, .int .u64 0, .int .u64 0] 32)
  have hb0 : Below w.heap.size w (w.alloc (.cells #[.int .i64 0, .slice none 0 0, .int .i64 0, .int .u32 0, .int .u64 0, .int .u64 0] 32)) := (Below.refl _ w).alloc (Nat.le_refl _) _
  rw [← hn0] at hrow
  have HL0 := hide (show Lay w b n0 (w.alloc (.cells #[.int .i64 0, .slice none 0 0, .int .i64 0, .int .u32 0, .int .u64 0, .int .u64 0] 32)) from ⟨grown_below (World.grownBy.refl w _) hb0, hb0.mono (by omega), hrow⟩)
  have HI0 := hide (show Calls Try.prog 110 #[.pointer (some ⟨b, 0, none⟩), .int .i64 64] (w.alloc (.cells #[.int .i64 0, .slice none 0 0, .int .i64 0, .int .u32 0, .int .u64 0, .int .u64 0] 32)) fun en w' => en = .returned (.int .i64 (z : Nat)) ∧ IsR w' b l1 e1 ∧ (w.alloc (.cells #[.int .i64 0, .slice none 0 0, .int .i64 0, .int .u32 0, .int .u64 0, .int .u64 0] 32)).grownBy w' (some b) ∧ Below b (w.alloc (.cells #[.int .i64 0, .slice none 0 0, .int .i64 0, .int .u32 0, .int .u64 0, .int .u64 0] 32)) w' from by
    have q := readInt_any b 0 64 l _ (h.keep (hb0.mono hb)) (by omega) (by decide)
    rw [show ((64 : Int)).toNat = 64 from rfl, h1] at q
    exact q)
  have hsz0 : (w.alloc (.cells #[.int .i64 0, .slice none 0 0, .int .i64 0, .int .u32 0, .int .u64 0, .int .u64 0] 32)).heap.size = n0 + 1 := by simp [hn0]
  have HI2 := hide (fun (W : World) (q : IsR W b l1 e1) => (show Calls Try.prog 110 #[.pointer (some ⟨b, 0, none⟩), .int .i64 4096] W fun en w' => en = .returned (.int .i64 (n : Nat)) ∧ IsR w' b l2 e2 ∧ W.grownBy w' (some b) ∧ Below b W w' from by
    have q := readInt_any b e1 4096 l1 W q (by omega) (by decide)
    rw [show ((4096 : Int)).toNat = 4096 from rfl, h2] at q
    exact q))
  have HI4 := hide (fun (W : World) (q : IsR W b l3 e3) => (show Calls Try.prog 110 #[.pointer (some ⟨b, 0, none⟩), .int .i64 63] W fun en w' => en = .returned (.int .i64 (tl : Nat)) ∧ IsR w' b l4 e4 ∧ W.grownBy w' (some b) ∧ Below b W w' from by
    have q := readInt_any b e3 63 l3 W q (by omega) (by decide)
    rw [show ((63 : Int)).toNat = 63 from rfl, h4] at q
    exact q))
  have H3 := hide h3
  have H5 := hide h5
  clear h h1 h2 h3 h4 h5 hrow hb0 p7
  have hmx : Try.prog.follows .mixedOrders = true := by kernel_rfl
  have hbn : b < n0 := by omega
  go_enter Try.func79, Try.ntmps79
  go_wp2_with fail
  rw [← hn0]
  generalize w.alloc (.cells #[.int .i64 0, .slice none 0 0, .int .i64 0, .int .u32 0, .int .u64 0, .int .u64 0] 32) = w0 at HL0 HI0 hsz0 ⊢
  refine HI0.out.mono ?_
  rintro en w1 ⟨rfl, q1, q2, q3⟩
  obtain ⟨n3, hn3⟩ : ∃ n, n = w1.heap.size := ⟨_, rfl⟩
  have hn03 : n0 + 1 ≤ n3 := by have := q2.size; omega
  have hL1 := HL0.out.go hbn q2 q3
  have hr2 := World.alloc_heap_new w1 (Obj.cells #[.int .i64 (z : Nat), .slice none 0 0, .int .i64 0, .int .u32 0, .int .u64 0, .int .u64 0] 32)
  have hb2 : Below w1.heap.size w1 (w1.alloc (.cells #[.int .i64 (z : Nat), .slice none 0 0, .int .i64 0, .int .u32 0, .int .u64 0, .int .u64 0] 32)) := (Below.refl _ w1).alloc (Nat.le_refl _) _
  have hsz2 : (w1.alloc (.cells #[.int .i64 (z : Nat), .slice none 0 0, .int .i64 0, .int .u32 0, .int .u64 0, .int .u64 0] 32)).heap.size = n3 + 1 := by simp [hn3]
  rw [← hn3] at hr2 hb2
  have HL2 := hide (hL1.over (Nat.le_of_lt hbn) (hb2.mono hn03) (by omega))
  have HR2 := hide (q1.keep (hb2.mono (by omega)))
  have HRow2 := hide hr2
  clear q1 q2 q3 hL1 hr2 hb2 HL0 HI0
  go_wp2_with fail
  rw [← hn3]
  generalize w1.alloc (.cells #[.int .i64 (z : Nat), .slice none 0 0, .int .i64 0, .int .u32 0, .int .u64 0, .int .u64 0] 32) = w2 at HL2 HR2 HRow2 hsz2 ⊢
  refine (HI2.out _ HR2.out).mono ?_
  rintro en w3 ⟨rfl, q1, q2, q3⟩
  have HL3 := hide (HL2.out.go hbn q2 q3)
  have HR3 := hide q1
  have HRow3 := hide ((q2.block n3 (by omega) (fun e => by injection e; omega)).trans HRow2.out)
  have hsz3 : n3 + 1 ≤ w3.heap.size := by have := q2.size; omega
  clear q1 q2 q3 HL2 HR2 HRow2 HI2 hsz2
  go_wp2_with fail
  go_loopg [9] n (fun gk iv wr => ∃ (i e : Nat) (B : Option Addr) (d : Nat) (o : List Sg) (m : List UInt8), iv = .int .i64 i ∧ i + gk = n ∧ o.length = i ∧ m.length ≤ l.length ∧ Hid (readSgs gk o m e = (bl, l3, e3)) ∧ Hid (wr.heap[n3]? = some (.cells #[.int .i64 z, .slice B i d, .int .i64 0, .int .u32 0, .int .u64 0, .int .u64 0] 32 (0, 0))) ∧ Hid (IsR wr b m e) ∧ Hid (Lay w b n0 wr) ∧ Hid (wr.ownsRow w3.heap.size 30 3 (.slice B i d) i (cellsSg o)) ∧ w3.heap.size ≤ wr.heap.size)
  case atStart => exact ⟨0, e2, none, 0, [], l2, rfl, by omega, rfl, by omega, H3, HRow3, HR3, HL3, hide (World.ownsRow_nil _ _ _ _), Nat.le_refl _⟩
  case round =>
    obtain ⟨i, e, B, d, o, m, rfl, hig, hol, hml, HQ, HW, HI, HL, HO, hsr⟩ := hrel
    clear HRow3 HR3 HL3 H3
    subst hn0 hn3
    cases gk with
    | zero =>
      obtain rfl : i = n := by omega
      have hq := HQ.out
      unfold readSgs at hq
      have hqa : o = bl := congrArg (fun x => x.1) hq
      have hqb : m = l3 := congrArg (fun x => x.2.1) hq
      have hqc : e = e3 := congrArg (fun x => x.2.2) hq
      clear hq HQ
      subst hqa hqb hqc
      have hne : w.heap.size ≠ w1.heap.size := by omega
      have hne2 : w1.heap.size ≠ w.heap.size := by omega
      have H4 := hide (HI4.out _ HI.out)
      clear HI4 HI
      by_cases ht : tl = 0
      · have E0 : ((tl : Int) != 0) = false := by rw [ht]; rfl
        have hq5 := H5.out
        unfold readLast at hq5
        rw [if_neg (by simp [ht])] at hq5
        clear H5 ht
        obtain ⟨rfl, hq⟩ := Prod.mk.inj hq5
        obtain ⟨rfl, rfl⟩ := Prod.mk.inj hq
        clear hq5 hq
        go_wp2_with fail
        refine H4.out.mono ?_
        rintro en w4 ⟨rfl, g1, g2, g3⟩
        have hL4 := HL.out.go hbn g2 g3
        have hr4 := (g2.block w1.heap.size (by omega) (fun e => by injection e; omega)).trans HW.out
        have hO4 := own_grown HO.out g2 (by omega)
        have hs4 : w3.heap.size ≤ w4.heap.size := Nat.le_trans hsr g2.size
        have hr5 := heap_setCell_same w4 w1.heap.size 2 _ _ (.int .i64 (tl : Nat)) hr4
        have hB5 := Below.setCell (p := ⟨w1.heap.size, 2, none⟩) (Below.refl w1.heap.size w4) (Nat.le_refl _) (.int .i64 (tl : Nat))
        have hL5 := hL4.over (Nat.le_of_lt hbn) (hB5.mono (by omega)) (by omega)
        have hI5 := g1.keep (hB5.mono (by omega))
        have hO5 := own_cell2 (b := w1.heap.size) (j := 2) (u := .int .i64 (tl : Nat)) hO4 (by omega)
        have c2 : w4.cell? ⟨w1.heap.size, 2, none⟩ = some (.int .i64 0) := cell_of_row _ _ _ _ _ _ hr4
        have f2 : w4.frozen? ⟨w1.heap.size, 2, none⟩ = false := frozen_of_row _ _ _ _ _ hr4
        have c0 : w4.cell? ⟨w1.heap.size, 0, none⟩ = some (.int .i64 (z : Nat)) := cell_of_row _ _ _ _ _ _ hr4
        have c1 : w4.cell? ⟨w1.heap.size, 1, none⟩ = some (.slice B i d) := cell_of_row _ _ _ _ _ _ hr4
        have c3 : w4.cell? ⟨w1.heap.size, 3, none⟩ = some (.int .u32 0) := cell_of_row _ _ _ _ _ _ hr4
        have c4 : w4.cell? ⟨w1.heap.size, 4, none⟩ = some (.int .u64 0) := cell_of_row _ _ _ _ _ _ hr4
        have c5 : w4.cell? ⟨w1.heap.size, 5, none⟩ = some (.int .u64 0) := cell_of_row _ _ _ _ _ _ hr4
        have y0 : w4.cell? ⟨w.heap.size, 0, none⟩ = some (.int .i64 0) := cell_of_row _ _ _ _ _ _ hL4.row
        have z0 : w4.frozen? ⟨w.heap.size, 0, none⟩ = false := frozen_of_row _ _ _ _ _ hL4.row
        have y1 : w4.cell? ⟨w.heap.size, 1, none⟩ = some (.slice none 0 0) := cell_of_row _ _ _ _ _ _ hL4.row
        have z1 : w4.frozen? ⟨w.heap.size, 1, none⟩ = false := frozen_of_row _ _ _ _ _ hL4.row
        have y2 : w4.cell? ⟨w.heap.size, 2, none⟩ = some (.int .i64 0) := cell_of_row _ _ _ _ _ _ hL4.row
        have z2 : w4.frozen? ⟨w.heap.size, 2, none⟩ = false := frozen_of_row _ _ _ _ _ hL4.row
        have y3 : w4.cell? ⟨w.heap.size, 3, none⟩ = some (.int .u32 0) := cell_of_row _ _ _ _ _ _ hL4.row
        have z3 : w4.frozen? ⟨w.heap.size, 3, none⟩ = false := frozen_of_row _ _ _ _ _ hL4.row
        have y4 : w4.cell? ⟨w.heap.size, 4, none⟩ = some (.int .u64 0) := cell_of_row _ _ _ _ _ _ hL4.row
        have z4 : w4.frozen? ⟨w.heap.size, 4, none⟩ = false := frozen_of_row _ _ _ _ _ hL4.row
        have y5 : w4.cell? ⟨w.heap.size, 5, none⟩ = some (.int .u64 0) := cell_of_row _ _ _ _ _ _ hL4.row
        have z5 : w4.frozen? ⟨w.heap.size, 5, none⟩ = false := frozen_of_row _ _ _ _ _ hL4.row
        have x0 := heap_setCell_same (w4.setCell ⟨w1.heap.size, 2, none⟩ (.int .i64 (tl : Nat))) w.heap.size 0 _ _ (.int .i64 (z : Nat)) hL5.row
        have x1 := heap_setCell_same _ w.heap.size 1 _ _ (.slice B i d) x0
        have x2 := heap_setCell_same _ w.heap.size 2 _ _ (.int .i64 (tl : Nat)) x1
        have x3 := heap_setCell_same _ w.heap.size 3 _ _ (.int .u32 0) x2
        have x4 := heap_setCell_same _ w.heap.size 4 _ _ (.int .u64 0) x3
        have x5 := heap_setCell_same _ w.heap.size 5 _ _ (.int .u64 0) x4
        have hBf := (Below.setCell (p := ⟨w.heap.size, 5, none⟩) (Below.setCell (p := ⟨w.heap.size, 4, none⟩) (Below.setCell (p := ⟨w.heap.size, 3, none⟩) (Below.setCell (p := ⟨w.heap.size, 2, none⟩) (Below.setCell (p := ⟨w.heap.size, 1, none⟩) (Below.setCell (p := ⟨w.heap.size, 0, none⟩) (Below.refl w.heap.size ((w4.setCell ⟨w1.heap.size, 2, none⟩ (.int .i64 (tl : Nat))))) (Nat.le_refl _) (.int .i64 (z : Nat))) (Nat.le_refl _) (.slice B i d)) (Nat.le_refl _) (.int .i64 (tl : Nat))) (Nat.le_refl _) (.int .u32 0)) (Nat.le_refl _) (.int .u64 0)) (Nat.le_refl _) (.int .u64 0))
        have HOf := hide (ownsRow_lowerSg (base' := w.heap.size) (own_cell2 (b := w.heap.size) (j := 5) (u := .int .u64 0) (own_cell2 (b := w.heap.size) (j := 4) (u := .int .u64 0) (own_cell2 (b := w.heap.size) (j := 3) (u := .int .u32 0) (own_cell2 (b := w.heap.size) (j := 2) (u := .int .i64 (tl : Nat)) (own_cell2 (b := w.heap.size) (j := 1) (u := .slice B i d) (own_cell2 (b := w.heap.size) (j := 0) (u := .int .i64 (z : Nat)) hO5 (by omega)) (by omega)) (by omega)) (by omega)) (by omega)) (by omega)) (by omega))
        have HIf := hide (hI5.keep (hBf.mono (by omega)))
        have HGf := hide (And.intro (⟨hBf.os.trans hL5.grown.os, hBf.tape.trans hL5.grown.tape, hBf.output.trans hL5.grown.output, Nat.le_trans hL5.grown.size hBf.size, fun k hk hkb => (hBf.block k (by omega)).trans (hL5.grown.block k hk hkb)⟩ : w.grownBy _ (some b)) (hL5.below.trans (hBf.mono (by omega))))
        have HX := hide x5
        clear x0 x1 x2 x3 x4 x5 hBf
        clear g1 g2 g3 hL4 hr4 hO4 hr5 hB5 hL5 hI5 hO5
        go_wp2_with fail
        have t0 := cell_of_row _ _ 0 _ _ _ HX.out
        have t1 := cell_of_row _ _ 1 _ _ _ HX.out
        have t2 := cell_of_row _ _ 2 _ _ _ HX.out
        have t3 := cell_of_row _ _ 3 _ _ _ HX.out
        have t4 := cell_of_row _ _ 4 _ _ _ HX.out
        have t5 := cell_of_row _ _ 5 _ _ _ HX.out
        refine bodyPost_ret (v := .agg #[.int .i64 (z : Nat), .slice B i d, .int .i64 (tl : Nat), .int .u32 0, .int .u64 0, .int .u64 0]) (by simp [results, Try.results79, go_sem, t0, t1, t2, t3, t4, t5]) rfl ⟨B, d, by rw [hol]; rfl, HIf.out, HGf.out.1, HGf.out.2, by rw [hol]; exact HOf.out⟩
      · have E0 : ((tl : Int) != 0) = true := by rw [bne_iff_ne]; omega
        have hq5 := H5.out
        unfold readLast at hq5
        rw [if_pos ht] at hq5
        clear H5
        go_wp2_with fail
        refine H4.out.mono ?_
        rintro en w4 ⟨rfl, g1, g2, g3⟩
        have hL4 := HL.out.go hbn g2 g3
        have hr4 := (g2.block w1.heap.size (by omega) (fun e => by injection e; omega)).trans HW.out
        have hO4 := own_grown HO.out g2 (by omega)
        have hs4 : w3.heap.size ≤ w4.heap.size := Nat.le_trans hsr g2.size
        have hr5 := heap_setCell_same w4 w1.heap.size 2 _ _ (.int .i64 (tl : Nat)) hr4
        have hB5 := Below.setCell (p := ⟨w1.heap.size, 2, none⟩) (Below.refl w1.heap.size w4) (Nat.le_refl _) (.int .i64 (tl : Nat))
        have hL5 := hL4.over (Nat.le_of_lt hbn) (hB5.mono (by omega)) (by omega)
        have hI5 := g1.keep (hB5.mono (by omega))
        have hO5 := own_cell2 (b := w1.heap.size) (j := 2) (u := .int .i64 (tl : Nat)) hO4 (by omega)
        have c2 : w4.cell? ⟨w1.heap.size, 2, none⟩ = some (.int .i64 0) := cell_of_row _ _ _ _ _ _ hr4
        have f2 : w4.frozen? ⟨w1.heap.size, 2, none⟩ = false := frozen_of_row _ _ _ _ _ hr4
        have hc2 : (w4.setCell ⟨w1.heap.size, 2, none⟩ (.int .i64 (tl : Nat))).cell? ⟨w1.heap.size, 2, none⟩ = some (.int .i64 (tl : Nat)) := cell_of_row _ _ _ _ _ _ hr5
        have HC := hide (readSign_any b e4 l4 _ hI5 (by omega))
        rw [hq5] at HC
        have HL5 := hide hL5
        have HR5 := hide hr5
        have HO5 := hide hO5
        have hs5 : w3.heap.size ≤ (w4.setCell ⟨w1.heap.size, 2, none⟩ (.int .i64 (tl : Nat))).heap.size := Nat.le_trans hs4 hB5.size
        clear g1 g2 g3 hL4 hr4 hO4 hr5 hB5 hL5 hI5 hO5 hq5
        obtain ⟨sw, sh, slo⟩ := s
        simp only [Sg.cells] at HC
        go_wp2_with fail
        generalize w4.setCell ⟨w1.heap.size, 2, none⟩ (.int .i64 (tl : Nat)) = w5 at HC HL5 HR5 HO5 hs5 hc2 ⊢
        refine HC.out.mono ?_
        rintro en w6 ⟨rfl, g1, g2, g3⟩
        have hL6 := HL5.out.go hbn g2 g3
        have hr6 := (g2.block w1.heap.size (by omega) (fun e => by injection e; omega)).trans HR5.out
        have hO6 := own_grown HO5.out g2 (by omega)
        have hs6 : w3.heap.size ≤ w6.heap.size := Nat.le_trans hs5 g2.size
        have hB9 := Below.setCell (p := ⟨w1.heap.size, 5, none⟩) (Below.setCell (p := ⟨w1.heap.size, 4, none⟩) (Below.setCell (p := ⟨w1.heap.size, 3, none⟩) (Below.refl w1.heap.size w6) (Nat.le_refl _) (.int .u32 (sw : Nat))) (Nat.le_refl _) (.int .u64 (sh : Nat))) (Nat.le_refl _) (.int .u64 (slo : Nat))
        have hL9 := hL6.over (Nat.le_of_lt hbn) (hB9.mono (by omega)) (by omega)
        have hI9 := g1.keep (hB9.mono (by omega))
        have hO9 := own_cell2 (b := w1.heap.size) (j := 5) (u := .int .u64 (slo : Nat)) (own_cell2 (b := w1.heap.size) (j := 4) (u := .int .u64 (sh : Nat)) (own_cell2 (b := w1.heap.size) (j := 3) (u := .int .u32 (sw : Nat)) hO6 (by omega)) (by omega)) (by omega)
        have c10 : w6.cell? ⟨w1.heap.size, 0, none⟩ = some (.int .i64 (z : Nat)) := cell_of_row _ _ _ _ _ _ hr6
        have c11 : w6.cell? ⟨w1.heap.size, 1, none⟩ = some (.slice B i d) := cell_of_row _ _ _ _ _ _ hr6
        have c12 : w6.cell? ⟨w1.heap.size, 2, none⟩ = some (.int .i64 (tl : Nat)) := cell_of_row _ _ _ _ _ _ hr6
        have c13 : w6.cell? ⟨w1.heap.size, 3, none⟩ = some (.int .u32 0) := cell_of_row _ _ _ _ _ _ hr6
        have f13 : w6.frozen? ⟨w1.heap.size, 3, none⟩ = false := frozen_of_row _ _ _ _ _ hr6
        have c14 : w6.cell? ⟨w1.heap.size, 4, none⟩ = some (.int .u64 0) := cell_of_row _ _ _ _ _ _ hr6
        have f14 : w6.frozen? ⟨w1.heap.size, 4, none⟩ = false := frozen_of_row _ _ _ _ _ hr6
        have c15 : w6.cell? ⟨w1.heap.size, 5, none⟩ = some (.int .u64 0) := cell_of_row _ _ _ _ _ _ hr6
        have f15 : w6.frozen? ⟨w1.heap.size, 5, none⟩ = false := frozen_of_row _ _ _ _ _ hr6
        have y0 : w6.cell? ⟨w.heap.size, 0, none⟩ = some (.int .i64 0) := cell_of_row _ _ _ _ _ _ hL6.row
        have z0 : w6.frozen? ⟨w.heap.size, 0, none⟩ = false := frozen_of_row _ _ _ _ _ hL6.row
        have y1 : w6.cell? ⟨w.heap.size, 1, none⟩ = some (.slice none 0 0) := cell_of_row _ _ _ _ _ _ hL6.row
        have z1 : w6.frozen? ⟨w.heap.size, 1, none⟩ = false := frozen_of_row _ _ _ _ _ hL6.row
        have y2 : w6.cell? ⟨w.heap.size, 2, none⟩ = some (.int .i64 0) := cell_of_row _ _ _ _ _ _ hL6.row
        have z2 : w6.frozen? ⟨w.heap.size, 2, none⟩ = false := frozen_of_row _ _ _ _ _ hL6.row
        have y3 : w6.cell? ⟨w.heap.size, 3, none⟩ = some (.int .u32 0) := cell_of_row _ _ _ _ _ _ hL6.row
        have z3 : w6.frozen? ⟨w.heap.size, 3, none⟩ = false := frozen_of_row _ _ _ _ _ hL6.row
        have y4 : w6.cell? ⟨w.heap.size, 4, none⟩ = some (.int .u64 0) := cell_of_row _ _ _ _ _ _ hL6.row
        have z4 : w6.frozen? ⟨w.heap.size, 4, none⟩ = false := frozen_of_row _ _ _ _ _ hL6.row
        have y5 : w6.cell? ⟨w.heap.size, 5, none⟩ = some (.int .u64 0) := cell_of_row _ _ _ _ _ _ hL6.row
        have z5 : w6.frozen? ⟨w.heap.size, 5, none⟩ = false := frozen_of_row _ _ _ _ _ hL6.row
        have x0 := heap_setCell_same (((w6.setCell ⟨w1.heap.size, 3, none⟩ (.int .u32 (sw : Nat))).setCell ⟨w1.heap.size, 4, none⟩ (.int .u64 (sh : Nat))).setCell ⟨w1.heap.size, 5, none⟩ (.int .u64 (slo : Nat))) w.heap.size 0 _ _ (.int .i64 (z : Nat)) hL9.row
        have x1 := heap_setCell_same _ w.heap.size 1 _ _ (.slice B i d) x0
        have x2 := heap_setCell_same _ w.heap.size 2 _ _ (.int .i64 (tl : Nat)) x1
        have x3 := heap_setCell_same _ w.heap.size 3 _ _ (.int .u32 (sw : Nat)) x2
        have x4 := heap_setCell_same _ w.heap.size 4 _ _ (.int .u64 (sh : Nat)) x3
        have x5 := heap_setCell_same _ w.heap.size 5 _ _ (.int .u64 (slo : Nat)) x4
        have hBf := (Below.setCell (p := ⟨w.heap.size, 5, none⟩) (Below.setCell (p := ⟨w.heap.size, 4, none⟩) (Below.setCell (p := ⟨w.heap.size, 3, none⟩) (Below.setCell (p := ⟨w.heap.size, 2, none⟩) (Below.setCell (p := ⟨w.heap.size, 1, none⟩) (Below.setCell (p := ⟨w.heap.size, 0, none⟩) (Below.refl w.heap.size ((((w6.setCell ⟨w1.heap.size, 3, none⟩ (.int .u32 (sw : Nat))).setCell ⟨w1.heap.size, 4, none⟩ (.int .u64 (sh : Nat))).setCell ⟨w1.heap.size, 5, none⟩ (.int .u64 (slo : Nat))))) (Nat.le_refl _) (.int .i64 (z : Nat))) (Nat.le_refl _) (.slice B i d)) (Nat.le_refl _) (.int .i64 (tl : Nat))) (Nat.le_refl _) (.int .u32 (sw : Nat))) (Nat.le_refl _) (.int .u64 (sh : Nat))) (Nat.le_refl _) (.int .u64 (slo : Nat)))
        have HOf := hide (ownsRow_lowerSg (base' := w.heap.size) (own_cell2 (b := w.heap.size) (j := 5) (u := .int .u64 (slo : Nat)) (own_cell2 (b := w.heap.size) (j := 4) (u := .int .u64 (sh : Nat)) (own_cell2 (b := w.heap.size) (j := 3) (u := .int .u32 (sw : Nat)) (own_cell2 (b := w.heap.size) (j := 2) (u := .int .i64 (tl : Nat)) (own_cell2 (b := w.heap.size) (j := 1) (u := .slice B i d) (own_cell2 (b := w.heap.size) (j := 0) (u := .int .i64 (z : Nat)) hO9 (by omega)) (by omega)) (by omega)) (by omega)) (by omega)) (by omega)) (by omega))
        have HIf := hide (hI9.keep (hBf.mono (by omega)))
        have HGf := hide (And.intro (⟨hBf.os.trans hL9.grown.os, hBf.tape.trans hL9.grown.tape, hBf.output.trans hL9.grown.output, Nat.le_trans hL9.grown.size hBf.size, fun k hk hkb => (hBf.block k (by omega)).trans (hL9.grown.block k hk hkb)⟩ : w.grownBy _ (some b)) (hL9.below.trans (hBf.mono (by omega))))
        have HX := hide x5
        clear x0 x1 x2 x3 x4 x5 hBf
        clear g1 g2 g3 hL6 hr6 hO6 hB9 hL9 hI9 hO9 HL5 HR5 HO5 HC hc2
        go_wp2_with fail
        have t0 := cell_of_row _ _ 0 _ _ _ HX.out
        have t1 := cell_of_row _ _ 1 _ _ _ HX.out
        have t2 := cell_of_row _ _ 2 _ _ _ HX.out
        have t3 := cell_of_row _ _ 3 _ _ _ HX.out
        have t4 := cell_of_row _ _ 4 _ _ _ HX.out
        have t5 := cell_of_row _ _ 5 _ _ _ HX.out
        refine bodyPost_ret (v := .agg #[.int .i64 (z : Nat), .slice B i d, .int .i64 (tl : Nat), .int .u32 (sw : Nat), .int .u64 (sh : Nat), .int .u64 (slo : Nat)]) (by simp [results, Try.results79, go_sem, t0, t1, t2, t3, t4, t5]) rfl ⟨B, d, by rw [hol]; rfl, HIf.out, HGf.out.1, HGf.out.2, by rw [hol]; exact HOf.out⟩
    | succ g0 =>
      have hii : (i : Int) < n := by omega
      have hi0 : (0 : Int) ≤ (i : Int) := by omega
      have hiw : IntKind.i64.wrap ((i : Int) + 1) = ((i + 1 : Nat) : Int) := by rw [IntWalk.i64_in _ (by omega)]; rfl
      have hq := HQ.out
      unfold readSgs at hq
      have hmd := readSg_len2 m e
      have HC := hide (readSign_any b e m wr.drew (HI.out.keep (Below.refl _ _).drew) (by omega))
      generalize readSg m e = r at hq hmd HC
      obtain ⟨t, m2, e'⟩ := r
      simp only at hq hmd HC
      have HQ2 := hide hq
      have HAp := hide (fun (w4 : World) (hR : IsR w4 b m2 e') (hg : wr.drew.grownBy w4 (some b)) (hB : Below b wr.drew w4) => (show ∃ g cap w5, (Builtin.append_ #[24, 24] 24 #[.slice B i d, .slice (some ⟨w4.heap.size, 0, none⟩) 1 1]).run Try.prog (w4.alloc (.cells t.cells 30)) = .ok (.slice (some ⟨g, 0, none⟩) (i + 1) cap) w5 ∧
          w4.cell? ⟨w1.heap.size, 1, none⟩ = some (.slice B i d) ∧ (w4.alloc (.cells t.cells 30)).cell? ⟨w1.heap.size, 1, none⟩ = some (.slice B i d) ∧ w5.cell? ⟨w1.heap.size, 1, none⟩ = some (.slice B i d) ∧ w5.frozen? ⟨w1.heap.size, 1, none⟩ = false ∧
          (w5.setCell ⟨w1.heap.size, 1, none⟩ (.slice (some ⟨g, 0, none⟩) (i + 1) cap)).heap[w1.heap.size]? = some (.cells #[.int .i64 z, .slice (some ⟨g, 0, none⟩) (i + 1) cap, .int .i64 0, .int .u32 0, .int .u64 0, .int .u64 0] 32 (0, 0)) ∧
          IsR (w5.setCell ⟨w1.heap.size, 1, none⟩ (.slice (some ⟨g, 0, none⟩) (i + 1) cap)) b m2 e' ∧ Lay w b w.heap.size (w5.setCell ⟨w1.heap.size, 1, none⟩ (.slice (some ⟨g, 0, none⟩) (i + 1) cap)) ∧
          (w5.setCell ⟨w1.heap.size, 1, none⟩ (.slice (some ⟨g, 0, none⟩) (i + 1) cap)).ownsRow w3.heap.size 30 3 (.slice (some ⟨g, 0, none⟩) (i + 1) cap) (i + 1) (cellsSg (o ++ [t])) ∧ w3.heap.size ≤ (w5.setCell ⟨w1.heap.size, 1, none⟩ (.slice (some ⟨g, 0, none⟩) (i + 1) cap)).heap.size from by
        have hd : Below wr.heap.size wr wr.drew := (Below.refl wr.heap.size wr).drew
        have hs4 : w3.heap.size ≤ w4.heap.size := Nat.le_trans hsr hg.size
        have ho4 := own_grown (own_below HO.out hd) hg (by omega)
        rw [← hol] at ho4
        obtain ⟨g, cap, w5, q1, q2, q3⟩ := append_sign w4 w3.heap.size B d o t ho4 hs4 (by omega)
        rw [hol] at q1 q2 q3 ho4
        have hor : ∀ r, (Value.slice B i d).ownBlock = some r → w3.heap.size ≤ r := fun r e => (ho4.lt r e).1
        have hrow : wr.heap[w1.heap.size]? = _ := HW.out
        have hlt1 : w1.heap.size < wr.heap.size := by omega
        have k4 := (hg.block w1.heap.size hlt1 (fun e => by injection e; omega)).trans ((hd.block w1.heap.size hlt1).trans hrow)
        have hlt4 : w1.heap.size < w4.heap.size := by omega
        have hb1 := (Below.refl w4.heap.size w4).alloc (Nat.le_refl _) (Obj.cells t.cells 30)
        have k4a := (hb1.block _ hlt4).trans k4
        have k5 := (q3.block w1.heap.size (Nat.lt_of_lt_of_le hlt4 hb1.size) (fun e => by have := hor _ e.symm; omega)).trans k4a
        have k6 := heap_setCell_same w5 w1.heap.size 1 _ _ (.slice (some ⟨g, 0, none⟩) (i + 1) cap) k5
        have hB45 : Below w1.heap.size w4 w5 := (hb1.mono (by omega)).grown q3 (by have := hb1.size; omega) (fun r e => by have := hor r e; omega)
        have hB46 := Below.setCell (p := ⟨w1.heap.size, 1, none⟩) hB45 (Nat.le_refl _) (.slice (some ⟨g, 0, none⟩) (i + 1) cap)
        have hL4 := (HL.out.over (Nat.le_of_lt hbn) (hd.mono (by omega)) (by omega)).go hbn hg hB
        refine ⟨g, cap, w5, q1, cell_of_row _ _ _ _ _ _ k4, cell_of_row _ _ _ _ _ _ k4a, cell_of_row _ _ _ _ _ _ k5, frozen_of_row _ _ _ _ _ k5, k6, hR.keep (hB46.mono (by omega)), hL4.over (Nat.le_of_lt hbn) (hB46.mono (by omega)) (by omega), own_cell2 q2 (by omega), ?_⟩
        have := hB46.size
        omega))
      obtain ⟨tw, th, tlo⟩ := t
      simp only [Sg.cells] at HC HAp
      have c1 : wr.drew.cell? ⟨w1.heap.size, 1, none⟩ = some (.slice B i d) := cell_of_row _ _ _ _ _ _ (((Below.refl wr.heap.size wr).drew.block w1.heap.size (by omega)).trans HW.out)
      clear HQ HW HI HL HO hq
      go_wp2_with fail
      refine wp_region_any hmx ?_
      change wpAny _ _ _ _ _ _ _ (World.drew _)
      refine wpAny_take (i := 0) (v := .pointer (some ⟨w1.heap.size, 1, none⟩)) rfl (by kernel_rfl) (by kernel_rfl) (by kernel_rfl) (fun _ _ _ h => h) (Or.inl ⟨by kernel_rfl, fun W => by go_simp⟩) ?_
      try simp only [Act.put, List.getElem_toArray, List.getElem_cons_zero, List.setIfInBounds_toArray, List.set_cons_zero, List.set_cons_succ]
      refine wpAny_take (i := 2) (v := .pointer (some ⟨b, 0, none⟩)) rfl (by kernel_rfl) (by kernel_rfl) (by kernel_rfl) (fun _ _ _ h => h) (Or.inl ⟨by kernel_rfl, fun W => by go_simp⟩) ?_
      try simp only [Act.put, List.getElem_toArray, List.getElem_cons_succ, List.getElem_cons_zero, List.setIfInBounds_toArray, List.set_cons_zero, List.set_cons_succ]
      refine wpAny_ready (rs := [1, 3]) (by kernel_rfl) (by simp) ?_
      refine AllReady.cons rfl (fun K hK => ?_) (AllReady.cons rfl (fun K hK => ?_) AllReady.nil)
      · go_simp
        refine hK _ _ ?_
        clear hK K
        try simp only [Act.put, List.getElem_toArray, List.getElem_cons_succ, List.getElem_cons_zero, List.setIfInBounds_toArray, List.set_cons_zero, List.set_cons_succ]
        refine wpAny_ready (rs := [3]) (by kernel_rfl) (by simp) ?_
        refine AllReady.cons rfl (fun K hK => ?_) AllReady.nil
        go_simp
        refine HC.out.mono ?_
        rintro en w4 ⟨rfl, g1, g2, g3⟩
        obtain ⟨g, cap, w5, hrun, k1, k2, k3, k4, y1, y2, y3, y4, y5⟩ := HAp.out w4 g1 g2 g3
        have Y1 := hide y1
        have Y2 := hide y2
        have Y3 := hide y3
        have Y4 := hide y4
        clear g1 g2 g3 y1 y2 y3 y4 HC HAp
        refine hK _ _ ?_
        clear hK K
        try simp only [Act.put, List.getElem_toArray, List.getElem_cons_succ, List.getElem_cons_zero, List.setIfInBounds_toArray, List.set_cons_zero, List.set_cons_succ]
        refine wpAny_ready (rs := [4]) (by kernel_rfl) (by simp) ?_
        refine AllReady.cons rfl (fun K hK => ?_) AllReady.nil
        go_simp
        refine hK _ _ ?_
        clear hK K
        try simp only [Act.put, List.getElem_toArray, List.getElem_cons_succ, List.getElem_cons_zero, List.setIfInBounds_toArray, List.set_cons_zero, List.set_cons_succ]
        refine wpAny_ready (rs := [5]) (by kernel_rfl) (by simp) ?_
        refine AllReady.cons rfl (fun K hK => ?_) AllReady.nil
        refine step_append_run rfl (.tmp 12) (.tmp 15) 24 rfl _ _ rfl rfl _ _ hrun ?_
        refine hK _ _ ?_
        clear hK K
        try simp only [Act.put, List.getElem_toArray, List.getElem_cons_succ, List.getElem_cons_zero, List.setIfInBounds_toArray, List.set_cons_zero, List.set_cons_succ]
        clear hrun
        refine wpAny_take (i := 6) (v := .pointer (some ⟨w1.heap.size, 1, none⟩)) rfl (by kernel_rfl) (by kernel_rfl) (by kernel_rfl) (fun _ _ _ h => h) (Or.inl ⟨by kernel_rfl, fun W => by go_simp⟩) ?_
        try simp only [Act.put, List.getElem_toArray, List.getElem_cons_succ, List.getElem_cons_zero, List.setIfInBounds_toArray, List.set_cons_zero, List.set_cons_succ]
        refine wpAny_ready (rs := [7]) (by kernel_rfl) (by simp) ?_
        refine AllReady.cons rfl (fun K hK => ?_) AllReady.nil
        go_simp
        refine hK _ _ ?_
        clear hK K
        try simp only [Act.put, List.getElem_toArray, List.getElem_cons_succ, List.getElem_cons_zero, List.setIfInBounds_toArray, List.set_cons_zero, List.set_cons_succ]
        refine wpAny_done (by kernel_rfl) ?_ _
        clear k1 k2 k3 k4 c1
        go_wp2_with fail
        go_roundg g0
        case rel => exact ⟨i + 1, e', some ⟨g, 0, none⟩, cap, o ++ [⟨tw, th, tlo⟩], m2, rfl, by omega, by simp [hol], by omega, HQ2, Y1, Y2, Y3, Y4, y5⟩
        case measure => omega
      · go_simp
        refine HC.out.mono ?_
        rintro en w4 ⟨rfl, g1, g2, g3⟩
        obtain ⟨g, cap, w5, hrun, k1, k2, k3, k4, y1, y2, y3, y4, y5⟩ := HAp.out w4 g1 g2 g3
        have Y1 := hide y1
        have Y2 := hide y2
        have Y3 := hide y3
        have Y4 := hide y4
        clear g1 g2 g3 y1 y2 y3 y4 HC HAp
        refine hK _ _ ?_
        clear hK K
        try simp only [Act.put, List.getElem_toArray, List.getElem_cons_succ, List.getElem_cons_zero, List.setIfInBounds_toArray, List.set_cons_zero, List.set_cons_succ]
        refine wpAny_ready (rs := [1, 4]) (by kernel_rfl) (by simp) ?_
        refine AllReady.cons rfl (fun K hK => ?_) (AllReady.cons rfl (fun K hK => ?_) AllReady.nil)
        · go_simp
          refine hK _ _ ?_
          clear hK K
          try simp only [Act.put, List.getElem_toArray, List.getElem_cons_succ, List.getElem_cons_zero, List.setIfInBounds_toArray, List.set_cons_zero, List.set_cons_succ]
          refine wpAny_ready (rs := [4]) (by kernel_rfl) (by simp) ?_
          refine AllReady.cons rfl (fun K hK => ?_) AllReady.nil
          go_simp
          refine hK _ _ ?_
          clear hK K
          try simp only [Act.put, List.getElem_toArray, List.getElem_cons_succ, List.getElem_cons_zero, List.setIfInBounds_toArray, List.set_cons_zero, List.set_cons_succ]
          refine wpAny_ready (rs := [5]) (by kernel_rfl) (by simp) ?_
          refine AllReady.cons rfl (fun K hK => ?_) AllReady.nil
          refine step_append_run rfl (.tmp 12) (.tmp 15) 24 rfl _ _ rfl rfl _ _ hrun ?_
          refine hK _ _ ?_
          clear hK K
          try simp only [Act.put, List.getElem_toArray, List.getElem_cons_succ, List.getElem_cons_zero, List.setIfInBounds_toArray, List.set_cons_zero, List.set_cons_succ]
          clear hrun
          refine wpAny_take (i := 6) (v := .pointer (some ⟨w1.heap.size, 1, none⟩)) rfl (by kernel_rfl) (by kernel_rfl) (by kernel_rfl) (fun _ _ _ h => h) (Or.inl ⟨by kernel_rfl, fun W => by go_simp⟩) ?_
          try simp only [Act.put, List.getElem_toArray, List.getElem_cons_succ, List.getElem_cons_zero, List.setIfInBounds_toArray, List.set_cons_zero, List.set_cons_succ]
          refine wpAny_ready (rs := [7]) (by kernel_rfl) (by simp) ?_
          refine AllReady.cons rfl (fun K hK => ?_) AllReady.nil
          go_simp
          refine hK _ _ ?_
          clear hK K
          try simp only [Act.put, List.getElem_toArray, List.getElem_cons_succ, List.getElem_cons_zero, List.setIfInBounds_toArray, List.set_cons_zero, List.set_cons_succ]
          refine wpAny_done (by kernel_rfl) ?_ _
          clear k1 k2 k3 k4 c1
          go_wp2_with fail
          go_roundg g0
          case rel => exact ⟨i + 1, e', some ⟨g, 0, none⟩, cap, o ++ [⟨tw, th, tlo⟩], m2, rfl, by omega, by simp [hol], by omega, HQ2, Y1, Y2, Y3, Y4, y5⟩
          case measure => omega
        · go_simp
          refine hK _ _ ?_
          clear hK K
          try simp only [Act.put, List.getElem_toArray, List.getElem_cons_succ, List.getElem_cons_zero, List.setIfInBounds_toArray, List.set_cons_zero, List.set_cons_succ]
          refine wpAny_ready (rs := [1]) (by kernel_rfl) (by simp) ?_
          refine AllReady.cons rfl (fun K hK => ?_) AllReady.nil
          go_simp
          refine hK _ _ ?_
          clear hK K
          try simp only [Act.put, List.getElem_toArray, List.getElem_cons_succ, List.getElem_cons_zero, List.setIfInBounds_toArray, List.set_cons_zero, List.set_cons_succ]
          refine wpAny_ready (rs := [5]) (by kernel_rfl) (by simp) ?_
          refine AllReady.cons rfl (fun K hK => ?_) AllReady.nil
          refine step_append_run rfl (.tmp 12) (.tmp 15) 24 rfl _ _ rfl rfl _ _ hrun ?_
          refine hK _ _ ?_
          clear hK K
          try simp only [Act.put, List.getElem_toArray, List.getElem_cons_succ, List.getElem_cons_zero, List.setIfInBounds_toArray, List.set_cons_zero, List.set_cons_succ]
          clear hrun
          refine wpAny_take (i := 6) (v := .pointer (some ⟨w1.heap.size, 1, none⟩)) rfl (by kernel_rfl) (by kernel_rfl) (by kernel_rfl) (fun _ _ _ h => h) (Or.inl ⟨by kernel_rfl, fun W => by go_simp⟩) ?_
          try simp only [Act.put, List.getElem_toArray, List.getElem_cons_succ, List.getElem_cons_zero, List.setIfInBounds_toArray, List.set_cons_zero, List.set_cons_succ]
          refine wpAny_ready (rs := [7]) (by kernel_rfl) (by simp) ?_
          refine AllReady.cons rfl (fun K hK => ?_) AllReady.nil
          go_simp
          refine hK _ _ ?_
          clear hK K
          try simp only [Act.put, List.getElem_toArray, List.getElem_cons_succ, List.getElem_cons_zero, List.setIfInBounds_toArray, List.set_cons_zero, List.set_cons_succ]
          refine wpAny_done (by kernel_rfl) ?_ _
          clear k1 k2 k3 k4 c1
          go_wp2_with fail
          go_roundg g0
          case rel => exact ⟨i + 1, e', some ⟨g, 0, none⟩, cap, o ++ [⟨tw, th, tlo⟩], m2, rfl, by omega, by simp [hol], by omega, HQ2, Y1, Y2, Y3, Y4, y5⟩
          case measure => omega
end Go.Proofs.Ytobgbheodlpclaa
