/-
  The signature that bytes are: the reference's Get.
-/
import Derived.Test.YtobgbheodlpclaaBkGetAll
import Derived.Test.YtobgbheodlpclaaBkPutsMath
import Derived.Test.YtobgbheodlpclaaVintRefSum
import Derived.Test.YtobgbheodlpclaaAutoVintRefGetText
import Derived.Deep.Cut
namespace Go.Proofs.Ytobgbheodlpclaa
open Go.RowKit Go.Shelf
set_option maxRecDepth 100000

/-- What the reference's reader keeps. -/
def rsS (l : List UInt8) (e : Nat) : ByteArray := ofL (if e ≠ 0 then [] else l)
/-- The answer's block, the reader's, the signature's, and the signs' own row. -/
structure G15 (w : World) (v : Value) (n : Nat) (o : List Sg) (rd sg : Array Value) (W : World) : Prop where
  r2 : W.heap[w.heap.size]? = some (.cells #[.int .i64 0, .slice none 0 0, .int .i64 0, .int .u32 0, .int .u64 0, .int .u64 0] 42 (0, 0))
  r4 : W.heap[w.heap.size + 1]? = some (.cells rd 122 (0, 0))
  r5 : W.heap[w.heap.size + 1 + 1]? = some (.cells sg 42 (0, 0))
  own : W.ownsRow (w.heap.size + 1 + 1 + 1) 37 3 v n (cellsSg o)
  below : Below w.heap.size w W
theorem G15.call {w : World} {v : Value} {n : Nat} {o : List Sg} {rd sg : Array Value} {W W' : World} (h : G15 w v n o rd sg W) (hb : Below W.heap.size W W') : G15 w v n o rd sg W' :=
  ⟨(hb.block _ (Array.getElem?_eq_some_iff.1 h.r2).1).trans h.r2, (hb.block _ (Array.getElem?_eq_some_iff.1 h.r4).1).trans h.r4, (hb.block _ (Array.getElem?_eq_some_iff.1 h.r5).1).trans h.r5, own_below h.own hb, h.below.trans (hb.mono h.below.size)⟩
theorem G15.lt {w : World} {v : Value} {n : Nat} {o : List Sg} {rd sg : Array Value} {W : World} (h : G15 w v n o rd sg W) : w.heap.size + 1 + 1 < W.heap.size := (Array.getElem?_eq_some_iff.1 h.r5).1
theorem G15.new {w : World} {v : Value} {n : Nat} {o : List Sg} {rd sg : Array Value} {W : World} (h : G15 w v n o rd sg W) (O : Obj) : G15 w v n o rd sg (W.alloc O) := h.call ((Below.refl _ W).alloc (Nat.le_refl _) O)
theorem G15.set4 {w : World} {v : Value} {n : Nat} {o : List Sg} {a b : Value} {sg : Array Value} {W : World} (h : G15 w v n o #[a, b] sg W) (x y : Value) : G15 w v n o #[x, y] sg ((W.setCell ⟨w.heap.size + 1, 0, none⟩ x).setCell ⟨w.heap.size + 1, 1, none⟩ y) := by
  have ne : ∀ (U : World) (j k : Nat) (u : Value), k ≠ w.heap.size + 1 → (U.setCell ⟨w.heap.size + 1, j, none⟩ u).heap[k]? = U.heap[k]? := fun U j k u hk => heap_setCell_other _ _ _ _ (by simpa using hk)
  exact ⟨(ne _ _ _ _ (by omega)).trans ((ne _ _ _ _ (by omega)).trans h.r2), heap_setCell_same _ _ 1 _ _ y (heap_setCell_same W _ 0 _ _ x h.r4), (ne _ _ _ _ (by omega)).trans ((ne _ _ _ _ (by omega)).trans h.r5), own_cell2 (own_cell2 h.own (by omega)) (by omega), (h.below.setCell (p := ⟨w.heap.size + 1, 0, none⟩) (by show w.heap.size ≤ w.heap.size + 1; omega) x).setCell (p := ⟨w.heap.size + 1, 1, none⟩) (by show w.heap.size ≤ w.heap.size + 1; omega) y⟩
theorem G15.set5 {w : World} {v : Value} {n : Nat} {o : List Sg} {rd sg : Array Value} {W : World} (h : G15 w v n o rd sg W) (j : Nat) (z : Value) : G15 w v n o rd (sg.setIfInBounds j z) (W.setCell ⟨w.heap.size + 1 + 1, j, none⟩ z) := by
  have ne : ∀ (U : World) (j k : Nat) (u : Value), k ≠ w.heap.size + 1 + 1 → (U.setCell ⟨w.heap.size + 1 + 1, j, none⟩ u).heap[k]? = U.heap[k]? := fun U j k u hk => heap_setCell_other _ _ _ _ (by simpa using hk)
  exact ⟨(ne _ _ _ _ (by omega)).trans h.r2, (ne _ _ _ _ (by omega)).trans h.r4, heap_setCell_same W _ j _ _ z h.r5, own_cell2 h.own (by omega), h.below.setCell (p := ⟨w.heap.size + 1 + 1, j, none⟩) (by show w.heap.size ≤ w.heap.size + 1 + 1; omega) z⟩

theorem G15.other {w : World} {v : Value} {n : Nat} {o : List Sg} {rd sg : Array Value} {W : World} (h : G15 w v n o rd sg W) (k j : Nat) (u : Value) (hk : w.heap.size + 1 + 1 < k) (hap : ∀ r, v.ownBlock = some r → r ≠ k) : G15 w v n o rd sg (W.setCell ⟨k, j, none⟩ u) := by
  have ne : ∀ (q : Nat), q ≠ k → (W.setCell ⟨k, j, none⟩ u).heap[q]? = W.heap[q]? := fun q hq => heap_setCell_other _ _ _ _ (by simpa using hq)
  exact ⟨(ne _ (by omega)).trans h.r2, (ne _ (by omega)).trans h.r4, (ne _ (by omega)).trans h.r5, sig_own_cell h.own hap, h.below.setCell (p := ⟨k, j, none⟩) (by show w.heap.size ≤ k; omega) u⟩

theorem G15.app {w : World} {v v' : Value} {n n' : Nat} {o o' : List Sg} {rd sg : Array Value} {W W' : World} (h : G15 w v n o rd sg W) (hg : W.grownBy W' v.ownBlock) (hO : W'.ownsRow (w.heap.size + 1 + 1 + 1) 37 3 v' n' (cellsSg o')) : G15 w v' n' o' rd sg W' :=
  have ne : ∀ k, k < w.heap.size + 1 + 1 + 1 → some k ≠ v.ownBlock := fun k hk e => by have := (h.own.lt k e.symm).1; omega
  ⟨(hg.block _ (Array.getElem?_eq_some_iff.1 h.r2).1 (ne _ (by omega))).trans h.r2, (hg.block _ (Array.getElem?_eq_some_iff.1 h.r4).1 (ne _ (by omega))).trans h.r4, (hg.block _ (Array.getElem?_eq_some_iff.1 h.r5).1 (ne _ (by omega))).trans h.r5, hO, h.below.grown hg h.below.size (fun r e => by have := (h.own.lt r e).1; omega)⟩

set_option maxHeartbeats 32000000 in
theorem refBkGet_in (l : List UInt8) (w : World) (hl : l.length ≤ 100000) (z e1 n e2 e3 tl e4 e5 : Nat) (l1 l2 l3 l4 l5 : List UInt8) (bl : List Sg) (s : Sg)
    (h1 : readN l 0 64 = (z, l1, e1)) (h2 : readN l1 e1 4096 = (n, l2, e2)) (h3 : readSgs n [] l2 e2 = (bl, l3, e3)) (h4 : readN l3 e3 63 = (tl, l4, e4)) (h5 : readLast tl l4 e4 = (s, l5, e5)) (G : Sig × Nat)
    (hG : G = if endN e5 l5 ≠ 0 then (sigZero, endN e5 l5) else if rightS z bl.length tl s = true then (⟨z, bl, tl, s⟩, 0) else (sigZero, 3)) :
    Calls Try.prog 33 #[.string (ofL l)] w fun e w' => ∃ B d, e = .returned (.tuple #[.agg (sigC G.1.size B G.1.blocks.length d G.1.tail G.1.last), .int .i64 (G.2 : Nat)]) ∧ SI w 37 (.slice B G.1.blocks.length d) G.1.blocks w' := by
  have p1 := readN_len2 l 0 64
  have p2 := readN_len2 l1 e1 4096
  have p3 := readSgs_len n [] l2 e2
  have p4 := readN_len2 l3 e3 63
  have p5 := readN_le l1 e1 4096
  have p6 := readN_le l3 e3 63
  have p7 := readN_le l 0 64
  rw [h1] at p1 p7
  rw [h2] at p2 p5
  rw [h3] at p3
  rw [h4] at p4 p6
  simp only [List.length_nil, Nat.zero_add] at p1 p2 p3 p4 p5 p6 p7
  obtain ⟨p3a, p3b⟩ := p3
  have HI1 := hide (fun W => (show Calls Try.prog 81 #[.agg #[.string (ofL l), .int .i64 0], .int .i64 64] W fun en w' => en = .returned (.tuple #[.agg #[.string (rsS l1 e1), .int .i64 (e1 : Nat)], .int .i64 (z : Nat)]) ∧ Below W.heap.size W w' from by
    have q := getInt_any l 0 64 W (by omega) (by decide)
    rw [show ((64 : Int)).toNat = 64 from rfl, h1] at q
    exact q))
  have HI2 := hide (fun W => (show Calls Try.prog 81 #[.agg #[.string (rsS l1 e1), .int .i64 (e1 : Nat)], .int .i64 4096] W fun en w' => en = .returned (.tuple #[.agg #[.string (rsS l2 e2), .int .i64 (e2 : Nat)], .int .i64 (n : Nat)]) ∧ Below W.heap.size W w' from by
    have q := getInt_any l1 e1 4096 W (by omega) (by decide)
    rw [show ((4096 : Int)).toNat = 4096 from rfl, h2] at q
    exact q))
  have HI4 := hide (fun W => (show Calls Try.prog 81 #[.agg #[.string (rsS l3 e3), .int .i64 (e3 : Nat)], .int .i64 63] W fun en w' => en = .returned (.tuple #[.agg #[.string (rsS l4 e4), .int .i64 (e4 : Nat)], .int .i64 (tl : Nat)]) ∧ Below W.heap.size W w' from by
    have q := getInt_any l3 e3 63 W (by omega) (by decide)
    rw [show ((63 : Int)).toNat = 63 from rfl, h4] at q
    exact q))
  have H3 := hide h3
  have H5 := hide h5
  have H35 := hide (show e5 = 0 → e3 = 0 from fun q => by
    have q1 := (readLast_once tl l4 e4 (by rw [h5]; exact q)).1
    exact (readN_once' l3 e3 63 (by rw [h4]; exact q1)).1)
  have HE := hide (fun W => (show Calls Try.prog 84 #[.agg #[.string (rsS l5 e5), .int .i64 (e5 : Nat)]] W fun en w' => en = .returned (.int .i64 ((endN e5 l5 : Nat) : Int)) ∧ Below W.heap.size W w' from refEnd_any l5 e5 W))
  have HR := hide (fun (W : World) (B : Option Addr) (k d : Nat) => refSigRight_any (z : Nat) B k d (tl : Nat) s W)
  have HGv := hide hG
  clear h1 h2 h3 h4 h5 hG p7
  obtain ⟨sw, sh, slo⟩ := s
  simp only [sigC] at HR
  have hG0 : G15 w (.slice none 0 0) 0 [] #[.string (ofL l), .int .i64 0] #[.int .i64 0, .slice none 0 0, .int .i64 0, .int .u32 0, .int .u64 0, .int .u64 0] (((w.alloc (.cells #[.int .i64 0, .slice none 0 0, .int .i64 0, .int .u32 0, .int .u64 0, .int .u64 0] 42)).alloc (.cells #[.string (ofL l), .int .i64 0] 122)).alloc (.cells #[.int .i64 0, .slice none 0 0, .int .i64 0, .int .u32 0, .int .u64 0, .int .u64 0] 42)) := by
    have b1 := (Below.refl w.heap.size w).alloc (Nat.le_refl _) (Obj.cells #[.int .i64 0, .slice none 0 0, .int .i64 0, .int .u32 0, .int .u64 0, .int .u64 0] 42)
    have b2 := b1.alloc (by simp) (Obj.cells #[.string (ofL l), .int .i64 0] 122)
    have b3 := b2.alloc (by simp; omega) (Obj.cells #[.int .i64 0, .slice none 0 0, .int .i64 0, .int .u32 0, .int .u64 0, .int .u64 0] 42)
    refine ⟨?_, ?_, ?_, World.ownsRow_nil _ _ _ _, b3⟩
    · rw [Below.heap_alloc _ _ _ (by simp; omega), Below.heap_alloc _ _ _ (by simp)]; exact World.alloc_heap_new _ _
    · rw [Below.heap_alloc _ _ _ (by simp)]
      have h := World.alloc_heap_new (w.alloc (.cells #[.int .i64 0, .slice none 0 0, .int .i64 0, .int .u32 0, .int .u64 0, .int .u64 0] 42)) (Obj.cells #[.string (ofL l), .int .i64 0] 122)
      simp only [World.size_alloc] at h
      exact h
    · have h := World.alloc_heap_new ((w.alloc (.cells #[.int .i64 0, .slice none 0 0, .int .i64 0, .int .u32 0, .int .u64 0, .int .u64 0] 42)).alloc (.cells #[.string (ofL l), .int .i64 0] 122)) (Obj.cells #[.int .i64 0, .slice none 0 0, .int .i64 0, .int .u32 0, .int .u64 0, .int .u64 0] 42)
      simp only [World.size_alloc] at h
      exact h
  obtain ⟨i0, hi, hz0, hz1, hz2⟩ := info_parts info_rsg
  go_enter Try.func33, Try.ntmps33
  go_wp2_with fail
  generalize (((w.alloc (.cells #[.int .i64 0, .slice none 0 0, .int .i64 0, .int .u32 0, .int .u64 0, .int .u64 0] 42)).alloc (.cells #[.string (ofL l), .int .i64 0] 122)).alloc (.cells #[.int .i64 0, .slice none 0 0, .int .i64 0, .int .u32 0, .int .u64 0, .int .u64 0] 42)) = w0 at hG0 ⊢
  refine (HI1.out _).mono ?_
  rintro en w1 ⟨rfl, hb⟩
  have hG1 := hG0.call hb
  have hlt := hG1.lt
  have hlt4 : w.heap.size + 1 < w1.heap.size := by omega
  have hlt2 : w.heap.size < w1.heap.size := by omega
  have a0 : w1.cell? ⟨w.heap.size + 1, 0, none⟩ = some (.string (ofL l)) := cell_of_row _ _ _ _ _ _ hG1.r4
  have b0 : w1.frozen? ⟨w.heap.size + 1, 0, none⟩ = false := frozen_of_row _ _ _ _ _ hG1.r4
  have a1 : w1.cell? ⟨w.heap.size + 1, 1, none⟩ = some (.int .i64 0) := cell_of_row _ _ _ _ _ _ hG1.r4
  have b1 : w1.frozen? ⟨w.heap.size + 1, 1, none⟩ = false := frozen_of_row _ _ _ _ _ hG1.r4
  have c0 : w1.cell? ⟨w.heap.size + 1 + 1, 0, none⟩ = some (.int .i64 0) := cell_of_row _ _ _ _ _ _ hG1.r5
  have d0 : w1.frozen? ⟨w.heap.size + 1 + 1, 0, none⟩ = false := frozen_of_row _ _ _ _ _ hG1.r5
  have c1 : w1.cell? ⟨w.heap.size + 1 + 1, 1, none⟩ = some (.slice none 0 0) := cell_of_row _ _ _ _ _ _ hG1.r5
  have d1 : w1.frozen? ⟨w.heap.size + 1 + 1, 1, none⟩ = false := frozen_of_row _ _ _ _ _ hG1.r5
  have c2 : w1.cell? ⟨w.heap.size + 1 + 1, 2, none⟩ = some (.int .i64 0) := cell_of_row _ _ _ _ _ _ hG1.r5
  have d2 : w1.frozen? ⟨w.heap.size + 1 + 1, 2, none⟩ = false := frozen_of_row _ _ _ _ _ hG1.r5
  have c3 : w1.cell? ⟨w.heap.size + 1 + 1, 3, none⟩ = some (.int .u32 0) := cell_of_row _ _ _ _ _ _ hG1.r5
  have d3 : w1.frozen? ⟨w.heap.size + 1 + 1, 3, none⟩ = false := frozen_of_row _ _ _ _ _ hG1.r5
  have c4 : w1.cell? ⟨w.heap.size + 1 + 1, 4, none⟩ = some (.int .u64 0) := cell_of_row _ _ _ _ _ _ hG1.r5
  have d4 : w1.frozen? ⟨w.heap.size + 1 + 1, 4, none⟩ = false := frozen_of_row _ _ _ _ _ hG1.r5
  have c5 : w1.cell? ⟨w.heap.size + 1 + 1, 5, none⟩ = some (.int .u64 0) := cell_of_row _ _ _ _ _ _ hG1.r5
  have d5 : w1.frozen? ⟨w.heap.size + 1 + 1, 5, none⟩ = false := frozen_of_row _ _ _ _ _ hG1.r5
  clear hG0 hb HI1
  go_wp2_with fail
  have hG2 : G15 w (.slice none 0 0) 0 [] #[.string (rsS l1 e1), .int .i64 (e1 : Nat)] #[.int .i64 (z : Nat), .slice none 0 0, .int .i64 0, .int .u32 0, .int .u64 0, .int .u64 0] ((((w1.setCell ⟨w.heap.size + 1, 0, none⟩ (.string (rsS l1 e1))).setCell ⟨w.heap.size + 1, 1, none⟩ (.int .i64 (e1 : Nat))).setCell ⟨w.heap.size + 1 + 1, 0, none⟩ (.int .i64 (z : Nat))).alloc (Obj.cells #[.string (rsS l1 e1), .int .i64 (e1 : Nat)] 122)) := ((hG1.set4 _ _).set5 0 _).new _
  clear hG1 hlt hlt4 hlt2 a0 a1 b0 b1 c0 c1 c2 c3 c4 c5 d0 d1 d2 d3 d4 d5
  generalize ((((w1.setCell ⟨w.heap.size + 1, 0, none⟩ (.string (rsS l1 e1))).setCell ⟨w.heap.size + 1, 1, none⟩ (.int .i64 (e1 : Nat))).setCell ⟨w.heap.size + 1 + 1, 0, none⟩ (.int .i64 (z : Nat))).alloc (Obj.cells #[.string (rsS l1 e1), .int .i64 (e1 : Nat)] 122)) = w2 at hG2 ⊢
  refine (HI2.out _).mono ?_
  rintro en w3 ⟨rfl, hb⟩
  have hG3 := hG2.call hb
  clear hG2 hb HI2
  have hlt := hG3.lt
  have hlt4 : w.heap.size + 1 < w3.heap.size := by omega
  have hlt2 : w.heap.size < w3.heap.size := by omega
  have a0 : w3.cell? ⟨w.heap.size + 1, 0, none⟩ = some (.string (rsS l1 e1)) := cell_of_row _ _ _ _ _ _ hG3.r4
  have b0 : w3.frozen? ⟨w.heap.size + 1, 0, none⟩ = false := frozen_of_row _ _ _ _ _ hG3.r4
  have a1 : w3.cell? ⟨w.heap.size + 1, 1, none⟩ = some (.int .i64 (e1 : Nat)) := cell_of_row _ _ _ _ _ _ hG3.r4
  have b1 : w3.frozen? ⟨w.heap.size + 1, 1, none⟩ = false := frozen_of_row _ _ _ _ _ hG3.r4
  have c0 : w3.cell? ⟨w.heap.size + 1 + 1, 0, none⟩ = some (.int .i64 (z : Nat)) := cell_of_row _ _ _ _ _ _ hG3.r5
  have d0 : w3.frozen? ⟨w.heap.size + 1 + 1, 0, none⟩ = false := frozen_of_row _ _ _ _ _ hG3.r5
  have c1 : w3.cell? ⟨w.heap.size + 1 + 1, 1, none⟩ = some (.slice none 0 0) := cell_of_row _ _ _ _ _ _ hG3.r5
  have d1 : w3.frozen? ⟨w.heap.size + 1 + 1, 1, none⟩ = false := frozen_of_row _ _ _ _ _ hG3.r5
  have c2 : w3.cell? ⟨w.heap.size + 1 + 1, 2, none⟩ = some (.int .i64 0) := cell_of_row _ _ _ _ _ _ hG3.r5
  have d2 : w3.frozen? ⟨w.heap.size + 1 + 1, 2, none⟩ = false := frozen_of_row _ _ _ _ _ hG3.r5
  have c3 : w3.cell? ⟨w.heap.size + 1 + 1, 3, none⟩ = some (.int .u32 0) := cell_of_row _ _ _ _ _ _ hG3.r5
  have d3 : w3.frozen? ⟨w.heap.size + 1 + 1, 3, none⟩ = false := frozen_of_row _ _ _ _ _ hG3.r5
  have c4 : w3.cell? ⟨w.heap.size + 1 + 1, 4, none⟩ = some (.int .u64 0) := cell_of_row _ _ _ _ _ _ hG3.r5
  have d4 : w3.frozen? ⟨w.heap.size + 1 + 1, 4, none⟩ = false := frozen_of_row _ _ _ _ _ hG3.r5
  have c5 : w3.cell? ⟨w.heap.size + 1 + 1, 5, none⟩ = some (.int .u64 0) := cell_of_row _ _ _ _ _ _ hG3.r5
  have d5 : w3.frozen? ⟨w.heap.size + 1 + 1, 5, none⟩ = false := frozen_of_row _ _ _ _ _ hG3.r5
  have HG4 := hide (hG3.set4 (.string (rsS l2 e2)) (.int .i64 (e2 : Nat)))
  clear hG3
  go_wp2_with fail
  clear hlt hlt4 hlt2 a0 a1 b0 b1 c0 c1 c2 c3 c4 c5 d0 d1 d2 d3 d4 d5
  go_loopg [10] n (fun gk iv wr => ∃ (i e : Nat) (B : Option Addr) (d : Nat) (o : List Sg) (m : List UInt8), iv = .int .i64 i ∧ i + gk = n ∧ o.length = i ∧ m.length ≤ l.length ∧ Hid (readSgs gk o m e = (bl, l3, e3)) ∧ Hid (G15 w (.slice B i d) i o #[.string (rsS m e), .int .i64 (e : Nat)] #[.int .i64 (z : Nat), .slice B i d, .int .i64 0, .int .u32 0, .int .u64 0, .int .u64 0] wr))
  case atStart => exact ⟨0, e2, none, 0, [], l2, rfl, by omega, rfl, by omega, H3, HG4⟩
  case round =>
    obtain ⟨i, e, B, d, o, m, rfl, hig, hol, hml, HQ, HG⟩ := hrel
    clear H3 HG4
    have hGr := HG.out
    have hlt := hGr.lt
    have hlt4 : w.heap.size + 1 < wr.heap.size := by omega
    have hlt2 : w.heap.size < wr.heap.size := by omega
    have a0 : wr.cell? ⟨w.heap.size + 1, 0, none⟩ = some (.string (rsS m e)) := cell_of_row _ _ _ _ _ _ hGr.r4
    have b0 : wr.frozen? ⟨w.heap.size + 1, 0, none⟩ = false := frozen_of_row _ _ _ _ _ hGr.r4
    have a1 : wr.cell? ⟨w.heap.size + 1, 1, none⟩ = some (.int .i64 (e : Nat)) := cell_of_row _ _ _ _ _ _ hGr.r4
    have b1 : wr.frozen? ⟨w.heap.size + 1, 1, none⟩ = false := frozen_of_row _ _ _ _ _ hGr.r4
    have c0 : wr.cell? ⟨w.heap.size + 1 + 1, 0, none⟩ = some (.int .i64 (z : Nat)) := cell_of_row _ _ _ _ _ _ hGr.r5
    have d0 : wr.frozen? ⟨w.heap.size + 1 + 1, 0, none⟩ = false := frozen_of_row _ _ _ _ _ hGr.r5
    have c1 : wr.cell? ⟨w.heap.size + 1 + 1, 1, none⟩ = some (.slice B i d) := cell_of_row _ _ _ _ _ _ hGr.r5
    have d1 : wr.frozen? ⟨w.heap.size + 1 + 1, 1, none⟩ = false := frozen_of_row _ _ _ _ _ hGr.r5
    have c2 : wr.cell? ⟨w.heap.size + 1 + 1, 2, none⟩ = some (.int .i64 0) := cell_of_row _ _ _ _ _ _ hGr.r5
    have d2 : wr.frozen? ⟨w.heap.size + 1 + 1, 2, none⟩ = false := frozen_of_row _ _ _ _ _ hGr.r5
    have c3 : wr.cell? ⟨w.heap.size + 1 + 1, 3, none⟩ = some (.int .u32 0) := cell_of_row _ _ _ _ _ _ hGr.r5
    have d3 : wr.frozen? ⟨w.heap.size + 1 + 1, 3, none⟩ = false := frozen_of_row _ _ _ _ _ hGr.r5
    have c4 : wr.cell? ⟨w.heap.size + 1 + 1, 4, none⟩ = some (.int .u64 0) := cell_of_row _ _ _ _ _ _ hGr.r5
    have d4 : wr.frozen? ⟨w.heap.size + 1 + 1, 4, none⟩ = false := frozen_of_row _ _ _ _ _ hGr.r5
    have c5 : wr.cell? ⟨w.heap.size + 1 + 1, 5, none⟩ = some (.int .u64 0) := cell_of_row _ _ _ _ _ _ hGr.r5
    have d5 : wr.frozen? ⟨w.heap.size + 1 + 1, 5, none⟩ = false := frozen_of_row _ _ _ _ _ hGr.r5
    cases gk with
    | zero =>
      obtain rfl : i = n := by omega
      have hq := HQ.out
      unfold readSgs at hq
      have hqa : o = bl := congrArg (fun x => x.1) hq
      have hqb : m = l3 := congrArg (fun x => x.2.1) hq
      have hqc : e = e3 := congrArg (fun x => x.2.2) hq
      clear hq HQ
      subst hqa hqb hqc
      subst hol
      go_wp2_with fail
      clear hlt hlt4 hlt2 a0 a1 b0 b1 c0 c1 c2 c3 c4 c5 d0 d1 d2 d3 d4 d5
      refine (HI4.out _).mono ?_
      rintro en x1 ⟨rfl, hb⟩
      have hA1 := hGr.call hb
      clear hb hGr HI4 HG
      have hlt := hA1.lt
      have hlt4 : w.heap.size + 1 < x1.heap.size := by omega
      have hlt2 : w.heap.size < x1.heap.size := by omega
      have a0 : x1.cell? ⟨w.heap.size + 1, 0, none⟩ = some (.string (rsS m e)) := cell_of_row _ _ _ _ _ _ hA1.r4
      have b0 : x1.frozen? ⟨w.heap.size + 1, 0, none⟩ = false := frozen_of_row _ _ _ _ _ hA1.r4
      have a1 : x1.cell? ⟨w.heap.size + 1, 1, none⟩ = some (.int .i64 (e : Nat)) := cell_of_row _ _ _ _ _ _ hA1.r4
      have b1 : x1.frozen? ⟨w.heap.size + 1, 1, none⟩ = false := frozen_of_row _ _ _ _ _ hA1.r4
      have c0 : x1.cell? ⟨w.heap.size + 1 + 1, 0, none⟩ = some (.int .i64 (z : Nat)) := cell_of_row _ _ _ _ _ _ hA1.r5
      have d0 : x1.frozen? ⟨w.heap.size + 1 + 1, 0, none⟩ = false := frozen_of_row _ _ _ _ _ hA1.r5
      have c1 : x1.cell? ⟨w.heap.size + 1 + 1, 1, none⟩ = some (.slice B o.length d) := cell_of_row _ _ _ _ _ _ hA1.r5
      have d1 : x1.frozen? ⟨w.heap.size + 1 + 1, 1, none⟩ = false := frozen_of_row _ _ _ _ _ hA1.r5
      have c2 : x1.cell? ⟨w.heap.size + 1 + 1, 2, none⟩ = some (.int .i64 0) := cell_of_row _ _ _ _ _ _ hA1.r5
      have d2 : x1.frozen? ⟨w.heap.size + 1 + 1, 2, none⟩ = false := frozen_of_row _ _ _ _ _ hA1.r5
      have c3 : x1.cell? ⟨w.heap.size + 1 + 1, 3, none⟩ = some (.int .u32 0) := cell_of_row _ _ _ _ _ _ hA1.r5
      have d3 : x1.frozen? ⟨w.heap.size + 1 + 1, 3, none⟩ = false := frozen_of_row _ _ _ _ _ hA1.r5
      have c4 : x1.cell? ⟨w.heap.size + 1 + 1, 4, none⟩ = some (.int .u64 0) := cell_of_row _ _ _ _ _ _ hA1.r5
      have d4 : x1.frozen? ⟨w.heap.size + 1 + 1, 4, none⟩ = false := frozen_of_row _ _ _ _ _ hA1.r5
      have c5 : x1.cell? ⟨w.heap.size + 1 + 1, 5, none⟩ = some (.int .u64 0) := cell_of_row _ _ _ _ _ _ hA1.r5
      have d5 : x1.frozen? ⟨w.heap.size + 1 + 1, 5, none⟩ = false := frozen_of_row _ _ _ _ _ hA1.r5
      have hY : G15 w (.slice B o.length d) o.length o #[.string (rsS l4 e4), .int .i64 (e4 : Nat)] #[.int .i64 (z : Nat), .slice B o.length d, .int .i64 (tl : Nat), .int .u32 0, .int .u64 0, .int .u64 0] ((((x1.setCell ⟨w.heap.size + 1, 0, none⟩ (.string (rsS l4 e4))).setCell ⟨w.heap.size + 1, 1, none⟩ (.int .i64 (e4 : Nat))).setCell ⟨w.heap.size + 1 + 1, 2, none⟩ (.int .i64 (tl : Nat))).alloc (Obj.cells #[.string (rsS l4 e4), .int .i64 (e4 : Nat)] 122)) := ((hA1.set4 _ _).set5 2 _).new _
      clear hA1
      by_cases ht : tl = 0
      · have E2 : ¬ (0 : Int) < (tl : Int) := by omega
        have hq5 := H5.out
        unfold readLast at hq5
        rw [if_neg (by simp [ht])] at hq5
        injection hq5 with q1 q2
        injection q1 with q3 q4 q5
        injection q2 with q6 q7
        subst q3 q4 q5 q6 q7
        clear H5 ht
        go_upto_region 28 with fail
        clear hlt hlt4 hlt2 a0 a1 b0 b1 c0 c1 c2 c3 c4 c5 d0 d1 d2 d3 d4 d5
        generalize ((((x1.setCell ⟨w.heap.size + 1, 0, none⟩ (.string (rsS l4 e4))).setCell ⟨w.heap.size + 1, 1, none⟩ (.int .i64 (e4 : Nat))).setCell ⟨w.heap.size + 1 + 1, 2, none⟩ (.int .i64 (tl : Nat))).alloc (Obj.cells #[.string (rsS l4 e4), .int .i64 (e4 : Nat)] 122)) = y at hY ⊢
        have hlt := hY.lt
        have hlt4 : w.heap.size + 1 < y.heap.size := by omega
        have hlt2 : w.heap.size < y.heap.size := by omega
        have a0 : y.cell? ⟨w.heap.size + 1, 0, none⟩ = some (.string (rsS l4 e4)) := cell_of_row _ _ _ _ _ _ hY.r4
        have b0 : y.frozen? ⟨w.heap.size + 1, 0, none⟩ = false := frozen_of_row _ _ _ _ _ hY.r4
        have a1 : y.cell? ⟨w.heap.size + 1, 1, none⟩ = some (.int .i64 (e4 : Nat)) := cell_of_row _ _ _ _ _ _ hY.r4
        have b1 : y.frozen? ⟨w.heap.size + 1, 1, none⟩ = false := frozen_of_row _ _ _ _ _ hY.r4
        have c0 : y.cell? ⟨w.heap.size + 1 + 1, 0, none⟩ = some (.int .i64 (z : Nat)) := cell_of_row _ _ _ _ _ _ hY.r5
        have d0 : y.frozen? ⟨w.heap.size + 1 + 1, 0, none⟩ = false := frozen_of_row _ _ _ _ _ hY.r5
        have c1 : y.cell? ⟨w.heap.size + 1 + 1, 1, none⟩ = some (.slice B o.length d) := cell_of_row _ _ _ _ _ _ hY.r5
        have d1 : y.frozen? ⟨w.heap.size + 1 + 1, 1, none⟩ = false := frozen_of_row _ _ _ _ _ hY.r5
        have c2 : y.cell? ⟨w.heap.size + 1 + 1, 2, none⟩ = some (.int .i64 (tl : Nat)) := cell_of_row _ _ _ _ _ _ hY.r5
        have d2 : y.frozen? ⟨w.heap.size + 1 + 1, 2, none⟩ = false := frozen_of_row _ _ _ _ _ hY.r5
        have c3 : y.cell? ⟨w.heap.size + 1 + 1, 3, none⟩ = some (.int .u32 0) := cell_of_row _ _ _ _ _ _ hY.r5
        have d3 : y.frozen? ⟨w.heap.size + 1 + 1, 3, none⟩ = false := frozen_of_row _ _ _ _ _ hY.r5
        have c4 : y.cell? ⟨w.heap.size + 1 + 1, 4, none⟩ = some (.int .u64 0) := cell_of_row _ _ _ _ _ _ hY.r5
        have d4 : y.frozen? ⟨w.heap.size + 1 + 1, 4, none⟩ = false := frozen_of_row _ _ _ _ _ hY.r5
        have c5 : y.cell? ⟨w.heap.size + 1 + 1, 5, none⟩ = some (.int .u64 0) := cell_of_row _ _ _ _ _ _ hY.r5
        have d5 : y.frozen? ⟨w.heap.size + 1 + 1, 5, none⟩ = false := frozen_of_row _ _ _ _ _ hY.r5
        go_wp2_with fail
        clear hlt hlt4 hlt2 a0 a1 b0 b1 c0 c1 c2 c3 c4 c5 d0 d1 d2 d3 d4 d5
        refine (HE.out _).mono ?_
        rintro en y1 ⟨rfl, hb⟩
        have hY1 := hY.call hb
        clear hb hY
        by_cases hee : endN e4 l4 = 0
        · have hg := HGv.out
          rw [if_neg (by simp [hee])] at hg
          have E3 : (((endN e4 l4 : Nat) : Int) != 0) = false := by rw [hee]; rfl
          have HR2 := hide (HR.out y1 B o.length d)
          clear HGv HR HE H35 hee
          have hlt := hY1.lt
          have hlt4 : w.heap.size + 1 < y1.heap.size := by omega
          have hlt2 : w.heap.size < y1.heap.size := by omega
          have a0 : y1.cell? ⟨w.heap.size + 1, 0, none⟩ = some (.string (rsS l4 e4)) := cell_of_row _ _ _ _ _ _ hY1.r4
          have b0 : y1.frozen? ⟨w.heap.size + 1, 0, none⟩ = false := frozen_of_row _ _ _ _ _ hY1.r4
          have a1 : y1.cell? ⟨w.heap.size + 1, 1, none⟩ = some (.int .i64 (e4 : Nat)) := cell_of_row _ _ _ _ _ _ hY1.r4
          have b1 : y1.frozen? ⟨w.heap.size + 1, 1, none⟩ = false := frozen_of_row _ _ _ _ _ hY1.r4
          have c0 : y1.cell? ⟨w.heap.size + 1 + 1, 0, none⟩ = some (.int .i64 (z : Nat)) := cell_of_row _ _ _ _ _ _ hY1.r5
          have d0 : y1.frozen? ⟨w.heap.size + 1 + 1, 0, none⟩ = false := frozen_of_row _ _ _ _ _ hY1.r5
          have c1 : y1.cell? ⟨w.heap.size + 1 + 1, 1, none⟩ = some (.slice B o.length d) := cell_of_row _ _ _ _ _ _ hY1.r5
          have d1 : y1.frozen? ⟨w.heap.size + 1 + 1, 1, none⟩ = false := frozen_of_row _ _ _ _ _ hY1.r5
          have c2 : y1.cell? ⟨w.heap.size + 1 + 1, 2, none⟩ = some (.int .i64 (tl : Nat)) := cell_of_row _ _ _ _ _ _ hY1.r5
          have d2 : y1.frozen? ⟨w.heap.size + 1 + 1, 2, none⟩ = false := frozen_of_row _ _ _ _ _ hY1.r5
          have c3 : y1.cell? ⟨w.heap.size + 1 + 1, 3, none⟩ = some (.int .u32 0) := cell_of_row _ _ _ _ _ _ hY1.r5
          have d3 : y1.frozen? ⟨w.heap.size + 1 + 1, 3, none⟩ = false := frozen_of_row _ _ _ _ _ hY1.r5
          have c4 : y1.cell? ⟨w.heap.size + 1 + 1, 4, none⟩ = some (.int .u64 0) := cell_of_row _ _ _ _ _ _ hY1.r5
          have d4 : y1.frozen? ⟨w.heap.size + 1 + 1, 4, none⟩ = false := frozen_of_row _ _ _ _ _ hY1.r5
          have c5 : y1.cell? ⟨w.heap.size + 1 + 1, 5, none⟩ = some (.int .u64 0) := cell_of_row _ _ _ _ _ _ hY1.r5
          have d5 : y1.frozen? ⟨w.heap.size + 1 + 1, 5, none⟩ = false := frozen_of_row _ _ _ _ _ hY1.r5
          cases hr : rightS (z : Nat) o.length (tl : Nat) ⟨0, 0, 0⟩ with
          | true =>
            rw [hr, if_pos rfl] at hg
            rw [hr] at HR2
            subst hg
            clear hr
            go_wp2_with fail
            clear hlt hlt4 hlt2 a0 a1 b0 b1 c0 c1 c2 c3 c4 c5 d0 d1 d2 d3 d4 d5
            refine HR2.out.mono ?_
            rintro en y2 ⟨rfl, hb⟩
            have hY2 := hY1.call hb
            clear hb hY1 HR2
            have hlt := hY2.lt
            have hlt4 : w.heap.size + 1 < y2.heap.size := by omega
            have hlt2 : w.heap.size < y2.heap.size := by omega
            have a0 : y2.cell? ⟨w.heap.size + 1, 0, none⟩ = some (.string (rsS l4 e4)) := cell_of_row _ _ _ _ _ _ hY2.r4
            have b0 : y2.frozen? ⟨w.heap.size + 1, 0, none⟩ = false := frozen_of_row _ _ _ _ _ hY2.r4
            have a1 : y2.cell? ⟨w.heap.size + 1, 1, none⟩ = some (.int .i64 (e4 : Nat)) := cell_of_row _ _ _ _ _ _ hY2.r4
            have b1 : y2.frozen? ⟨w.heap.size + 1, 1, none⟩ = false := frozen_of_row _ _ _ _ _ hY2.r4
            have c0 : y2.cell? ⟨w.heap.size + 1 + 1, 0, none⟩ = some (.int .i64 (z : Nat)) := cell_of_row _ _ _ _ _ _ hY2.r5
            have d0 : y2.frozen? ⟨w.heap.size + 1 + 1, 0, none⟩ = false := frozen_of_row _ _ _ _ _ hY2.r5
            have c1 : y2.cell? ⟨w.heap.size + 1 + 1, 1, none⟩ = some (.slice B o.length d) := cell_of_row _ _ _ _ _ _ hY2.r5
            have d1 : y2.frozen? ⟨w.heap.size + 1 + 1, 1, none⟩ = false := frozen_of_row _ _ _ _ _ hY2.r5
            have c2 : y2.cell? ⟨w.heap.size + 1 + 1, 2, none⟩ = some (.int .i64 (tl : Nat)) := cell_of_row _ _ _ _ _ _ hY2.r5
            have d2 : y2.frozen? ⟨w.heap.size + 1 + 1, 2, none⟩ = false := frozen_of_row _ _ _ _ _ hY2.r5
            have c3 : y2.cell? ⟨w.heap.size + 1 + 1, 3, none⟩ = some (.int .u32 0) := cell_of_row _ _ _ _ _ _ hY2.r5
            have d3 : y2.frozen? ⟨w.heap.size + 1 + 1, 3, none⟩ = false := frozen_of_row _ _ _ _ _ hY2.r5
            have c4 : y2.cell? ⟨w.heap.size + 1 + 1, 4, none⟩ = some (.int .u64 0) := cell_of_row _ _ _ _ _ _ hY2.r5
            have d4 : y2.frozen? ⟨w.heap.size + 1 + 1, 4, none⟩ = false := frozen_of_row _ _ _ _ _ hY2.r5
            have c5 : y2.cell? ⟨w.heap.size + 1 + 1, 5, none⟩ = some (.int .u64 0) := cell_of_row _ _ _ _ _ _ hY2.r5
            have d5 : y2.frozen? ⟨w.heap.size + 1 + 1, 5, none⟩ = false := frozen_of_row _ _ _ _ _ hY2.r5
            have yy0 : y2.cell? ⟨w.heap.size, 0, none⟩ = some (.int .i64 0) := cell_of_row _ _ _ _ _ _ hY2.r2
            have z0 : y2.frozen? ⟨w.heap.size, 0, none⟩ = false := frozen_of_row _ _ _ _ _ hY2.r2
            have yy1 : y2.cell? ⟨w.heap.size, 1, none⟩ = some (.slice none 0 0) := cell_of_row _ _ _ _ _ _ hY2.r2
            have z1 : y2.frozen? ⟨w.heap.size, 1, none⟩ = false := frozen_of_row _ _ _ _ _ hY2.r2
            have yy2 : y2.cell? ⟨w.heap.size, 2, none⟩ = some (.int .i64 0) := cell_of_row _ _ _ _ _ _ hY2.r2
            have z2 : y2.frozen? ⟨w.heap.size, 2, none⟩ = false := frozen_of_row _ _ _ _ _ hY2.r2
            have yy3 : y2.cell? ⟨w.heap.size, 3, none⟩ = some (.int .u32 0) := cell_of_row _ _ _ _ _ _ hY2.r2
            have z3 : y2.frozen? ⟨w.heap.size, 3, none⟩ = false := frozen_of_row _ _ _ _ _ hY2.r2
            have yy4 : y2.cell? ⟨w.heap.size, 4, none⟩ = some (.int .u64 0) := cell_of_row _ _ _ _ _ _ hY2.r2
            have z4 : y2.frozen? ⟨w.heap.size, 4, none⟩ = false := frozen_of_row _ _ _ _ _ hY2.r2
            have yy5 : y2.cell? ⟨w.heap.size, 5, none⟩ = some (.int .u64 0) := cell_of_row _ _ _ _ _ _ hY2.r2
            have z5 : y2.frozen? ⟨w.heap.size, 5, none⟩ = false := frozen_of_row _ _ _ _ _ hY2.r2
            have HX : ((((((y2.setCell ⟨w.heap.size, 0, none⟩ (.int .i64 (z : Nat))).setCell ⟨w.heap.size, 1, none⟩ (.slice B o.length d)).setCell ⟨w.heap.size, 2, none⟩ (.int .i64 (tl : Nat))).setCell ⟨w.heap.size, 3, none⟩ (.int .u32 0)).setCell ⟨w.heap.size, 4, none⟩ (.int .u64 0)).setCell ⟨w.heap.size, 5, none⟩ (.int .u64 0)).heap[w.heap.size]? = some (.cells #[.int .i64 (z : Nat), .slice B o.length d, .int .i64 (tl : Nat), .int .u32 0, .int .u64 0, .int .u64 0] 42 (0, 0)) := six_row _ _ _ _ _ _ (.int .i64 (z : Nat)) (.slice B o.length d) (.int .i64 (tl : Nat)) (.int .u32 0) (.int .u64 0) (.int .u64 0) rfl hY2.r2
            have HBf := hide (show Below w.heap.size w ((((((y2.setCell ⟨w.heap.size, 0, none⟩ (.int .i64 (z : Nat))).setCell ⟨w.heap.size, 1, none⟩ (.slice B o.length d)).setCell ⟨w.heap.size, 2, none⟩ (.int .i64 (tl : Nat))).setCell ⟨w.heap.size, 3, none⟩ (.int .u32 0)).setCell ⟨w.heap.size, 4, none⟩ (.int .u64 0)).setCell ⟨w.heap.size, 5, none⟩ (.int .u64 0)) from six_below (.int .i64 (z : Nat)) (.slice B o.length d) (.int .i64 (tl : Nat)) (.int .u32 0) (.int .u64 0) (.int .u64 0) hY2.below (Nat.le_refl _))
            have HOf := hide (show ((((((y2.setCell ⟨w.heap.size, 0, none⟩ (.int .i64 (z : Nat))).setCell ⟨w.heap.size, 1, none⟩ (.slice B o.length d)).setCell ⟨w.heap.size, 2, none⟩ (.int .i64 (tl : Nat))).setCell ⟨w.heap.size, 3, none⟩ (.int .u32 0)).setCell ⟨w.heap.size, 4, none⟩ (.int .u64 0)).setCell ⟨w.heap.size, 5, none⟩ (.int .u64 0)).ownsRow w.heap.size 37 3 (.slice B o.length d) o.length (cellsSg o) from six_own (.int .i64 (z : Nat)) (.slice B o.length d) (.int .i64 (tl : Nat)) (.int .u32 0) (.int .u64 0) (.int .u64 0) (ownsRow_lowerSg hY2.own (by omega)) (fun r e => by have := (hY2.own.lt r e).1; omega))
            have HX := hide HX
            go_wp2_with fail
            have t0 := cell_of_row _ _ 0 _ _ _ HX.out
            have t1 := cell_of_row _ _ 1 _ _ _ HX.out
            have t2 := cell_of_row _ _ 2 _ _ _ HX.out
            have t3 := cell_of_row _ _ 3 _ _ _ HX.out
            have t4 := cell_of_row _ _ 4 _ _ _ HX.out
            have t5 := cell_of_row _ _ 5 _ _ _ HX.out
            refine bodyPost_ret (v := .tuple #[.agg #[.int .i64 (z : Nat), .slice B o.length d, .int .i64 (tl : Nat), .int .u32 0, .int .u64 0, .int .u64 0], .int .i64 0]) (by simp [results, Try.results33, go_sem, t0, t1, t2, t3, t4, t5]) rfl ⟨B, d, rfl, HBf.out, HOf.out⟩
          | false =>
            rw [hr, if_neg (by decide)] at hg
            rw [hr] at HR2
            subst hg
            clear hr
            go_wp2_with fail
            clear hlt hlt4 hlt2 a0 a1 b0 b1 c0 c1 c2 c3 c4 c5 d0 d1 d2 d3 d4 d5
            refine HR2.out.mono ?_
            rintro en y2 ⟨rfl, hb⟩
            have hY2 := hY1.call hb
            clear hb hY1 HR2
            have hlt := hY2.lt
            have hlt4 : w.heap.size + 1 < y2.heap.size := by omega
            have hlt2 : w.heap.size < y2.heap.size := by omega
            have a0 : y2.cell? ⟨w.heap.size + 1, 0, none⟩ = some (.string (rsS l4 e4)) := cell_of_row _ _ _ _ _ _ hY2.r4
            have b0 : y2.frozen? ⟨w.heap.size + 1, 0, none⟩ = false := frozen_of_row _ _ _ _ _ hY2.r4
            have a1 : y2.cell? ⟨w.heap.size + 1, 1, none⟩ = some (.int .i64 (e4 : Nat)) := cell_of_row _ _ _ _ _ _ hY2.r4
            have b1 : y2.frozen? ⟨w.heap.size + 1, 1, none⟩ = false := frozen_of_row _ _ _ _ _ hY2.r4
            have c0 : y2.cell? ⟨w.heap.size + 1 + 1, 0, none⟩ = some (.int .i64 (z : Nat)) := cell_of_row _ _ _ _ _ _ hY2.r5
            have d0 : y2.frozen? ⟨w.heap.size + 1 + 1, 0, none⟩ = false := frozen_of_row _ _ _ _ _ hY2.r5
            have c1 : y2.cell? ⟨w.heap.size + 1 + 1, 1, none⟩ = some (.slice B o.length d) := cell_of_row _ _ _ _ _ _ hY2.r5
            have d1 : y2.frozen? ⟨w.heap.size + 1 + 1, 1, none⟩ = false := frozen_of_row _ _ _ _ _ hY2.r5
            have c2 : y2.cell? ⟨w.heap.size + 1 + 1, 2, none⟩ = some (.int .i64 (tl : Nat)) := cell_of_row _ _ _ _ _ _ hY2.r5
            have d2 : y2.frozen? ⟨w.heap.size + 1 + 1, 2, none⟩ = false := frozen_of_row _ _ _ _ _ hY2.r5
            have c3 : y2.cell? ⟨w.heap.size + 1 + 1, 3, none⟩ = some (.int .u32 0) := cell_of_row _ _ _ _ _ _ hY2.r5
            have d3 : y2.frozen? ⟨w.heap.size + 1 + 1, 3, none⟩ = false := frozen_of_row _ _ _ _ _ hY2.r5
            have c4 : y2.cell? ⟨w.heap.size + 1 + 1, 4, none⟩ = some (.int .u64 0) := cell_of_row _ _ _ _ _ _ hY2.r5
            have d4 : y2.frozen? ⟨w.heap.size + 1 + 1, 4, none⟩ = false := frozen_of_row _ _ _ _ _ hY2.r5
            have c5 : y2.cell? ⟨w.heap.size + 1 + 1, 5, none⟩ = some (.int .u64 0) := cell_of_row _ _ _ _ _ _ hY2.r5
            have d5 : y2.frozen? ⟨w.heap.size + 1 + 1, 5, none⟩ = false := frozen_of_row _ _ _ _ _ hY2.r5
            have yy0 : y2.cell? ⟨w.heap.size, 0, none⟩ = some (.int .i64 0) := cell_of_row _ _ _ _ _ _ hY2.r2
            have z0 : y2.frozen? ⟨w.heap.size, 0, none⟩ = false := frozen_of_row _ _ _ _ _ hY2.r2
            have yy1 : y2.cell? ⟨w.heap.size, 1, none⟩ = some (.slice none 0 0) := cell_of_row _ _ _ _ _ _ hY2.r2
            have z1 : y2.frozen? ⟨w.heap.size, 1, none⟩ = false := frozen_of_row _ _ _ _ _ hY2.r2
            have yy2 : y2.cell? ⟨w.heap.size, 2, none⟩ = some (.int .i64 0) := cell_of_row _ _ _ _ _ _ hY2.r2
            have z2 : y2.frozen? ⟨w.heap.size, 2, none⟩ = false := frozen_of_row _ _ _ _ _ hY2.r2
            have yy3 : y2.cell? ⟨w.heap.size, 3, none⟩ = some (.int .u32 0) := cell_of_row _ _ _ _ _ _ hY2.r2
            have z3 : y2.frozen? ⟨w.heap.size, 3, none⟩ = false := frozen_of_row _ _ _ _ _ hY2.r2
            have yy4 : y2.cell? ⟨w.heap.size, 4, none⟩ = some (.int .u64 0) := cell_of_row _ _ _ _ _ _ hY2.r2
            have z4 : y2.frozen? ⟨w.heap.size, 4, none⟩ = false := frozen_of_row _ _ _ _ _ hY2.r2
            have yy5 : y2.cell? ⟨w.heap.size, 5, none⟩ = some (.int .u64 0) := cell_of_row _ _ _ _ _ _ hY2.r2
            have z5 : y2.frozen? ⟨w.heap.size, 5, none⟩ = false := frozen_of_row _ _ _ _ _ hY2.r2
            have HX : ((((((y2.setCell ⟨w.heap.size, 0, none⟩ (.int .i64 0)).setCell ⟨w.heap.size, 1, none⟩ (.slice none 0 0)).setCell ⟨w.heap.size, 2, none⟩ (.int .i64 0)).setCell ⟨w.heap.size, 3, none⟩ (.int .u32 0)).setCell ⟨w.heap.size, 4, none⟩ (.int .u64 0)).setCell ⟨w.heap.size, 5, none⟩ (.int .u64 0)).heap[w.heap.size]? = some (.cells #[.int .i64 0, .slice none 0 0, .int .i64 0, .int .u32 0, .int .u64 0, .int .u64 0] 42 (0, 0)) := six_row _ _ _ _ _ _ (.int .i64 0) (.slice none 0 0) (.int .i64 0) (.int .u32 0) (.int .u64 0) (.int .u64 0) rfl hY2.r2
            have HBf := hide (show Below w.heap.size w ((((((y2.setCell ⟨w.heap.size, 0, none⟩ (.int .i64 0)).setCell ⟨w.heap.size, 1, none⟩ (.slice none 0 0)).setCell ⟨w.heap.size, 2, none⟩ (.int .i64 0)).setCell ⟨w.heap.size, 3, none⟩ (.int .u32 0)).setCell ⟨w.heap.size, 4, none⟩ (.int .u64 0)).setCell ⟨w.heap.size, 5, none⟩ (.int .u64 0)) from six_below (.int .i64 0) (.slice none 0 0) (.int .i64 0) (.int .u32 0) (.int .u64 0) (.int .u64 0) hY2.below (Nat.le_refl _))
            have HX := hide HX
            go_wp2_with fail
            have t0 := cell_of_row _ _ 0 _ _ _ HX.out
            have t1 := cell_of_row _ _ 1 _ _ _ HX.out
            have t2 := cell_of_row _ _ 2 _ _ _ HX.out
            have t3 := cell_of_row _ _ 3 _ _ _ HX.out
            have t4 := cell_of_row _ _ 4 _ _ _ HX.out
            have t5 := cell_of_row _ _ 5 _ _ _ HX.out
            refine bodyPost_ret (v := .tuple #[.agg #[.int .i64 0, .slice none 0 0, .int .i64 0, .int .u32 0, .int .u64 0, .int .u64 0], .int .i64 3]) (by simp [results, Try.results33, go_sem, t0, t1, t2, t3, t4, t5]) rfl ⟨none, 0, rfl, HBf.out, World.ownsRow_nil _ _ _ _⟩
        · have hg := HGv.out
          rw [if_pos hee] at hg
          subst hg
          have E3 : (((endN e4 l4 : Nat) : Int) != 0) = true := by rw [bne_iff_ne]; omega
          have hlt := hY1.lt
          have hlt4 : w.heap.size + 1 < y1.heap.size := by omega
          have hlt2 : w.heap.size < y1.heap.size := by omega
          have a0 : y1.cell? ⟨w.heap.size + 1, 0, none⟩ = some (.string (rsS l4 e4)) := cell_of_row _ _ _ _ _ _ hY1.r4
          have b0 : y1.frozen? ⟨w.heap.size + 1, 0, none⟩ = false := frozen_of_row _ _ _ _ _ hY1.r4
          have a1 : y1.cell? ⟨w.heap.size + 1, 1, none⟩ = some (.int .i64 (e4 : Nat)) := cell_of_row _ _ _ _ _ _ hY1.r4
          have b1 : y1.frozen? ⟨w.heap.size + 1, 1, none⟩ = false := frozen_of_row _ _ _ _ _ hY1.r4
          have c0 : y1.cell? ⟨w.heap.size + 1 + 1, 0, none⟩ = some (.int .i64 (z : Nat)) := cell_of_row _ _ _ _ _ _ hY1.r5
          have d0 : y1.frozen? ⟨w.heap.size + 1 + 1, 0, none⟩ = false := frozen_of_row _ _ _ _ _ hY1.r5
          have c1 : y1.cell? ⟨w.heap.size + 1 + 1, 1, none⟩ = some (.slice B o.length d) := cell_of_row _ _ _ _ _ _ hY1.r5
          have d1 : y1.frozen? ⟨w.heap.size + 1 + 1, 1, none⟩ = false := frozen_of_row _ _ _ _ _ hY1.r5
          have c2 : y1.cell? ⟨w.heap.size + 1 + 1, 2, none⟩ = some (.int .i64 (tl : Nat)) := cell_of_row _ _ _ _ _ _ hY1.r5
          have d2 : y1.frozen? ⟨w.heap.size + 1 + 1, 2, none⟩ = false := frozen_of_row _ _ _ _ _ hY1.r5
          have c3 : y1.cell? ⟨w.heap.size + 1 + 1, 3, none⟩ = some (.int .u32 0) := cell_of_row _ _ _ _ _ _ hY1.r5
          have d3 : y1.frozen? ⟨w.heap.size + 1 + 1, 3, none⟩ = false := frozen_of_row _ _ _ _ _ hY1.r5
          have c4 : y1.cell? ⟨w.heap.size + 1 + 1, 4, none⟩ = some (.int .u64 0) := cell_of_row _ _ _ _ _ _ hY1.r5
          have d4 : y1.frozen? ⟨w.heap.size + 1 + 1, 4, none⟩ = false := frozen_of_row _ _ _ _ _ hY1.r5
          have c5 : y1.cell? ⟨w.heap.size + 1 + 1, 5, none⟩ = some (.int .u64 0) := cell_of_row _ _ _ _ _ _ hY1.r5
          have d5 : y1.frozen? ⟨w.heap.size + 1 + 1, 5, none⟩ = false := frozen_of_row _ _ _ _ _ hY1.r5
          clear HGv HR H35
          go_wp2_with fail
          clear hlt hlt4 hlt2 a0 a1 b0 b1 c0 c1 c2 c3 c4 c5 d0 d1 d2 d3 d4 d5
          refine (HE.out _).mono ?_
          rintro en y2 ⟨rfl, hb⟩
          have hY2 := hY1.call hb
          clear hb hY1
          have hlt := hY2.lt
          have hlt4 : w.heap.size + 1 < y2.heap.size := by omega
          have hlt2 : w.heap.size < y2.heap.size := by omega
          have a0 : y2.cell? ⟨w.heap.size + 1, 0, none⟩ = some (.string (rsS l4 e4)) := cell_of_row _ _ _ _ _ _ hY2.r4
          have b0 : y2.frozen? ⟨w.heap.size + 1, 0, none⟩ = false := frozen_of_row _ _ _ _ _ hY2.r4
          have a1 : y2.cell? ⟨w.heap.size + 1, 1, none⟩ = some (.int .i64 (e4 : Nat)) := cell_of_row _ _ _ _ _ _ hY2.r4
          have b1 : y2.frozen? ⟨w.heap.size + 1, 1, none⟩ = false := frozen_of_row _ _ _ _ _ hY2.r4
          have c0 : y2.cell? ⟨w.heap.size + 1 + 1, 0, none⟩ = some (.int .i64 (z : Nat)) := cell_of_row _ _ _ _ _ _ hY2.r5
          have d0 : y2.frozen? ⟨w.heap.size + 1 + 1, 0, none⟩ = false := frozen_of_row _ _ _ _ _ hY2.r5
          have c1 : y2.cell? ⟨w.heap.size + 1 + 1, 1, none⟩ = some (.slice B o.length d) := cell_of_row _ _ _ _ _ _ hY2.r5
          have d1 : y2.frozen? ⟨w.heap.size + 1 + 1, 1, none⟩ = false := frozen_of_row _ _ _ _ _ hY2.r5
          have c2 : y2.cell? ⟨w.heap.size + 1 + 1, 2, none⟩ = some (.int .i64 (tl : Nat)) := cell_of_row _ _ _ _ _ _ hY2.r5
          have d2 : y2.frozen? ⟨w.heap.size + 1 + 1, 2, none⟩ = false := frozen_of_row _ _ _ _ _ hY2.r5
          have c3 : y2.cell? ⟨w.heap.size + 1 + 1, 3, none⟩ = some (.int .u32 0) := cell_of_row _ _ _ _ _ _ hY2.r5
          have d3 : y2.frozen? ⟨w.heap.size + 1 + 1, 3, none⟩ = false := frozen_of_row _ _ _ _ _ hY2.r5
          have c4 : y2.cell? ⟨w.heap.size + 1 + 1, 4, none⟩ = some (.int .u64 0) := cell_of_row _ _ _ _ _ _ hY2.r5
          have d4 : y2.frozen? ⟨w.heap.size + 1 + 1, 4, none⟩ = false := frozen_of_row _ _ _ _ _ hY2.r5
          have c5 : y2.cell? ⟨w.heap.size + 1 + 1, 5, none⟩ = some (.int .u64 0) := cell_of_row _ _ _ _ _ _ hY2.r5
          have d5 : y2.frozen? ⟨w.heap.size + 1 + 1, 5, none⟩ = false := frozen_of_row _ _ _ _ _ hY2.r5
          have yy0 : y2.cell? ⟨w.heap.size, 0, none⟩ = some (.int .i64 0) := cell_of_row _ _ _ _ _ _ hY2.r2
          have z0 : y2.frozen? ⟨w.heap.size, 0, none⟩ = false := frozen_of_row _ _ _ _ _ hY2.r2
          have yy1 : y2.cell? ⟨w.heap.size, 1, none⟩ = some (.slice none 0 0) := cell_of_row _ _ _ _ _ _ hY2.r2
          have z1 : y2.frozen? ⟨w.heap.size, 1, none⟩ = false := frozen_of_row _ _ _ _ _ hY2.r2
          have yy2 : y2.cell? ⟨w.heap.size, 2, none⟩ = some (.int .i64 0) := cell_of_row _ _ _ _ _ _ hY2.r2
          have z2 : y2.frozen? ⟨w.heap.size, 2, none⟩ = false := frozen_of_row _ _ _ _ _ hY2.r2
          have yy3 : y2.cell? ⟨w.heap.size, 3, none⟩ = some (.int .u32 0) := cell_of_row _ _ _ _ _ _ hY2.r2
          have z3 : y2.frozen? ⟨w.heap.size, 3, none⟩ = false := frozen_of_row _ _ _ _ _ hY2.r2
          have yy4 : y2.cell? ⟨w.heap.size, 4, none⟩ = some (.int .u64 0) := cell_of_row _ _ _ _ _ _ hY2.r2
          have z4 : y2.frozen? ⟨w.heap.size, 4, none⟩ = false := frozen_of_row _ _ _ _ _ hY2.r2
          have yy5 : y2.cell? ⟨w.heap.size, 5, none⟩ = some (.int .u64 0) := cell_of_row _ _ _ _ _ _ hY2.r2
          have z5 : y2.frozen? ⟨w.heap.size, 5, none⟩ = false := frozen_of_row _ _ _ _ _ hY2.r2
          have HX : ((((((y2.setCell ⟨w.heap.size, 0, none⟩ (.int .i64 0)).setCell ⟨w.heap.size, 1, none⟩ (.slice none 0 0)).setCell ⟨w.heap.size, 2, none⟩ (.int .i64 0)).setCell ⟨w.heap.size, 3, none⟩ (.int .u32 0)).setCell ⟨w.heap.size, 4, none⟩ (.int .u64 0)).setCell ⟨w.heap.size, 5, none⟩ (.int .u64 0)).heap[w.heap.size]? = some (.cells #[.int .i64 0, .slice none 0 0, .int .i64 0, .int .u32 0, .int .u64 0, .int .u64 0] 42 (0, 0)) := six_row _ _ _ _ _ _ (.int .i64 0) (.slice none 0 0) (.int .i64 0) (.int .u32 0) (.int .u64 0) (.int .u64 0) rfl hY2.r2
          have HBf := hide (show Below w.heap.size w ((((((y2.setCell ⟨w.heap.size, 0, none⟩ (.int .i64 0)).setCell ⟨w.heap.size, 1, none⟩ (.slice none 0 0)).setCell ⟨w.heap.size, 2, none⟩ (.int .i64 0)).setCell ⟨w.heap.size, 3, none⟩ (.int .u32 0)).setCell ⟨w.heap.size, 4, none⟩ (.int .u64 0)).setCell ⟨w.heap.size, 5, none⟩ (.int .u64 0)) from six_below (.int .i64 0) (.slice none 0 0) (.int .i64 0) (.int .u32 0) (.int .u64 0) (.int .u64 0) hY2.below (Nat.le_refl _))
          have HX := hide HX
          go_wp2_with fail
          have t0 := cell_of_row _ _ 0 _ _ _ HX.out
          have t1 := cell_of_row _ _ 1 _ _ _ HX.out
          have t2 := cell_of_row _ _ 2 _ _ _ HX.out
          have t3 := cell_of_row _ _ 3 _ _ _ HX.out
          have t4 := cell_of_row _ _ 4 _ _ _ HX.out
          have t5 := cell_of_row _ _ 5 _ _ _ HX.out
          refine bodyPost_ret (v := .tuple #[.agg #[.int .i64 0, .slice none 0 0, .int .i64 0, .int .u32 0, .int .u64 0, .int .u64 0], .int .i64 (endN e4 l4 : Nat)]) (by simp [results, Try.results33, go_sem, t0, t1, t2, t3, t4, t5]) rfl ⟨none, 0, rfl, HBf.out, World.ownsRow_nil _ _ _ _⟩
      · have E2 : (0 : Int) < (tl : Int) := by omega
        have hq5 := H5.out
        unfold readLast at hq5
        rw [if_pos ht] at hq5
        clear H5 ht
        have HGt := hide (fun W => get_any l4 e4 4294967295 W (by omega))
        have hk := readN_le l4 e4 4294967295
        have hm1 := readN_len2 l4 e4 4294967295
        unfold readSg at hq5
        generalize readN l4 e4 4294967295 = r at HGt hk hm1 hq5
        obtain ⟨k, m1, f1⟩ := r
        simp only at HGt hk hm1 hq5
        have HGs := hide (fun W => getSum_any m1 f1 W (by omega))
        generalize readS m1 f1 = r2 at HGs hq5
        obtain ⟨⟨hi2, lo2⟩, m2, f2⟩ := r2
        simp only [sumV] at HGs hq5
        injection hq5 with q1 q2
        injection q1 with q3 q4 q5
        injection q2 with q6 q7
        subst q3 q4 q5 q6 q7
        have hkw : IntKind.u32.wrap (k : Int) = (k : Int) := by rw [IntKind.wrap_u32]; omega
        have HGt := hide (fun W => (show Calls Try.prog 82 #[.agg #[.string (rsS l4 e4), .int .i64 (e4 : Nat)], .int .u64 4294967295] W fun en w' => en = .returned (.tuple #[.agg #[.string (rsS m1 f1), .int .i64 (f1 : Nat)], .int .u64 (k : Nat)]) ∧ Below W.heap.size W w' from HGt.out W))
        have HGs := hide (fun W => (show Calls Try.prog 83 #[.agg #[.string (rsS m1 f1), .int .i64 (f1 : Nat)]] W fun en w' => en = .returned (.tuple #[.agg #[.string (rsS m2 f2), .int .i64 (f2 : Nat)], .agg #[.int .u64 (hi2 : Nat), .int .u64 (lo2 : Nat)]]) ∧ Below W.heap.size W w' from HGs.out W))
        go_wp2_with fail
        clear hlt hlt4 hlt2 a0 a1 b0 b1 c0 c1 c2 c3 c4 c5 d0 d1 d2 d3 d4 d5
        generalize ((((x1.setCell ⟨w.heap.size + 1, 0, none⟩ (.string (rsS l4 e4))).setCell ⟨w.heap.size + 1, 1, none⟩ (.int .i64 (e4 : Nat))).setCell ⟨w.heap.size + 1 + 1, 2, none⟩ (.int .i64 (tl : Nat))).alloc (Obj.cells #[.string (rsS l4 e4), .int .i64 (e4 : Nat)] 122)) = y0 at hY ⊢
        refine (HGt.out _).mono ?_
        rintro en y3 ⟨rfl, hb⟩
        have hA3 := hY.call hb
        clear hb hY HGt
        have hlt := hA3.lt
        have hlt4 : w.heap.size + 1 < y3.heap.size := by omega
        have hlt2 : w.heap.size < y3.heap.size := by omega
        have a0 : y3.cell? ⟨w.heap.size + 1, 0, none⟩ = some (.string (rsS l4 e4)) := cell_of_row _ _ _ _ _ _ hA3.r4
        have b0 : y3.frozen? ⟨w.heap.size + 1, 0, none⟩ = false := frozen_of_row _ _ _ _ _ hA3.r4
        have a1 : y3.cell? ⟨w.heap.size + 1, 1, none⟩ = some (.int .i64 (e4 : Nat)) := cell_of_row _ _ _ _ _ _ hA3.r4
        have b1 : y3.frozen? ⟨w.heap.size + 1, 1, none⟩ = false := frozen_of_row _ _ _ _ _ hA3.r4
        have c0 : y3.cell? ⟨w.heap.size + 1 + 1, 0, none⟩ = some (.int .i64 (z : Nat)) := cell_of_row _ _ _ _ _ _ hA3.r5
        have d0 : y3.frozen? ⟨w.heap.size + 1 + 1, 0, none⟩ = false := frozen_of_row _ _ _ _ _ hA3.r5
        have c1 : y3.cell? ⟨w.heap.size + 1 + 1, 1, none⟩ = some (.slice B o.length d) := cell_of_row _ _ _ _ _ _ hA3.r5
        have d1 : y3.frozen? ⟨w.heap.size + 1 + 1, 1, none⟩ = false := frozen_of_row _ _ _ _ _ hA3.r5
        have c2 : y3.cell? ⟨w.heap.size + 1 + 1, 2, none⟩ = some (.int .i64 (tl : Nat)) := cell_of_row _ _ _ _ _ _ hA3.r5
        have d2 : y3.frozen? ⟨w.heap.size + 1 + 1, 2, none⟩ = false := frozen_of_row _ _ _ _ _ hA3.r5
        have c3 : y3.cell? ⟨w.heap.size + 1 + 1, 3, none⟩ = some (.int .u32 0) := cell_of_row _ _ _ _ _ _ hA3.r5
        have d3 : y3.frozen? ⟨w.heap.size + 1 + 1, 3, none⟩ = false := frozen_of_row _ _ _ _ _ hA3.r5
        have c4 : y3.cell? ⟨w.heap.size + 1 + 1, 4, none⟩ = some (.int .u64 0) := cell_of_row _ _ _ _ _ _ hA3.r5
        have d4 : y3.frozen? ⟨w.heap.size + 1 + 1, 4, none⟩ = false := frozen_of_row _ _ _ _ _ hA3.r5
        have c5 : y3.cell? ⟨w.heap.size + 1 + 1, 5, none⟩ = some (.int .u64 0) := cell_of_row _ _ _ _ _ _ hA3.r5
        have d5 : y3.frozen? ⟨w.heap.size + 1 + 1, 5, none⟩ = false := frozen_of_row _ _ _ _ _ hA3.r5
        have hA4 : G15 w (.slice B o.length d) o.length o #[.string (rsS m1 f1), .int .i64 (f1 : Nat)] #[.int .i64 (z : Nat), .slice B o.length d, .int .i64 (tl : Nat), .int .u32 (k : Nat), .int .u64 0, .int .u64 0] (((y3.setCell ⟨w.heap.size + 1, 0, none⟩ (.string (rsS m1 f1))).setCell ⟨w.heap.size + 1, 1, none⟩ (.int .i64 (f1 : Nat))).setCell ⟨w.heap.size + 1 + 1, 3, none⟩ (.int .u32 (k : Nat))) := (hA3.set4 _ _).set5 3 _
        clear hA3
        go_wp2_with fail
        clear hlt hlt4 hlt2 a0 a1 b0 b1 c0 c1 c2 c3 c4 c5 d0 d1 d2 d3 d4 d5
        generalize (((y3.setCell ⟨w.heap.size + 1, 0, none⟩ (.string (rsS m1 f1))).setCell ⟨w.heap.size + 1, 1, none⟩ (.int .i64 (f1 : Nat))).setCell ⟨w.heap.size + 1 + 1, 3, none⟩ (.int .u32 (k : Nat))) = y4 at hA4 ⊢
        refine (HGs.out _).mono ?_
        rintro en y5 ⟨rfl, hb⟩
        have hA5 := hA4.call hb
        clear hb hA4 HGs
        have hlt := hA5.lt
        have hlt4 : w.heap.size + 1 < y5.heap.size := by omega
        have hlt2 : w.heap.size < y5.heap.size := by omega
        have a0 : y5.cell? ⟨w.heap.size + 1, 0, none⟩ = some (.string (rsS m1 f1)) := cell_of_row _ _ _ _ _ _ hA5.r4
        have b0 : y5.frozen? ⟨w.heap.size + 1, 0, none⟩ = false := frozen_of_row _ _ _ _ _ hA5.r4
        have a1 : y5.cell? ⟨w.heap.size + 1, 1, none⟩ = some (.int .i64 (f1 : Nat)) := cell_of_row _ _ _ _ _ _ hA5.r4
        have b1 : y5.frozen? ⟨w.heap.size + 1, 1, none⟩ = false := frozen_of_row _ _ _ _ _ hA5.r4
        have c0 : y5.cell? ⟨w.heap.size + 1 + 1, 0, none⟩ = some (.int .i64 (z : Nat)) := cell_of_row _ _ _ _ _ _ hA5.r5
        have d0 : y5.frozen? ⟨w.heap.size + 1 + 1, 0, none⟩ = false := frozen_of_row _ _ _ _ _ hA5.r5
        have c1 : y5.cell? ⟨w.heap.size + 1 + 1, 1, none⟩ = some (.slice B o.length d) := cell_of_row _ _ _ _ _ _ hA5.r5
        have d1 : y5.frozen? ⟨w.heap.size + 1 + 1, 1, none⟩ = false := frozen_of_row _ _ _ _ _ hA5.r5
        have c2 : y5.cell? ⟨w.heap.size + 1 + 1, 2, none⟩ = some (.int .i64 (tl : Nat)) := cell_of_row _ _ _ _ _ _ hA5.r5
        have d2 : y5.frozen? ⟨w.heap.size + 1 + 1, 2, none⟩ = false := frozen_of_row _ _ _ _ _ hA5.r5
        have c3 : y5.cell? ⟨w.heap.size + 1 + 1, 3, none⟩ = some (.int .u32 (k : Nat)) := cell_of_row _ _ _ _ _ _ hA5.r5
        have d3 : y5.frozen? ⟨w.heap.size + 1 + 1, 3, none⟩ = false := frozen_of_row _ _ _ _ _ hA5.r5
        have c4 : y5.cell? ⟨w.heap.size + 1 + 1, 4, none⟩ = some (.int .u64 0) := cell_of_row _ _ _ _ _ _ hA5.r5
        have d4 : y5.frozen? ⟨w.heap.size + 1 + 1, 4, none⟩ = false := frozen_of_row _ _ _ _ _ hA5.r5
        have c5 : y5.cell? ⟨w.heap.size + 1 + 1, 5, none⟩ = some (.int .u64 0) := cell_of_row _ _ _ _ _ _ hA5.r5
        have d5 : y5.frozen? ⟨w.heap.size + 1 + 1, 5, none⟩ = false := frozen_of_row _ _ _ _ _ hA5.r5
        go_upto_region 26 with fail
        have hA6 := (hA5.new (Obj.cells #[.string (rsS m2 f2), .int .i64 (f2 : Nat)] 122)).new (Obj.cells #[.int .u64 (hi2 : Nat), .int .u64 (lo2 : Nat)] 28)
        obtain ⟨R12, R13, _⟩ := new_rows y5 #[.string (rsS m2 f2), .int .i64 (f2 : Nat)] #[.int .u64 (hi2 : Nat), .int .u64 (lo2 : Nat)] 122 28
        have hl12 := hlt
        clear hlt hlt4 hlt2 a0 a1 b0 b1 c0 c1 c2 c3 c4 c5 d0 d1 d2 d3 d4 d5 hA5
        generalize ((y5.alloc (Obj.cells #[.string (rsS m2 f2), .int .i64 (f2 : Nat)] 122)).alloc (Obj.cells #[.int .u64 (hi2 : Nat), .int .u64 (lo2 : Nat)] 28)) = y6 at hA6 R12 R13 ⊢
        have hlt := hA6.lt
        have hlt4 : w.heap.size + 1 < y6.heap.size := by omega
        have hlt2 : w.heap.size < y6.heap.size := by omega
        have a0 : y6.cell? ⟨w.heap.size + 1, 0, none⟩ = some (.string (rsS m1 f1)) := cell_of_row _ _ _ _ _ _ hA6.r4
        have b0 : y6.frozen? ⟨w.heap.size + 1, 0, none⟩ = false := frozen_of_row _ _ _ _ _ hA6.r4
        have a1 : y6.cell? ⟨w.heap.size + 1, 1, none⟩ = some (.int .i64 (f1 : Nat)) := cell_of_row _ _ _ _ _ _ hA6.r4
        have b1 : y6.frozen? ⟨w.heap.size + 1, 1, none⟩ = false := frozen_of_row _ _ _ _ _ hA6.r4
        have c0 : y6.cell? ⟨w.heap.size + 1 + 1, 0, none⟩ = some (.int .i64 (z : Nat)) := cell_of_row _ _ _ _ _ _ hA6.r5
        have d0 : y6.frozen? ⟨w.heap.size + 1 + 1, 0, none⟩ = false := frozen_of_row _ _ _ _ _ hA6.r5
        have c1 : y6.cell? ⟨w.heap.size + 1 + 1, 1, none⟩ = some (.slice B o.length d) := cell_of_row _ _ _ _ _ _ hA6.r5
        have d1 : y6.frozen? ⟨w.heap.size + 1 + 1, 1, none⟩ = false := frozen_of_row _ _ _ _ _ hA6.r5
        have c2 : y6.cell? ⟨w.heap.size + 1 + 1, 2, none⟩ = some (.int .i64 (tl : Nat)) := cell_of_row _ _ _ _ _ _ hA6.r5
        have d2 : y6.frozen? ⟨w.heap.size + 1 + 1, 2, none⟩ = false := frozen_of_row _ _ _ _ _ hA6.r5
        have c3 : y6.cell? ⟨w.heap.size + 1 + 1, 3, none⟩ = some (.int .u32 (k : Nat)) := cell_of_row _ _ _ _ _ _ hA6.r5
        have d3 : y6.frozen? ⟨w.heap.size + 1 + 1, 3, none⟩ = false := frozen_of_row _ _ _ _ _ hA6.r5
        have c4 : y6.cell? ⟨w.heap.size + 1 + 1, 4, none⟩ = some (.int .u64 0) := cell_of_row _ _ _ _ _ _ hA6.r5
        have d4 : y6.frozen? ⟨w.heap.size + 1 + 1, 4, none⟩ = false := frozen_of_row _ _ _ _ _ hA6.r5
        have c5 : y6.cell? ⟨w.heap.size + 1 + 1, 5, none⟩ = some (.int .u64 0) := cell_of_row _ _ _ _ _ _ hA6.r5
        have d5 : y6.frozen? ⟨w.heap.size + 1 + 1, 5, none⟩ = false := frozen_of_row _ _ _ _ _ hA6.r5
        have g0 : y6.cell? ⟨y5.heap.size, 0, none⟩ = some (.string (rsS m2 f2)) := cell_of_row _ _ _ _ _ _ R12
        have g1 : y6.cell? ⟨y5.heap.size, 1, none⟩ = some (.int .i64 (f2 : Nat)) := cell_of_row _ _ _ _ _ _ R12
        have g2 : y6.cell? ⟨y5.heap.size + 1, 0, none⟩ = some (.int .u64 (hi2 : Nat)) := cell_of_row _ _ _ _ _ _ R13
        have g3 : y6.cell? ⟨y5.heap.size + 1, 1, none⟩ = some (.int .u64 (lo2 : Nat)) := cell_of_row _ _ _ _ _ _ R13
        have hn3 : y5.heap.size + 1 ≠ w.heap.size + 1 := by omega
        have hn4 : y5.heap.size ≠ w.heap.size := by omega
        have hn5 : w.heap.size ≠ y5.heap.size := by omega
        clear hlt hlt2 hlt4
        go_upto_region 28 with fail
        clear hn3 hn4 hn5 g0 g1 g2 g3 a0 a1 b0 b1 c0 c1 c2 c3 c4 c5 d0 d1 d2 d3 d4 d5 R12 R13 hl12
        have hY : G15 w (.slice B o.length d) o.length o #[.string (rsS m2 f2), .int .i64 (f2 : Nat)] #[.int .i64 (z : Nat), .slice B o.length d, .int .i64 (tl : Nat), .int .u32 (k : Nat), .int .u64 (hi2 : Nat), .int .u64 (lo2 : Nat)] ((((y6.setCell ⟨w.heap.size + 1, 0, none⟩ (.string (rsS m2 f2))).setCell ⟨w.heap.size + 1, 1, none⟩ (.int .i64 (f2 : Nat))).setCell ⟨w.heap.size + 1 + 1, 4, none⟩ (.int .u64 (hi2 : Nat))).setCell ⟨w.heap.size + 1 + 1, 5, none⟩ (.int .u64 (lo2 : Nat))) := ((hA6.set4 _ _).set5 4 _).set5 5 _
        clear hA6
        generalize ((((y6.setCell ⟨w.heap.size + 1, 0, none⟩ (.string (rsS m2 f2))).setCell ⟨w.heap.size + 1, 1, none⟩ (.int .i64 (f2 : Nat))).setCell ⟨w.heap.size + 1 + 1, 4, none⟩ (.int .u64 (hi2 : Nat))).setCell ⟨w.heap.size + 1 + 1, 5, none⟩ (.int .u64 (lo2 : Nat))) = y at hY ⊢
        have hlt := hY.lt
        have hlt4 : w.heap.size + 1 < y.heap.size := by omega
        have hlt2 : w.heap.size < y.heap.size := by omega
        have a0 : y.cell? ⟨w.heap.size + 1, 0, none⟩ = some (.string (rsS m2 f2)) := cell_of_row _ _ _ _ _ _ hY.r4
        have b0 : y.frozen? ⟨w.heap.size + 1, 0, none⟩ = false := frozen_of_row _ _ _ _ _ hY.r4
        have a1 : y.cell? ⟨w.heap.size + 1, 1, none⟩ = some (.int .i64 (f2 : Nat)) := cell_of_row _ _ _ _ _ _ hY.r4
        have b1 : y.frozen? ⟨w.heap.size + 1, 1, none⟩ = false := frozen_of_row _ _ _ _ _ hY.r4
        have c0 : y.cell? ⟨w.heap.size + 1 + 1, 0, none⟩ = some (.int .i64 (z : Nat)) := cell_of_row _ _ _ _ _ _ hY.r5
        have d0 : y.frozen? ⟨w.heap.size + 1 + 1, 0, none⟩ = false := frozen_of_row _ _ _ _ _ hY.r5
        have c1 : y.cell? ⟨w.heap.size + 1 + 1, 1, none⟩ = some (.slice B o.length d) := cell_of_row _ _ _ _ _ _ hY.r5
        have d1 : y.frozen? ⟨w.heap.size + 1 + 1, 1, none⟩ = false := frozen_of_row _ _ _ _ _ hY.r5
        have c2 : y.cell? ⟨w.heap.size + 1 + 1, 2, none⟩ = some (.int .i64 (tl : Nat)) := cell_of_row _ _ _ _ _ _ hY.r5
        have d2 : y.frozen? ⟨w.heap.size + 1 + 1, 2, none⟩ = false := frozen_of_row _ _ _ _ _ hY.r5
        have c3 : y.cell? ⟨w.heap.size + 1 + 1, 3, none⟩ = some (.int .u32 (k : Nat)) := cell_of_row _ _ _ _ _ _ hY.r5
        have d3 : y.frozen? ⟨w.heap.size + 1 + 1, 3, none⟩ = false := frozen_of_row _ _ _ _ _ hY.r5
        have c4 : y.cell? ⟨w.heap.size + 1 + 1, 4, none⟩ = some (.int .u64 (hi2 : Nat)) := cell_of_row _ _ _ _ _ _ hY.r5
        have d4 : y.frozen? ⟨w.heap.size + 1 + 1, 4, none⟩ = false := frozen_of_row _ _ _ _ _ hY.r5
        have c5 : y.cell? ⟨w.heap.size + 1 + 1, 5, none⟩ = some (.int .u64 (lo2 : Nat)) := cell_of_row _ _ _ _ _ _ hY.r5
        have d5 : y.frozen? ⟨w.heap.size + 1 + 1, 5, none⟩ = false := frozen_of_row _ _ _ _ _ hY.r5
        go_wp2_with fail
        clear hlt hlt4 hlt2 a0 a1 b0 b1 c0 c1 c2 c3 c4 c5 d0 d1 d2 d3 d4 d5
        refine (HE.out _).mono ?_
        rintro en y1 ⟨rfl, hb⟩
        have hY1 := hY.call hb
        clear hb hY
        by_cases hee : endN f2 m2 = 0
        · have hg := HGv.out
          rw [if_neg (by simp [hee])] at hg
          have E3 : (((endN f2 m2 : Nat) : Int) != 0) = false := by rw [hee]; rfl
          have HR2 := hide (HR.out y1 B o.length d)
          clear HGv HR HE H35 hee
          have hlt := hY1.lt
          have hlt4 : w.heap.size + 1 < y1.heap.size := by omega
          have hlt2 : w.heap.size < y1.heap.size := by omega
          have a0 : y1.cell? ⟨w.heap.size + 1, 0, none⟩ = some (.string (rsS m2 f2)) := cell_of_row _ _ _ _ _ _ hY1.r4
          have b0 : y1.frozen? ⟨w.heap.size + 1, 0, none⟩ = false := frozen_of_row _ _ _ _ _ hY1.r4
          have a1 : y1.cell? ⟨w.heap.size + 1, 1, none⟩ = some (.int .i64 (f2 : Nat)) := cell_of_row _ _ _ _ _ _ hY1.r4
          have b1 : y1.frozen? ⟨w.heap.size + 1, 1, none⟩ = false := frozen_of_row _ _ _ _ _ hY1.r4
          have c0 : y1.cell? ⟨w.heap.size + 1 + 1, 0, none⟩ = some (.int .i64 (z : Nat)) := cell_of_row _ _ _ _ _ _ hY1.r5
          have d0 : y1.frozen? ⟨w.heap.size + 1 + 1, 0, none⟩ = false := frozen_of_row _ _ _ _ _ hY1.r5
          have c1 : y1.cell? ⟨w.heap.size + 1 + 1, 1, none⟩ = some (.slice B o.length d) := cell_of_row _ _ _ _ _ _ hY1.r5
          have d1 : y1.frozen? ⟨w.heap.size + 1 + 1, 1, none⟩ = false := frozen_of_row _ _ _ _ _ hY1.r5
          have c2 : y1.cell? ⟨w.heap.size + 1 + 1, 2, none⟩ = some (.int .i64 (tl : Nat)) := cell_of_row _ _ _ _ _ _ hY1.r5
          have d2 : y1.frozen? ⟨w.heap.size + 1 + 1, 2, none⟩ = false := frozen_of_row _ _ _ _ _ hY1.r5
          have c3 : y1.cell? ⟨w.heap.size + 1 + 1, 3, none⟩ = some (.int .u32 (k : Nat)) := cell_of_row _ _ _ _ _ _ hY1.r5
          have d3 : y1.frozen? ⟨w.heap.size + 1 + 1, 3, none⟩ = false := frozen_of_row _ _ _ _ _ hY1.r5
          have c4 : y1.cell? ⟨w.heap.size + 1 + 1, 4, none⟩ = some (.int .u64 (hi2 : Nat)) := cell_of_row _ _ _ _ _ _ hY1.r5
          have d4 : y1.frozen? ⟨w.heap.size + 1 + 1, 4, none⟩ = false := frozen_of_row _ _ _ _ _ hY1.r5
          have c5 : y1.cell? ⟨w.heap.size + 1 + 1, 5, none⟩ = some (.int .u64 (lo2 : Nat)) := cell_of_row _ _ _ _ _ _ hY1.r5
          have d5 : y1.frozen? ⟨w.heap.size + 1 + 1, 5, none⟩ = false := frozen_of_row _ _ _ _ _ hY1.r5
          cases hr : rightS (z : Nat) o.length (tl : Nat) ⟨k, hi2, lo2⟩ with
          | true =>
            rw [hr, if_pos rfl] at hg
            rw [hr] at HR2
            subst hg
            clear hr
            go_wp2_with fail
            clear hlt hlt4 hlt2 a0 a1 b0 b1 c0 c1 c2 c3 c4 c5 d0 d1 d2 d3 d4 d5
            refine HR2.out.mono ?_
            rintro en y2 ⟨rfl, hb⟩
            have hY2 := hY1.call hb
            clear hb hY1 HR2
            have hlt := hY2.lt
            have hlt4 : w.heap.size + 1 < y2.heap.size := by omega
            have hlt2 : w.heap.size < y2.heap.size := by omega
            have a0 : y2.cell? ⟨w.heap.size + 1, 0, none⟩ = some (.string (rsS m2 f2)) := cell_of_row _ _ _ _ _ _ hY2.r4
            have b0 : y2.frozen? ⟨w.heap.size + 1, 0, none⟩ = false := frozen_of_row _ _ _ _ _ hY2.r4
            have a1 : y2.cell? ⟨w.heap.size + 1, 1, none⟩ = some (.int .i64 (f2 : Nat)) := cell_of_row _ _ _ _ _ _ hY2.r4
            have b1 : y2.frozen? ⟨w.heap.size + 1, 1, none⟩ = false := frozen_of_row _ _ _ _ _ hY2.r4
            have c0 : y2.cell? ⟨w.heap.size + 1 + 1, 0, none⟩ = some (.int .i64 (z : Nat)) := cell_of_row _ _ _ _ _ _ hY2.r5
            have d0 : y2.frozen? ⟨w.heap.size + 1 + 1, 0, none⟩ = false := frozen_of_row _ _ _ _ _ hY2.r5
            have c1 : y2.cell? ⟨w.heap.size + 1 + 1, 1, none⟩ = some (.slice B o.length d) := cell_of_row _ _ _ _ _ _ hY2.r5
            have d1 : y2.frozen? ⟨w.heap.size + 1 + 1, 1, none⟩ = false := frozen_of_row _ _ _ _ _ hY2.r5
            have c2 : y2.cell? ⟨w.heap.size + 1 + 1, 2, none⟩ = some (.int .i64 (tl : Nat)) := cell_of_row _ _ _ _ _ _ hY2.r5
            have d2 : y2.frozen? ⟨w.heap.size + 1 + 1, 2, none⟩ = false := frozen_of_row _ _ _ _ _ hY2.r5
            have c3 : y2.cell? ⟨w.heap.size + 1 + 1, 3, none⟩ = some (.int .u32 (k : Nat)) := cell_of_row _ _ _ _ _ _ hY2.r5
            have d3 : y2.frozen? ⟨w.heap.size + 1 + 1, 3, none⟩ = false := frozen_of_row _ _ _ _ _ hY2.r5
            have c4 : y2.cell? ⟨w.heap.size + 1 + 1, 4, none⟩ = some (.int .u64 (hi2 : Nat)) := cell_of_row _ _ _ _ _ _ hY2.r5
            have d4 : y2.frozen? ⟨w.heap.size + 1 + 1, 4, none⟩ = false := frozen_of_row _ _ _ _ _ hY2.r5
            have c5 : y2.cell? ⟨w.heap.size + 1 + 1, 5, none⟩ = some (.int .u64 (lo2 : Nat)) := cell_of_row _ _ _ _ _ _ hY2.r5
            have d5 : y2.frozen? ⟨w.heap.size + 1 + 1, 5, none⟩ = false := frozen_of_row _ _ _ _ _ hY2.r5
            have yy0 : y2.cell? ⟨w.heap.size, 0, none⟩ = some (.int .i64 0) := cell_of_row _ _ _ _ _ _ hY2.r2
            have z0 : y2.frozen? ⟨w.heap.size, 0, none⟩ = false := frozen_of_row _ _ _ _ _ hY2.r2
            have yy1 : y2.cell? ⟨w.heap.size, 1, none⟩ = some (.slice none 0 0) := cell_of_row _ _ _ _ _ _ hY2.r2
            have z1 : y2.frozen? ⟨w.heap.size, 1, none⟩ = false := frozen_of_row _ _ _ _ _ hY2.r2
            have yy2 : y2.cell? ⟨w.heap.size, 2, none⟩ = some (.int .i64 0) := cell_of_row _ _ _ _ _ _ hY2.r2
            have z2 : y2.frozen? ⟨w.heap.size, 2, none⟩ = false := frozen_of_row _ _ _ _ _ hY2.r2
            have yy3 : y2.cell? ⟨w.heap.size, 3, none⟩ = some (.int .u32 0) := cell_of_row _ _ _ _ _ _ hY2.r2
            have z3 : y2.frozen? ⟨w.heap.size, 3, none⟩ = false := frozen_of_row _ _ _ _ _ hY2.r2
            have yy4 : y2.cell? ⟨w.heap.size, 4, none⟩ = some (.int .u64 0) := cell_of_row _ _ _ _ _ _ hY2.r2
            have z4 : y2.frozen? ⟨w.heap.size, 4, none⟩ = false := frozen_of_row _ _ _ _ _ hY2.r2
            have yy5 : y2.cell? ⟨w.heap.size, 5, none⟩ = some (.int .u64 0) := cell_of_row _ _ _ _ _ _ hY2.r2
            have z5 : y2.frozen? ⟨w.heap.size, 5, none⟩ = false := frozen_of_row _ _ _ _ _ hY2.r2
            have HX : ((((((y2.setCell ⟨w.heap.size, 0, none⟩ (.int .i64 (z : Nat))).setCell ⟨w.heap.size, 1, none⟩ (.slice B o.length d)).setCell ⟨w.heap.size, 2, none⟩ (.int .i64 (tl : Nat))).setCell ⟨w.heap.size, 3, none⟩ (.int .u32 (k : Nat))).setCell ⟨w.heap.size, 4, none⟩ (.int .u64 (hi2 : Nat))).setCell ⟨w.heap.size, 5, none⟩ (.int .u64 (lo2 : Nat))).heap[w.heap.size]? = some (.cells #[.int .i64 (z : Nat), .slice B o.length d, .int .i64 (tl : Nat), .int .u32 (k : Nat), .int .u64 (hi2 : Nat), .int .u64 (lo2 : Nat)] 42 (0, 0)) := six_row _ _ _ _ _ _ (.int .i64 (z : Nat)) (.slice B o.length d) (.int .i64 (tl : Nat)) (.int .u32 (k : Nat)) (.int .u64 (hi2 : Nat)) (.int .u64 (lo2 : Nat)) rfl hY2.r2
            have HBf := hide (show Below w.heap.size w ((((((y2.setCell ⟨w.heap.size, 0, none⟩ (.int .i64 (z : Nat))).setCell ⟨w.heap.size, 1, none⟩ (.slice B o.length d)).setCell ⟨w.heap.size, 2, none⟩ (.int .i64 (tl : Nat))).setCell ⟨w.heap.size, 3, none⟩ (.int .u32 (k : Nat))).setCell ⟨w.heap.size, 4, none⟩ (.int .u64 (hi2 : Nat))).setCell ⟨w.heap.size, 5, none⟩ (.int .u64 (lo2 : Nat))) from six_below (.int .i64 (z : Nat)) (.slice B o.length d) (.int .i64 (tl : Nat)) (.int .u32 (k : Nat)) (.int .u64 (hi2 : Nat)) (.int .u64 (lo2 : Nat)) hY2.below (Nat.le_refl _))
            have HOf := hide (show ((((((y2.setCell ⟨w.heap.size, 0, none⟩ (.int .i64 (z : Nat))).setCell ⟨w.heap.size, 1, none⟩ (.slice B o.length d)).setCell ⟨w.heap.size, 2, none⟩ (.int .i64 (tl : Nat))).setCell ⟨w.heap.size, 3, none⟩ (.int .u32 (k : Nat))).setCell ⟨w.heap.size, 4, none⟩ (.int .u64 (hi2 : Nat))).setCell ⟨w.heap.size, 5, none⟩ (.int .u64 (lo2 : Nat))).ownsRow w.heap.size 37 3 (.slice B o.length d) o.length (cellsSg o) from six_own (.int .i64 (z : Nat)) (.slice B o.length d) (.int .i64 (tl : Nat)) (.int .u32 (k : Nat)) (.int .u64 (hi2 : Nat)) (.int .u64 (lo2 : Nat)) (ownsRow_lowerSg hY2.own (by omega)) (fun r e => by have := (hY2.own.lt r e).1; omega))
            have HX := hide HX
            go_wp2_with fail
            have t0 := cell_of_row _ _ 0 _ _ _ HX.out
            have t1 := cell_of_row _ _ 1 _ _ _ HX.out
            have t2 := cell_of_row _ _ 2 _ _ _ HX.out
            have t3 := cell_of_row _ _ 3 _ _ _ HX.out
            have t4 := cell_of_row _ _ 4 _ _ _ HX.out
            have t5 := cell_of_row _ _ 5 _ _ _ HX.out
            refine bodyPost_ret (v := .tuple #[.agg #[.int .i64 (z : Nat), .slice B o.length d, .int .i64 (tl : Nat), .int .u32 (k : Nat), .int .u64 (hi2 : Nat), .int .u64 (lo2 : Nat)], .int .i64 0]) (by simp [results, Try.results33, go_sem, t0, t1, t2, t3, t4, t5]) rfl ⟨B, d, rfl, HBf.out, HOf.out⟩
          | false =>
            rw [hr, if_neg (by decide)] at hg
            rw [hr] at HR2
            subst hg
            clear hr
            go_wp2_with fail
            clear hlt hlt4 hlt2 a0 a1 b0 b1 c0 c1 c2 c3 c4 c5 d0 d1 d2 d3 d4 d5
            refine HR2.out.mono ?_
            rintro en y2 ⟨rfl, hb⟩
            have hY2 := hY1.call hb
            clear hb hY1 HR2
            have hlt := hY2.lt
            have hlt4 : w.heap.size + 1 < y2.heap.size := by omega
            have hlt2 : w.heap.size < y2.heap.size := by omega
            have a0 : y2.cell? ⟨w.heap.size + 1, 0, none⟩ = some (.string (rsS m2 f2)) := cell_of_row _ _ _ _ _ _ hY2.r4
            have b0 : y2.frozen? ⟨w.heap.size + 1, 0, none⟩ = false := frozen_of_row _ _ _ _ _ hY2.r4
            have a1 : y2.cell? ⟨w.heap.size + 1, 1, none⟩ = some (.int .i64 (f2 : Nat)) := cell_of_row _ _ _ _ _ _ hY2.r4
            have b1 : y2.frozen? ⟨w.heap.size + 1, 1, none⟩ = false := frozen_of_row _ _ _ _ _ hY2.r4
            have c0 : y2.cell? ⟨w.heap.size + 1 + 1, 0, none⟩ = some (.int .i64 (z : Nat)) := cell_of_row _ _ _ _ _ _ hY2.r5
            have d0 : y2.frozen? ⟨w.heap.size + 1 + 1, 0, none⟩ = false := frozen_of_row _ _ _ _ _ hY2.r5
            have c1 : y2.cell? ⟨w.heap.size + 1 + 1, 1, none⟩ = some (.slice B o.length d) := cell_of_row _ _ _ _ _ _ hY2.r5
            have d1 : y2.frozen? ⟨w.heap.size + 1 + 1, 1, none⟩ = false := frozen_of_row _ _ _ _ _ hY2.r5
            have c2 : y2.cell? ⟨w.heap.size + 1 + 1, 2, none⟩ = some (.int .i64 (tl : Nat)) := cell_of_row _ _ _ _ _ _ hY2.r5
            have d2 : y2.frozen? ⟨w.heap.size + 1 + 1, 2, none⟩ = false := frozen_of_row _ _ _ _ _ hY2.r5
            have c3 : y2.cell? ⟨w.heap.size + 1 + 1, 3, none⟩ = some (.int .u32 (k : Nat)) := cell_of_row _ _ _ _ _ _ hY2.r5
            have d3 : y2.frozen? ⟨w.heap.size + 1 + 1, 3, none⟩ = false := frozen_of_row _ _ _ _ _ hY2.r5
            have c4 : y2.cell? ⟨w.heap.size + 1 + 1, 4, none⟩ = some (.int .u64 (hi2 : Nat)) := cell_of_row _ _ _ _ _ _ hY2.r5
            have d4 : y2.frozen? ⟨w.heap.size + 1 + 1, 4, none⟩ = false := frozen_of_row _ _ _ _ _ hY2.r5
            have c5 : y2.cell? ⟨w.heap.size + 1 + 1, 5, none⟩ = some (.int .u64 (lo2 : Nat)) := cell_of_row _ _ _ _ _ _ hY2.r5
            have d5 : y2.frozen? ⟨w.heap.size + 1 + 1, 5, none⟩ = false := frozen_of_row _ _ _ _ _ hY2.r5
            have yy0 : y2.cell? ⟨w.heap.size, 0, none⟩ = some (.int .i64 0) := cell_of_row _ _ _ _ _ _ hY2.r2
            have z0 : y2.frozen? ⟨w.heap.size, 0, none⟩ = false := frozen_of_row _ _ _ _ _ hY2.r2
            have yy1 : y2.cell? ⟨w.heap.size, 1, none⟩ = some (.slice none 0 0) := cell_of_row _ _ _ _ _ _ hY2.r2
            have z1 : y2.frozen? ⟨w.heap.size, 1, none⟩ = false := frozen_of_row _ _ _ _ _ hY2.r2
            have yy2 : y2.cell? ⟨w.heap.size, 2, none⟩ = some (.int .i64 0) := cell_of_row _ _ _ _ _ _ hY2.r2
            have z2 : y2.frozen? ⟨w.heap.size, 2, none⟩ = false := frozen_of_row _ _ _ _ _ hY2.r2
            have yy3 : y2.cell? ⟨w.heap.size, 3, none⟩ = some (.int .u32 0) := cell_of_row _ _ _ _ _ _ hY2.r2
            have z3 : y2.frozen? ⟨w.heap.size, 3, none⟩ = false := frozen_of_row _ _ _ _ _ hY2.r2
            have yy4 : y2.cell? ⟨w.heap.size, 4, none⟩ = some (.int .u64 0) := cell_of_row _ _ _ _ _ _ hY2.r2
            have z4 : y2.frozen? ⟨w.heap.size, 4, none⟩ = false := frozen_of_row _ _ _ _ _ hY2.r2
            have yy5 : y2.cell? ⟨w.heap.size, 5, none⟩ = some (.int .u64 0) := cell_of_row _ _ _ _ _ _ hY2.r2
            have z5 : y2.frozen? ⟨w.heap.size, 5, none⟩ = false := frozen_of_row _ _ _ _ _ hY2.r2
            have HX : ((((((y2.setCell ⟨w.heap.size, 0, none⟩ (.int .i64 0)).setCell ⟨w.heap.size, 1, none⟩ (.slice none 0 0)).setCell ⟨w.heap.size, 2, none⟩ (.int .i64 0)).setCell ⟨w.heap.size, 3, none⟩ (.int .u32 0)).setCell ⟨w.heap.size, 4, none⟩ (.int .u64 0)).setCell ⟨w.heap.size, 5, none⟩ (.int .u64 0)).heap[w.heap.size]? = some (.cells #[.int .i64 0, .slice none 0 0, .int .i64 0, .int .u32 0, .int .u64 0, .int .u64 0] 42 (0, 0)) := six_row _ _ _ _ _ _ (.int .i64 0) (.slice none 0 0) (.int .i64 0) (.int .u32 0) (.int .u64 0) (.int .u64 0) rfl hY2.r2
            have HBf := hide (show Below w.heap.size w ((((((y2.setCell ⟨w.heap.size, 0, none⟩ (.int .i64 0)).setCell ⟨w.heap.size, 1, none⟩ (.slice none 0 0)).setCell ⟨w.heap.size, 2, none⟩ (.int .i64 0)).setCell ⟨w.heap.size, 3, none⟩ (.int .u32 0)).setCell ⟨w.heap.size, 4, none⟩ (.int .u64 0)).setCell ⟨w.heap.size, 5, none⟩ (.int .u64 0)) from six_below (.int .i64 0) (.slice none 0 0) (.int .i64 0) (.int .u32 0) (.int .u64 0) (.int .u64 0) hY2.below (Nat.le_refl _))
            have HX := hide HX
            go_wp2_with fail
            have t0 := cell_of_row _ _ 0 _ _ _ HX.out
            have t1 := cell_of_row _ _ 1 _ _ _ HX.out
            have t2 := cell_of_row _ _ 2 _ _ _ HX.out
            have t3 := cell_of_row _ _ 3 _ _ _ HX.out
            have t4 := cell_of_row _ _ 4 _ _ _ HX.out
            have t5 := cell_of_row _ _ 5 _ _ _ HX.out
            refine bodyPost_ret (v := .tuple #[.agg #[.int .i64 0, .slice none 0 0, .int .i64 0, .int .u32 0, .int .u64 0, .int .u64 0], .int .i64 3]) (by simp [results, Try.results33, go_sem, t0, t1, t2, t3, t4, t5]) rfl ⟨none, 0, rfl, HBf.out, World.ownsRow_nil _ _ _ _⟩
        · have hg := HGv.out
          rw [if_pos hee] at hg
          subst hg
          have E3 : (((endN f2 m2 : Nat) : Int) != 0) = true := by rw [bne_iff_ne]; omega
          have hlt := hY1.lt
          have hlt4 : w.heap.size + 1 < y1.heap.size := by omega
          have hlt2 : w.heap.size < y1.heap.size := by omega
          have a0 : y1.cell? ⟨w.heap.size + 1, 0, none⟩ = some (.string (rsS m2 f2)) := cell_of_row _ _ _ _ _ _ hY1.r4
          have b0 : y1.frozen? ⟨w.heap.size + 1, 0, none⟩ = false := frozen_of_row _ _ _ _ _ hY1.r4
          have a1 : y1.cell? ⟨w.heap.size + 1, 1, none⟩ = some (.int .i64 (f2 : Nat)) := cell_of_row _ _ _ _ _ _ hY1.r4
          have b1 : y1.frozen? ⟨w.heap.size + 1, 1, none⟩ = false := frozen_of_row _ _ _ _ _ hY1.r4
          have c0 : y1.cell? ⟨w.heap.size + 1 + 1, 0, none⟩ = some (.int .i64 (z : Nat)) := cell_of_row _ _ _ _ _ _ hY1.r5
          have d0 : y1.frozen? ⟨w.heap.size + 1 + 1, 0, none⟩ = false := frozen_of_row _ _ _ _ _ hY1.r5
          have c1 : y1.cell? ⟨w.heap.size + 1 + 1, 1, none⟩ = some (.slice B o.length d) := cell_of_row _ _ _ _ _ _ hY1.r5
          have d1 : y1.frozen? ⟨w.heap.size + 1 + 1, 1, none⟩ = false := frozen_of_row _ _ _ _ _ hY1.r5
          have c2 : y1.cell? ⟨w.heap.size + 1 + 1, 2, none⟩ = some (.int .i64 (tl : Nat)) := cell_of_row _ _ _ _ _ _ hY1.r5
          have d2 : y1.frozen? ⟨w.heap.size + 1 + 1, 2, none⟩ = false := frozen_of_row _ _ _ _ _ hY1.r5
          have c3 : y1.cell? ⟨w.heap.size + 1 + 1, 3, none⟩ = some (.int .u32 (k : Nat)) := cell_of_row _ _ _ _ _ _ hY1.r5
          have d3 : y1.frozen? ⟨w.heap.size + 1 + 1, 3, none⟩ = false := frozen_of_row _ _ _ _ _ hY1.r5
          have c4 : y1.cell? ⟨w.heap.size + 1 + 1, 4, none⟩ = some (.int .u64 (hi2 : Nat)) := cell_of_row _ _ _ _ _ _ hY1.r5
          have d4 : y1.frozen? ⟨w.heap.size + 1 + 1, 4, none⟩ = false := frozen_of_row _ _ _ _ _ hY1.r5
          have c5 : y1.cell? ⟨w.heap.size + 1 + 1, 5, none⟩ = some (.int .u64 (lo2 : Nat)) := cell_of_row _ _ _ _ _ _ hY1.r5
          have d5 : y1.frozen? ⟨w.heap.size + 1 + 1, 5, none⟩ = false := frozen_of_row _ _ _ _ _ hY1.r5
          clear HGv HR H35
          go_wp2_with fail
          clear hlt hlt4 hlt2 a0 a1 b0 b1 c0 c1 c2 c3 c4 c5 d0 d1 d2 d3 d4 d5
          refine (HE.out _).mono ?_
          rintro en y2 ⟨rfl, hb⟩
          have hY2 := hY1.call hb
          clear hb hY1
          have hlt := hY2.lt
          have hlt4 : w.heap.size + 1 < y2.heap.size := by omega
          have hlt2 : w.heap.size < y2.heap.size := by omega
          have a0 : y2.cell? ⟨w.heap.size + 1, 0, none⟩ = some (.string (rsS m2 f2)) := cell_of_row _ _ _ _ _ _ hY2.r4
          have b0 : y2.frozen? ⟨w.heap.size + 1, 0, none⟩ = false := frozen_of_row _ _ _ _ _ hY2.r4
          have a1 : y2.cell? ⟨w.heap.size + 1, 1, none⟩ = some (.int .i64 (f2 : Nat)) := cell_of_row _ _ _ _ _ _ hY2.r4
          have b1 : y2.frozen? ⟨w.heap.size + 1, 1, none⟩ = false := frozen_of_row _ _ _ _ _ hY2.r4
          have c0 : y2.cell? ⟨w.heap.size + 1 + 1, 0, none⟩ = some (.int .i64 (z : Nat)) := cell_of_row _ _ _ _ _ _ hY2.r5
          have d0 : y2.frozen? ⟨w.heap.size + 1 + 1, 0, none⟩ = false := frozen_of_row _ _ _ _ _ hY2.r5
          have c1 : y2.cell? ⟨w.heap.size + 1 + 1, 1, none⟩ = some (.slice B o.length d) := cell_of_row _ _ _ _ _ _ hY2.r5
          have d1 : y2.frozen? ⟨w.heap.size + 1 + 1, 1, none⟩ = false := frozen_of_row _ _ _ _ _ hY2.r5
          have c2 : y2.cell? ⟨w.heap.size + 1 + 1, 2, none⟩ = some (.int .i64 (tl : Nat)) := cell_of_row _ _ _ _ _ _ hY2.r5
          have d2 : y2.frozen? ⟨w.heap.size + 1 + 1, 2, none⟩ = false := frozen_of_row _ _ _ _ _ hY2.r5
          have c3 : y2.cell? ⟨w.heap.size + 1 + 1, 3, none⟩ = some (.int .u32 (k : Nat)) := cell_of_row _ _ _ _ _ _ hY2.r5
          have d3 : y2.frozen? ⟨w.heap.size + 1 + 1, 3, none⟩ = false := frozen_of_row _ _ _ _ _ hY2.r5
          have c4 : y2.cell? ⟨w.heap.size + 1 + 1, 4, none⟩ = some (.int .u64 (hi2 : Nat)) := cell_of_row _ _ _ _ _ _ hY2.r5
          have d4 : y2.frozen? ⟨w.heap.size + 1 + 1, 4, none⟩ = false := frozen_of_row _ _ _ _ _ hY2.r5
          have c5 : y2.cell? ⟨w.heap.size + 1 + 1, 5, none⟩ = some (.int .u64 (lo2 : Nat)) := cell_of_row _ _ _ _ _ _ hY2.r5
          have d5 : y2.frozen? ⟨w.heap.size + 1 + 1, 5, none⟩ = false := frozen_of_row _ _ _ _ _ hY2.r5
          have yy0 : y2.cell? ⟨w.heap.size, 0, none⟩ = some (.int .i64 0) := cell_of_row _ _ _ _ _ _ hY2.r2
          have z0 : y2.frozen? ⟨w.heap.size, 0, none⟩ = false := frozen_of_row _ _ _ _ _ hY2.r2
          have yy1 : y2.cell? ⟨w.heap.size, 1, none⟩ = some (.slice none 0 0) := cell_of_row _ _ _ _ _ _ hY2.r2
          have z1 : y2.frozen? ⟨w.heap.size, 1, none⟩ = false := frozen_of_row _ _ _ _ _ hY2.r2
          have yy2 : y2.cell? ⟨w.heap.size, 2, none⟩ = some (.int .i64 0) := cell_of_row _ _ _ _ _ _ hY2.r2
          have z2 : y2.frozen? ⟨w.heap.size, 2, none⟩ = false := frozen_of_row _ _ _ _ _ hY2.r2
          have yy3 : y2.cell? ⟨w.heap.size, 3, none⟩ = some (.int .u32 0) := cell_of_row _ _ _ _ _ _ hY2.r2
          have z3 : y2.frozen? ⟨w.heap.size, 3, none⟩ = false := frozen_of_row _ _ _ _ _ hY2.r2
          have yy4 : y2.cell? ⟨w.heap.size, 4, none⟩ = some (.int .u64 0) := cell_of_row _ _ _ _ _ _ hY2.r2
          have z4 : y2.frozen? ⟨w.heap.size, 4, none⟩ = false := frozen_of_row _ _ _ _ _ hY2.r2
          have yy5 : y2.cell? ⟨w.heap.size, 5, none⟩ = some (.int .u64 0) := cell_of_row _ _ _ _ _ _ hY2.r2
          have z5 : y2.frozen? ⟨w.heap.size, 5, none⟩ = false := frozen_of_row _ _ _ _ _ hY2.r2
          have HX : ((((((y2.setCell ⟨w.heap.size, 0, none⟩ (.int .i64 0)).setCell ⟨w.heap.size, 1, none⟩ (.slice none 0 0)).setCell ⟨w.heap.size, 2, none⟩ (.int .i64 0)).setCell ⟨w.heap.size, 3, none⟩ (.int .u32 0)).setCell ⟨w.heap.size, 4, none⟩ (.int .u64 0)).setCell ⟨w.heap.size, 5, none⟩ (.int .u64 0)).heap[w.heap.size]? = some (.cells #[.int .i64 0, .slice none 0 0, .int .i64 0, .int .u32 0, .int .u64 0, .int .u64 0] 42 (0, 0)) := six_row _ _ _ _ _ _ (.int .i64 0) (.slice none 0 0) (.int .i64 0) (.int .u32 0) (.int .u64 0) (.int .u64 0) rfl hY2.r2
          have HBf := hide (show Below w.heap.size w ((((((y2.setCell ⟨w.heap.size, 0, none⟩ (.int .i64 0)).setCell ⟨w.heap.size, 1, none⟩ (.slice none 0 0)).setCell ⟨w.heap.size, 2, none⟩ (.int .i64 0)).setCell ⟨w.heap.size, 3, none⟩ (.int .u32 0)).setCell ⟨w.heap.size, 4, none⟩ (.int .u64 0)).setCell ⟨w.heap.size, 5, none⟩ (.int .u64 0)) from six_below (.int .i64 0) (.slice none 0 0) (.int .i64 0) (.int .u32 0) (.int .u64 0) (.int .u64 0) hY2.below (Nat.le_refl _))
          have HX := hide HX
          go_wp2_with fail
          have t0 := cell_of_row _ _ 0 _ _ _ HX.out
          have t1 := cell_of_row _ _ 1 _ _ _ HX.out
          have t2 := cell_of_row _ _ 2 _ _ _ HX.out
          have t3 := cell_of_row _ _ 3 _ _ _ HX.out
          have t4 := cell_of_row _ _ 4 _ _ _ HX.out
          have t5 := cell_of_row _ _ 5 _ _ _ HX.out
          refine bodyPost_ret (v := .tuple #[.agg #[.int .i64 0, .slice none 0 0, .int .i64 0, .int .u32 0, .int .u64 0, .int .u64 0], .int .i64 (endN f2 m2 : Nat)]) (by simp [results, Try.results33, go_sem, t0, t1, t2, t3, t4, t5]) rfl ⟨none, 0, rfl, HBf.out, World.ownsRow_nil _ _ _ _⟩
    | succ g0 =>
      have hii : (i : Int) < n := by omega
      have hi0 : (0 : Int) ≤ (i : Int) := by omega
      have hiw : IntKind.i64.wrap ((i : Int) + 1) = ((i + 1 : Nat) : Int) := by rw [IntWalk.i64_in _ (by omega)]; rfl
      by_cases he : e = 0
      · subst he
        have hq := HQ.out
        unfold readSgs at hq
        have HGt := hide (fun W => get_any m 0 4294967295 W (by omega))
        have hk := readN_le m 0 4294967295
        have hm1 := readN_len2 m 0 4294967295
        have hm2 := readSg_len2 m 0
        obtain ⟨K, hK⟩ : ∃ K, K = readSg m 0 := ⟨_, rfl⟩
        rw [← hK] at hq hm2
        unfold readSg at hK
        generalize readN m 0 4294967295 = r at HGt hk hm1 hK
        obtain ⟨k, m1, f1⟩ := r
        simp only at HGt hk hm1 hK
        have HGs := hide (fun W => getSum_any m1 f1 W (by omega))
        generalize readS m1 f1 = r2 at HGs hK
        obtain ⟨⟨hi2, lo2⟩, m2, f2⟩ := r2
        simp only [sumV] at HGs hK
        subst hK
        simp only at hq hm2
        have HQ2 := hide hq
        have hkw : IntKind.u32.wrap (k : Int) = (k : Int) := by rw [IntKind.wrap_u32]; omega
        have HGt := hide (fun W => (show Calls Try.prog 82 #[.agg #[.string (rsS m 0), .int .i64 (0 : Nat)], .int .u64 4294967295] W fun en w' => en = .returned (.tuple #[.agg #[.string (rsS m1 f1), .int .i64 (f1 : Nat)], .int .u64 (k : Nat)]) ∧ Below W.heap.size W w' from HGt.out W))
        have HGs := hide (fun W => (show Calls Try.prog 83 #[.agg #[.string (rsS m1 f1), .int .i64 (f1 : Nat)]] W fun en w' => en = .returned (.tuple #[.agg #[.string (rsS m2 f2), .int .i64 (f2 : Nat)], .agg #[.int .u64 (hi2 : Nat), .int .u64 (lo2 : Nat)]]) ∧ Below W.heap.size W w' from HGs.out W))
        have hlt11 : wr.heap.size < (wr.alloc (.cells #[.int .u32 0, .int .u64 0, .int .u64 0] 37)).heap.size := by simp
        have R11 := World.alloc_heap_new wr (Obj.cells #[.int .u32 0, .int .u64 0, .int .u64 0] 37)
        have hGs := hGr.new (.cells #[.int .u32 0, .int .u64 0, .int .u64 0] 37)
        have hap : ∀ r, (Value.slice B i d).ownBlock = some r → r ≠ wr.heap.size := fun r e => Nat.ne_of_lt (hGr.own.lt r e).2
        clear hq HQ HG hGr
        go_wp2_with fail
        refine (HGt.out _).mono ?_
        rintro en w4 ⟨rfl, hb⟩
        have hG4 := hGs.call hb
        have R4 := (hb.block _ hlt11).trans R11
        have hl4 := (Array.getElem?_eq_some_iff.1 R4).1
        have hltr := hlt
        clear hb hGs R11 hlt11 HGt hlt hlt4 hlt2 a0 a1 b0 b1 c0 c1 c2 c3 c4 c5 d0 d1 d2 d3 d4 d5
        have hlt := hG4.lt
        have hlt4 : w.heap.size + 1 < w4.heap.size := by omega
        have hlt2 : w.heap.size < w4.heap.size := by omega
        have a0 : w4.cell? ⟨w.heap.size + 1, 0, none⟩ = some (.string (rsS m 0)) := cell_of_row _ _ _ _ _ _ hG4.r4
        have b0 : w4.frozen? ⟨w.heap.size + 1, 0, none⟩ = false := frozen_of_row _ _ _ _ _ hG4.r4
        have a1 : w4.cell? ⟨w.heap.size + 1, 1, none⟩ = some (.int .i64 (0 : Nat)) := cell_of_row _ _ _ _ _ _ hG4.r4
        have b1 : w4.frozen? ⟨w.heap.size + 1, 1, none⟩ = false := frozen_of_row _ _ _ _ _ hG4.r4
        have c0 : w4.cell? ⟨w.heap.size + 1 + 1, 0, none⟩ = some (.int .i64 (z : Nat)) := cell_of_row _ _ _ _ _ _ hG4.r5
        have d0 : w4.frozen? ⟨w.heap.size + 1 + 1, 0, none⟩ = false := frozen_of_row _ _ _ _ _ hG4.r5
        have c1 : w4.cell? ⟨w.heap.size + 1 + 1, 1, none⟩ = some (.slice B i d) := cell_of_row _ _ _ _ _ _ hG4.r5
        have d1 : w4.frozen? ⟨w.heap.size + 1 + 1, 1, none⟩ = false := frozen_of_row _ _ _ _ _ hG4.r5
        have c2 : w4.cell? ⟨w.heap.size + 1 + 1, 2, none⟩ = some (.int .i64 0) := cell_of_row _ _ _ _ _ _ hG4.r5
        have d2 : w4.frozen? ⟨w.heap.size + 1 + 1, 2, none⟩ = false := frozen_of_row _ _ _ _ _ hG4.r5
        have c3 : w4.cell? ⟨w.heap.size + 1 + 1, 3, none⟩ = some (.int .u32 0) := cell_of_row _ _ _ _ _ _ hG4.r5
        have d3 : w4.frozen? ⟨w.heap.size + 1 + 1, 3, none⟩ = false := frozen_of_row _ _ _ _ _ hG4.r5
        have c4 : w4.cell? ⟨w.heap.size + 1 + 1, 4, none⟩ = some (.int .u64 0) := cell_of_row _ _ _ _ _ _ hG4.r5
        have d4 : w4.frozen? ⟨w.heap.size + 1 + 1, 4, none⟩ = false := frozen_of_row _ _ _ _ _ hG4.r5
        have c5 : w4.cell? ⟨w.heap.size + 1 + 1, 5, none⟩ = some (.int .u64 0) := cell_of_row _ _ _ _ _ _ hG4.r5
        have d5 : w4.frozen? ⟨w.heap.size + 1 + 1, 5, none⟩ = false := frozen_of_row _ _ _ _ _ hG4.r5
        have x0 : w4.cell? ⟨wr.heap.size, 0, none⟩ = some (.int .u32 0) := cell_of_row _ _ _ _ _ _ R4
        have v0 : w4.frozen? ⟨wr.heap.size, 0, none⟩ = false := frozen_of_row _ _ _ _ _ R4
        have x1 : w4.cell? ⟨wr.heap.size, 1, none⟩ = some (.int .u64 0) := cell_of_row _ _ _ _ _ _ R4
        have v1 : w4.frozen? ⟨wr.heap.size, 1, none⟩ = false := frozen_of_row _ _ _ _ _ R4
        have x2 : w4.cell? ⟨wr.heap.size, 2, none⟩ = some (.int .u64 0) := cell_of_row _ _ _ _ _ _ R4
        have v2 : w4.frozen? ⟨wr.heap.size, 2, none⟩ = false := frozen_of_row _ _ _ _ _ R4
        have hG5 : G15 w (.slice B i d) i o #[.string (rsS m1 f1), .int .i64 (f1 : Nat)] #[.int .i64 (z : Nat), .slice B i d, .int .i64 0, .int .u32 0, .int .u64 0, .int .u64 0] (((w4.setCell ⟨w.heap.size + 1, 0, none⟩ (.string (rsS m1 f1))).setCell ⟨w.heap.size + 1, 1, none⟩ (.int .i64 (f1 : Nat))).setCell ⟨wr.heap.size, 0, none⟩ (.int .u32 (k : Nat))) := (hG4.set4 _ _).other _ _ _ hltr hap
        have R5 : (((w4.setCell ⟨w.heap.size + 1, 0, none⟩ (.string (rsS m1 f1))).setCell ⟨w.heap.size + 1, 1, none⟩ (.int .i64 (f1 : Nat))).setCell ⟨wr.heap.size, 0, none⟩ (.int .u32 (k : Nat))).heap[wr.heap.size]? = some (.cells #[.int .u32 (k : Nat), .int .u64 0, .int .u64 0] 37 (0, 0)) := heap_setCell_same _ _ 0 _ _ _ ((heap_setCell_other _ _ _ _ (by show wr.heap.size ≠ w.heap.size + 1; omega)).trans ((heap_setCell_other _ _ _ _ (by show wr.heap.size ≠ w.heap.size + 1; omega)).trans R4))
        clear hG4 R4
        go_wp2_with fail
        clear hl4 hlt hlt4 hlt2 a0 a1 b0 b1 c0 c1 c2 c3 c4 c5 d0 d1 d2 d3 d4 d5 x0 x1 x2 v0 v1 v2
        generalize (((w4.setCell ⟨w.heap.size + 1, 0, none⟩ (.string (rsS m1 f1))).setCell ⟨w.heap.size + 1, 1, none⟩ (.int .i64 (f1 : Nat))).setCell ⟨wr.heap.size, 0, none⟩ (.int .u32 (k : Nat))) = w5 at hG5 R5 ⊢
        refine (HGs.out _).mono ?_
        rintro en w6 ⟨rfl, hb⟩
        have hG6 := hG5.call hb
        have R6 := (hb.block _ (Array.getElem?_eq_some_iff.1 R5).1).trans R5
        have hl6 := (Array.getElem?_eq_some_iff.1 R6).1
        clear hb hG5 R5 HGs
        have hlt := hG6.lt
        have hlt4 : w.heap.size + 1 < w6.heap.size := by omega
        have hlt2 : w.heap.size < w6.heap.size := by omega
        have a0 : w6.cell? ⟨w.heap.size + 1, 0, none⟩ = some (.string (rsS m1 f1)) := cell_of_row _ _ _ _ _ _ hG6.r4
        have b0 : w6.frozen? ⟨w.heap.size + 1, 0, none⟩ = false := frozen_of_row _ _ _ _ _ hG6.r4
        have a1 : w6.cell? ⟨w.heap.size + 1, 1, none⟩ = some (.int .i64 (f1 : Nat)) := cell_of_row _ _ _ _ _ _ hG6.r4
        have b1 : w6.frozen? ⟨w.heap.size + 1, 1, none⟩ = false := frozen_of_row _ _ _ _ _ hG6.r4
        have c0 : w6.cell? ⟨w.heap.size + 1 + 1, 0, none⟩ = some (.int .i64 (z : Nat)) := cell_of_row _ _ _ _ _ _ hG6.r5
        have d0 : w6.frozen? ⟨w.heap.size + 1 + 1, 0, none⟩ = false := frozen_of_row _ _ _ _ _ hG6.r5
        have c1 : w6.cell? ⟨w.heap.size + 1 + 1, 1, none⟩ = some (.slice B i d) := cell_of_row _ _ _ _ _ _ hG6.r5
        have d1 : w6.frozen? ⟨w.heap.size + 1 + 1, 1, none⟩ = false := frozen_of_row _ _ _ _ _ hG6.r5
        have c2 : w6.cell? ⟨w.heap.size + 1 + 1, 2, none⟩ = some (.int .i64 0) := cell_of_row _ _ _ _ _ _ hG6.r5
        have d2 : w6.frozen? ⟨w.heap.size + 1 + 1, 2, none⟩ = false := frozen_of_row _ _ _ _ _ hG6.r5
        have c3 : w6.cell? ⟨w.heap.size + 1 + 1, 3, none⟩ = some (.int .u32 0) := cell_of_row _ _ _ _ _ _ hG6.r5
        have d3 : w6.frozen? ⟨w.heap.size + 1 + 1, 3, none⟩ = false := frozen_of_row _ _ _ _ _ hG6.r5
        have c4 : w6.cell? ⟨w.heap.size + 1 + 1, 4, none⟩ = some (.int .u64 0) := cell_of_row _ _ _ _ _ _ hG6.r5
        have d4 : w6.frozen? ⟨w.heap.size + 1 + 1, 4, none⟩ = false := frozen_of_row _ _ _ _ _ hG6.r5
        have c5 : w6.cell? ⟨w.heap.size + 1 + 1, 5, none⟩ = some (.int .u64 0) := cell_of_row _ _ _ _ _ _ hG6.r5
        have d5 : w6.frozen? ⟨w.heap.size + 1 + 1, 5, none⟩ = false := frozen_of_row _ _ _ _ _ hG6.r5
        have x0 : w6.cell? ⟨wr.heap.size, 0, none⟩ = some (.int .u32 (k : Nat)) := cell_of_row _ _ _ _ _ _ R6
        have v0 : w6.frozen? ⟨wr.heap.size, 0, none⟩ = false := frozen_of_row _ _ _ _ _ R6
        have x1 : w6.cell? ⟨wr.heap.size, 1, none⟩ = some (.int .u64 0) := cell_of_row _ _ _ _ _ _ R6
        have v1 : w6.frozen? ⟨wr.heap.size, 1, none⟩ = false := frozen_of_row _ _ _ _ _ R6
        have x2 : w6.cell? ⟨wr.heap.size, 2, none⟩ = some (.int .u64 0) := cell_of_row _ _ _ _ _ _ R6
        have v2 : w6.frozen? ⟨wr.heap.size, 2, none⟩ = false := frozen_of_row _ _ _ _ _ R6
        have hn1 : wr.heap.size ≠ w.heap.size + 1 := by omega
        have hn2 : w.heap.size + 1 ≠ wr.heap.size := by omega
        go_upto_region 16 with fail
        clear hlt4 hlt2 a0 a1 b0 b1 c0 c1 c2 c3 c4 c5 d0 d1 d2 d3 d4 d5 x0 x1 x2 v0 v1 v2
        have hG7 := (hG6.new (Obj.cells #[.string (rsS m2 f2), .int .i64 (f2 : Nat)] 122)).new (Obj.cells #[.int .u64 (hi2 : Nat), .int .u64 (lo2 : Nat)] 28)
        obtain ⟨R12, R13, hb67⟩ := new_rows w6 #[.string (rsS m2 f2), .int .i64 (f2 : Nat)] #[.int .u64 (hi2 : Nat), .int .u64 (lo2 : Nat)] 122 28
        have R7 := (hb67.block _ hl6).trans R6
        have hl12 : w.heap.size + 1 + 1 < w6.heap.size := hlt
        clear hG6 R6 hb67 hlt
        generalize ((w6.alloc (Obj.cells #[.string (rsS m2 f2), .int .i64 (f2 : Nat)] 122)).alloc (Obj.cells #[.int .u64 (hi2 : Nat), .int .u64 (lo2 : Nat)] 28)) = w7 at hG7 R12 R13 R7 ⊢
        have hlt := hG7.lt
        have hlt4 : w.heap.size + 1 < w7.heap.size := by omega
        have hlt2 : w.heap.size < w7.heap.size := by omega
        have a0 : w7.cell? ⟨w.heap.size + 1, 0, none⟩ = some (.string (rsS m1 f1)) := cell_of_row _ _ _ _ _ _ hG7.r4
        have b0 : w7.frozen? ⟨w.heap.size + 1, 0, none⟩ = false := frozen_of_row _ _ _ _ _ hG7.r4
        have a1 : w7.cell? ⟨w.heap.size + 1, 1, none⟩ = some (.int .i64 (f1 : Nat)) := cell_of_row _ _ _ _ _ _ hG7.r4
        have b1 : w7.frozen? ⟨w.heap.size + 1, 1, none⟩ = false := frozen_of_row _ _ _ _ _ hG7.r4
        have c0 : w7.cell? ⟨w.heap.size + 1 + 1, 0, none⟩ = some (.int .i64 (z : Nat)) := cell_of_row _ _ _ _ _ _ hG7.r5
        have d0 : w7.frozen? ⟨w.heap.size + 1 + 1, 0, none⟩ = false := frozen_of_row _ _ _ _ _ hG7.r5
        have c1 : w7.cell? ⟨w.heap.size + 1 + 1, 1, none⟩ = some (.slice B i d) := cell_of_row _ _ _ _ _ _ hG7.r5
        have d1 : w7.frozen? ⟨w.heap.size + 1 + 1, 1, none⟩ = false := frozen_of_row _ _ _ _ _ hG7.r5
        have c2 : w7.cell? ⟨w.heap.size + 1 + 1, 2, none⟩ = some (.int .i64 0) := cell_of_row _ _ _ _ _ _ hG7.r5
        have d2 : w7.frozen? ⟨w.heap.size + 1 + 1, 2, none⟩ = false := frozen_of_row _ _ _ _ _ hG7.r5
        have c3 : w7.cell? ⟨w.heap.size + 1 + 1, 3, none⟩ = some (.int .u32 0) := cell_of_row _ _ _ _ _ _ hG7.r5
        have d3 : w7.frozen? ⟨w.heap.size + 1 + 1, 3, none⟩ = false := frozen_of_row _ _ _ _ _ hG7.r5
        have c4 : w7.cell? ⟨w.heap.size + 1 + 1, 4, none⟩ = some (.int .u64 0) := cell_of_row _ _ _ _ _ _ hG7.r5
        have d4 : w7.frozen? ⟨w.heap.size + 1 + 1, 4, none⟩ = false := frozen_of_row _ _ _ _ _ hG7.r5
        have c5 : w7.cell? ⟨w.heap.size + 1 + 1, 5, none⟩ = some (.int .u64 0) := cell_of_row _ _ _ _ _ _ hG7.r5
        have d5 : w7.frozen? ⟨w.heap.size + 1 + 1, 5, none⟩ = false := frozen_of_row _ _ _ _ _ hG7.r5
        have x0 : w7.cell? ⟨wr.heap.size, 0, none⟩ = some (.int .u32 (k : Nat)) := cell_of_row _ _ _ _ _ _ R7
        have v0 : w7.frozen? ⟨wr.heap.size, 0, none⟩ = false := frozen_of_row _ _ _ _ _ R7
        have x1 : w7.cell? ⟨wr.heap.size, 1, none⟩ = some (.int .u64 0) := cell_of_row _ _ _ _ _ _ R7
        have v1 : w7.frozen? ⟨wr.heap.size, 1, none⟩ = false := frozen_of_row _ _ _ _ _ R7
        have x2 : w7.cell? ⟨wr.heap.size, 2, none⟩ = some (.int .u64 0) := cell_of_row _ _ _ _ _ _ R7
        have v2 : w7.frozen? ⟨wr.heap.size, 2, none⟩ = false := frozen_of_row _ _ _ _ _ R7
        have g0 : w7.cell? ⟨w6.heap.size, 0, none⟩ = some (.string (rsS m2 f2)) := cell_of_row _ _ _ _ _ _ R12
        have g1 : w7.cell? ⟨w6.heap.size, 1, none⟩ = some (.int .i64 (f2 : Nat)) := cell_of_row _ _ _ _ _ _ R12
        have g2 : w7.cell? ⟨w6.heap.size + 1, 0, none⟩ = some (.int .u64 (hi2 : Nat)) := cell_of_row _ _ _ _ _ _ R13
        have g3 : w7.cell? ⟨w6.heap.size + 1, 1, none⟩ = some (.int .u64 (lo2 : Nat)) := cell_of_row _ _ _ _ _ _ R13
        have hn3 : w6.heap.size + 1 ≠ w.heap.size + 1 := by omega
        have hn4 : w6.heap.size ≠ w.heap.size := by omega
        have hn5 : w.heap.size ≠ w6.heap.size := by omega
        clear hlt hlt2 hlt4
        go_upto_region 18 with fail
        clear hn3 hn4 hn5 g0 g1 g2 g3 a0 a1 b0 b1 c0 c1 c2 c3 c4 c5 d0 d1 d2 d3 d4 d5 x0 x1 x2 v0 v1 v2
        have hG8 : G15 w (.slice B i d) i o #[.string (rsS m2 f2), .int .i64 (f2 : Nat)] #[.int .i64 (z : Nat), .slice B i d, .int .i64 0, .int .u32 0, .int .u64 0, .int .u64 0] ((((w7.setCell ⟨w.heap.size + 1, 0, none⟩ (.string (rsS m2 f2))).setCell ⟨w.heap.size + 1, 1, none⟩ (.int .i64 (f2 : Nat))).setCell ⟨wr.heap.size, 1, none⟩ (.int .u64 (hi2 : Nat))).setCell ⟨wr.heap.size, 2, none⟩ (.int .u64 (lo2 : Nat))) := ((hG7.set4 _ _).other _ _ _ hltr hap).other _ _ _ hltr hap
        have R8 : ((((w7.setCell ⟨w.heap.size + 1, 0, none⟩ (.string (rsS m2 f2))).setCell ⟨w.heap.size + 1, 1, none⟩ (.int .i64 (f2 : Nat))).setCell ⟨wr.heap.size, 1, none⟩ (.int .u64 (hi2 : Nat))).setCell ⟨wr.heap.size, 2, none⟩ (.int .u64 (lo2 : Nat))).heap[wr.heap.size]? = some (.cells #[.int .u32 (k : Nat), .int .u64 (hi2 : Nat), .int .u64 (lo2 : Nat)] 37 (0, 0)) := heap_setCell_same _ _ 2 _ _ _ (heap_setCell_same _ _ 1 _ _ _ ((heap_setCell_other _ _ _ _ (by show wr.heap.size ≠ w.heap.size + 1; omega)).trans ((heap_setCell_other _ _ _ _ (by show wr.heap.size ≠ w.heap.size + 1; omega)).trans R7)))
        clear hG7 R7 R12 R13 hl12
        generalize ((((w7.setCell ⟨w.heap.size + 1, 0, none⟩ (.string (rsS m2 f2))).setCell ⟨w.heap.size + 1, 1, none⟩ (.int .i64 (f2 : Nat))).setCell ⟨wr.heap.size, 1, none⟩ (.int .u64 (hi2 : Nat))).setCell ⟨wr.heap.size, 2, none⟩ (.int .u64 (lo2 : Nat))) = w8 at hG8 R8 ⊢
        have hlt := hG8.lt
        have hlt4 : w.heap.size + 1 < w8.heap.size := by omega
        have hlt2 : w.heap.size < w8.heap.size := by omega
        have a0 : w8.cell? ⟨w.heap.size + 1, 0, none⟩ = some (.string (rsS m2 f2)) := cell_of_row _ _ _ _ _ _ hG8.r4
        have b0 : w8.frozen? ⟨w.heap.size + 1, 0, none⟩ = false := frozen_of_row _ _ _ _ _ hG8.r4
        have a1 : w8.cell? ⟨w.heap.size + 1, 1, none⟩ = some (.int .i64 (f2 : Nat)) := cell_of_row _ _ _ _ _ _ hG8.r4
        have b1 : w8.frozen? ⟨w.heap.size + 1, 1, none⟩ = false := frozen_of_row _ _ _ _ _ hG8.r4
        have c0 : w8.cell? ⟨w.heap.size + 1 + 1, 0, none⟩ = some (.int .i64 (z : Nat)) := cell_of_row _ _ _ _ _ _ hG8.r5
        have d0 : w8.frozen? ⟨w.heap.size + 1 + 1, 0, none⟩ = false := frozen_of_row _ _ _ _ _ hG8.r5
        have c1 : w8.cell? ⟨w.heap.size + 1 + 1, 1, none⟩ = some (.slice B i d) := cell_of_row _ _ _ _ _ _ hG8.r5
        have d1 : w8.frozen? ⟨w.heap.size + 1 + 1, 1, none⟩ = false := frozen_of_row _ _ _ _ _ hG8.r5
        have c2 : w8.cell? ⟨w.heap.size + 1 + 1, 2, none⟩ = some (.int .i64 0) := cell_of_row _ _ _ _ _ _ hG8.r5
        have d2 : w8.frozen? ⟨w.heap.size + 1 + 1, 2, none⟩ = false := frozen_of_row _ _ _ _ _ hG8.r5
        have c3 : w8.cell? ⟨w.heap.size + 1 + 1, 3, none⟩ = some (.int .u32 0) := cell_of_row _ _ _ _ _ _ hG8.r5
        have d3 : w8.frozen? ⟨w.heap.size + 1 + 1, 3, none⟩ = false := frozen_of_row _ _ _ _ _ hG8.r5
        have c4 : w8.cell? ⟨w.heap.size + 1 + 1, 4, none⟩ = some (.int .u64 0) := cell_of_row _ _ _ _ _ _ hG8.r5
        have d4 : w8.frozen? ⟨w.heap.size + 1 + 1, 4, none⟩ = false := frozen_of_row _ _ _ _ _ hG8.r5
        have c5 : w8.cell? ⟨w.heap.size + 1 + 1, 5, none⟩ = some (.int .u64 0) := cell_of_row _ _ _ _ _ _ hG8.r5
        have d5 : w8.frozen? ⟨w.heap.size + 1 + 1, 5, none⟩ = false := frozen_of_row _ _ _ _ _ hG8.r5
        have x0 : w8.cell? ⟨wr.heap.size, 0, none⟩ = some (.int .u32 (k : Nat)) := cell_of_row _ _ _ _ _ _ R8
        have v0 : w8.frozen? ⟨wr.heap.size, 0, none⟩ = false := frozen_of_row _ _ _ _ _ R8
        have x1 : w8.cell? ⟨wr.heap.size, 1, none⟩ = some (.int .u64 (hi2 : Nat)) := cell_of_row _ _ _ _ _ _ R8
        have v1 : w8.frozen? ⟨wr.heap.size, 1, none⟩ = false := frozen_of_row _ _ _ _ _ R8
        have x2 : w8.cell? ⟨wr.heap.size, 2, none⟩ = some (.int .u64 (lo2 : Nat)) := cell_of_row _ _ _ _ _ _ R8
        have v2 : w8.frozen? ⟨wr.heap.size, 2, none⟩ = false := frozen_of_row _ _ _ _ _ R8
        have hG9 := hG8.new (.cells (Sg.cells ⟨k, hi2, lo2⟩) 37)
        have hRn := RdSg.one w8 ⟨k, hi2, lo2⟩ 37
        have hO9 := hG9.own
        have hs9 : w.heap.size + 1 + 1 + 1 ≤ (w8.alloc (.cells (Sg.cells ⟨k, hi2, lo2⟩) 37)).heap.size := hG9.lt
        clear hG8 R8
        go_wp2_with (at_builtin; go_loud (refine wpList_append_signs rfl _ _ 40 rfl (w.heap.size + 1 + 1 + 1) 37 i0 Try.underlying40 hi hz0 hz1 hz2 _ _ _ rfl hO9 (some ⟨w8.heap.size, 0, none⟩) _ 1 _ [⟨k, hi2, lo2⟩] rfl rfl hRn (by unfold maxLen; omega) (by omega) hs9 ?_))
        intro v9 w9 hO10 hg9
        obtain ⟨D, g, rfl⟩ := ownsRow_slice hO10
        have hG10 := hG9.app hg9 (by rw [← cellsSg_app] at hO10; exact hO10)
        clear hRn hO9 hs9 hG9 hO10 hg9 hlt hlt4 hlt2 a0 a1 b0 b1 c0 c1 c2 c3 c4 c5 d0 d1 d2 d3 d4 d5 x0 x1 x2 v0 v1 v2
        have c1 : w9.cell? ⟨w.heap.size + 1 + 1, 1, none⟩ = some (.slice B i d) := cell_of_row _ _ _ _ _ _ hG10.r5
        have d1 : w9.frozen? ⟨w.heap.size + 1 + 1, 1, none⟩ = false := frozen_of_row _ _ _ _ _ hG10.r5
        have HG11 := hide (hG10.set5 1 (.slice D (i + 1) g))
        clear hG10
        go_wp2_with fail
        go_roundg g0
        case rel => exact ⟨i + 1, f2, D, g, o ++ [⟨k, hi2, lo2⟩], m2, rfl, by omega, by simp [hol], by omega, HQ2, HG11⟩
        case measure => omega
      · have hq := readSgs_err (g0 + 1) o m e he
        rw [HQ.out] at hq
        have hqb : m = l3 := (congrArg (fun x => x.1) hq).symm
        have hqc : e = e3 := (congrArg (fun x => x.2) hq).symm
        clear hq HQ
        subst hqb hqc
        subst hol
        have E0 : ((e : Int) == 0) = false := by rw [beq_eq_false_iff_ne]; omega
        go_wp2_with fail
        clear hlt hlt4 hlt2 a0 a1 b0 b1 c0 c1 c2 c3 c4 c5 d0 d1 d2 d3 d4 d5
        refine (HI4.out _).mono ?_
        rintro en x1 ⟨rfl, hb⟩
        have hA1 := hGr.call hb
        clear hb hGr HI4 HG
        have hlt := hA1.lt
        have hlt4 : w.heap.size + 1 < x1.heap.size := by omega
        have hlt2 : w.heap.size < x1.heap.size := by omega
        have a0 : x1.cell? ⟨w.heap.size + 1, 0, none⟩ = some (.string (rsS m e)) := cell_of_row _ _ _ _ _ _ hA1.r4
        have b0 : x1.frozen? ⟨w.heap.size + 1, 0, none⟩ = false := frozen_of_row _ _ _ _ _ hA1.r4
        have a1 : x1.cell? ⟨w.heap.size + 1, 1, none⟩ = some (.int .i64 (e : Nat)) := cell_of_row _ _ _ _ _ _ hA1.r4
        have b1 : x1.frozen? ⟨w.heap.size + 1, 1, none⟩ = false := frozen_of_row _ _ _ _ _ hA1.r4
        have c0 : x1.cell? ⟨w.heap.size + 1 + 1, 0, none⟩ = some (.int .i64 (z : Nat)) := cell_of_row _ _ _ _ _ _ hA1.r5
        have d0 : x1.frozen? ⟨w.heap.size + 1 + 1, 0, none⟩ = false := frozen_of_row _ _ _ _ _ hA1.r5
        have c1 : x1.cell? ⟨w.heap.size + 1 + 1, 1, none⟩ = some (.slice B o.length d) := cell_of_row _ _ _ _ _ _ hA1.r5
        have d1 : x1.frozen? ⟨w.heap.size + 1 + 1, 1, none⟩ = false := frozen_of_row _ _ _ _ _ hA1.r5
        have c2 : x1.cell? ⟨w.heap.size + 1 + 1, 2, none⟩ = some (.int .i64 0) := cell_of_row _ _ _ _ _ _ hA1.r5
        have d2 : x1.frozen? ⟨w.heap.size + 1 + 1, 2, none⟩ = false := frozen_of_row _ _ _ _ _ hA1.r5
        have c3 : x1.cell? ⟨w.heap.size + 1 + 1, 3, none⟩ = some (.int .u32 0) := cell_of_row _ _ _ _ _ _ hA1.r5
        have d3 : x1.frozen? ⟨w.heap.size + 1 + 1, 3, none⟩ = false := frozen_of_row _ _ _ _ _ hA1.r5
        have c4 : x1.cell? ⟨w.heap.size + 1 + 1, 4, none⟩ = some (.int .u64 0) := cell_of_row _ _ _ _ _ _ hA1.r5
        have d4 : x1.frozen? ⟨w.heap.size + 1 + 1, 4, none⟩ = false := frozen_of_row _ _ _ _ _ hA1.r5
        have c5 : x1.cell? ⟨w.heap.size + 1 + 1, 5, none⟩ = some (.int .u64 0) := cell_of_row _ _ _ _ _ _ hA1.r5
        have d5 : x1.frozen? ⟨w.heap.size + 1 + 1, 5, none⟩ = false := frozen_of_row _ _ _ _ _ hA1.r5
        have hY : G15 w (.slice B o.length d) o.length o #[.string (rsS l4 e4), .int .i64 (e4 : Nat)] #[.int .i64 (z : Nat), .slice B o.length d, .int .i64 (tl : Nat), .int .u32 0, .int .u64 0, .int .u64 0] ((((x1.setCell ⟨w.heap.size + 1, 0, none⟩ (.string (rsS l4 e4))).setCell ⟨w.heap.size + 1, 1, none⟩ (.int .i64 (e4 : Nat))).setCell ⟨w.heap.size + 1 + 1, 2, none⟩ (.int .i64 (tl : Nat))).alloc (Obj.cells #[.string (rsS l4 e4), .int .i64 (e4 : Nat)] 122)) := ((hA1.set4 _ _).set5 2 _).new _
        clear hA1
        by_cases ht : tl = 0
        · have E2 : ¬ (0 : Int) < (tl : Int) := by omega
          have hq5 := H5.out
          unfold readLast at hq5
          rw [if_neg (by simp [ht])] at hq5
          injection hq5 with q1 q2
          injection q1 with q3 q4 q5
          injection q2 with q6 q7
          subst q3 q4 q5 q6 q7
          clear H5 ht
          go_upto_region 28 with fail
          clear hlt hlt4 hlt2 a0 a1 b0 b1 c0 c1 c2 c3 c4 c5 d0 d1 d2 d3 d4 d5
          generalize ((((x1.setCell ⟨w.heap.size + 1, 0, none⟩ (.string (rsS l4 e4))).setCell ⟨w.heap.size + 1, 1, none⟩ (.int .i64 (e4 : Nat))).setCell ⟨w.heap.size + 1 + 1, 2, none⟩ (.int .i64 (tl : Nat))).alloc (Obj.cells #[.string (rsS l4 e4), .int .i64 (e4 : Nat)] 122)) = y at hY ⊢
          have hlt := hY.lt
          have hlt4 : w.heap.size + 1 < y.heap.size := by omega
          have hlt2 : w.heap.size < y.heap.size := by omega
          have a0 : y.cell? ⟨w.heap.size + 1, 0, none⟩ = some (.string (rsS l4 e4)) := cell_of_row _ _ _ _ _ _ hY.r4
          have b0 : y.frozen? ⟨w.heap.size + 1, 0, none⟩ = false := frozen_of_row _ _ _ _ _ hY.r4
          have a1 : y.cell? ⟨w.heap.size + 1, 1, none⟩ = some (.int .i64 (e4 : Nat)) := cell_of_row _ _ _ _ _ _ hY.r4
          have b1 : y.frozen? ⟨w.heap.size + 1, 1, none⟩ = false := frozen_of_row _ _ _ _ _ hY.r4
          have c0 : y.cell? ⟨w.heap.size + 1 + 1, 0, none⟩ = some (.int .i64 (z : Nat)) := cell_of_row _ _ _ _ _ _ hY.r5
          have d0 : y.frozen? ⟨w.heap.size + 1 + 1, 0, none⟩ = false := frozen_of_row _ _ _ _ _ hY.r5
          have c1 : y.cell? ⟨w.heap.size + 1 + 1, 1, none⟩ = some (.slice B o.length d) := cell_of_row _ _ _ _ _ _ hY.r5
          have d1 : y.frozen? ⟨w.heap.size + 1 + 1, 1, none⟩ = false := frozen_of_row _ _ _ _ _ hY.r5
          have c2 : y.cell? ⟨w.heap.size + 1 + 1, 2, none⟩ = some (.int .i64 (tl : Nat)) := cell_of_row _ _ _ _ _ _ hY.r5
          have d2 : y.frozen? ⟨w.heap.size + 1 + 1, 2, none⟩ = false := frozen_of_row _ _ _ _ _ hY.r5
          have c3 : y.cell? ⟨w.heap.size + 1 + 1, 3, none⟩ = some (.int .u32 0) := cell_of_row _ _ _ _ _ _ hY.r5
          have d3 : y.frozen? ⟨w.heap.size + 1 + 1, 3, none⟩ = false := frozen_of_row _ _ _ _ _ hY.r5
          have c4 : y.cell? ⟨w.heap.size + 1 + 1, 4, none⟩ = some (.int .u64 0) := cell_of_row _ _ _ _ _ _ hY.r5
          have d4 : y.frozen? ⟨w.heap.size + 1 + 1, 4, none⟩ = false := frozen_of_row _ _ _ _ _ hY.r5
          have c5 : y.cell? ⟨w.heap.size + 1 + 1, 5, none⟩ = some (.int .u64 0) := cell_of_row _ _ _ _ _ _ hY.r5
          have d5 : y.frozen? ⟨w.heap.size + 1 + 1, 5, none⟩ = false := frozen_of_row _ _ _ _ _ hY.r5
          go_wp2_with fail
          clear hlt hlt4 hlt2 a0 a1 b0 b1 c0 c1 c2 c3 c4 c5 d0 d1 d2 d3 d4 d5
          refine (HE.out _).mono ?_
          rintro en y1 ⟨rfl, hb⟩
          have hY1 := hY.call hb
          clear hb hY
          by_cases hee : endN e4 l4 = 0
          · refine absurd (H35.out ?_) he
            by_cases q : e4 = 0
            · exact q
            · unfold endN at hee
              rw [if_pos q] at hee
              exact absurd hee q
          · have hg := HGv.out
            rw [if_pos hee] at hg
            subst hg
            have E3 : (((endN e4 l4 : Nat) : Int) != 0) = true := by rw [bne_iff_ne]; omega
            have hlt := hY1.lt
            have hlt4 : w.heap.size + 1 < y1.heap.size := by omega
            have hlt2 : w.heap.size < y1.heap.size := by omega
            have a0 : y1.cell? ⟨w.heap.size + 1, 0, none⟩ = some (.string (rsS l4 e4)) := cell_of_row _ _ _ _ _ _ hY1.r4
            have b0 : y1.frozen? ⟨w.heap.size + 1, 0, none⟩ = false := frozen_of_row _ _ _ _ _ hY1.r4
            have a1 : y1.cell? ⟨w.heap.size + 1, 1, none⟩ = some (.int .i64 (e4 : Nat)) := cell_of_row _ _ _ _ _ _ hY1.r4
            have b1 : y1.frozen? ⟨w.heap.size + 1, 1, none⟩ = false := frozen_of_row _ _ _ _ _ hY1.r4
            have c0 : y1.cell? ⟨w.heap.size + 1 + 1, 0, none⟩ = some (.int .i64 (z : Nat)) := cell_of_row _ _ _ _ _ _ hY1.r5
            have d0 : y1.frozen? ⟨w.heap.size + 1 + 1, 0, none⟩ = false := frozen_of_row _ _ _ _ _ hY1.r5
            have c1 : y1.cell? ⟨w.heap.size + 1 + 1, 1, none⟩ = some (.slice B o.length d) := cell_of_row _ _ _ _ _ _ hY1.r5
            have d1 : y1.frozen? ⟨w.heap.size + 1 + 1, 1, none⟩ = false := frozen_of_row _ _ _ _ _ hY1.r5
            have c2 : y1.cell? ⟨w.heap.size + 1 + 1, 2, none⟩ = some (.int .i64 (tl : Nat)) := cell_of_row _ _ _ _ _ _ hY1.r5
            have d2 : y1.frozen? ⟨w.heap.size + 1 + 1, 2, none⟩ = false := frozen_of_row _ _ _ _ _ hY1.r5
            have c3 : y1.cell? ⟨w.heap.size + 1 + 1, 3, none⟩ = some (.int .u32 0) := cell_of_row _ _ _ _ _ _ hY1.r5
            have d3 : y1.frozen? ⟨w.heap.size + 1 + 1, 3, none⟩ = false := frozen_of_row _ _ _ _ _ hY1.r5
            have c4 : y1.cell? ⟨w.heap.size + 1 + 1, 4, none⟩ = some (.int .u64 0) := cell_of_row _ _ _ _ _ _ hY1.r5
            have d4 : y1.frozen? ⟨w.heap.size + 1 + 1, 4, none⟩ = false := frozen_of_row _ _ _ _ _ hY1.r5
            have c5 : y1.cell? ⟨w.heap.size + 1 + 1, 5, none⟩ = some (.int .u64 0) := cell_of_row _ _ _ _ _ _ hY1.r5
            have d5 : y1.frozen? ⟨w.heap.size + 1 + 1, 5, none⟩ = false := frozen_of_row _ _ _ _ _ hY1.r5
            clear HGv HR H35
            go_wp2_with fail
            clear hlt hlt4 hlt2 a0 a1 b0 b1 c0 c1 c2 c3 c4 c5 d0 d1 d2 d3 d4 d5
            refine (HE.out _).mono ?_
            rintro en y2 ⟨rfl, hb⟩
            have hY2 := hY1.call hb
            clear hb hY1
            have hlt := hY2.lt
            have hlt4 : w.heap.size + 1 < y2.heap.size := by omega
            have hlt2 : w.heap.size < y2.heap.size := by omega
            have a0 : y2.cell? ⟨w.heap.size + 1, 0, none⟩ = some (.string (rsS l4 e4)) := cell_of_row _ _ _ _ _ _ hY2.r4
            have b0 : y2.frozen? ⟨w.heap.size + 1, 0, none⟩ = false := frozen_of_row _ _ _ _ _ hY2.r4
            have a1 : y2.cell? ⟨w.heap.size + 1, 1, none⟩ = some (.int .i64 (e4 : Nat)) := cell_of_row _ _ _ _ _ _ hY2.r4
            have b1 : y2.frozen? ⟨w.heap.size + 1, 1, none⟩ = false := frozen_of_row _ _ _ _ _ hY2.r4
            have c0 : y2.cell? ⟨w.heap.size + 1 + 1, 0, none⟩ = some (.int .i64 (z : Nat)) := cell_of_row _ _ _ _ _ _ hY2.r5
            have d0 : y2.frozen? ⟨w.heap.size + 1 + 1, 0, none⟩ = false := frozen_of_row _ _ _ _ _ hY2.r5
            have c1 : y2.cell? ⟨w.heap.size + 1 + 1, 1, none⟩ = some (.slice B o.length d) := cell_of_row _ _ _ _ _ _ hY2.r5
            have d1 : y2.frozen? ⟨w.heap.size + 1 + 1, 1, none⟩ = false := frozen_of_row _ _ _ _ _ hY2.r5
            have c2 : y2.cell? ⟨w.heap.size + 1 + 1, 2, none⟩ = some (.int .i64 (tl : Nat)) := cell_of_row _ _ _ _ _ _ hY2.r5
            have d2 : y2.frozen? ⟨w.heap.size + 1 + 1, 2, none⟩ = false := frozen_of_row _ _ _ _ _ hY2.r5
            have c3 : y2.cell? ⟨w.heap.size + 1 + 1, 3, none⟩ = some (.int .u32 0) := cell_of_row _ _ _ _ _ _ hY2.r5
            have d3 : y2.frozen? ⟨w.heap.size + 1 + 1, 3, none⟩ = false := frozen_of_row _ _ _ _ _ hY2.r5
            have c4 : y2.cell? ⟨w.heap.size + 1 + 1, 4, none⟩ = some (.int .u64 0) := cell_of_row _ _ _ _ _ _ hY2.r5
            have d4 : y2.frozen? ⟨w.heap.size + 1 + 1, 4, none⟩ = false := frozen_of_row _ _ _ _ _ hY2.r5
            have c5 : y2.cell? ⟨w.heap.size + 1 + 1, 5, none⟩ = some (.int .u64 0) := cell_of_row _ _ _ _ _ _ hY2.r5
            have d5 : y2.frozen? ⟨w.heap.size + 1 + 1, 5, none⟩ = false := frozen_of_row _ _ _ _ _ hY2.r5
            have yy0 : y2.cell? ⟨w.heap.size, 0, none⟩ = some (.int .i64 0) := cell_of_row _ _ _ _ _ _ hY2.r2
            have z0 : y2.frozen? ⟨w.heap.size, 0, none⟩ = false := frozen_of_row _ _ _ _ _ hY2.r2
            have yy1 : y2.cell? ⟨w.heap.size, 1, none⟩ = some (.slice none 0 0) := cell_of_row _ _ _ _ _ _ hY2.r2
            have z1 : y2.frozen? ⟨w.heap.size, 1, none⟩ = false := frozen_of_row _ _ _ _ _ hY2.r2
            have yy2 : y2.cell? ⟨w.heap.size, 2, none⟩ = some (.int .i64 0) := cell_of_row _ _ _ _ _ _ hY2.r2
            have z2 : y2.frozen? ⟨w.heap.size, 2, none⟩ = false := frozen_of_row _ _ _ _ _ hY2.r2
            have yy3 : y2.cell? ⟨w.heap.size, 3, none⟩ = some (.int .u32 0) := cell_of_row _ _ _ _ _ _ hY2.r2
            have z3 : y2.frozen? ⟨w.heap.size, 3, none⟩ = false := frozen_of_row _ _ _ _ _ hY2.r2
            have yy4 : y2.cell? ⟨w.heap.size, 4, none⟩ = some (.int .u64 0) := cell_of_row _ _ _ _ _ _ hY2.r2
            have z4 : y2.frozen? ⟨w.heap.size, 4, none⟩ = false := frozen_of_row _ _ _ _ _ hY2.r2
            have yy5 : y2.cell? ⟨w.heap.size, 5, none⟩ = some (.int .u64 0) := cell_of_row _ _ _ _ _ _ hY2.r2
            have z5 : y2.frozen? ⟨w.heap.size, 5, none⟩ = false := frozen_of_row _ _ _ _ _ hY2.r2
            have HX : ((((((y2.setCell ⟨w.heap.size, 0, none⟩ (.int .i64 0)).setCell ⟨w.heap.size, 1, none⟩ (.slice none 0 0)).setCell ⟨w.heap.size, 2, none⟩ (.int .i64 0)).setCell ⟨w.heap.size, 3, none⟩ (.int .u32 0)).setCell ⟨w.heap.size, 4, none⟩ (.int .u64 0)).setCell ⟨w.heap.size, 5, none⟩ (.int .u64 0)).heap[w.heap.size]? = some (.cells #[.int .i64 0, .slice none 0 0, .int .i64 0, .int .u32 0, .int .u64 0, .int .u64 0] 42 (0, 0)) := six_row _ _ _ _ _ _ (.int .i64 0) (.slice none 0 0) (.int .i64 0) (.int .u32 0) (.int .u64 0) (.int .u64 0) rfl hY2.r2
            have HBf := hide (show Below w.heap.size w ((((((y2.setCell ⟨w.heap.size, 0, none⟩ (.int .i64 0)).setCell ⟨w.heap.size, 1, none⟩ (.slice none 0 0)).setCell ⟨w.heap.size, 2, none⟩ (.int .i64 0)).setCell ⟨w.heap.size, 3, none⟩ (.int .u32 0)).setCell ⟨w.heap.size, 4, none⟩ (.int .u64 0)).setCell ⟨w.heap.size, 5, none⟩ (.int .u64 0)) from six_below (.int .i64 0) (.slice none 0 0) (.int .i64 0) (.int .u32 0) (.int .u64 0) (.int .u64 0) hY2.below (Nat.le_refl _))
            have HX := hide HX
            go_wp2_with fail
            have t0 := cell_of_row _ _ 0 _ _ _ HX.out
            have t1 := cell_of_row _ _ 1 _ _ _ HX.out
            have t2 := cell_of_row _ _ 2 _ _ _ HX.out
            have t3 := cell_of_row _ _ 3 _ _ _ HX.out
            have t4 := cell_of_row _ _ 4 _ _ _ HX.out
            have t5 := cell_of_row _ _ 5 _ _ _ HX.out
            refine bodyPost_ret (v := .tuple #[.agg #[.int .i64 0, .slice none 0 0, .int .i64 0, .int .u32 0, .int .u64 0, .int .u64 0], .int .i64 (endN e4 l4 : Nat)]) (by simp [results, Try.results33, go_sem, t0, t1, t2, t3, t4, t5]) rfl ⟨none, 0, rfl, HBf.out, World.ownsRow_nil _ _ _ _⟩
        · have E2 : (0 : Int) < (tl : Int) := by omega
          have hq5 := H5.out
          unfold readLast at hq5
          rw [if_pos ht] at hq5
          clear H5 ht
          have HGt := hide (fun W => get_any l4 e4 4294967295 W (by omega))
          have hk := readN_le l4 e4 4294967295
          have hm1 := readN_len2 l4 e4 4294967295
          unfold readSg at hq5
          generalize readN l4 e4 4294967295 = r at HGt hk hm1 hq5
          obtain ⟨k, m1, f1⟩ := r
          simp only at HGt hk hm1 hq5
          have HGs := hide (fun W => getSum_any m1 f1 W (by omega))
          generalize readS m1 f1 = r2 at HGs hq5
          obtain ⟨⟨hi2, lo2⟩, m2, f2⟩ := r2
          simp only [sumV] at HGs hq5
          injection hq5 with q1 q2
          injection q1 with q3 q4 q5
          injection q2 with q6 q7
          subst q3 q4 q5 q6 q7
          have hkw : IntKind.u32.wrap (k : Int) = (k : Int) := by rw [IntKind.wrap_u32]; omega
          have HGt := hide (fun W => (show Calls Try.prog 82 #[.agg #[.string (rsS l4 e4), .int .i64 (e4 : Nat)], .int .u64 4294967295] W fun en w' => en = .returned (.tuple #[.agg #[.string (rsS m1 f1), .int .i64 (f1 : Nat)], .int .u64 (k : Nat)]) ∧ Below W.heap.size W w' from HGt.out W))
          have HGs := hide (fun W => (show Calls Try.prog 83 #[.agg #[.string (rsS m1 f1), .int .i64 (f1 : Nat)]] W fun en w' => en = .returned (.tuple #[.agg #[.string (rsS m2 f2), .int .i64 (f2 : Nat)], .agg #[.int .u64 (hi2 : Nat), .int .u64 (lo2 : Nat)]]) ∧ Below W.heap.size W w' from HGs.out W))
          go_wp2_with fail
          clear hlt hlt4 hlt2 a0 a1 b0 b1 c0 c1 c2 c3 c4 c5 d0 d1 d2 d3 d4 d5
          generalize ((((x1.setCell ⟨w.heap.size + 1, 0, none⟩ (.string (rsS l4 e4))).setCell ⟨w.heap.size + 1, 1, none⟩ (.int .i64 (e4 : Nat))).setCell ⟨w.heap.size + 1 + 1, 2, none⟩ (.int .i64 (tl : Nat))).alloc (Obj.cells #[.string (rsS l4 e4), .int .i64 (e4 : Nat)] 122)) = y0 at hY ⊢
          refine (HGt.out _).mono ?_
          rintro en y3 ⟨rfl, hb⟩
          have hA3 := hY.call hb
          clear hb hY HGt
          have hlt := hA3.lt
          have hlt4 : w.heap.size + 1 < y3.heap.size := by omega
          have hlt2 : w.heap.size < y3.heap.size := by omega
          have a0 : y3.cell? ⟨w.heap.size + 1, 0, none⟩ = some (.string (rsS l4 e4)) := cell_of_row _ _ _ _ _ _ hA3.r4
          have b0 : y3.frozen? ⟨w.heap.size + 1, 0, none⟩ = false := frozen_of_row _ _ _ _ _ hA3.r4
          have a1 : y3.cell? ⟨w.heap.size + 1, 1, none⟩ = some (.int .i64 (e4 : Nat)) := cell_of_row _ _ _ _ _ _ hA3.r4
          have b1 : y3.frozen? ⟨w.heap.size + 1, 1, none⟩ = false := frozen_of_row _ _ _ _ _ hA3.r4
          have c0 : y3.cell? ⟨w.heap.size + 1 + 1, 0, none⟩ = some (.int .i64 (z : Nat)) := cell_of_row _ _ _ _ _ _ hA3.r5
          have d0 : y3.frozen? ⟨w.heap.size + 1 + 1, 0, none⟩ = false := frozen_of_row _ _ _ _ _ hA3.r5
          have c1 : y3.cell? ⟨w.heap.size + 1 + 1, 1, none⟩ = some (.slice B o.length d) := cell_of_row _ _ _ _ _ _ hA3.r5
          have d1 : y3.frozen? ⟨w.heap.size + 1 + 1, 1, none⟩ = false := frozen_of_row _ _ _ _ _ hA3.r5
          have c2 : y3.cell? ⟨w.heap.size + 1 + 1, 2, none⟩ = some (.int .i64 (tl : Nat)) := cell_of_row _ _ _ _ _ _ hA3.r5
          have d2 : y3.frozen? ⟨w.heap.size + 1 + 1, 2, none⟩ = false := frozen_of_row _ _ _ _ _ hA3.r5
          have c3 : y3.cell? ⟨w.heap.size + 1 + 1, 3, none⟩ = some (.int .u32 0) := cell_of_row _ _ _ _ _ _ hA3.r5
          have d3 : y3.frozen? ⟨w.heap.size + 1 + 1, 3, none⟩ = false := frozen_of_row _ _ _ _ _ hA3.r5
          have c4 : y3.cell? ⟨w.heap.size + 1 + 1, 4, none⟩ = some (.int .u64 0) := cell_of_row _ _ _ _ _ _ hA3.r5
          have d4 : y3.frozen? ⟨w.heap.size + 1 + 1, 4, none⟩ = false := frozen_of_row _ _ _ _ _ hA3.r5
          have c5 : y3.cell? ⟨w.heap.size + 1 + 1, 5, none⟩ = some (.int .u64 0) := cell_of_row _ _ _ _ _ _ hA3.r5
          have d5 : y3.frozen? ⟨w.heap.size + 1 + 1, 5, none⟩ = false := frozen_of_row _ _ _ _ _ hA3.r5
          have hA4 : G15 w (.slice B o.length d) o.length o #[.string (rsS m1 f1), .int .i64 (f1 : Nat)] #[.int .i64 (z : Nat), .slice B o.length d, .int .i64 (tl : Nat), .int .u32 (k : Nat), .int .u64 0, .int .u64 0] (((y3.setCell ⟨w.heap.size + 1, 0, none⟩ (.string (rsS m1 f1))).setCell ⟨w.heap.size + 1, 1, none⟩ (.int .i64 (f1 : Nat))).setCell ⟨w.heap.size + 1 + 1, 3, none⟩ (.int .u32 (k : Nat))) := (hA3.set4 _ _).set5 3 _
          clear hA3
          go_wp2_with fail
          clear hlt hlt4 hlt2 a0 a1 b0 b1 c0 c1 c2 c3 c4 c5 d0 d1 d2 d3 d4 d5
          generalize (((y3.setCell ⟨w.heap.size + 1, 0, none⟩ (.string (rsS m1 f1))).setCell ⟨w.heap.size + 1, 1, none⟩ (.int .i64 (f1 : Nat))).setCell ⟨w.heap.size + 1 + 1, 3, none⟩ (.int .u32 (k : Nat))) = y4 at hA4 ⊢
          refine (HGs.out _).mono ?_
          rintro en y5 ⟨rfl, hb⟩
          have hA5 := hA4.call hb
          clear hb hA4 HGs
          have hlt := hA5.lt
          have hlt4 : w.heap.size + 1 < y5.heap.size := by omega
          have hlt2 : w.heap.size < y5.heap.size := by omega
          have a0 : y5.cell? ⟨w.heap.size + 1, 0, none⟩ = some (.string (rsS m1 f1)) := cell_of_row _ _ _ _ _ _ hA5.r4
          have b0 : y5.frozen? ⟨w.heap.size + 1, 0, none⟩ = false := frozen_of_row _ _ _ _ _ hA5.r4
          have a1 : y5.cell? ⟨w.heap.size + 1, 1, none⟩ = some (.int .i64 (f1 : Nat)) := cell_of_row _ _ _ _ _ _ hA5.r4
          have b1 : y5.frozen? ⟨w.heap.size + 1, 1, none⟩ = false := frozen_of_row _ _ _ _ _ hA5.r4
          have c0 : y5.cell? ⟨w.heap.size + 1 + 1, 0, none⟩ = some (.int .i64 (z : Nat)) := cell_of_row _ _ _ _ _ _ hA5.r5
          have d0 : y5.frozen? ⟨w.heap.size + 1 + 1, 0, none⟩ = false := frozen_of_row _ _ _ _ _ hA5.r5
          have c1 : y5.cell? ⟨w.heap.size + 1 + 1, 1, none⟩ = some (.slice B o.length d) := cell_of_row _ _ _ _ _ _ hA5.r5
          have d1 : y5.frozen? ⟨w.heap.size + 1 + 1, 1, none⟩ = false := frozen_of_row _ _ _ _ _ hA5.r5
          have c2 : y5.cell? ⟨w.heap.size + 1 + 1, 2, none⟩ = some (.int .i64 (tl : Nat)) := cell_of_row _ _ _ _ _ _ hA5.r5
          have d2 : y5.frozen? ⟨w.heap.size + 1 + 1, 2, none⟩ = false := frozen_of_row _ _ _ _ _ hA5.r5
          have c3 : y5.cell? ⟨w.heap.size + 1 + 1, 3, none⟩ = some (.int .u32 (k : Nat)) := cell_of_row _ _ _ _ _ _ hA5.r5
          have d3 : y5.frozen? ⟨w.heap.size + 1 + 1, 3, none⟩ = false := frozen_of_row _ _ _ _ _ hA5.r5
          have c4 : y5.cell? ⟨w.heap.size + 1 + 1, 4, none⟩ = some (.int .u64 0) := cell_of_row _ _ _ _ _ _ hA5.r5
          have d4 : y5.frozen? ⟨w.heap.size + 1 + 1, 4, none⟩ = false := frozen_of_row _ _ _ _ _ hA5.r5
          have c5 : y5.cell? ⟨w.heap.size + 1 + 1, 5, none⟩ = some (.int .u64 0) := cell_of_row _ _ _ _ _ _ hA5.r5
          have d5 : y5.frozen? ⟨w.heap.size + 1 + 1, 5, none⟩ = false := frozen_of_row _ _ _ _ _ hA5.r5
          go_upto_region 26 with fail
          have hA6 := (hA5.new (Obj.cells #[.string (rsS m2 f2), .int .i64 (f2 : Nat)] 122)).new (Obj.cells #[.int .u64 (hi2 : Nat), .int .u64 (lo2 : Nat)] 28)
          obtain ⟨R12, R13, _⟩ := new_rows y5 #[.string (rsS m2 f2), .int .i64 (f2 : Nat)] #[.int .u64 (hi2 : Nat), .int .u64 (lo2 : Nat)] 122 28
          have hl12 := hlt
          clear hlt hlt4 hlt2 a0 a1 b0 b1 c0 c1 c2 c3 c4 c5 d0 d1 d2 d3 d4 d5 hA5
          generalize ((y5.alloc (Obj.cells #[.string (rsS m2 f2), .int .i64 (f2 : Nat)] 122)).alloc (Obj.cells #[.int .u64 (hi2 : Nat), .int .u64 (lo2 : Nat)] 28)) = y6 at hA6 R12 R13 ⊢
          have hlt := hA6.lt
          have hlt4 : w.heap.size + 1 < y6.heap.size := by omega
          have hlt2 : w.heap.size < y6.heap.size := by omega
          have a0 : y6.cell? ⟨w.heap.size + 1, 0, none⟩ = some (.string (rsS m1 f1)) := cell_of_row _ _ _ _ _ _ hA6.r4
          have b0 : y6.frozen? ⟨w.heap.size + 1, 0, none⟩ = false := frozen_of_row _ _ _ _ _ hA6.r4
          have a1 : y6.cell? ⟨w.heap.size + 1, 1, none⟩ = some (.int .i64 (f1 : Nat)) := cell_of_row _ _ _ _ _ _ hA6.r4
          have b1 : y6.frozen? ⟨w.heap.size + 1, 1, none⟩ = false := frozen_of_row _ _ _ _ _ hA6.r4
          have c0 : y6.cell? ⟨w.heap.size + 1 + 1, 0, none⟩ = some (.int .i64 (z : Nat)) := cell_of_row _ _ _ _ _ _ hA6.r5
          have d0 : y6.frozen? ⟨w.heap.size + 1 + 1, 0, none⟩ = false := frozen_of_row _ _ _ _ _ hA6.r5
          have c1 : y6.cell? ⟨w.heap.size + 1 + 1, 1, none⟩ = some (.slice B o.length d) := cell_of_row _ _ _ _ _ _ hA6.r5
          have d1 : y6.frozen? ⟨w.heap.size + 1 + 1, 1, none⟩ = false := frozen_of_row _ _ _ _ _ hA6.r5
          have c2 : y6.cell? ⟨w.heap.size + 1 + 1, 2, none⟩ = some (.int .i64 (tl : Nat)) := cell_of_row _ _ _ _ _ _ hA6.r5
          have d2 : y6.frozen? ⟨w.heap.size + 1 + 1, 2, none⟩ = false := frozen_of_row _ _ _ _ _ hA6.r5
          have c3 : y6.cell? ⟨w.heap.size + 1 + 1, 3, none⟩ = some (.int .u32 (k : Nat)) := cell_of_row _ _ _ _ _ _ hA6.r5
          have d3 : y6.frozen? ⟨w.heap.size + 1 + 1, 3, none⟩ = false := frozen_of_row _ _ _ _ _ hA6.r5
          have c4 : y6.cell? ⟨w.heap.size + 1 + 1, 4, none⟩ = some (.int .u64 0) := cell_of_row _ _ _ _ _ _ hA6.r5
          have d4 : y6.frozen? ⟨w.heap.size + 1 + 1, 4, none⟩ = false := frozen_of_row _ _ _ _ _ hA6.r5
          have c5 : y6.cell? ⟨w.heap.size + 1 + 1, 5, none⟩ = some (.int .u64 0) := cell_of_row _ _ _ _ _ _ hA6.r5
          have d5 : y6.frozen? ⟨w.heap.size + 1 + 1, 5, none⟩ = false := frozen_of_row _ _ _ _ _ hA6.r5
          have g0 : y6.cell? ⟨y5.heap.size, 0, none⟩ = some (.string (rsS m2 f2)) := cell_of_row _ _ _ _ _ _ R12
          have g1 : y6.cell? ⟨y5.heap.size, 1, none⟩ = some (.int .i64 (f2 : Nat)) := cell_of_row _ _ _ _ _ _ R12
          have g2 : y6.cell? ⟨y5.heap.size + 1, 0, none⟩ = some (.int .u64 (hi2 : Nat)) := cell_of_row _ _ _ _ _ _ R13
          have g3 : y6.cell? ⟨y5.heap.size + 1, 1, none⟩ = some (.int .u64 (lo2 : Nat)) := cell_of_row _ _ _ _ _ _ R13
          have hn3 : y5.heap.size + 1 ≠ w.heap.size + 1 := by omega
          have hn4 : y5.heap.size ≠ w.heap.size := by omega
          have hn5 : w.heap.size ≠ y5.heap.size := by omega
          clear hlt hlt2 hlt4
          go_upto_region 28 with fail
          clear hn3 hn4 hn5 g0 g1 g2 g3 a0 a1 b0 b1 c0 c1 c2 c3 c4 c5 d0 d1 d2 d3 d4 d5 R12 R13 hl12
          have hY : G15 w (.slice B o.length d) o.length o #[.string (rsS m2 f2), .int .i64 (f2 : Nat)] #[.int .i64 (z : Nat), .slice B o.length d, .int .i64 (tl : Nat), .int .u32 (k : Nat), .int .u64 (hi2 : Nat), .int .u64 (lo2 : Nat)] ((((y6.setCell ⟨w.heap.size + 1, 0, none⟩ (.string (rsS m2 f2))).setCell ⟨w.heap.size + 1, 1, none⟩ (.int .i64 (f2 : Nat))).setCell ⟨w.heap.size + 1 + 1, 4, none⟩ (.int .u64 (hi2 : Nat))).setCell ⟨w.heap.size + 1 + 1, 5, none⟩ (.int .u64 (lo2 : Nat))) := ((hA6.set4 _ _).set5 4 _).set5 5 _
          clear hA6
          generalize ((((y6.setCell ⟨w.heap.size + 1, 0, none⟩ (.string (rsS m2 f2))).setCell ⟨w.heap.size + 1, 1, none⟩ (.int .i64 (f2 : Nat))).setCell ⟨w.heap.size + 1 + 1, 4, none⟩ (.int .u64 (hi2 : Nat))).setCell ⟨w.heap.size + 1 + 1, 5, none⟩ (.int .u64 (lo2 : Nat))) = y at hY ⊢
          have hlt := hY.lt
          have hlt4 : w.heap.size + 1 < y.heap.size := by omega
          have hlt2 : w.heap.size < y.heap.size := by omega
          have a0 : y.cell? ⟨w.heap.size + 1, 0, none⟩ = some (.string (rsS m2 f2)) := cell_of_row _ _ _ _ _ _ hY.r4
          have b0 : y.frozen? ⟨w.heap.size + 1, 0, none⟩ = false := frozen_of_row _ _ _ _ _ hY.r4
          have a1 : y.cell? ⟨w.heap.size + 1, 1, none⟩ = some (.int .i64 (f2 : Nat)) := cell_of_row _ _ _ _ _ _ hY.r4
          have b1 : y.frozen? ⟨w.heap.size + 1, 1, none⟩ = false := frozen_of_row _ _ _ _ _ hY.r4
          have c0 : y.cell? ⟨w.heap.size + 1 + 1, 0, none⟩ = some (.int .i64 (z : Nat)) := cell_of_row _ _ _ _ _ _ hY.r5
          have d0 : y.frozen? ⟨w.heap.size + 1 + 1, 0, none⟩ = false := frozen_of_row _ _ _ _ _ hY.r5
          have c1 : y.cell? ⟨w.heap.size + 1 + 1, 1, none⟩ = some (.slice B o.length d) := cell_of_row _ _ _ _ _ _ hY.r5
          have d1 : y.frozen? ⟨w.heap.size + 1 + 1, 1, none⟩ = false := frozen_of_row _ _ _ _ _ hY.r5
          have c2 : y.cell? ⟨w.heap.size + 1 + 1, 2, none⟩ = some (.int .i64 (tl : Nat)) := cell_of_row _ _ _ _ _ _ hY.r5
          have d2 : y.frozen? ⟨w.heap.size + 1 + 1, 2, none⟩ = false := frozen_of_row _ _ _ _ _ hY.r5
          have c3 : y.cell? ⟨w.heap.size + 1 + 1, 3, none⟩ = some (.int .u32 (k : Nat)) := cell_of_row _ _ _ _ _ _ hY.r5
          have d3 : y.frozen? ⟨w.heap.size + 1 + 1, 3, none⟩ = false := frozen_of_row _ _ _ _ _ hY.r5
          have c4 : y.cell? ⟨w.heap.size + 1 + 1, 4, none⟩ = some (.int .u64 (hi2 : Nat)) := cell_of_row _ _ _ _ _ _ hY.r5
          have d4 : y.frozen? ⟨w.heap.size + 1 + 1, 4, none⟩ = false := frozen_of_row _ _ _ _ _ hY.r5
          have c5 : y.cell? ⟨w.heap.size + 1 + 1, 5, none⟩ = some (.int .u64 (lo2 : Nat)) := cell_of_row _ _ _ _ _ _ hY.r5
          have d5 : y.frozen? ⟨w.heap.size + 1 + 1, 5, none⟩ = false := frozen_of_row _ _ _ _ _ hY.r5
          go_wp2_with fail
          clear hlt hlt4 hlt2 a0 a1 b0 b1 c0 c1 c2 c3 c4 c5 d0 d1 d2 d3 d4 d5
          refine (HE.out _).mono ?_
          rintro en y1 ⟨rfl, hb⟩
          have hY1 := hY.call hb
          clear hb hY
          by_cases hee : endN f2 m2 = 0
          · refine absurd (H35.out ?_) he
            by_cases q : f2 = 0
            · exact q
            · unfold endN at hee
              rw [if_pos q] at hee
              exact absurd hee q
          · have hg := HGv.out
            rw [if_pos hee] at hg
            subst hg
            have E3 : (((endN f2 m2 : Nat) : Int) != 0) = true := by rw [bne_iff_ne]; omega
            have hlt := hY1.lt
            have hlt4 : w.heap.size + 1 < y1.heap.size := by omega
            have hlt2 : w.heap.size < y1.heap.size := by omega
            have a0 : y1.cell? ⟨w.heap.size + 1, 0, none⟩ = some (.string (rsS m2 f2)) := cell_of_row _ _ _ _ _ _ hY1.r4
            have b0 : y1.frozen? ⟨w.heap.size + 1, 0, none⟩ = false := frozen_of_row _ _ _ _ _ hY1.r4
            have a1 : y1.cell? ⟨w.heap.size + 1, 1, none⟩ = some (.int .i64 (f2 : Nat)) := cell_of_row _ _ _ _ _ _ hY1.r4
            have b1 : y1.frozen? ⟨w.heap.size + 1, 1, none⟩ = false := frozen_of_row _ _ _ _ _ hY1.r4
            have c0 : y1.cell? ⟨w.heap.size + 1 + 1, 0, none⟩ = some (.int .i64 (z : Nat)) := cell_of_row _ _ _ _ _ _ hY1.r5
            have d0 : y1.frozen? ⟨w.heap.size + 1 + 1, 0, none⟩ = false := frozen_of_row _ _ _ _ _ hY1.r5
            have c1 : y1.cell? ⟨w.heap.size + 1 + 1, 1, none⟩ = some (.slice B o.length d) := cell_of_row _ _ _ _ _ _ hY1.r5
            have d1 : y1.frozen? ⟨w.heap.size + 1 + 1, 1, none⟩ = false := frozen_of_row _ _ _ _ _ hY1.r5
            have c2 : y1.cell? ⟨w.heap.size + 1 + 1, 2, none⟩ = some (.int .i64 (tl : Nat)) := cell_of_row _ _ _ _ _ _ hY1.r5
            have d2 : y1.frozen? ⟨w.heap.size + 1 + 1, 2, none⟩ = false := frozen_of_row _ _ _ _ _ hY1.r5
            have c3 : y1.cell? ⟨w.heap.size + 1 + 1, 3, none⟩ = some (.int .u32 (k : Nat)) := cell_of_row _ _ _ _ _ _ hY1.r5
            have d3 : y1.frozen? ⟨w.heap.size + 1 + 1, 3, none⟩ = false := frozen_of_row _ _ _ _ _ hY1.r5
            have c4 : y1.cell? ⟨w.heap.size + 1 + 1, 4, none⟩ = some (.int .u64 (hi2 : Nat)) := cell_of_row _ _ _ _ _ _ hY1.r5
            have d4 : y1.frozen? ⟨w.heap.size + 1 + 1, 4, none⟩ = false := frozen_of_row _ _ _ _ _ hY1.r5
            have c5 : y1.cell? ⟨w.heap.size + 1 + 1, 5, none⟩ = some (.int .u64 (lo2 : Nat)) := cell_of_row _ _ _ _ _ _ hY1.r5
            have d5 : y1.frozen? ⟨w.heap.size + 1 + 1, 5, none⟩ = false := frozen_of_row _ _ _ _ _ hY1.r5
            clear HGv HR H35
            go_wp2_with fail
            clear hlt hlt4 hlt2 a0 a1 b0 b1 c0 c1 c2 c3 c4 c5 d0 d1 d2 d3 d4 d5
            refine (HE.out _).mono ?_
            rintro en y2 ⟨rfl, hb⟩
            have hY2 := hY1.call hb
            clear hb hY1
            have hlt := hY2.lt
            have hlt4 : w.heap.size + 1 < y2.heap.size := by omega
            have hlt2 : w.heap.size < y2.heap.size := by omega
            have a0 : y2.cell? ⟨w.heap.size + 1, 0, none⟩ = some (.string (rsS m2 f2)) := cell_of_row _ _ _ _ _ _ hY2.r4
            have b0 : y2.frozen? ⟨w.heap.size + 1, 0, none⟩ = false := frozen_of_row _ _ _ _ _ hY2.r4
            have a1 : y2.cell? ⟨w.heap.size + 1, 1, none⟩ = some (.int .i64 (f2 : Nat)) := cell_of_row _ _ _ _ _ _ hY2.r4
            have b1 : y2.frozen? ⟨w.heap.size + 1, 1, none⟩ = false := frozen_of_row _ _ _ _ _ hY2.r4
            have c0 : y2.cell? ⟨w.heap.size + 1 + 1, 0, none⟩ = some (.int .i64 (z : Nat)) := cell_of_row _ _ _ _ _ _ hY2.r5
            have d0 : y2.frozen? ⟨w.heap.size + 1 + 1, 0, none⟩ = false := frozen_of_row _ _ _ _ _ hY2.r5
            have c1 : y2.cell? ⟨w.heap.size + 1 + 1, 1, none⟩ = some (.slice B o.length d) := cell_of_row _ _ _ _ _ _ hY2.r5
            have d1 : y2.frozen? ⟨w.heap.size + 1 + 1, 1, none⟩ = false := frozen_of_row _ _ _ _ _ hY2.r5
            have c2 : y2.cell? ⟨w.heap.size + 1 + 1, 2, none⟩ = some (.int .i64 (tl : Nat)) := cell_of_row _ _ _ _ _ _ hY2.r5
            have d2 : y2.frozen? ⟨w.heap.size + 1 + 1, 2, none⟩ = false := frozen_of_row _ _ _ _ _ hY2.r5
            have c3 : y2.cell? ⟨w.heap.size + 1 + 1, 3, none⟩ = some (.int .u32 (k : Nat)) := cell_of_row _ _ _ _ _ _ hY2.r5
            have d3 : y2.frozen? ⟨w.heap.size + 1 + 1, 3, none⟩ = false := frozen_of_row _ _ _ _ _ hY2.r5
            have c4 : y2.cell? ⟨w.heap.size + 1 + 1, 4, none⟩ = some (.int .u64 (hi2 : Nat)) := cell_of_row _ _ _ _ _ _ hY2.r5
            have d4 : y2.frozen? ⟨w.heap.size + 1 + 1, 4, none⟩ = false := frozen_of_row _ _ _ _ _ hY2.r5
            have c5 : y2.cell? ⟨w.heap.size + 1 + 1, 5, none⟩ = some (.int .u64 (lo2 : Nat)) := cell_of_row _ _ _ _ _ _ hY2.r5
            have d5 : y2.frozen? ⟨w.heap.size + 1 + 1, 5, none⟩ = false := frozen_of_row _ _ _ _ _ hY2.r5
            have yy0 : y2.cell? ⟨w.heap.size, 0, none⟩ = some (.int .i64 0) := cell_of_row _ _ _ _ _ _ hY2.r2
            have z0 : y2.frozen? ⟨w.heap.size, 0, none⟩ = false := frozen_of_row _ _ _ _ _ hY2.r2
            have yy1 : y2.cell? ⟨w.heap.size, 1, none⟩ = some (.slice none 0 0) := cell_of_row _ _ _ _ _ _ hY2.r2
            have z1 : y2.frozen? ⟨w.heap.size, 1, none⟩ = false := frozen_of_row _ _ _ _ _ hY2.r2
            have yy2 : y2.cell? ⟨w.heap.size, 2, none⟩ = some (.int .i64 0) := cell_of_row _ _ _ _ _ _ hY2.r2
            have z2 : y2.frozen? ⟨w.heap.size, 2, none⟩ = false := frozen_of_row _ _ _ _ _ hY2.r2
            have yy3 : y2.cell? ⟨w.heap.size, 3, none⟩ = some (.int .u32 0) := cell_of_row _ _ _ _ _ _ hY2.r2
            have z3 : y2.frozen? ⟨w.heap.size, 3, none⟩ = false := frozen_of_row _ _ _ _ _ hY2.r2
            have yy4 : y2.cell? ⟨w.heap.size, 4, none⟩ = some (.int .u64 0) := cell_of_row _ _ _ _ _ _ hY2.r2
            have z4 : y2.frozen? ⟨w.heap.size, 4, none⟩ = false := frozen_of_row _ _ _ _ _ hY2.r2
            have yy5 : y2.cell? ⟨w.heap.size, 5, none⟩ = some (.int .u64 0) := cell_of_row _ _ _ _ _ _ hY2.r2
            have z5 : y2.frozen? ⟨w.heap.size, 5, none⟩ = false := frozen_of_row _ _ _ _ _ hY2.r2
            have HX : ((((((y2.setCell ⟨w.heap.size, 0, none⟩ (.int .i64 0)).setCell ⟨w.heap.size, 1, none⟩ (.slice none 0 0)).setCell ⟨w.heap.size, 2, none⟩ (.int .i64 0)).setCell ⟨w.heap.size, 3, none⟩ (.int .u32 0)).setCell ⟨w.heap.size, 4, none⟩ (.int .u64 0)).setCell ⟨w.heap.size, 5, none⟩ (.int .u64 0)).heap[w.heap.size]? = some (.cells #[.int .i64 0, .slice none 0 0, .int .i64 0, .int .u32 0, .int .u64 0, .int .u64 0] 42 (0, 0)) := six_row _ _ _ _ _ _ (.int .i64 0) (.slice none 0 0) (.int .i64 0) (.int .u32 0) (.int .u64 0) (.int .u64 0) rfl hY2.r2
            have HBf := hide (show Below w.heap.size w ((((((y2.setCell ⟨w.heap.size, 0, none⟩ (.int .i64 0)).setCell ⟨w.heap.size, 1, none⟩ (.slice none 0 0)).setCell ⟨w.heap.size, 2, none⟩ (.int .i64 0)).setCell ⟨w.heap.size, 3, none⟩ (.int .u32 0)).setCell ⟨w.heap.size, 4, none⟩ (.int .u64 0)).setCell ⟨w.heap.size, 5, none⟩ (.int .u64 0)) from six_below (.int .i64 0) (.slice none 0 0) (.int .i64 0) (.int .u32 0) (.int .u64 0) (.int .u64 0) hY2.below (Nat.le_refl _))
            have HX := hide HX
            go_wp2_with fail
            have t0 := cell_of_row _ _ 0 _ _ _ HX.out
            have t1 := cell_of_row _ _ 1 _ _ _ HX.out
            have t2 := cell_of_row _ _ 2 _ _ _ HX.out
            have t3 := cell_of_row _ _ 3 _ _ _ HX.out
            have t4 := cell_of_row _ _ 4 _ _ _ HX.out
            have t5 := cell_of_row _ _ 5 _ _ _ HX.out
            refine bodyPost_ret (v := .tuple #[.agg #[.int .i64 0, .slice none 0 0, .int .i64 0, .int .u32 0, .int .u64 0, .int .u64 0], .int .i64 (endN f2 m2 : Nat)]) (by simp [results, Try.results33, go_sem, t0, t1, t2, t3, t4, t5]) rfl ⟨none, 0, rfl, HBf.out, World.ownsRow_nil _ _ _ _⟩
end Go.Proofs.Ytobgbheodlpclaa
