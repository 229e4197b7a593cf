/-
  The reference's Get.
-/
import Derived.Test.YtlbhgebjmekclaaDoorFrGet
import Derived.Test.YtlbhgebjmekclaaDoorFrSmall
import Derived.Test.YtlbhgebjmekclaaDoorVintRefGetText
namespace Go.Proofs.YtlbhgebjmekclaaDoor
open Go.RowKit
set_option maxRecDepth 100000

/-- While it reads: the answer's row, the reader's, the frame's. -/
structure RG (w : World) (n : Nat) (rd fr : Array Value) (W : World) : Prop where
  below : Below w.heap.size w W
  row : W.heap[w.heap.size]? = some (.cells #[.int .i64 0, .int .u64 0, .int .u64 0, .string ⟨#[]⟩] 24 (0, 0))
  r6 : W.heap[n]? = some (.cells rd 60 (0, 0))
  r7 : W.heap[n + 1]? = some (.cells fr 24 (0, 0))
  lt : w.heap.size < n
theorem RG.call {w W W' : World} {n : Nat} {rd fr : Array Value} (h : RG w n rd fr W) (hb : Below W.heap.size W W') : RG w n rd fr W' :=
  ⟨h.below.trans (hb.mono h.below.size), (hb.block _ (Array.getElem?_eq_some_iff.1 h.row).1).trans h.row, (hb.block _ (Array.getElem?_eq_some_iff.1 h.r6).1).trans h.r6, (hb.block _ (Array.getElem?_eq_some_iff.1 h.r7).1).trans h.r7, h.lt⟩
theorem RG.step {w W : World} {n : Nat} {a b : Value} {fr : Array Value} (h : RG w n #[a, b] fr W) (x y z : Value) (j : Nat) (O : Obj) :
    RG w n #[x, y] (fr.setIfInBounds j z) ((((W.setCell ⟨n, 0, none⟩ x).setCell ⟨n, 1, none⟩ y).setCell ⟨n + 1, j, none⟩ z).alloc O) := by
  have hlt := h.lt
  have k6 := heap_setCell_same _ n 1 _ _ y (heap_setCell_same W n 0 _ _ x h.r6)
  have k7 : ((W.setCell ⟨n, 0, none⟩ x).setCell ⟨n, 1, none⟩ y).heap[n + 1]? = some (.cells fr 24 (0, 0)) := by
    rw [Below.heap_setCell _ _ _ _ (by show n + 1 ≠ n; omega), Below.heap_setCell _ _ _ _ (by show n + 1 ≠ n; omega)]; exact h.r7
  have k0 : ((W.setCell ⟨n, 0, none⟩ x).setCell ⟨n, 1, none⟩ y).heap[w.heap.size]? = some (.cells #[.int .i64 0, .int .u64 0, .int .u64 0, .string ⟨#[]⟩] 24 (0, 0)) := by
    rw [Below.heap_setCell _ _ _ _ (by show w.heap.size ≠ n; omega), Below.heap_setCell _ _ _ _ (by show w.heap.size ≠ n; omega)]; exact h.row
  have b1 := ((h.below.setCell (p := ⟨n, 0, none⟩) (Nat.le_of_lt hlt) x).setCell (p := ⟨n, 1, none⟩) (Nat.le_of_lt hlt) y).setCell (p := ⟨n + 1, j, none⟩) (by show w.heap.size ≤ n + 1; omega) z
  have f6 := (Below.heap_setCell ((W.setCell ⟨n, 0, none⟩ x).setCell ⟨n, 1, none⟩ y) ⟨n + 1, j, none⟩ z n (by show n ≠ n + 1; omega)).trans k6
  have f7 := heap_setCell_same _ (n + 1) j _ _ z k7
  have f0 := (Below.heap_setCell ((W.setCell ⟨n, 0, none⟩ x).setCell ⟨n, 1, none⟩ y) ⟨n + 1, j, none⟩ z w.heap.size (by show w.heap.size ≠ n + 1; omega)).trans k0
  exact ⟨b1.alloc b1.size O, (Below.heap_alloc _ _ _ (Array.getElem?_eq_some_iff.1 f0).1).trans f0, (Below.heap_alloc _ _ _ (Array.getElem?_eq_some_iff.1 f6).1).trans f6, (Below.heap_alloc _ _ _ (Array.getElem?_eq_some_iff.1 f7).1).trans f7, hlt⟩
theorem RG.facts {w W : World} {n : Nat} {a b c d e f : Value} (h : RG w n #[a, b] #[c, d, e, f] W) :
    (W.cell? ⟨n, 0, none⟩ = some a ∧ W.cell? ⟨n, 1, none⟩ = some b ∧ W.frozen? ⟨n, 0, none⟩ = false ∧ W.frozen? ⟨n, 1, none⟩ = false) ∧
    (W.cell? ⟨n + 1, 0, none⟩ = some c ∧ W.cell? ⟨n + 1, 1, none⟩ = some d ∧ W.cell? ⟨n + 1, 2, none⟩ = some e ∧ W.cell? ⟨n + 1, 3, none⟩ = some f) ∧ (W.frozen? ⟨n + 1, 0, none⟩ = false ∧ W.frozen? ⟨n + 1, 1, none⟩ = false ∧ W.frozen? ⟨n + 1, 2, none⟩ = false ∧ W.frozen? ⟨n + 1, 3, none⟩ = false) ∧ n + 1 < W.heap.size :=
  ⟨⟨cell_of_row _ _ _ _ _ _ h.r6, cell_of_row _ _ _ _ _ _ h.r6, frozen_of_row _ _ _ _ _ h.r6, frozen_of_row _ _ _ _ _ h.r6⟩, ⟨cell_of_row _ _ _ _ _ _ h.r7, cell_of_row _ _ _ _ _ _ h.r7, cell_of_row _ _ _ _ _ _ h.r7, cell_of_row _ _ _ _ _ _ h.r7⟩, ⟨frozen_of_row _ _ _ _ _ h.r7, frozen_of_row _ _ _ _ _ h.r7, frozen_of_row _ _ _ _ _ h.r7, frozen_of_row _ _ _ _ _ h.r7⟩, (Array.getElem?_eq_some_iff.1 h.r7).1⟩

theorem last4 {w W : World} (hB : Below w.heap.size w W) (h : W.heap[w.heap.size]? = some (.cells #[.int .i64 0, .int .u64 0, .int .u64 0, .string ⟨#[]⟩] 24 (0, 0))) (v0 v1 v2 v3 : Value) :
    Below w.heap.size w ((((W.setCell ⟨w.heap.size, 0, none⟩ v0).setCell ⟨w.heap.size, 1, none⟩ v1).setCell ⟨w.heap.size, 2, none⟩ v2).setCell ⟨w.heap.size, 3, none⟩ v3) ∧ ((((W.setCell ⟨w.heap.size, 0, none⟩ v0).setCell ⟨w.heap.size, 1, none⟩ v1).setCell ⟨w.heap.size, 2, none⟩ v2).setCell ⟨w.heap.size, 3, none⟩ v3).heap[w.heap.size]? = some (.cells #[v0, v1, v2, v3] 24 (0, 0)) := by
  have r3 := heap_setCell_same _ _ 3 _ _ v3 (heap_setCell_same _ _ 2 _ _ v2 (heap_setCell_same _ _ 1 _ _ v1 (heap_setCell_same _ _ 0 _ _ v0 h)))
  exact ⟨(((hB.setCell (p := ⟨w.heap.size, 0, none⟩) (Nat.le_refl _) v0).setCell (p := ⟨w.heap.size, 1, none⟩) (Nat.le_refl _) v1).setCell (p := ⟨w.heap.size, 2, none⟩) (Nat.le_refl _) v2).setCell (p := ⟨w.heap.size, 3, none⟩) (Nat.le_refl _) v3, r3⟩
set_option maxHeartbeats 16000000 in
theorem refFrGet_any (l : List UInt8) (w : World) (hl : l.length ≤ 100000) :
    Calls Tryd.prog 16 #[.string (ofL l)] w fun e w' => e = .returned (.tuple #[.agg (getF l).1.cells, .int .i64 ((getF l).2 : Nat)]) ∧ Below w.heap.size w w' := by
  have hb0 := (Below.refl w.heap.size w).alloc (Nat.le_refl _) (.cells #[.int .i64 0, .int .u64 0, .int .u64 0, .string ⟨#[]⟩] 24)
  have hrow := World.alloc_heap_new w (.cells #[.int .i64 0, .int .u64 0, .int .u64 0, .string ⟨#[]⟩] 24)
  have HO := hide (refOpen_any l (w.alloc (.cells #[.int .i64 0, .int .u64 0, .int .u64 0, .string ⟨#[]⟩] 24)) hl)
  have hol := openL_len l
  by_cases hcode : (openL l).2 = 0
  · have HV := hide (show getF l = wholeF (readF (openL l).1) from by unfold getF; rw [if_neg (by omega)])
    rw [hcode] at HO
    clear hcode
    generalize (openL l).1 = m at *
    have hml : m.length ≤ 100000 := by omega
    go_enter Tryd.func16, Tryd.ntmps16
    go_wp2_with fail
    generalize (w.alloc (.cells #[.int .i64 0, .int .u64 0, .int .u64 0, .string ⟨#[]⟩] 24)) = w0 at HO hb0 hrow ⊢
    refine HO.out.mono ?_
    rintro en w1 ⟨rfl, hb1⟩
    have hlt0 := (Array.getElem?_eq_some_iff.1 hrow).1
    obtain ⟨q0, q1, q2⟩ := two_rows w1 #[.string (ofL m), .int .i64 0] #[.int .i64 0, .int .u64 0, .int .u64 0, .string ⟨#[]⟩] 60 24
    have hr1 := (hb1.block _ hlt0).trans hrow
    have hG : RG w w1.heap.size #[.string (ofL m), .int .i64 0] #[.int .i64 0, .int .u64 0, .int .u64 0, .string ⟨#[]⟩] ((w1.alloc (.cells #[.string (ofL m), .int .i64 0] 60)).alloc (.cells #[.int .i64 0, .int .u64 0, .int .u64 0, .string ⟨#[]⟩] 24)) :=
      ⟨hb0.trans ((hb1.trans (q2.mono hb1.size)).mono hb0.size), (q2.block _ (Array.getElem?_eq_some_iff.1 hr1).1).trans hr1, q0, q1, (Array.getElem?_eq_some_iff.1 hr1).1⟩
    have HG := hide hG
    have HI := hide (fun W => getInt_any m 0 255 W (by omega) (by decide))
    have hfc := hG.facts
    clear hb0 hrow HO hb1 hr1 q0 q1 q2 hG hlt0
    go_upto_region 6 with fail
    clear hfc
    generalize hU : ((w1.alloc (.cells #[.string (ofL m), .int .i64 0] 60)).alloc (.cells #[.int .i64 0, .int .u64 0, .int .u64 0, .string ⟨#[]⟩] 24)) = U at HG ⊢
    clear hU
    generalize hn : w1.heap.size = n at HG ⊢
    clear hn
    have H1 : ∀ W, Calls Tryd.prog 30 #[refR m 0, .int .i64 255] W fun en w' => en = .returned (.tuple #[refR (readN m 0 255).2.1 (readN m 0 255).2.2, .int .i64 ((readN m 0 255).1 : Nat)]) ∧ Below W.heap.size W w' := fun W => getInt_any m 0 255 W (by omega) (by decide)
    have HV1 := hide (show getF l = wholeF (rd0 (readN m 0 255)) from HV.out)
    have L1 := readN_len2 m 0 255
    generalize readN m 0 255 = r1 at H1 HV1 L1
    obtain ⟨v1, l1, x1⟩ := r1
    obtain ⟨s1, hs1⟩ := refR_two l1 x1
    have HS1 := hide hs1
    simp only at H1 L1
    rw [hs1, refR_ok] at H1
    have HC := hide H1
    obtain ⟨⟨f0, f1, z0, z1⟩, ⟨c0, c1, c2, c3⟩, ⟨y0, y1, y2, y3⟩, hz⟩ := HG.out.facts
    clear H1 hs1
    go_wp2_with fail
    refine (HC.out _).mono ?_
    rintro en U2 ⟨rfl, hb⟩
    have HG2 := hide (HG.out.call hb)
    clear f0 f1 z0 z1 c0 c1 c2 c3 y0 y1 y2 y3 hz hb HC HG
    obtain ⟨⟨f0, f1, z0, z1⟩, ⟨c0, c1, c2, c3⟩, ⟨y0, y1, y2, y3⟩, hz⟩ := HG2.out.facts
    have hz2 : n < U2.heap.size := by omega
    go_upto_region 9 with fail
    have hG : RG w n #[.string s1, .int .i64 (x1 : Nat)] #[.int .i64 (v1 : Nat), .int .u64 0, .int .u64 0, .string ⟨#[]⟩] ((((U2.setCell ⟨n, 0, none⟩ (.string s1)).setCell ⟨n, 1, none⟩ (.int .i64 (x1 : Nat))).setCell ⟨n + 1, 0, none⟩ (.int .i64 (v1 : Nat))).alloc (.cells #[.string s1, .int .i64 (x1 : Nat)] 60)) := HG2.out.step (.string s1) (.int .i64 (x1 : Nat)) (.int .i64 (v1 : Nat)) 0 (.cells #[.string s1, .int .i64 (x1 : Nat)] 60)
    have HG := hide hG
    clear f0 f1 z0 z1 c0 c1 c2 c3 y0 y1 y2 y3 hz hz2 HG2 hG
    generalize ((((U2.setCell ⟨n, 0, none⟩ (.string s1)).setCell ⟨n, 1, none⟩ (.int .i64 (x1 : Nat))).setCell ⟨n + 1, 0, none⟩ (.int .i64 (v1 : Nat))).alloc (.cells #[.string s1, .int .i64 (x1 : Nat)] 60)) = U at HG ⊢
    have H2 : ∀ W, Calls Tryd.prog 31 #[refR l1 x1, .int .u64 18446744073709551615] W fun en w' => en = .returned (.tuple #[refR (readN l1 x1 18446744073709551615).2.1 (readN l1 x1 18446744073709551615).2.2, .int .u64 ((readN l1 x1 18446744073709551615).1 : Nat)]) ∧ Below W.heap.size W w' := fun W => get_any l1 x1 18446744073709551615 W (by omega)
    have HV2 := hide (show getF l = wholeF (rd1 v1 (readN l1 x1 18446744073709551615)) from HV1.out)
    have L2 := readN_len2 l1 x1 18446744073709551615
    generalize readN l1 x1 18446744073709551615 = r2 at H2 HV2 L2
    obtain ⟨v2, l2, x2⟩ := r2
    obtain ⟨s2, hs2⟩ := refR_two l2 x2
    have HS2 := hide hs2
    simp only at H2 L2
    rw [hs2, HS1.out] at H2
    have HC := hide H2
    obtain ⟨⟨f0, f1, z0, z1⟩, ⟨c0, c1, c2, c3⟩, ⟨y0, y1, y2, y3⟩, hz⟩ := HG.out.facts
    clear H2 hs2
    go_wp2_with fail
    refine (HC.out _).mono ?_
    rintro en U2 ⟨rfl, hb⟩
    have HG2 := hide (HG.out.call hb)
    clear f0 f1 z0 z1 c0 c1 c2 c3 y0 y1 y2 y3 hz hb HC HG
    obtain ⟨⟨f0, f1, z0, z1⟩, ⟨c0, c1, c2, c3⟩, ⟨y0, y1, y2, y3⟩, hz⟩ := HG2.out.facts
    have hz2 : n < U2.heap.size := by omega
    go_upto_region 12 with fail
    have hG : RG w n #[.string s2, .int .i64 (x2 : Nat)] #[.int .i64 (v1 : Nat), .int .u64 (v2 : Nat), .int .u64 0, .string ⟨#[]⟩] ((((U2.setCell ⟨n, 0, none⟩ (.string s2)).setCell ⟨n, 1, none⟩ (.int .i64 (x2 : Nat))).setCell ⟨n + 1, 1, none⟩ (.int .u64 (v2 : Nat))).alloc (.cells #[.string s2, .int .i64 (x2 : Nat)] 60)) := HG2.out.step (.string s2) (.int .i64 (x2 : Nat)) (.int .u64 (v2 : Nat)) 1 (.cells #[.string s2, .int .i64 (x2 : Nat)] 60)
    have HG := hide hG
    clear f0 f1 z0 z1 c0 c1 c2 c3 y0 y1 y2 y3 hz hz2 HG2 hG
    generalize ((((U2.setCell ⟨n, 0, none⟩ (.string s2)).setCell ⟨n, 1, none⟩ (.int .i64 (x2 : Nat))).setCell ⟨n + 1, 1, none⟩ (.int .u64 (v2 : Nat))).alloc (.cells #[.string s2, .int .i64 (x2 : Nat)] 60)) = U at HG ⊢
    have H3 : ∀ W, Calls Tryd.prog 31 #[refR l2 x2, .int .u64 18446744073709551615] W fun en w' => en = .returned (.tuple #[refR (readN l2 x2 18446744073709551615).2.1 (readN l2 x2 18446744073709551615).2.2, .int .u64 ((readN l2 x2 18446744073709551615).1 : Nat)]) ∧ Below W.heap.size W w' := fun W => get_any l2 x2 18446744073709551615 W (by omega)
    have HV3 := hide (show getF l = wholeF (rd2 v1 v2 (readN l2 x2 18446744073709551615)) from HV2.out)
    have L3 := readN_len2 l2 x2 18446744073709551615
    generalize readN l2 x2 18446744073709551615 = r3 at H3 HV3 L3
    obtain ⟨v3, l3, x3⟩ := r3
    obtain ⟨s3, hs3⟩ := refR_two l3 x3
    have HS3 := hide hs3
    simp only at H3 L3
    rw [hs3, HS2.out] at H3
    have HC := hide H3
    obtain ⟨⟨f0, f1, z0, z1⟩, ⟨c0, c1, c2, c3⟩, ⟨y0, y1, y2, y3⟩, hz⟩ := HG.out.facts
    clear H3 hs3
    go_wp2_with fail
    refine (HC.out _).mono ?_
    rintro en U2 ⟨rfl, hb⟩
    have HG2 := hide (HG.out.call hb)
    clear f0 f1 z0 z1 c0 c1 c2 c3 y0 y1 y2 y3 hz hb HC HG
    obtain ⟨⟨f0, f1, z0, z1⟩, ⟨c0, c1, c2, c3⟩, ⟨y0, y1, y2, y3⟩, hz⟩ := HG2.out.facts
    have hz2 : n < U2.heap.size := by omega
    go_upto_region 15 with fail
    have hG : RG w n #[.string s3, .int .i64 (x3 : Nat)] #[.int .i64 (v1 : Nat), .int .u64 (v2 : Nat), .int .u64 (v3 : Nat), .string ⟨#[]⟩] ((((U2.setCell ⟨n, 0, none⟩ (.string s3)).setCell ⟨n, 1, none⟩ (.int .i64 (x3 : Nat))).setCell ⟨n + 1, 2, none⟩ (.int .u64 (v3 : Nat))).alloc (.cells #[.string s3, .int .i64 (x3 : Nat)] 60)) := HG2.out.step (.string s3) (.int .i64 (x3 : Nat)) (.int .u64 (v3 : Nat)) 2 (.cells #[.string s3, .int .i64 (x3 : Nat)] 60)
    have HG := hide hG
    clear f0 f1 z0 z1 c0 c1 c2 c3 y0 y1 y2 y3 hz hz2 HG2 hG
    generalize ((((U2.setCell ⟨n, 0, none⟩ (.string s3)).setCell ⟨n, 1, none⟩ (.int .i64 (x3 : Nat))).setCell ⟨n + 1, 2, none⟩ (.int .u64 (v3 : Nat))).alloc (.cells #[.string s3, .int .i64 (x3 : Nat)] 60)) = U at HG ⊢
    have H4 : ∀ W, Calls Tryd.prog 32 #[refR l3 x3, .int .i64 131072] W fun en w' => en = .returned (.tuple #[refR (readT l3 x3 131072).2.1 (readT l3 x3 131072).2.2, .string (ofL (readT l3 x3 131072).1)]) ∧ Below W.heap.size W w' := fun W => getText_any l3 x3 131072 W (by omega) (by decide)
    have HV4 := hide (show getF l = wholeF (rd3 v1 v2 v3 (readT l3 x3 131072)) from HV3.out)
    generalize readT l3 x3 131072 = r4 at H4 HV4
    obtain ⟨v4, l4, x4⟩ := r4
    obtain ⟨s4, hs4⟩ := refR_two l4 x4
    have HS4 := hide hs4
    simp only at H4
    rw [hs4, HS3.out] at H4
    have HC := hide H4
    obtain ⟨⟨f0, f1, z0, z1⟩, ⟨c0, c1, c2, c3⟩, ⟨y0, y1, y2, y3⟩, hz⟩ := HG.out.facts
    clear H4 hs4
    go_wp2_with fail
    refine (HC.out _).mono ?_
    rintro en U2 ⟨rfl, hb⟩
    have HG2 := hide (HG.out.call hb)
    clear f0 f1 z0 z1 c0 c1 c2 c3 y0 y1 y2 y3 hz hb HC HG
    obtain ⟨⟨f0, f1, z0, z1⟩, ⟨c0, c1, c2, c3⟩, ⟨y0, y1, y2, y3⟩, hz⟩ := HG2.out.facts
    have hz2 : n < U2.heap.size := by omega
    go_upto_region 18 with fail
    have hG : RG w n #[.string s4, .int .i64 (x4 : Nat)] #[.int .i64 (v1 : Nat), .int .u64 (v2 : Nat), .int .u64 (v3 : Nat), .string (ofL v4)] ((((U2.setCell ⟨n, 0, none⟩ (.string s4)).setCell ⟨n, 1, none⟩ (.int .i64 (x4 : Nat))).setCell ⟨n + 1, 3, none⟩ (.string (ofL v4))).alloc (.cells #[.string s4, .int .i64 (x4 : Nat)] 60)) := HG2.out.step (.string s4) (.int .i64 (x4 : Nat)) (.string (ofL v4)) 3 (.cells #[.string s4, .int .i64 (x4 : Nat)] 60)
    have HG := hide hG
    clear f0 f1 z0 z1 c0 c1 c2 c3 y0 y1 y2 y3 hz hz2 HG2 hG
    generalize ((((U2.setCell ⟨n, 0, none⟩ (.string s4)).setCell ⟨n, 1, none⟩ (.int .i64 (x4 : Nat))).setCell ⟨n + 1, 3, none⟩ (.string (ofL v4))).alloc (.cells #[.string s4, .int .i64 (x4 : Nat)] 60)) = U at HG ⊢
    have HE := hide (fun W => by
      have q := refEnd_any l4 x4 W
      rw [HS4.out] at q
      exact q)
    have HVE := hide (show getF l = wholeF (⟨(v1 : Nat), v2, v3, ofL v4⟩, l4, x4) from HV4.out)
    clear HV1 HV2 HV3 HV4 HV
    generalize hk : endN x4 l4 = ke at HE
    have HK := hide hk
    clear hk
    obtain ⟨⟨f0, f1, z0, z1⟩, ⟨c0, c1, c2, c3⟩, ⟨y0, y1, y2, y3⟩, hz⟩ := HG.out.facts
    go_wp2_with fail
    refine (HE.out _).mono ?_
    rintro en U3 ⟨rfl, hb⟩
    have HG3 := hide (HG.out.call hb)
    clear f0 f1 z0 z1 c0 c1 c2 c3 y0 y1 y2 y3 hz hb HG
    obtain ⟨⟨f0, f1, z0, z1⟩, ⟨c0, c1, c2, c3⟩, ⟨y0, y1, y2, y3⟩, hz⟩ := HG3.out.facts
    by_cases h0 : ke = 0
    · have HRes := hide (show getF l = (⟨(v1 : Nat), v2, v3, ofL v4⟩, 0) from by
        rw [HVE.out]
        unfold wholeF
        rw [if_neg (by show ¬ endN x4 l4 ≠ 0; rw [HK.out, h0]; decide)])
      subst h0
      have g0 := cell_of_row _ _ 0 _ _ _ HG3.out.row
      have g1 := cell_of_row _ _ 1 _ _ _ HG3.out.row
      have g2 := cell_of_row _ _ 2 _ _ _ HG3.out.row
      have g3 := cell_of_row _ _ 3 _ _ _ HG3.out.row
      have k0 := frozen_of_row _ _ 0 _ _ HG3.out.row
      have k1 := frozen_of_row _ _ 1 _ _ HG3.out.row
      have k2 := frozen_of_row _ _ 2 _ _ HG3.out.row
      have k3 := frozen_of_row _ _ 3 _ _ HG3.out.row
      have HLast := hide (last4 HG3.out.below HG3.out.row (.int .i64 (v1 : Nat)) (.int .u64 (v2 : Nat)) (.int .u64 (v3 : Nat)) (.string (ofL v4)))
      go_wp2_with fail
      obtain ⟨hBf, hf⟩ := HLast.out
      have t0 : ((((U3.setCell ⟨w.heap.size, 0, none⟩ (.int .i64 (v1 : Nat))).setCell ⟨w.heap.size, 1, none⟩ (.int .u64 (v2 : Nat))).setCell ⟨w.heap.size, 2, none⟩ (.int .u64 (v3 : Nat))).setCell ⟨w.heap.size, 3, none⟩ (.string (ofL v4))).cell? ⟨w.heap.size, 0, none⟩ = some (.int .i64 (v1 : Nat)) := cell_of_row _ _ _ _ _ _ hf
      have t1 : ((((U3.setCell ⟨w.heap.size, 0, none⟩ (.int .i64 (v1 : Nat))).setCell ⟨w.heap.size, 1, none⟩ (.int .u64 (v2 : Nat))).setCell ⟨w.heap.size, 2, none⟩ (.int .u64 (v3 : Nat))).setCell ⟨w.heap.size, 3, none⟩ (.string (ofL v4))).cell? ⟨w.heap.size, 1, none⟩ = some (.int .u64 (v2 : Nat)) := cell_of_row _ _ _ _ _ _ hf
      have t2 : ((((U3.setCell ⟨w.heap.size, 0, none⟩ (.int .i64 (v1 : Nat))).setCell ⟨w.heap.size, 1, none⟩ (.int .u64 (v2 : Nat))).setCell ⟨w.heap.size, 2, none⟩ (.int .u64 (v3 : Nat))).setCell ⟨w.heap.size, 3, none⟩ (.string (ofL v4))).cell? ⟨w.heap.size, 2, none⟩ = some (.int .u64 (v3 : Nat)) := cell_of_row _ _ _ _ _ _ hf
      have t3 : ((((U3.setCell ⟨w.heap.size, 0, none⟩ (.int .i64 (v1 : Nat))).setCell ⟨w.heap.size, 1, none⟩ (.int .u64 (v2 : Nat))).setCell ⟨w.heap.size, 2, none⟩ (.int .u64 (v3 : Nat))).setCell ⟨w.heap.size, 3, none⟩ (.string (ofL v4))).cell? ⟨w.heap.size, 3, none⟩ = some (.string (ofL v4)) := cell_of_row _ _ _ _ _ _ hf
      exact bodyPost_ret (v := .tuple #[.agg #[.int .i64 (v1 : Nat), .int .u64 (v2 : Nat), .int .u64 (v3 : Nat), .string (ofL v4)], .int .i64 0]) (by simp [results, Tryd.results16, go_sem, t0, t1, t2, t3]) rfl ⟨by rw [HRes.out]; rfl, hBf⟩
    · have HRes := hide (show getF l = (zeroF, ke) from by
        rw [HVE.out]
        unfold wholeF
        rw [if_pos (by show endN x4 l4 ≠ 0; rw [HK.out]; exact h0)]
        show (zeroF, endN x4 l4) = _
        rw [HK.out])
      have h1 : ((ke : Int) != 0) = true := by simp; omega
      clear h0
      go_wp2_with fail
      refine (HE.out _).mono ?_
      rintro en U4 ⟨rfl, hb⟩
      have HG4 := hide (HG3.out.call hb)
      clear f0 f1 z0 z1 c0 c1 c2 c3 y0 y1 y2 y3 hz hb HG3
      have g0 := cell_of_row _ _ 0 _ _ _ HG4.out.row
      have g1 := cell_of_row _ _ 1 _ _ _ HG4.out.row
      have g2 := cell_of_row _ _ 2 _ _ _ HG4.out.row
      have g3 := cell_of_row _ _ 3 _ _ _ HG4.out.row
      have k0 := frozen_of_row _ _ 0 _ _ HG4.out.row
      have k1 := frozen_of_row _ _ 1 _ _ HG4.out.row
      have k2 := frozen_of_row _ _ 2 _ _ HG4.out.row
      have k3 := frozen_of_row _ _ 3 _ _ HG4.out.row
      have HLast := hide (last4 HG4.out.below HG4.out.row (.int .i64 0) (.int .u64 0) (.int .u64 0) (.string ⟨#[]⟩))
      go_wp2_with fail
      obtain ⟨hBf, hf⟩ := HLast.out
      have t0 : ((((U4.setCell ⟨w.heap.size, 0, none⟩ (.int .i64 0)).setCell ⟨w.heap.size, 1, none⟩ (.int .u64 0)).setCell ⟨w.heap.size, 2, none⟩ (.int .u64 0)).setCell ⟨w.heap.size, 3, none⟩ (.string ⟨#[]⟩)).cell? ⟨w.heap.size, 0, none⟩ = some (.int .i64 0) := cell_of_row _ _ _ _ _ _ hf
      have t1 : ((((U4.setCell ⟨w.heap.size, 0, none⟩ (.int .i64 0)).setCell ⟨w.heap.size, 1, none⟩ (.int .u64 0)).setCell ⟨w.heap.size, 2, none⟩ (.int .u64 0)).setCell ⟨w.heap.size, 3, none⟩ (.string ⟨#[]⟩)).cell? ⟨w.heap.size, 1, none⟩ = some (.int .u64 0) := cell_of_row _ _ _ _ _ _ hf
      have t2 : ((((U4.setCell ⟨w.heap.size, 0, none⟩ (.int .i64 0)).setCell ⟨w.heap.size, 1, none⟩ (.int .u64 0)).setCell ⟨w.heap.size, 2, none⟩ (.int .u64 0)).setCell ⟨w.heap.size, 3, none⟩ (.string ⟨#[]⟩)).cell? ⟨w.heap.size, 2, none⟩ = some (.int .u64 0) := cell_of_row _ _ _ _ _ _ hf
      have t3 : ((((U4.setCell ⟨w.heap.size, 0, none⟩ (.int .i64 0)).setCell ⟨w.heap.size, 1, none⟩ (.int .u64 0)).setCell ⟨w.heap.size, 2, none⟩ (.int .u64 0)).setCell ⟨w.heap.size, 3, none⟩ (.string ⟨#[]⟩)).cell? ⟨w.heap.size, 3, none⟩ = some (.string ⟨#[]⟩) := cell_of_row _ _ _ _ _ _ hf
      exact bodyPost_ret (v := .tuple #[.agg #[.int .i64 0, .int .u64 0, .int .u64 0, .string ⟨#[]⟩], .int .i64 (ke : Nat)]) (by simp [results, Tryd.results16, go_sem, t0, t1, t2, t3]) rfl ⟨by rw [HRes.out]; rfl, hBf⟩
  · have HRes := hide (show getF l = (zeroF, (openL l).2) from by unfold getF; rw [if_pos hcode])
    generalize (openL l).1 = m at *
    generalize (openL l).2 = ke at *
    have h1 : ((ke : Int) != 0) = true := by simp; omega
    clear hcode hol
    go_enter Tryd.func16, Tryd.ntmps16
    go_wp2_with fail
    generalize (w.alloc (.cells #[.int .i64 0, .int .u64 0, .int .u64 0, .string ⟨#[]⟩] 24)) = w0 at HO hb0 hrow ⊢
    refine HO.out.mono ?_
    rintro en U4 ⟨rfl, hb1⟩
    have hr1 := (hb1.block _ (Array.getElem?_eq_some_iff.1 hrow).1).trans hrow
    have hB1 := hb0.trans (hb1.mono hb0.size)
    have g0 := cell_of_row _ _ 0 _ _ _ hr1
    have g1 := cell_of_row _ _ 1 _ _ _ hr1
    have g2 := cell_of_row _ _ 2 _ _ _ hr1
    have g3 := cell_of_row _ _ 3 _ _ _ hr1
    have k0 := frozen_of_row _ _ 0 _ _ hr1
    have k1 := frozen_of_row _ _ 1 _ _ hr1
    have k2 := frozen_of_row _ _ 2 _ _ hr1
    have k3 := frozen_of_row _ _ 3 _ _ hr1
    have HLast := hide (last4 hB1 hr1 (.int .i64 0) (.int .u64 0) (.int .u64 0) (.string ⟨#[]⟩))
    clear hb0 hrow hb1 hr1 hB1 HO
    go_wp2_with fail
    obtain ⟨hBf, hf⟩ := HLast.out
    have t0 : ((((U4.setCell ⟨w.heap.size, 0, none⟩ (.int .i64 0)).setCell ⟨w.heap.size, 1, none⟩ (.int .u64 0)).setCell ⟨w.heap.size, 2, none⟩ (.int .u64 0)).setCell ⟨w.heap.size, 3, none⟩ (.string ⟨#[]⟩)).cell? ⟨w.heap.size, 0, none⟩ = some (.int .i64 0) := cell_of_row _ _ _ _ _ _ hf
    have t1 : ((((U4.setCell ⟨w.heap.size, 0, none⟩ (.int .i64 0)).setCell ⟨w.heap.size, 1, none⟩ (.int .u64 0)).setCell ⟨w.heap.size, 2, none⟩ (.int .u64 0)).setCell ⟨w.heap.size, 3, none⟩ (.string ⟨#[]⟩)).cell? ⟨w.heap.size, 1, none⟩ = some (.int .u64 0) := cell_of_row _ _ _ _ _ _ hf
    have t2 : ((((U4.setCell ⟨w.heap.size, 0, none⟩ (.int .i64 0)).setCell ⟨w.heap.size, 1, none⟩ (.int .u64 0)).setCell ⟨w.heap.size, 2, none⟩ (.int .u64 0)).setCell ⟨w.heap.size, 3, none⟩ (.string ⟨#[]⟩)).cell? ⟨w.heap.size, 2, none⟩ = some (.int .u64 0) := cell_of_row _ _ _ _ _ _ hf
    have t3 : ((((U4.setCell ⟨w.heap.size, 0, none⟩ (.int .i64 0)).setCell ⟨w.heap.size, 1, none⟩ (.int .u64 0)).setCell ⟨w.heap.size, 2, none⟩ (.int .u64 0)).setCell ⟨w.heap.size, 3, none⟩ (.string ⟨#[]⟩)).cell? ⟨w.heap.size, 3, none⟩ = some (.string ⟨#[]⟩) := cell_of_row _ _ _ _ _ _ hf
    exact bodyPost_ret (v := .tuple #[.agg #[.int .i64 0, .int .u64 0, .int .u64 0, .string ⟨#[]⟩], .int .i64 (ke : Nat)]) (by simp [results, Tryd.results16, go_sem, t0, t1, t2, t3]) rfl ⟨by rw [HRes.out]; rfl, hBf⟩
end Go.Proofs.YtlbhgebjmekclaaDoor
