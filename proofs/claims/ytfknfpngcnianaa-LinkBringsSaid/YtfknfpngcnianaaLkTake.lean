/-
  (*queue).take.
-/
import Derived.Test.YtfknfpngcnianaaLkWay
namespace Go.Proofs.Ytfknfpngcnianaa
open Go.RowKit
set_option maxRecDepth 100000

/-- What becomes of a link's block: its cells, and nothing else that was there. -/
def To (w : World) (g : Nat) (C : Array Value) (w' : World) : Prop := w'.heap[g]? = some (.cells C 56 (0, 0)) ∧ w.grownBy w' (some g)

theorem To.start {w : World} {g : Nat} {C : Array Value} (h : w.heap[g]? = some (.cells C 56 (0, 0))) : To w g C w := ⟨h, World.grownBy.refl w _⟩
theorem To.lt {w w' : World} {g : Nat} {C : Array Value} (h : To w g C w') : g < w'.heap.size := (Array.getElem?_eq_some_iff.1 h.1).1
theorem To.call {w w1 w2 : World} {g : Nat} {C D : Array Value} (h : To w g C w1) (k : To w1 g D w2) : To w g D w2 :=
  ⟨k.1, ⟨k.2.os.trans h.2.os, k.2.tape.trans h.2.tape, k.2.output.trans h.2.output, Nat.le_trans h.2.size k.2.size, fun j hj hne => (k.2.block j (Nat.lt_of_lt_of_le hj h.2.size) hne).trans (h.2.block j hj hne)⟩⟩
theorem To.below {w w1 w2 : World} {g : Nat} {C : Array Value} (h : To w g C w1) (k : Below w1.heap.size w1 w2) : To w g C w2 :=
  h.call ⟨(k.block g h.lt).trans h.1, ⟨k.os, k.tape, k.output, k.size, fun j hj _ => k.block j hj⟩⟩
theorem To.row {w w1 : World} {g : Nat} {C : Array Value} (h : To w g C w1) (D : Array Value) : To w g D (w1.setRow g D) :=
  h.call ⟨setRow_heap w1 g C D _ _ h.1, ⟨rfl, rfl, rfl, by simp, fun j _ hne => setRow_other w1 g j D (fun e => hne (by rw [e]))⟩⟩
theorem To.set {w w1 : World} {g : Nat} {C : Array Value} (h : To w g C w1) (j : Nat) (v : Value) : To w g (C.setIfInBounds j v) (w1.setCell ⟨g, j, none⟩ v) := by
  rw [setCell_eq_setRow w1 g j C _ _ v h.1]
  exact h.row _
theorem To.cell {w w1 : World} {g : Nat} {C : Array Value} (h : To w g C w1) (j : Nat) : w1.cell? ⟨g, j, none⟩ = C[j]? := cell_of_row _ _ _ _ _ _ h.1
theorem To.free {w w1 : World} {g : Nat} {C : Array Value} (h : To w g C w1) (j : Nat) : w1.frozen? ⟨g, j, none⟩ = false := frozen_of_row _ _ _ _ _ h.1
theorem To.drew {w w1 : World} {g : Nat} {C : Array Value} (h : To w g C w1) : To w g C w1.drew := ⟨h.1, ⟨h.2.os, h.2.tape, h.2.output, h.2.size, h.2.block⟩⟩
theorem To.other {w w1 : World} {g b : Nat} {C : Array Value} (h : To w g C w1) (hb : w.heap.size ≤ b) (hne : b ≠ g) (j : Nat) (v : Value) : To w g C (w1.setCell ⟨b, j, none⟩ v) :=
  ⟨(heap_setCell_other w1 _ g v (fun e => hne e.symm)).trans h.1, ⟨h.2.os, h.2.tape, h.2.output, by simpa using h.2.size, fun k hk hx => (heap_setCell_other w1 _ k v (by simp; omega)).trans (h.2.block k hk hx)⟩⟩
/-- A row beside the link's. -/
theorem row_beside {W : World} {g b j : Nat} {o : Obj} {v : Value} (hne : b ≠ g) (h : W.heap[b]? = some o) : (W.setCell ⟨g, j, none⟩ v).heap[b]? = some o := (heap_setCell_other W _ b v hne).trans h

set_option maxHeartbeats 4000000 in
theorem take_any (g o i : Nat) (C : Array Value) (q : Way) (w : World) (hg : w.heap[g]? = some (.cells C 56 (0, 0))) (hs : o + 35 ≤ C.size) (h1 : ∀ v ∈ C.toList, v.oneCell' = true) (hQ : QAt C o q) (hi : i < q.l.length) (hn : q.l.length ≤ 16) :
    Calls Try.prog 23 #[.pointer (some ⟨g, o, none⟩), .int .i64 i] w fun e w' => e = .returned (.agg #[.string (q.dat i), .bool (q.trn i)]) ∧ To w g (tookC C o i q.l.length) w' := by
  have hi16 : (i : Int) < 16 := by omega
  have hgl : g < w.heap.size := (Array.getElem?_eq_some_iff.1 hg).1
  obtain ⟨hd, ht, c32, _, _⟩ := hQ.cells hg
  have c0 := hd i (by omega)
  have c1 := ht i (by omega)
  obtain ⟨r0, r1, hB⟩ := rows2 w #[.string ⟨#[]⟩, .bool false] #[.string (q.dat i), .bool (q.trn i)] 50 50
  have hQ32 := hQ.n
  clear hd ht hQ
  generalize q.l.length = n at *
  have hi2 : (i : Int) < n := by omega
  have hn2 : (n : Int) ≤ 16 := by omega
  generalize q.dat i = x at *
  generalize q.trn i = y at *
  have HS := hide hs
  have c32C := hide hQ32
  have H1 := hide h1
  clear hs h1 hQ32
  go_enter Try.func23, Try.ntmps23
  go_upto_region 2 with fail
  have c32 := (hB.cell (p := ⟨g, o + 32, none⟩) hgl).trans c32
  have hg0 := hg
  have hg := (hB.block g hgl).trans hg
  clear c0 c1
  generalize ((w.alloc (.cells #[.string ⟨#[]⟩, .bool false] 50)).alloc (.cells #[.string x, .bool y] 50)) = U at r0 r1 hB hg c32 ⊢
  have c32 : U.drew.cell? ⟨g, o + 32, none⟩ = some (Value.int .i64 n) := c32
  have k1 := fun W => sl_from g o i (by omega) W
  obtain ⟨ad, m, c, hA, hm, k2⟩ : ∃ ad m c, Hid (0 < m → ad = o + (i + 1) * 2) ∧ Hid (n - (i + 1) = m) ∧ ∀ W, (Instr.sliceAt 51 (.pointer (some ⟨g, o, none⟩)) (some (.int .i64 ((i : Int) + 1))) (some (.int .i64 n)) none).run Try.prog W = .ok (.slice (some ⟨g, ad, none⟩) m c) W :=
    ⟨_, _, _, hide (fun h => if_neg (by omega)), hide rfl, fun W => sl_part g o i n hi hn W⟩
  have kw : IntKind.i64.wrap ((i : Int) + 1) = (i : Int) + 1 := IntWalk.i64_in _ (by omega)
  go_still_tail 15, (by kernel_rfl)
  change wpList _ _ _ _ _ U.drew
  have T0 := (((To.start hg0).below hB).drew)
  have r0 : U.drew.heap[w.heap.size]? = _ := r0
  have r1 : U.drew.heap[w.heap.size + 1]? = _ := r1
  clear c32 k1 k2 kw hg
  generalize U.drew = V at T0 r0 r1 ⊢
  have hcp := copy2 g o i m c C ad V 3 T0.1 (by have := hm.out; omega) (by have := HS.out; omega) hA.out H1.out
  have hsz := HS.out
  have hm2 := hm.out
  have T1 := T0.row (shiftC C o i m)
  have r0 : (V.setRow g (shiftC C o i m)).heap[w.heap.size]? = _ := (setRow_other V g _ _ (by omega)).trans r0
  have r1 : (V.setRow g (shiftC C o i m)).heap[w.heap.size + 1]? = _ := (setRow_other V g _ _ (by omega)).trans r1
  have cC : (shiftC C o i m)[o + 32]? = some (.int .i64 n) := by
    rw [shiftC_get _ _ _ _ _ (by omega), if_neg (by omega), if_neg (by omega)]
    exact c32C.out
  clear hsz hm2
  go_upto_region 3 with (refine Lib.wpList_copy_run _ rfl _ _ 68 68 rfl _ _ rfl rfl hcp ?_)
  clear hcp
  generalize hC1 : shiftC C o i m = C1 at *
  have HC1 := hide hC1
  clear hC1
  generalize V.setRow g C1 = V1 at T1 r0 r1 ⊢
  have f32 := (T1.cell (o + 32)).trans cC
  have z32 := T1.free (o + 32)
  clear c32C cC T0
  obtain ⟨p, hp⟩ : ∃ p, n = p + 1 := ⟨n - 1, by omega⟩
  have kn : IntKind.i64.wrap ((n : Int) - 1) = (p : Int) := by rw [IntWalk.i64_in _ (by omega)]; omega
  have hp16 : (p : Int) < 16 := by omega
  have HP := hide hp
  clear hp
  have T2 := T1.set (o + 32) (.int .i64 (p : Int))
  have r0 : (V1.setCell ⟨g, o + 32, none⟩ (.int .i64 (p : Int))).heap[w.heap.size]? = _ := row_beside (by omega) r0
  have r1 : (V1.setCell ⟨g, o + 32, none⟩ (.int .i64 (p : Int))).heap[w.heap.size + 1]? = _ := row_beside (by omega) r1
  go_upto_region 4 with fail
  clear f32 z32 kn
  have hs1 : C1.size = C.size := by rw [← HC1.out, shiftC_size _ _ _ _ (by have := HS.out; have := hm.out; omega)]
  have hC2 : (C1.setIfInBounds (o + 32) (.int .i64 (p : Int)))[o + 32]? = some (.int .i64 (p : Int)) := by rw [Array.getElem?_setIfInBounds, if_pos rfl, if_pos (by have := HS.out; omega)]
  generalize hC2e : C1.setIfInBounds (o + 32) (.int .i64 (p : Int)) = C2 at *
  have hs2 : C2.size = C.size := by rw [← hC2e, Array.size_setIfInBounds, hs1]
  have HC2 := hide hC2e
  clear hC2e hs1
  generalize V1.setCell ⟨g, o + 32, none⟩ (.int .i64 (p : Int)) = V2 at T2 r0 r1 ⊢
  clear T1
  have f32 : V2.drew.cell? ⟨g, o + 32, none⟩ = some (.int .i64 (p : Int)) := (T2.cell _).trans hC2
  obtain ⟨v0, hv0⟩ : ∃ v, C2[o + p * 2]? = some v := ⟨_, Array.getElem?_eq_getElem (by have := HS.out; have := HP.out; omega)⟩
  obtain ⟨v1, hv1⟩ : ∃ v, C2[o + p * 2 + 1]? = some v := ⟨_, Array.getElem?_eq_getElem (by have := HS.out; have := HP.out; omega)⟩
  have f0 : V2.drew.cell? ⟨g, o + p * 2, none⟩ = some v0 := (T2.cell _).trans hv0
  have f1 : V2.drew.cell? ⟨g, o + p * 2 + 1, none⟩ = some v1 := (T2.cell _).trans hv1
  have z0 : V2.drew.frozen? ⟨g, o + p * 2, none⟩ = false := T2.free _
  have z1 : V2.drew.frozen? ⟨g, o + p * 2 + 1, none⟩ = false := T2.free _
  clear hC2 hv0 hv1 hs2
  go_still_tail 9, (by kernel_rfl)
  change wpList _ _ _ _ _ V2.drew
  have T2 := T2.drew
  have r0 : V2.drew.heap[w.heap.size]? = _ := r0
  have r1 : V2.drew.heap[w.heap.size + 1]? = _ := r1
  clear f32
  generalize V2.drew = V2 at T2 r0 r1 f0 f1 z0 z1 ⊢
  have T3 := (T2.set (o + p * 2) (.string ⟨#[]⟩)).set (o + p * 2 + 1) (.bool false)
  have r0 : ((V2.setCell ⟨g, o + p * 2, none⟩ (.string ⟨#[]⟩)).setCell ⟨g, o + p * 2 + 1, none⟩ (.bool false)).heap[w.heap.size]? = _ := row_beside (by omega) (row_beside (by omega) r0)
  have r1 : ((V2.setCell ⟨g, o + p * 2, none⟩ (.string ⟨#[]⟩)).setCell ⟨g, o + p * 2 + 1, none⟩ (.bool false)).heap[w.heap.size + 1]? = _ := row_beside (by omega) (row_beside (by omega) r1)
  go_upto_region 5 with fail
  clear f0 f1 z0 z1
  generalize ((V2.setCell ⟨g, o + p * 2, none⟩ (.string ⟨#[]⟩)).setCell ⟨g, o + p * 2 + 1, none⟩ (.bool false)) = V3 at T3 r0 r1 ⊢
  have e0 : V3.cell? ⟨w.heap.size + 1, 0, none⟩ = some (.string x) := cell_of_row _ _ _ _ _ _ r1
  have e1 : V3.cell? ⟨w.heap.size + 1, 1, none⟩ = some (.bool y) := cell_of_row _ _ _ _ _ _ r1
  have d0 : V3.cell? ⟨w.heap.size, 0, none⟩ = some (.string ⟨#[]⟩) := cell_of_row _ _ _ _ _ _ r0
  have d1 : V3.cell? ⟨w.heap.size, 1, none⟩ = some (.bool false) := cell_of_row _ _ _ _ _ _ r0
  have z0 : V3.frozen? ⟨w.heap.size, 0, none⟩ = false := frozen_of_row _ _ _ _ _ r0
  have z1 : V3.frozen? ⟨w.heap.size, 1, none⟩ = false := frozen_of_row _ _ _ _ _ r0
  have T4 := (T3.other (b := w.heap.size) (Nat.le_refl _) (by omega) 0 (.string x)).other (b := w.heap.size) (Nat.le_refl _) (by omega) 1 (.bool y)
  have rf := heap_setCell_same _ w.heap.size 1 _ _ (.bool y) (heap_setCell_same _ w.heap.size 0 _ _ (.string x) r0)
  have HT := hide T4
  have HR := hide rf
  clear T4 rf T3 T2 r0 r1
  go_wp2_with fail
  have y0 : ((V3.setCell ⟨w.heap.size, 0, none⟩ (.string x)).setCell ⟨w.heap.size, 1, none⟩ (.bool y)).cell? ⟨w.heap.size, 0, none⟩ = some (.string x) := cell_of_row _ _ _ _ _ _ HR.out
  have y1 : ((V3.setCell ⟨w.heap.size, 0, none⟩ (.string x)).setCell ⟨w.heap.size, 1, none⟩ (.bool y)).cell? ⟨w.heap.size, 1, none⟩ = some (.bool y) := cell_of_row _ _ _ _ _ _ HR.out
  refine bodyPost_ret (v := .agg #[.string x, .bool y]) (by simp [results, Try.results23, go_sem, y0, y1]) rfl ⟨rfl, ?_⟩
  have e := HT.out
  rw [← HC2.out, ← HC1.out, ← hm.out] at e
  unfold tookC
  rw [show n - 1 = p by have := HP.out; omega]
  exact e
end Go.Proofs.Ytfknfpngcnianaa
