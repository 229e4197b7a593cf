/-
  Texts that belong together: MixSum, MixClear.
-/
import Derived.Test.YtobgbheodlpclaaAutoMixHash
import Derived.Deep.RegionWith
import Derived.Lib.SliceRun
import Derived.Laws.CopyRow
/-
  mix.Hash: Sum.
-/
namespace Go.Proofs.Ytobgbheodlpclaa
open Go.RowKit
set_option maxRecDepth 100000

set_option maxHeartbeats 2000000 in
theorem sum_flat (A : Option Addr) (n : Nat) (p : Nat × Nat) (w : World) (hp : Two p) (hn : n % 8 = 0) (hn2 : n ≤ 1000000)
    (hW : ∀ W, Below w.heap.size w W → Calls Try.prog 125 #[.pointer A] W fun e w' => e = .returned (stV p) ∧ Below W.heap.size W w')
    (hL : ∀ W, Below w.heap.size w W → Calls Try.prog 129 #[.pointer A] W fun e w' => e = .returned (.int .i64 (n : Nat)) ∧ w' = W) :
    Calls Try.prog 106 #[.pointer A] w fun e w' => e = .returned (stV (closedN p n)) ∧ Below w.heap.size w w' := by
  have hB : Below w.heap.size w (w.alloc (.cells #[.int .u64 0, .int .u64 0] 28)) := (Below.refl _ w).alloc (Nat.le_refl _) _
  have r1 := World.alloc_heap_new w (Obj.cells #[.int .u64 0, .int .u64 0] 28)
  have HC := hide (fun W => (show Calls Try.prog 130 #[.agg #[.int .u64 (p.1 : Nat), .int .u64 (p.2 : Nat)], .int .i64 n] W fun e w' => e = .returned (.agg #[.int .u64 ((closedN p n).1 : Nat), .int .u64 ((closedN p n).2 : Nat)]) ∧ Below W.heap.size W w' from closed_any p n W hp hn2))
  have HWh := hide (fun W h => (show Calls Try.prog 125 #[.pointer A] W fun e w' => e = .returned (.agg #[.int .u64 (p.1 : Nat), .int .u64 (p.2 : Nat)]) ∧ Below W.heap.size W w' from hW W h))
  show Calls _ _ _ _ fun e w' => e = .returned (.agg #[.int .u64 ((closedN p n).1 : Nat), .int .u64 ((closedN p n).2 : Nat)]) ∧ _
  generalize closedN p n = q at HC ⊢
  have E0 : (((n : Int) % 8) != 0) = false := by rw [bne_eq_false_iff_eq]; omega
  clear hn hW
  go_enter Try.func106, Try.ntmps106
  go_wp2_with fail
  refine (HWh.out _ hB).mono ?_
  rintro e w2 ⟨rfl, hB2⟩
  have hB3 := hB.trans (hB2.mono hB.size)
  have s1 := (hB2.block w.heap.size (Array.getElem?_eq_some_iff.1 r1).1).trans r1
  have hlt := (Array.getElem?_eq_some_iff.1 s1).1
  clear hB hB2 r1
  go_wp2_with fail
  refine (hL _ hB3).mono ?_
  rintro e w3 ⟨rfl, rfl⟩
  go_wp2_with fail
  have hB5 := hB3.alloc hB3.size (.cells #[.int .u64 (p.1 : Nat), .int .u64 (p.2 : Nat)] 152)
  have s2 : (w3.alloc (.cells #[.int .u64 (p.1 : Nat), .int .u64 (p.2 : Nat)] 152)).heap[w.heap.size]? = some (.cells #[.int .u64 0, .int .u64 0] 28 (0, 0)) := by rw [Below.heap_alloc _ _ _ hlt]; exact s1
  clear hB3 s1
  refine (HC.out _).mono ?_
  rintro e w6 ⟨rfl, hB6⟩
  have hB7 := hB5.trans (hB6.mono hB5.size)
  have s3 := (hB6.block w.heap.size (Array.getElem?_eq_some_iff.1 s2).1).trans s2
  clear hB5 hB6 s2
  have d0 : w6.cell? ⟨w.heap.size, 0, none⟩ = some (.int .u64 0) := cell_of_row _ _ _ _ _ _ s3
  have d1 : w6.cell? ⟨w.heap.size, 1, none⟩ = some (.int .u64 0) := cell_of_row _ _ _ _ _ _ s3
  have z0 : w6.frozen? ⟨w.heap.size, 0, none⟩ = false := frozen_of_row _ _ _ _ _ s3
  have z1 : w6.frozen? ⟨w.heap.size, 1, none⟩ = false := frozen_of_row _ _ _ _ _ s3
  have HX := hide (set_two w w6 w.heap.size _ _ (.int .u64 (q.1 : Nat)) (.int .u64 (q.2 : Nat)) _ s3 (Nat.le_refl _) hB7)
  clear s3 hB7
  go_wp2_with fail
  obtain ⟨y0, y1, hBf⟩ := HX.out
  refine bodyPost_ret (v := .agg #[.int .u64 (q.1 : Nat), .int .u64 (q.2 : Nat)]) (by simp [results, Try.results106, go_sem, y0, y1]) rfl ⟨rfl, hBf⟩
set_option maxHeartbeats 2000000 in
theorem sum_rest (b n : Nat) (x0 x1 x2 x3 x4 x5 x6 x7 : UInt8) (p : Nat × Nat) (w : World) (hp : Two p) (hn : n % 8 ≠ 0) (hb : b < w.heap.size)
    (hc : ∀ k v, [x0, x1, x2, x3, x4, x5, x6, x7][k]? = some v → w.cell? ⟨b, k + 2, none⟩ = some (byteV v)) (hn2 : n ≤ 1000000)
    (hW : ∀ W, Below w.heap.size w W → Calls Try.prog 125 #[.pointer (some ⟨b, 0, none⟩)] W fun e w' => e = .returned (stV p) ∧ Below W.heap.size W w')
    (hL : ∀ W, Below w.heap.size w W → Calls Try.prog 129 #[.pointer (some ⟨b, 0, none⟩)] W fun e w' => e = .returned (.int .i64 (n : Nat)) ∧ w' = W) :
    Calls Try.prog 106 #[.pointer (some ⟨b, 0, none⟩)] w fun e w' => e = .returned (stV (closedN (roundN p (wordN [x0, x1, x2, x3, x4, x5, x6, x7])) n)) ∧ Below w.heap.size w w' := by
  have hB : Below w.heap.size w (w.alloc (.cells #[.int .u64 0, .int .u64 0] 28)) := (Below.refl _ w).alloc (Nat.le_refl _) _
  have r1 := World.alloc_heap_new w (Obj.cells #[.int .u64 0, .int .u64 0] 28)
  have HC := hide (fun W => (show Calls Try.prog 130 #[.agg #[.int .u64 ((roundN p (wordN [x0, x1, x2, x3, x4, x5, x6, x7])).1 : Nat), .int .u64 ((roundN p (wordN [x0, x1, x2, x3, x4, x5, x6, x7])).2 : Nat)], .int .i64 n] W fun e w' => e = .returned (.agg #[.int .u64 ((closedN (roundN p (wordN [x0, x1, x2, x3, x4, x5, x6, x7])) n).1 : Nat), .int .u64 ((closedN (roundN p (wordN [x0, x1, x2, x3, x4, x5, x6, x7])) n).2 : Nat)]) ∧ Below W.heap.size W w' from closed_any _ n W (roundN_two _ _) hn2))
  have HWh := hide (fun W h => (show Calls Try.prog 125 #[.pointer (some ⟨b, 0, none⟩)] W fun e w' => e = .returned (.agg #[.int .u64 (p.1 : Nat), .int .u64 (p.2 : Nat)]) ∧ Below W.heap.size W w' from hW W h))
  show Calls _ _ _ _ fun e w' => e = .returned (.agg #[.int .u64 ((closedN (roundN p (wordN [x0, x1, x2, x3, x4, x5, x6, x7])) n).1 : Nat), .int .u64 ((closedN (roundN p (wordN [x0, x1, x2, x3, x4, x5, x6, x7])) n).2 : Nat)]) ∧ _
  generalize closedN (roundN p (wordN [x0, x1, x2, x3, x4, x5, x6, x7])) n = q at HC ⊢
  have HA := hide (fun (W : World) (g : Nat) (hR : RdW W W.heap.size (some ⟨g, 0, none⟩) [wordN [x0, x1, x2, x3, x4, x5, x6, x7]]) => (show Calls Try.prog 126 #[.agg #[.int .u64 (p.1 : Nat), .int .u64 (p.2 : Nat)], .func (.func 127) #[] #[], .slice (some ⟨g, 0, none⟩) 1 1] W (fun e w' => e = .returned (.agg #[.int .u64 ((roundN p (wordN [x0, x1, x2, x3, x4, x5, x6, x7])).1 : Nat), .int .u64 ((roundN p (wordN [x0, x1, x2, x3, x4, x5, x6, x7])).2 : Nat)]) ∧ Below W.heap.size W w') from along_round (some ⟨g, 0, none⟩) 1 [wordN [x0, x1, x2, x3, x4, x5, x6, x7]] p W hp (by have := wordN_small [x0, x1, x2, x3, x4, x5, x6, x7] (by simp); simpa using this) hR (by simp)))
  have HWd := hide (fun W => word_any x0 x1 x2 x3 x4 x5 x6 x7 W)
  generalize wordN [x0, x1, x2, x3, x4, x5, x6, x7] = wd at HA HWd HC
  generalize roundN p wd = p2 at HA HC
  have E0 : (((n : Int) % 8) != 0) = true := by rw [bne_iff_ne]; omega
  clear hn hW
  go_enter Try.func106, Try.ntmps106
  go_wp2_with fail
  refine (HWh.out _ hB).mono ?_
  rintro e w2 ⟨rfl, hB2⟩
  have hB3 := hB.trans (hB2.mono hB.size)
  have s1 := (hB2.block w.heap.size (Array.getElem?_eq_some_iff.1 r1).1).trans r1
  have hlt := (Array.getElem?_eq_some_iff.1 s1).1
  clear hB hB2 r1
  go_wp2_with fail
  refine (hL _ hB3).mono ?_
  rintro e w3 ⟨rfl, rfl⟩
  go_wp2_with fail
  have hB5 := hB3.alloc hB3.size (.cells #[.int .u64 (p.1 : Nat), .int .u64 (p.2 : Nat)] 152)
  have s2 : (w3.alloc (.cells #[.int .u64 (p.1 : Nat), .int .u64 (p.2 : Nat)] 152)).heap[w.heap.size]? = some (.cells #[.int .u64 0, .int .u64 0] 28 (0, 0)) := by rw [Below.heap_alloc _ _ _ hlt]; exact s1
  have t2 := World.alloc_heap_new w3 (Obj.cells #[.int .u64 (p.1 : Nat), .int .u64 (p.2 : Nat)] 152)
  have hg := hB3.size
  clear hB3 s1 hL HWh
  generalize (w3.alloc (.cells #[.int .u64 (p.1 : Nat), .int .u64 (p.2 : Nat)] 152)) = WW at hB5 s2 t2 ⊢
  generalize w3.heap.size = g at t2 hg hlt ⊢
  have HT := hide hlt
  clear hlt
  have k0 : WW.cell? ⟨b, 2, none⟩ = some (.int .u8 (x0.toNat : Nat)) := (hB5.cell (p := ⟨b, 2, none⟩) hb).trans (hc 0 x0 rfl)
  have k1 : WW.cell? ⟨b, 3, none⟩ = some (.int .u8 (x1.toNat : Nat)) := (hB5.cell (p := ⟨b, 3, none⟩) hb).trans (hc 1 x1 rfl)
  have k2 : WW.cell? ⟨b, 4, none⟩ = some (.int .u8 (x2.toNat : Nat)) := (hB5.cell (p := ⟨b, 4, none⟩) hb).trans (hc 2 x2 rfl)
  have k3 : WW.cell? ⟨b, 5, none⟩ = some (.int .u8 (x3.toNat : Nat)) := (hB5.cell (p := ⟨b, 5, none⟩) hb).trans (hc 3 x3 rfl)
  have k4 : WW.cell? ⟨b, 6, none⟩ = some (.int .u8 (x4.toNat : Nat)) := (hB5.cell (p := ⟨b, 6, none⟩) hb).trans (hc 4 x4 rfl)
  have k5 : WW.cell? ⟨b, 7, none⟩ = some (.int .u8 (x5.toNat : Nat)) := (hB5.cell (p := ⟨b, 7, none⟩) hb).trans (hc 5 x5 rfl)
  have k6 : WW.cell? ⟨b, 8, none⟩ = some (.int .u8 (x6.toNat : Nat)) := (hB5.cell (p := ⟨b, 8, none⟩) hb).trans (hc 6 x6 rfl)
  have k7 : WW.cell? ⟨b, 9, none⟩ = some (.int .u8 (x7.toNat : Nat)) := (hB5.cell (p := ⟨b, 9, none⟩) hb).trans (hc 7 x7 rfl)
  have m0 : WW.cell? ⟨g, 0, none⟩ = some (.int .u64 (p.1 : Nat)) := cell_of_row _ _ _ _ _ _ t2
  have m1 : WW.cell? ⟨g, 1, none⟩ = some (.int .u64 (p.2 : Nat)) := cell_of_row _ _ _ _ _ _ t2
  have hBq : Below w.heap.size w WW.drew := ⟨hB5.os, hB5.tape, hB5.output, hB5.size, hB5.block⟩
  go_region_with (first
    | (go_at_call 128
       refine (HWd.out _).mono ?_
       rintro e wa ⟨rfl, hBa⟩
       have m0 : wa.cell? ⟨g, 0, none⟩ = some (.int .u64 (p.1 : Nat)) := (hBa.cell (p := ⟨g, 0, none⟩) (Array.getElem?_eq_some_iff.1 t2).1).trans m0
       have m1 : wa.cell? ⟨g, 1, none⟩ = some (.int .u64 (p.2 : Nat)) := (hBa.cell (p := ⟨g, 1, none⟩) (Array.getElem?_eq_some_iff.1 t2).1).trans m1
       have n0 : (wa.alloc (.cells #[.int .u64 (wd : Nat)] 26)).cell? ⟨g, 0, none⟩ = some (.int .u64 (p.1 : Nat)) := Lib.cell?_alloc_some _ m0
       have n1 : (wa.alloc (.cells #[.int .u64 (wd : Nat)] 26)).cell? ⟨g, 1, none⟩ = some (.int .u64 (p.2 : Nat)) := Lib.cell?_alloc_some _ m1)
    | (go_at_call 126; go_loud (
       refine (HA.out _ _ (row_words (l := [wd]) (World.alloc_heap_new _ _))).mono ?_
       rintro e wb ⟨rfl, hBb⟩
       have hx1 := (((hBb.block g (Nat.lt_of_lt_of_le (Array.getElem?_eq_some_iff.1 t2).1 (Nat.le_trans hBa.size (by simp)))).trans (Below.heap_alloc _ _ _ (Nat.lt_of_lt_of_le (Array.getElem?_eq_some_iff.1 t2).1 hBa.size))).trans (hBa.block g (Array.getElem?_eq_some_iff.1 t2).1)).trans t2
       have hx2 := (((hBb.block w.heap.size (Nat.lt_of_lt_of_le (Array.getElem?_eq_some_iff.1 s2).1 (Nat.le_trans hBa.size (by simp)))).trans (Below.heap_alloc _ _ _ (Nat.lt_of_lt_of_le (Array.getElem?_eq_some_iff.1 s2).1 hBa.size))).trans (hBa.block w.heap.size (Array.getElem?_eq_some_iff.1 s2).1)).trans s2
       have hx3 := ((hBq.trans (hBa.mono hBq.size)).alloc (hBq.trans (hBa.mono hBq.size)).size (.cells #[.int .u64 (wd : Nat)] 26)).trans (hBb.mono ((hBq.trans (hBa.mono hBq.size)).alloc (hBq.trans (hBa.mono hBq.size)).size (.cells #[.int .u64 (wd : Nat)] 26)).size)
       have d0 : wb.cell? ⟨g, 0, none⟩ = some (.int .u64 (p.1 : Nat)) := cell_of_row _ _ _ _ _ _ hx1
       have d1 : wb.cell? ⟨g, 1, none⟩ = some (.int .u64 (p.2 : Nat)) := cell_of_row _ _ _ _ _ _ hx1
       have z0 : wb.frozen? ⟨g, 0, none⟩ = false := frozen_of_row _ _ _ _ _ hx1
       have z1 : wb.frozen? ⟨g, 1, none⟩ = false := frozen_of_row _ _ _ _ _ hx1
       have HY := hide (And.intro (heap_setCell_same _ g 1 _ _ (.int .u64 (p2.2 : Nat)) (heap_setCell_same wb g 0 _ _ (.int .u64 (p2.1 : Nat)) hx1)) (And.intro (show ((wb.setCell ⟨g, 0, none⟩ (.int .u64 (p2.1 : Nat))).setCell ⟨g, 1, none⟩ (.int .u64 (p2.2 : Nat))).heap[w.heap.size]? = some (.cells #[.int .u64 0, .int .u64 0] 28 (0, 0)) by
         rw [Below.heap_setCell _ _ _ _ (by have := HT.out; simp; omega), Below.heap_setCell _ _ _ _ (by have := HT.out; simp; omega)]; exact hx2) ((hx3.setCell (p := ⟨g, 0, none⟩) hg (.int .u64 (p2.1 : Nat))).setCell (p := ⟨g, 1, none⟩) hg (.int .u64 (p2.2 : Nat)))))
       clear hx1 hx2 hx3)))
  all_goals
    clear k0 k1 k2 k3 k4 k5 k6 k7 m0 m1 t2 s2 hB5 hc
    obtain ⟨t3, s2, hB5⟩ := HY.out
    clear HY d0 d1 z0 z1
    generalize ((wb.setCell ⟨g, 0, none⟩ (.int .u64 (p2.1 : Nat))).setCell ⟨g, 1, none⟩ (.int .u64 (p2.2 : Nat))) = w5 at t3 s2 hB5 ⊢
    have m0 : w5.cell? ⟨g, 0, none⟩ = some (.int .u64 (p2.1 : Nat)) := cell_of_row _ _ _ _ _ _ t3
    have m1 : w5.cell? ⟨g, 1, none⟩ = some (.int .u64 (p2.2 : Nat)) := cell_of_row _ _ _ _ _ _ t3
    go_wp2_with fail
    refine (HC.out _).mono ?_
    rintro e w6 ⟨rfl, hB6⟩
    have hB7 := hB5.trans (hB6.mono hB5.size)
    have s3 := (hB6.block w.heap.size (Array.getElem?_eq_some_iff.1 s2).1).trans s2
    clear hB5 hB6 s2
    have d0 : w6.cell? ⟨w.heap.size, 0, none⟩ = some (.int .u64 0) := cell_of_row _ _ _ _ _ _ s3
    have d1 : w6.cell? ⟨w.heap.size, 1, none⟩ = some (.int .u64 0) := cell_of_row _ _ _ _ _ _ s3
    have z0 : w6.frozen? ⟨w.heap.size, 0, none⟩ = false := frozen_of_row _ _ _ _ _ s3
    have z1 : w6.frozen? ⟨w.heap.size, 1, none⟩ = false := frozen_of_row _ _ _ _ _ s3
    have HX := hide (set_two w w6 w.heap.size _ _ (.int .u64 (q.1 : Nat)) (.int .u64 (q.2 : Nat)) _ s3 (Nat.le_refl _) hB7)
    clear s3 hB7
    go_wp2_with fail
    obtain ⟨y0, y1, hBf⟩ := HX.out
    refine bodyPost_ret (v := .agg #[.int .u64 (q.1 : Nat), .int .u64 (q.2 : Nat)]) (by simp [results, Try.results106, go_sem, y0, y1]) rfl ⟨rfl, hBf⟩

/-- The rest's bytes in a Hash. -/
theorem hash_r {w : World} {b n : Nat} {p : Nat × Nat} {r : List UInt8} {t : TypeId} (h : w.heap[b]? = some (.cells (hashRow p r n) t (0, 0))) (k : Nat) (v : UInt8) (hk : r[k]? = some v) : w.cell? ⟨b, k + 2, none⟩ = some (byteV v) := by
  rw [cell_of_row _ _ _ _ _ _ h]
  unfold hashRow
  rw [List.getElem?_toArray, List.getElem?_cons_succ, List.getElem?_cons_succ, List.getElem?_append_left (by rw [List.length_map]; exact (List.getElem?_eq_some_iff.1 hk).1), List.getElem?_map, hk]
  rfl
theorem sumL_flat (m : List UInt8) (h : m.length % 8 = 0) : closedN (atN (m.length / 8) m) m.length = sumL m := by
  unfold sumL; rw [show (m.length + 7) / 8 = m.length / 8 by omega]
theorem sumL_rest (m : List UInt8) (h : m.length % 8 ≠ 0) : closedN (roundN (atN (m.length / 8) m) (wordN (restL (m.length / 8) m))) m.length = sumL m := by
  unfold sumL; rw [show (m.length + 7) / 8 = m.length / 8 + 1 by omega, atN_succ, wordN_rest _ _ (by omega)]
theorem hashSum_any (b : Nat) (m : List UInt8) (w : World) (h : IsH w b m) (hm : m.length ≤ 1000000) :
    Calls Try.prog 106 #[.pointer (some ⟨b, 0, none⟩)] w fun e w' => e = .returned (stV (sumL m)) ∧ Below w.heap.size w w' := by
  have hb := isH_two h
  have hW : ∀ W, Below w.heap.size w W → IsH W b m := fun W hW => by
    obtain ⟨p, h1, h2, h3⟩ := h
    exact ⟨p, h1, h2, (hW.block b hb).trans h3⟩
  have hL : ∀ W, Below w.heap.size w W → Calls Try.prog 129 #[.pointer (some ⟨b, 0, none⟩)] W fun e w' => e = .returned (.int .i64 (m.length : Nat)) ∧ w' = W := fun W h2 => by
    obtain ⟨p, _, _, h3⟩ := hW W h2
    exact len_n b m.length W (hash_n (rest_ok m) h3)
  by_cases h8 : m.length % 8 = 0
  · rw [← sumL_flat m h8]
    exact sum_flat _ m.length _ w (atN_two _ _) h8 hm (fun W h2 => whole_any b m W (hW W h2)) hL
  · rw [← sumL_rest m h8]
    obtain ⟨p, _, _, h3⟩ := h
    have hr := hash_r h3
    obtain ⟨x0, x1, x2, x3, x4, x5, x6, x7, he⟩ := eight _ (rest_ok m)
    rw [he] at hr ⊢
    exact sum_rest b m.length x0 x1 x2 x3 x4 x5 x6 x7 _ w (atN_two _ _) h8 hb hr hm (fun W h2 => whole_any b m W (hW W h2)) hL
theorem hashSum_nil (w : World) :
    Calls Try.prog 106 #[.pointer none] w fun e w' => e = .returned (stV (sumL [])) ∧ Below w.heap.size w w' := by
  rw [← sumL_flat [] rfl]
  exact sum_flat none 0 startN w startN_two rfl (by decide) (fun W _ => whole_start none W fun W2 _ => len_nil W2) (fun W _ => len_nil W)
end Go.Proofs.Ytobgbheodlpclaa
/-
  clear of a Hash's rest.
-/
namespace Go.Proofs.Ytobgbheodlpclaa
open Go.RowKit
set_option maxRecDepth 100000

theorem wp_clear_run {P : Program} (w : World) {o : Oper} {a : Act} {K : Act → World → Prop} {Q : Exit → Act → World → Prop} (d : Operand) (t : TypeId)
    (ho : o.op = .call { callee := .builtin .clear, args := #[d], argTypes := #[t] }) (v : Value) (hd : a.eval d = v) {v' : Value} {w' : World}
    (hr : (Builtin.clear_ #[t] o.type #[v]).run P w = .ok v' w') (h : K (a.put o.dst v') w') : o.wp P a w K Q := by
  unfold Oper.wp execOp
  simp only [ho, resolve, invoke, builtin, Sem.run_bind, Sem.run_pure, Result.andThen_ok, List.map_toArray, List.map_cons, List.map_nil, hd, hr]
  exact h
theorem wpList_clear_run {P : Program} (w : World) {ops : Array Oper} {rest : List Oper} {o : Oper} {a : Act} {Q : Exit → Act → World → Prop} (hgd : o.guard = none) (d : Operand) (t : TypeId)
    (ho : o.op = .call { callee := .builtin .clear, args := #[d], argTypes := #[t] }) (v : Value) (hd : a.eval d = v) {v' : Value} {w' : World}
    (hr : (Builtin.clear_ #[t] o.type #[v]).run P w = .ok v' w') (h : wpList P ops Q rest (a.put o.dst v') w') : wpList P ops Q (o :: rest) a w :=
  wpList_plain hgd fun _ hK => wp_clear_run w d t ho v hd hr (hK _ _ h)

def clearW (W : World) (b : Nat) : World := W.setCells b 2 (List.replicate 8 (.int .u8 0))
set_option maxHeartbeats 1000000 in
theorem clear_any (W : World) (b n : Nat) (p : Nat × Nat) (x0 x1 x2 x3 x4 x5 x6 x7 : UInt8) (ty : TypeId) (h : W.heap[b]? = some (.cells (hashRow p [x0, x1, x2, x3, x4, x5, x6, x7] n) 155 (0, 0))) :
    (Builtin.clear_ #[22] ty #[.slice (some ⟨b, 2, none⟩) 8 8]).run Try.prog W = .ok (.tuple #[]) (clearW W b) ∧
      (clearW W b).heap[b]? = some (.cells (hashRow p (List.replicate 8 0) n) 155 (0, 0)) ∧ Below b W (clearW W b) ∧ (∀ i, i < W.heap.size → i ≠ b → (clearW W b).heap[i]? = W.heap[i]?) := by
  refine ⟨?_, ?_, ?_, ?_⟩
  · refine Lib.run_clear_slice W 22 5 ty (.int .u8 0) Try.underlying22 (fun w => Try.zeroValue5 w) rfl rfl b 2 8 8 (by decide) (fun j hj => ?_) (fun j _ => frozen_of_row _ _ _ _ _ h)
    have := hash_r h j ([x0, x1, x2, x3, x4, x5, x6, x7].getD j 0) (by
      have h8 : j < [x0, x1, x2, x3, x4, x5, x6, x7].length := hj
      rw [List.getD_eq_getElem?_getD, List.getElem?_eq_getElem h8]; rfl)
    rw [show 2 + j = j + 2 by omega, this]; rfl
  · have q2 := heap_setCell_same W b 2 _ _ (.int .u8 0) h
    have q3 := heap_setCell_same _ b 3 _ _ (.int .u8 0) q2
    have q4 := heap_setCell_same _ b 4 _ _ (.int .u8 0) q3
    have q5 := heap_setCell_same _ b 5 _ _ (.int .u8 0) q4
    have q6 := heap_setCell_same _ b 6 _ _ (.int .u8 0) q5
    have q7 := heap_setCell_same _ b 7 _ _ (.int .u8 0) q6
    have q8 := heap_setCell_same _ b 8 _ _ (.int .u8 0) q7
    have q9 := heap_setCell_same _ b 9 _ _ (.int .u8 0) q8
    simp only [hashRow, List.map_cons, List.map_nil, List.cons_append, List.nil_append, List.setIfInBounds_toArray, List.set_cons_succ, List.set_cons_zero] at q9
    exact q9
  · unfold clearW
    exact ((((((((Below.refl b W).setCell (p := ⟨b, 2, none⟩) (Nat.le_refl _) _).setCell (p := ⟨b, 3, none⟩) (Nat.le_refl _) _).setCell (p := ⟨b, 4, none⟩) (Nat.le_refl _) _).setCell (p := ⟨b, 5, none⟩) (Nat.le_refl _) _).setCell (p := ⟨b, 6, none⟩) (Nat.le_refl _) _).setCell (p := ⟨b, 7, none⟩) (Nat.le_refl _) _).setCell (p := ⟨b, 8, none⟩) (Nat.le_refl _) _).setCell (p := ⟨b, 9, none⟩) (Nat.le_refl _) _
  · intro i _ hne
    show ((((((((W.setCell ⟨b, 2, none⟩ _).setCell ⟨b, 3, none⟩ _).setCell ⟨b, 4, none⟩ _).setCell ⟨b, 5, none⟩ _).setCell ⟨b, 6, none⟩ _).setCell ⟨b, 7, none⟩ _).setCell ⟨b, 8, none⟩ _).setCell ⟨b, 9, none⟩ _).heap[i]? = _
    rw [Below.heap_setCell _ _ _ _ (by simpa using hne), Below.heap_setCell _ _ _ _ (by simpa using hne), Below.heap_setCell _ _ _ _ (by simpa using hne), Below.heap_setCell _ _ _ _ (by simpa using hne), Below.heap_setCell _ _ _ _ (by simpa using hne), Below.heap_setCell _ _ _ _ (by simpa using hne), Below.heap_setCell _ _ _ _ (by simpa using hne), Below.heap_setCell _ _ _ _ (by simpa using hne)]
end Go.Proofs.Ytobgbheodlpclaa
