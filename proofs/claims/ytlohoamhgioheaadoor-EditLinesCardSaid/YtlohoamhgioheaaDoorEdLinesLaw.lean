/-
  The law EditLines, walked.
-/
import Derived.Test.YtlohoamhgioheaaDoorEdRefRead
import Derived.Test.YtlohoamhgioheaaDoorAutoEdEq
namespace Go.Proofs.YtlohoamhgioheaaDoor
open Go.RowKit Go.Sort
set_option maxRecDepth 100000

theorem word_below (k : Int) (w : World) (hT : Tabs w) : Calls Tryd.prog 12 #[.int .i64 k] w fun e w' => e = .returned (.string (wordB k)) ∧ Below w.heap.size w w' :=
  (word_any k w hT).mono fun _ _ ⟨h1, h2⟩ => ⟨h1, h2 ▸ Below.refl _ _⟩
theorem line_small (k : Int) (f t : ByteArray) (n : Int) (hr : rightE k f t n = true) (hf : (f.size : Int) ≤ 200) (ht : (t.size : Int) ≤ 200) : (lineB k f t n).size ≤ 420 := by
  have e : (lineB k f t n).size = (Lib.join ((partsB k f t n).map toL) [32]).length := by
    unfold lineB; rw [if_pos hr]; show (Lib.join ((partsB k f t n).map toL) [32]).toArray.size = _; simp
  rw [e]
  have hw := word_size k
  have ho := right_okay hr
  have hi := (itoa_back ho.n0 ho.n1).2.2
  have e0 : (toL (wordB k)).length = (wordB k).size := by simp [toL]
  have e2 : toL (numB n) = Lib.itoa n := by unfold toL numB; simp
  have e3 : (toL f).length = f.size := by simp [toL]
  have e4 : (toL t).length = t.size := by simp [toL]
  simp only at hi
  unfold partsB
  generalize Lib.itoa n = I at hi e2
  cases hasX k 1 <;> cases hasX k 2 <;> cases hasX k 4 <;> simp [parts_two, parts_three, parts_four, Lib.join_one, e0, e2, e3, e4] <;> omega
theorem few_one (e : Et) : fewL [e] = fewB e := by simp [fewL]
set_option maxHeartbeats 16000000 in
theorem edLines_law (e : Et) (s : ByteArray) (w : World) (hT : Tabs w) (hE : Errs w) :
    Calls Tryd.prog 3 #[.agg e.cells, .string s] w fun e w' => e = .returned (.bool true) ∧ Below w.heap.size w w' := by
  have HT := hide hT
  have HEr := hide hE
  have HAw := hide (fun W (hb : Below w.heap.size w W) => edAwake_any W (hT.below hb))
  clear hT hE
  obtain ⟨k, f, t, n⟩ := e
  simp only [Et.cells]
  obtain ⟨w1, hw1⟩ : ∃ w1, w1 = w.alloc (.cells #[.int .i64 k, .string f, .string t, .int .i64 n] 23) := ⟨_, rfl⟩
  have HB1 := hide (show Below w.heap.size w w1 by rw [hw1]; exact (Below.refl _ w).alloc (Nat.le_refl _) _)
  have hn1 : w1.heap[w.heap.size]? = some (.cells #[.int .i64 k, .string f, .string t, .int .i64 n] 23 (0, 0)) := by rw [hw1]; exact World.alloc_heap_new _ _
  have HS1 := hide (show w.heap.size < w1.heap.size by rw [hw1]; simp)
  have HN1 := hide hn1
  obtain ⟨w2, hw2⟩ : ∃ w2, w2 = w1.alloc (.cells #[.int .i64 k, .string f, .string t, .int .i64 n] 23) := ⟨_, rfl⟩
  have HB2 := hide (show Below w.heap.size w w2 by rw [hw2]; exact HB1.out.alloc HB1.out.size _)
  have HN2 := hide (show w2.heap[w.heap.size]? = some (.cells #[.int .i64 k, .string f, .string t, .int .i64 n] 23 (0, 0)) by rw [hw2]; exact (Below.heap_alloc _ _ _ HS1.out).trans HN1.out)
  have HS2 := hide (show w.heap.size < w2.heap.size by have := HS1.out; rw [hw2]; simp; omega)
  have hp2 : w2.heap[w1.heap.size]? = some (.cells #[.int .i64 k, .string f, .string t, .int .i64 n] 23 (0, 0)) := by rw [hw2]; exact World.alloc_heap_new _ _
  have hR : RdE w2 w2.heap.size (some ⟨w1.heap.size, 0, none⟩) [⟨k, f, t, n⟩] := by
    intro j x hx
    match j, hx with
    | 0, hx =>
      injection hx with hx
      subst hx
      exact ⟨_, rfl, by rw [hw2]; simp, cell_of_row _ _ _ _ _ _ hp2, cell_of_row _ _ _ _ _ _ hp2, cell_of_row _ _ _ _ _ _ hp2, cell_of_row _ _ _ _ _ _ hp2⟩
  have hfw := few_any (some ⟨w1.heap.size, 0, none⟩) [⟨k, f, t, n⟩] 1 w2 hR
  rw [few_one] at hfw
  rw [show w1.heap.size = w.heap.size + 1 by rw [hw1]; simp] at hfw
  have HFw := hide (show Calls Tryd.prog 6 #[.slice (some ⟨w.heap.size + 1, 0, none⟩) 1 1] w2 fun e w' => e = .returned (.bool (fewB ⟨k, f, t, n⟩)) ∧ Below w2.heap.size w2 w' from hfw)
  clear hfw hR hp2
  have d0 : w1.cell? ⟨w.heap.size, 0, none⟩ = some (.int .i64 k) := cell_of_row _ _ _ _ _ _ hn1
  have d1 : w1.cell? ⟨w.heap.size, 1, none⟩ = some (.string f) := cell_of_row _ _ _ _ _ _ hn1
  have d2 : w1.cell? ⟨w.heap.size, 2, none⟩ = some (.string t) := cell_of_row _ _ _ _ _ _ hn1
  have d3 : w1.cell? ⟨w.heap.size, 3, none⟩ = some (.int .i64 n) := cell_of_row _ _ _ _ _ _ hn1
  rw [hw1] at d0 d1 d2 d3
  have Hw1 := hide hw1
  have Hw2 := hide hw2
  clear hn1 hw1 hw2
  go_enter Tryd.func3, Tryd.ntmps3
  go_wp2_with fail
  rw [← Hw1.out, ← Hw2.out]
  clear d0 d1 d2 d3
  have hfw2 : fewB ⟨k, f, t, n⟩ = true → (f.size : Int) ≤ 200 ∧ (t.size : Int) ≤ 200 := fun h => by
    unfold fewB at h
    simp only [Bool.not_eq_true', Bool.or_eq_false_iff, decide_eq_false_iff_not] at h
    omega
  refine (HFw.out).mono ?_
  rintro e w3 ⟨rfl, hb3⟩
  have HB3 := hide (HB2.out.trans (hb3.mono HB2.out.size))
  have hn3 := (hb3.block _ HS2.out).trans HN2.out
  have HN3 := hide hn3
  have HS3 := hide (Nat.lt_of_lt_of_le HS2.out hb3.size)
  clear hb3 HFw HN2 HS2 HN1 HS1 Hw1 Hw2
  cases hf : fewB ⟨k, f, t, n⟩ with
  | false =>
    clear hfw2 hn3
    go_wp2_with fail
    refine (HAw.out _ HB3.out).mono ?_
    rintro e w4 ⟨rfl, hb4⟩
    have HB4 := hide (HB3.out.trans (hb4.mono HB3.out.size))
    clear hb4
    go_wp2_with fail
    exact bodyPost_ret (results_tmp rfl _ _ _) rfl ⟨rfl, HB4.out⟩
  | true =>
    obtain ⟨hzf, hzt⟩ := hfw2 hf
    clear hfw2 hf
    by_cases hs3 : (s.size : Int) > 300
    · clear hn3
      go_wp2_with fail
      refine (HAw.out _ HB3.out).mono ?_
      rintro e w4 ⟨rfl, hb4⟩
      have HB4 := hide (HB3.out.trans (hb4.mono HB3.out.size))
      clear hb4
      go_wp2_with fail
      exact bodyPost_ret (results_tmp rfl _ _ _) rfl ⟨rfl, HB4.out⟩
    · have HL := hide (fun W (hb : Below w.heap.size w W) => line_any k f t n W (HT.out.below hb) (by omega) (by omega))
      have HRL := hide (fun W => refELine_any k f t n W (by omega) (by omega))
      have HRt := hide (fun W (hb : Below w.heap.size w W) => edRight_any k f t n W (HT.out.below hb) (by omega) (by omega))
      have HRR := hide (fun W => refERight_any k f t n W (by omega) (by omega))
      have HWd := hide (fun W (hb : Below w.heap.size w W) => word_below k W (HT.out.below hb))
      have HRW := hide (fun W => refWord_any k W)
      have HRd := hide (fun W (hb : Below w.heap.size w W) => read_any s W (by omega) (HT.out.below hb) (HEr.out.below hb))
      have HRRd := hide (fun W => refERead_any s W (by omega))
      have d0 : w3.cell? ⟨w.heap.size, 0, none⟩ = some (.int .i64 k) := cell_of_row _ _ _ _ _ _ hn3
      have d1 : w3.cell? ⟨w.heap.size, 1, none⟩ = some (.string f) := cell_of_row _ _ _ _ _ _ hn3
      have d2 : w3.cell? ⟨w.heap.size, 2, none⟩ = some (.string t) := cell_of_row _ _ _ _ _ _ hn3
      have d3 : w3.cell? ⟨w.heap.size, 3, none⟩ = some (.int .i64 n) := cell_of_row _ _ _ _ _ _ hn3
      clear hn3
      go_wp2_with fail
      refine (HL.out _ HB3.out).mono ?_
      rintro e w4 ⟨rfl, hb4⟩
      have HB4 := hide (HB3.out.trans (hb4.mono HB3.out.size))
      have hn4 := (hb4.block _ HS3.out).trans HN3.out
      have HN4 := hide hn4
      have HS4 := hide (Nat.lt_of_lt_of_le HS3.out hb4.size)
      have d0 : w4.cell? ⟨w.heap.size, 0, none⟩ = some (.int .i64 k) := cell_of_row _ _ _ _ _ _ hn4
      have d1 : w4.cell? ⟨w.heap.size, 1, none⟩ = some (.string f) := cell_of_row _ _ _ _ _ _ hn4
      have d2 : w4.cell? ⟨w.heap.size, 2, none⟩ = some (.string t) := cell_of_row _ _ _ _ _ _ hn4
      have d3 : w4.cell? ⟨w.heap.size, 3, none⟩ = some (.int .i64 n) := cell_of_row _ _ _ _ _ _ hn4
      clear hb4 hn4 HN3 HS3
      obtain ⟨LB, hLB⟩ : ∃ LB, LB = lineB k f t n := ⟨_, rfl⟩
      obtain ⟨RB, hRB⟩ : ∃ RB, RB = rightE k f t n := ⟨_, rfl⟩
      obtain ⟨WB, hWB⟩ : ∃ WB, WB = wordB k := ⟨_, rfl⟩
      rw [← hLB] at HRL ⊢
      rw [← hRB] at HRt HRR
      rw [← hWB] at HWd HRW
      have HLB := hide hLB
      have HRB := hide hRB
      clear hLB hRB hWB
      have hB := fun d os => HB4.out.trans ((below_regrown w4 d os).mono HB4.out.size)
      have q0 := fun d os => cell_regrown d0 d os
      have q1 := fun d os => cell_regrown d1 d os
      have q2 := fun d os => cell_regrown d2 d os
      have q3 := fun d os => cell_regrown d3 d os
      have c9 := hide (fun d os => Calls.regrown_of (HRL.out (Go.Sort.grow (redrawn w4 d) os)))
      have c10 := hide (fun d os => Calls.regrown_of (HRt.out (Go.Sort.grow (redrawn w4 d) os) (hB d os)))
      have c11 := hide (fun d os => Calls.regrown_of (HRR.out (Go.Sort.grow (redrawn w4 d) os)))
      have c12 := hide (fun d os => Calls.regrown_of (HWd.out (Go.Sort.grow (redrawn w4 d) os) (hB d os)))
      have c13 := hide (fun d os => Calls.regrown_of (HRW.out (Go.Sort.grow (redrawn w4 d) os)))
      clear hB d0 d1 d2 d3
      go_wp2_with fail
      refine wp_region_quiet_below (by kernel_rfl) (by kernel_rfl) ?_
      repeat (go_big_quiet_step (first | (go_at_call 9; exact c9.out _ _) | (go_at_call 10; exact c10.out _ _) | (go_at_call 11; exact c11.out _ _) | (go_at_call 12; exact c12.out _ _) | (go_at_call 13; exact c13.out _ _)))
      refine wpQuiet_nil ?_
      intro w5 hw5
      obtain ⟨⟨d9, os9⟩, rfl⟩ := hw5
      have hb := below_regrown w4 d9 os9
      generalize Go.Sort.grow (redrawn w4 d9) os9 = w5 at hb ⊢
      have HB5 := hide (HB4.out.trans (hb.mono HB4.out.size))
      have HN5 := hide ((hb.block _ HS4.out).trans HN4.out)
      have HS5 := hide (Nat.lt_of_lt_of_le HS4.out hb.size)
      clear hb
      clear q0 q1 q2 q3 c9 c10 c11 c12 c13 HRL HRt HWd HRW HL
      have d0 : w5.cell? ⟨w.heap.size, 0, none⟩ = some (.int .i64 k) := cell_of_row _ _ _ _ _ _ HN5.out
      have d1 : w5.cell? ⟨w.heap.size, 1, none⟩ = some (.string f) := cell_of_row _ _ _ _ _ _ HN5.out
      have d2 : w5.cell? ⟨w.heap.size, 2, none⟩ = some (.string t) := cell_of_row _ _ _ _ _ _ HN5.out
      have d3 : w5.cell? ⟨w.heap.size, 3, none⟩ = some (.int .i64 n) := cell_of_row _ _ _ _ _ _ HN5.out
      go_wp2_with fail
      refine (HRR.out w5).mono ?_
      rintro e w6 ⟨rfl, hb⟩
      have HB6 := hide (HB5.out.trans (hb.mono HB5.out.size))
      have HN6 := hide ((hb.block _ HS5.out).trans HN5.out)
      have HS6 := hide (Nat.lt_of_lt_of_le HS5.out hb.size)
      clear hb
      clear d0 d1 d2 d3 HRR
      cases hb0 : RB with
      | false =>
        clear hb0
        go_wp2_with fail
        refine (HRd.out _ HB6.out).mono ?_
        rintro e wa ⟨rfl, hb⟩
        have HBa := hide (HB6.out.trans (hb.mono HB6.out.size))
        clear hb
        obtain ⟨wb, hwb⟩ : ∃ W, W = wa.alloc (.cells (readT s).cells 23) := ⟨_, rfl⟩
        have HBb := hide (show Below w.heap.size w wb by rw [hwb]; exact HBa.out.alloc HBa.out.size _)
        have HXb := hide (show wb.heap[wa.heap.size]? = some (.cells (readT s).cells 23 (0, 0)) by rw [hwb]; exact World.alloc_heap_new _ _)
        have HZb := hide (show wa.heap.size < wb.heap.size by rw [hwb]; simp)
        obtain ⟨⟨rk, rf, rt, rn⟩, hrt⟩ : ∃ R, R = readT s := ⟨_, rfl⟩
        have HEq := hide (fun W => et_eql ⟨rk, rf, rt, rn⟩ W)
        rw [← hrt] at hwb HXb HRRd ⊢
        clear hrt HRd
        simp only [Et.cells] at hwb HXb HRRd HEq ⊢
        go_wp2_with fail
        rw [← hwb]
        clear hwb
        refine (HRRd.out wb).mono ?_
        rintro e wc ⟨rfl, hb⟩
        have HBc := hide (HBb.out.trans (hb.mono HBb.out.size))
        have HXc := hide ((hb.block _ HZb.out).trans HXb.out)
        have HZc := hide (Nat.lt_of_lt_of_le HZb.out hb.size)
        clear hb
        obtain ⟨wd, hwd⟩ : ∃ W, W = wc.alloc (.cells #[.int .i64 rk, .string rf, .string rt, .int .i64 rn] 23) := ⟨_, rfl⟩
        have HBd := hide (show Below w.heap.size w wd by rw [hwd]; exact HBc.out.alloc HBc.out.size _)
        have HXd := hide (show wd.heap[wa.heap.size]? = some (.cells #[.int .i64 rk, .string rf, .string rt, .int .i64 rn] 23 (0, 0)) by rw [hwd]; exact (Below.heap_alloc _ _ _ HZc.out).trans HXc.out)
        have HYd := hide (show wd.heap[wc.heap.size]? = some (.cells #[.int .i64 rk, .string rf, .string rt, .int .i64 rn] 23 (0, 0)) by rw [hwd]; exact World.alloc_heap_new _ _)
        have HZd := hide (show wa.heap.size < wd.heap.size by have := HZc.out; rw [hwd]; simp; omega)
        have HVd := hide (show wc.heap.size < wd.heap.size by rw [hwd]; simp)
        go_wp2_with fail
        rw [← hwd]
        clear hwd
        refine (HAw.out _ HBd.out).mono ?_
        rintro e we ⟨rfl, hb⟩
        have HBe := hide (HBd.out.trans (hb.mono HBd.out.size))
        have hxe := (hb.block _ HZd.out).trans HXd.out
        have hye := (hb.block _ HVd.out).trans HYd.out
        clear hb
        have x0 : we.cell? ⟨wa.heap.size, 0, none⟩ = some (.int .i64 rk) := cell_of_row _ _ _ _ _ _ hxe
        have x1 : we.cell? ⟨wa.heap.size, 1, none⟩ = some (.string rf) := cell_of_row _ _ _ _ _ _ hxe
        have x2 : we.cell? ⟨wa.heap.size, 2, none⟩ = some (.string rt) := cell_of_row _ _ _ _ _ _ hxe
        have x3 : we.cell? ⟨wa.heap.size, 3, none⟩ = some (.int .i64 rn) := cell_of_row _ _ _ _ _ _ hxe
        have v0 : we.cell? ⟨wc.heap.size, 0, none⟩ = some (.int .i64 rk) := cell_of_row _ _ _ _ _ _ hye
        have v1 : we.cell? ⟨wc.heap.size, 1, none⟩ = some (.string rf) := cell_of_row _ _ _ _ _ _ hye
        have v2 : we.cell? ⟨wc.heap.size, 2, none⟩ = some (.string rt) := cell_of_row _ _ _ _ _ _ hye
        have v3 : we.cell? ⟨wc.heap.size, 3, none⟩ = some (.int .i64 rn) := cell_of_row _ _ _ _ _ _ hye
        have heq := HEq.out
        clear hxe hye
        cases ho : okR s with
        | true =>
          have hF : readF s = 0 := by unfold readF; rw [ho]; rfl
          rw [hF]
          clear ho hF
          go_wp2_with fail
          exact bodyPost_ret (results_tmp rfl _ _ _) rfl ⟨rfl, HBe.out⟩
        | false =>
          have hF : readF s = 3 := by unfold readF; rw [ho]; rfl
          rw [hF]
          clear ho hF
          go_wp2_with fail
          exact bodyPost_ret (results_tmp rfl _ _ _) rfl ⟨rfl, HBe.out⟩
      | true =>
        have hr : rightE k f t n = true := by rw [← HRB.out]; exact hb0
        obtain ⟨ho, hrd⟩ := ok_of hr
        have hrf : readF (lineB k f t n) = 0 := by unfold readF; rw [ho]; rfl
        have hsz : (LB.size : Int) ≤ 300000 := by
          have h1 := line_small k f t n hr (by omega) (by omega)
          rw [HLB.out]; omega
        have HRdL := hide (read_any LB w6 hsz (HT.out.below HB6.out) (HEr.out.below HB6.out))
        rw [HLB.out, hrd, hrf, ← HLB.out] at HRdL
        simp only [Et.cells] at HRdL
        clear hb0 hr ho hrd hrf hsz
        go_wp2_with fail
        refine (HRdL.out).mono ?_
        rintro e w7 ⟨rfl, hb⟩
        have HB7 := hide (HB6.out.trans (hb.mono HB6.out.size))
        have HN7 := hide ((hb.block _ HS6.out).trans HN6.out)
        have HS7 := hide (Nat.lt_of_lt_of_le HS6.out hb.size)
        clear hb
        obtain ⟨w8, hw8⟩ : ∃ W, W = w7.alloc (.cells #[.int .i64 k, .string f, .string t, .int .i64 n] 23) := ⟨_, rfl⟩
        have HB8 := hide (show Below w.heap.size w w8 by rw [hw8]; exact HB7.out.alloc HB7.out.size _)
        have hn8 : w8.heap[w.heap.size]? = some (.cells #[.int .i64 k, .string f, .string t, .int .i64 n] 23 (0, 0)) := by rw [hw8]; exact (Below.heap_alloc _ _ _ HS7.out).trans HN7.out
        have hp8 : w8.heap[w7.heap.size]? = some (.cells #[.int .i64 k, .string f, .string t, .int .i64 n] 23 (0, 0)) := by rw [hw8]; exact World.alloc_heap_new _ _
        have d0 : w8.cell? ⟨w.heap.size, 0, none⟩ = some (.int .i64 k) := cell_of_row _ _ _ _ _ _ hn8
        have d1 : w8.cell? ⟨w.heap.size, 1, none⟩ = some (.string f) := cell_of_row _ _ _ _ _ _ hn8
        have d2 : w8.cell? ⟨w.heap.size, 2, none⟩ = some (.string t) := cell_of_row _ _ _ _ _ _ hn8
        have d3 : w8.cell? ⟨w.heap.size, 3, none⟩ = some (.int .i64 n) := cell_of_row _ _ _ _ _ _ hn8
        have p0 : w8.cell? ⟨w7.heap.size, 0, none⟩ = some (.int .i64 k) := cell_of_row _ _ _ _ _ _ hp8
        have p1 : w8.cell? ⟨w7.heap.size, 1, none⟩ = some (.string f) := cell_of_row _ _ _ _ _ _ hp8
        have p2 : w8.cell? ⟨w7.heap.size, 2, none⟩ = some (.string t) := cell_of_row _ _ _ _ _ _ hp8
        have p3 : w8.cell? ⟨w7.heap.size, 3, none⟩ = some (.int .i64 n) := cell_of_row _ _ _ _ _ _ hp8
        have hne := fun W => et_neq ⟨k, f, t, n⟩ W
        simp only [Et.cells] at hne
        rw [hw8] at d0 d1 d2 d3 p0 p1 p2 p3
        clear hn8 hp8
        go_wp2_with fail
        rw [← hw8]
        clear hw8 d0 d1 d2 d3 p0 p1 p2 p3 hne
        refine (HRd.out _ HB8.out).mono ?_
        rintro e wa ⟨rfl, hb⟩
        have HBa := hide (HB8.out.trans (hb.mono HB8.out.size))
        clear hb
        obtain ⟨wb, hwb⟩ : ∃ W, W = wa.alloc (.cells (readT s).cells 23) := ⟨_, rfl⟩
        have HBb := hide (show Below w.heap.size w wb by rw [hwb]; exact HBa.out.alloc HBa.out.size _)
        have HXb := hide (show wb.heap[wa.heap.size]? = some (.cells (readT s).cells 23 (0, 0)) by rw [hwb]; exact World.alloc_heap_new _ _)
        have HZb := hide (show wa.heap.size < wb.heap.size by rw [hwb]; simp)
        obtain ⟨⟨rk, rf, rt, rn⟩, hrt⟩ : ∃ R, R = readT s := ⟨_, rfl⟩
        have HEq := hide (fun W => et_eql ⟨rk, rf, rt, rn⟩ W)
        rw [← hrt] at hwb HXb HRRd ⊢
        clear hrt HRd
        simp only [Et.cells] at hwb HXb HRRd HEq ⊢
        go_wp2_with fail
        rw [← hwb]
        clear hwb
        refine (HRRd.out wb).mono ?_
        rintro e wc ⟨rfl, hb⟩
        have HBc := hide (HBb.out.trans (hb.mono HBb.out.size))
        have HXc := hide ((hb.block _ HZb.out).trans HXb.out)
        have HZc := hide (Nat.lt_of_lt_of_le HZb.out hb.size)
        clear hb
        obtain ⟨wd, hwd⟩ : ∃ W, W = wc.alloc (.cells #[.int .i64 rk, .string rf, .string rt, .int .i64 rn] 23) := ⟨_, rfl⟩
        have HBd := hide (show Below w.heap.size w wd by rw [hwd]; exact HBc.out.alloc HBc.out.size _)
        have HXd := hide (show wd.heap[wa.heap.size]? = some (.cells #[.int .i64 rk, .string rf, .string rt, .int .i64 rn] 23 (0, 0)) by rw [hwd]; exact (Below.heap_alloc _ _ _ HZc.out).trans HXc.out)
        have HYd := hide (show wd.heap[wc.heap.size]? = some (.cells #[.int .i64 rk, .string rf, .string rt, .int .i64 rn] 23 (0, 0)) by rw [hwd]; exact World.alloc_heap_new _ _)
        have HZd := hide (show wa.heap.size < wd.heap.size by have := HZc.out; rw [hwd]; simp; omega)
        have HVd := hide (show wc.heap.size < wd.heap.size by rw [hwd]; simp)
        go_wp2_with fail
        rw [← hwd]
        clear hwd
        refine (HAw.out _ HBd.out).mono ?_
        rintro e we ⟨rfl, hb⟩
        have HBe := hide (HBd.out.trans (hb.mono HBd.out.size))
        have hxe := (hb.block _ HZd.out).trans HXd.out
        have hye := (hb.block _ HVd.out).trans HYd.out
        clear hb
        have x0 : we.cell? ⟨wa.heap.size, 0, none⟩ = some (.int .i64 rk) := cell_of_row _ _ _ _ _ _ hxe
        have x1 : we.cell? ⟨wa.heap.size, 1, none⟩ = some (.string rf) := cell_of_row _ _ _ _ _ _ hxe
        have x2 : we.cell? ⟨wa.heap.size, 2, none⟩ = some (.string rt) := cell_of_row _ _ _ _ _ _ hxe
        have x3 : we.cell? ⟨wa.heap.size, 3, none⟩ = some (.int .i64 rn) := cell_of_row _ _ _ _ _ _ hxe
        have v0 : we.cell? ⟨wc.heap.size, 0, none⟩ = some (.int .i64 rk) := cell_of_row _ _ _ _ _ _ hye
        have v1 : we.cell? ⟨wc.heap.size, 1, none⟩ = some (.string rf) := cell_of_row _ _ _ _ _ _ hye
        have v2 : we.cell? ⟨wc.heap.size, 2, none⟩ = some (.string rt) := cell_of_row _ _ _ _ _ _ hye
        have v3 : we.cell? ⟨wc.heap.size, 3, none⟩ = some (.int .i64 rn) := cell_of_row _ _ _ _ _ _ hye
        have heq := HEq.out
        clear hxe hye
        cases ho : okR s with
        | true =>
          have hF : readF s = 0 := by unfold readF; rw [ho]; rfl
          rw [hF]
          clear ho hF
          go_wp2_with fail
          exact bodyPost_ret (results_tmp rfl _ _ _) rfl ⟨rfl, HBe.out⟩
        | false =>
          have hF : readF s = 3 := by unfold readF; rw [ho]; rfl
          rw [hF]
          clear ho hF
          go_wp2_with fail
          exact bodyPost_ret (results_tmp rfl _ _ _) rfl ⟨rfl, HBe.out⟩
end Go.Proofs.YtlohoamhgioheaaDoor
