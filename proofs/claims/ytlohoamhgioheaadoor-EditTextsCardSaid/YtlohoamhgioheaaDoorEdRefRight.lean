/-
  The reference's Right.
-/
import Derived.Test.YtlohoamhgioheaaDoorEdRefWord
import Derived.Test.YtlohoamhgioheaaDoorRefIn
namespace Go.Proofs.YtlohoamhgioheaaDoor
open Go.RowKit
set_option maxRecDepth 100000

/-- The reference's three tests. -/
def r1 (k : Int) (f t : ByteArray) : Bool := (wordL k).isEmpty || (hasX k 1 != !f.toList.isEmpty) || (hasX k 2 != !t.toList.isEmpty) || !rightL (toL f) || !rightL (toL t)
def r2 (k : Int) (t : ByteArray) : Bool := decide (k ≤ 5) && (t.toList == flitB.toList || !withinB (toL t) (toL flitB))
def r3 (k n : Int) : Bool := n == 0 || hasX k 4 && decide (n > 0) && decide (n ≤ 511)
theorem right_parts (k : Int) (f t : ByteArray) (n : Int) : rightE k f t n = (!r1 k f t && (!r2 k t && r3 k n)) := by
  have e1 : pathE f (hasX k 1) = (!(hasX k 1 != !f.toList.isEmpty) && rightL (toL f)) := by
    unfold pathE toL
    cases hasX k 1 <;> cases f.toList.isEmpty <;> rfl
  have e2 : pathE t (hasX k 2) = (!(hasX k 2 != !t.toList.isEmpty) && rightL (toL t)) := by
    unfold pathE toL
    cases hasX k 2 <;> cases t.toList.isEmpty <;> rfl
  have e3 : underE t = (withinB (toL t) (toL flitB) && !(t.toList == flitB.toList)) := by unfold underE; rw [okB_eq]
  have e4 : (!(!(n == 0) && !hasX k 4) && (decide (0 ≤ n) && decide (n < 512))) = r3 k n := by
    unfold r3
    by_cases h0 : n = 0
    · subst h0; simp
    · have hn : (n == 0) = false := by simpa using h0
      rw [hn]
      cases hasX k 4
      · simp
      · by_cases h1 : 0 ≤ n
        · rw [decide_eq_true h1, decide_eq_true (show n > 0 by omega)]
          by_cases h2 : n < 512
          · rw [decide_eq_true h2, decide_eq_true (show n ≤ 511 by omega)]; rfl
          · rw [decide_eq_false h2, decide_eq_false (show ¬ n ≤ 511 by omega)]; rfl
        · rw [decide_eq_false h1, decide_eq_false (show ¬ n > 0 by omega)]; rfl
  unfold rightE
  rw [e1, e2, e3, e4]
  unfold r1 r2
  cases (wordL k).isEmpty <;> cases (hasX k 1 != !f.toList.isEmpty) <;> cases (hasX k 2 != !t.toList.isEmpty) <;> cases rightL (toL f) <;> cases rightL (toL t) <;> cases decide (k ≤ 5) <;> cases withinB (toL t) (toL flitB) <;> cases (t.toList == flitB.toList) <;> rfl
theorem flit_list : flitB.toList = [46, 102, 108, 105, 116] := by rw [Lib.toList_data]
set_option maxHeartbeats 8000000 in
theorem refERight_any (k : Int) (f t : ByteArray) (n : Int) (w : World) (hf : (f.size : Int) ≤ 1000000) (ht : (t.size : Int) ≤ 1000000) :
    Calls Tryd.prog 11 #[.agg #[.int .i64 k, .string f, .string t, .int .i64 n]] w fun e w' => e = .returned (.bool (rightE k f t n)) ∧ Below w.heap.size w w' := by
  have HRP := hide (right_parts k f t n)
  have HHs := hide (fun W => refHas_any k W)
  have HWd := hide (fun W => refWord_any k W)
  have HRf := hide (fun W => refRight_any f W hf)
  have HRt := hide (fun W => refRight_any t W ht)
  have HWi := hide (fun W => refWithin_any t flitB W ht (by decide))
  obtain ⟨w1, hw1⟩ : ∃ w1, w1 = w.alloc (.cells #[.int .i64 k, .string f, .string t, .int .i64 n] 23) := ⟨_, rfl⟩
  have HB1 := hide (show Below w.heap.size w w1 by rw [hw1]; exact (Below.refl _ w).alloc (Nat.le_refl _) _)
  have hn1 : w1.heap[w.heap.size]? = some (.cells #[.int .i64 k, .string f, .string t, .int .i64 n] 23 (0, 0)) := by rw [hw1]; exact World.alloc_heap_new _ _
  have hs1 : w.heap.size < w1.heap.size := by rw [hw1]; simp
  have d0 : w1.cell? ⟨w.heap.size, 0, none⟩ = some (.int .i64 k) := cell_of_row _ _ _ _ _ _ hn1
  rw [hw1] at d0
  go_enter Tryd.func11, Tryd.ntmps11
  go_wp2_with fail
  rw [← hw1]
  clear hw1 d0
  refine (HHs.out w1).mono ?_
  rintro e w2 ⟨rfl, hb2⟩
  have HB2 := hide (HB1.out.trans (hb2.mono HB1.out.size))
  have hn2 := (hb2.block _ hs1).trans hn1
  have hs2 : w.heap.size < w2.heap.size := Nat.lt_of_lt_of_le hs1 hb2.size
  clear hb2 hn1 hs1
  obtain ⟨w3, hw3⟩ : ∃ w3, w3 = w2.alloc (.cells #[.bool (hasX k 1), .bool (hasX k 2), .bool (hasX k 4)] 49) := ⟨_, rfl⟩
  have HB3 := hide (show Below w.heap.size w w3 by rw [hw3]; exact HB2.out.alloc HB2.out.size _)
  have hn3 : w3.heap[w.heap.size]? = some (.cells #[.int .i64 k, .string f, .string t, .int .i64 n] 23 (0, 0)) := by rw [hw3]; exact (Below.heap_alloc _ _ _ hs2).trans hn2
  have hh3 : w3.heap[w2.heap.size]? = some (.cells #[.bool (hasX k 1), .bool (hasX k 2), .bool (hasX k 4)] 49 (0, 0)) := by rw [hw3]; exact World.alloc_heap_new _ _
  have hs3 : w2.heap.size < w3.heap.size := by rw [hw3]; simp
  have d0 : w3.cell? ⟨w.heap.size, 0, none⟩ = some (.int .i64 k) := cell_of_row _ _ _ _ _ _ hn3
  rw [hw3] at d0
  simp only [has3]
  go_wp2_with fail
  rw [← hw3]
  clear hw3 d0 HHs HB2 HB1 hn2
  refine (HWd.out w3).mono ?_
  rintro e w4 ⟨rfl, hb4⟩
  have HB4 := hide (HB3.out.trans (hb4.mono HB3.out.size))
  have HN4 := hide ((hb4.block _ (by omega)).trans hn3)
  have HH4 := hide ((hb4.block _ hs3).trans hh3)
  have HS4 := hide (show w.heap.size < w4.heap.size by have := hb4.size; omega)
  have HP4 := hide (show w2.heap.size < w4.heap.size by have := hb4.size; omega)
  have HPw := hide (hs2)
  clear hb4 hn3 hh3 hs3 HB3 HWd hs2
  generalize w2.heap.size = p at HH4 HP4 HPw ⊢
  have HBw4 := HB4
  have HNw4 := HN4
  have HHw4 := HH4
  have HSw4 := HS4
  have HPw4 := HP4
  clear HB4 HN4 HH4 HS4 HP4
  have d0 : w4.cell? ⟨w.heap.size, 0, none⟩ = some (.int .i64 k) := cell_of_row _ _ _ _ _ _ HNw4.out
  have d1 : w4.cell? ⟨w.heap.size, 1, none⟩ = some (.string f) := cell_of_row _ _ _ _ _ _ HNw4.out
  have d2 : w4.cell? ⟨w.heap.size, 2, none⟩ = some (.string t) := cell_of_row _ _ _ _ _ _ HNw4.out
  have d3 : w4.cell? ⟨w.heap.size, 3, none⟩ = some (.int .i64 n) := cell_of_row _ _ _ _ _ _ HNw4.out
  have h0 : w4.cell? ⟨p, 0, none⟩ = some (.bool (hasX k 1)) := cell_of_row _ _ _ _ _ _ HHw4.out
  have h1 : w4.cell? ⟨p, 1, none⟩ = some (.bool (hasX k 2)) := cell_of_row _ _ _ _ _ _ HHw4.out
  have h2 : w4.cell? ⟨p, 2, none⟩ = some (.bool (hasX k 4)) := cell_of_row _ _ _ _ _ _ HHw4.out
  cases c0 : (wordB k).toList.isEmpty with
  | true =>
    have HE := hide (show rightE k f t n = false by rw [HRP.out]; unfold r1; rw [show (wordL k).isEmpty = true by rw [← wordB_toL, ← Lib.toList_data]; exact c0]; rfl)
    go_wp2_with fail
    exact bodyPost_ret (results_tmp rfl _ _ _) rfl ⟨by rw [HE.out]; rfl, HBw4.out⟩
  | false =>
    have C0 := hide (show (wordL k).isEmpty = false by rw [← wordB_toL, ← Lib.toList_data]; exact c0)
    cases c1 : (hasX k 1 != !f.toList.isEmpty) with
    | true =>
      have q1 : hasX k 1 = f.toList.isEmpty := by revert c1; cases hasX k 1 <;> cases f.toList.isEmpty <;> simp
      have HE := hide (show rightE k f t n = false by rw [HRP.out]; unfold r1; rw [c1, Bool.or_true]; rfl)
      rw [q1] at h0
      clear c1 q1
      go_wp2_with fail
      exact bodyPost_ret (results_tmp rfl _ _ _) rfl ⟨by rw [HE.out]; rfl, HBw4.out⟩
    | false =>
      cases c2 : (hasX k 2 != !t.toList.isEmpty) with
      | true =>
        have q2 : hasX k 2 = t.toList.isEmpty := by revert c2; cases hasX k 2 <;> cases t.toList.isEmpty <;> simp
        have q1 : hasX k 1 = !f.toList.isEmpty := by revert c1; cases hasX k 1 <;> cases f.toList.isEmpty <;> simp
        have HE := hide (show rightE k f t n = false by rw [HRP.out]; unfold r1; rw [c2, Bool.or_true]; rfl)
        rw [q1] at h0
        rw [q2] at h1
        clear c1 q1 c2 q2
        go_wp2_with fail
        exact bodyPost_ret (results_tmp rfl _ _ _) rfl ⟨by rw [HE.out]; rfl, HBw4.out⟩
      | false =>
        have q2 : hasX k 2 = !t.toList.isEmpty := by revert c2; cases hasX k 2 <;> cases t.toList.isEmpty <;> simp
        have q1 : hasX k 1 = !f.toList.isEmpty := by revert c1; cases hasX k 1 <;> cases f.toList.isEmpty <;> simp
        have C1 := hide c1
        have C2 := hide c2
        rw [q1] at h0
        rw [q2] at h1
        clear c1 c2 q1 q2
        go_wp2_with fail
        refine (HRf.out w4).mono ?_
        rintro e w5 ⟨rfl, hb⟩
        have HBw5 := hide (HBw4.out.trans (hb.mono HBw4.out.size))
        have HNw5 := hide ((hb.block _ HSw4.out).trans HNw4.out)
        have HHw5 := hide ((hb.block _ HPw4.out).trans HHw4.out)
        have HSw5 := hide (Nat.lt_of_lt_of_le HSw4.out hb.size)
        have HPw5 := hide (Nat.lt_of_lt_of_le HPw4.out hb.size)
        clear hb d0 d1 d2 d3 h0 h1 h2
        have d0 : w5.cell? ⟨w.heap.size, 0, none⟩ = some (.int .i64 k) := cell_of_row _ _ _ _ _ _ HNw5.out
        have d1 : w5.cell? ⟨w.heap.size, 1, none⟩ = some (.string f) := cell_of_row _ _ _ _ _ _ HNw5.out
        have d2 : w5.cell? ⟨w.heap.size, 2, none⟩ = some (.string t) := cell_of_row _ _ _ _ _ _ HNw5.out
        have d3 : w5.cell? ⟨w.heap.size, 3, none⟩ = some (.int .i64 n) := cell_of_row _ _ _ _ _ _ HNw5.out
        have h0 : w5.cell? ⟨p, 0, none⟩ = some (.bool (hasX k 1)) := cell_of_row _ _ _ _ _ _ HHw5.out
        have h1 : w5.cell? ⟨p, 1, none⟩ = some (.bool (hasX k 2)) := cell_of_row _ _ _ _ _ _ HHw5.out
        have h2 : w5.cell? ⟨p, 2, none⟩ = some (.bool (hasX k 4)) := cell_of_row _ _ _ _ _ _ HHw5.out
        cases c3 : rightL (toL f) with
        | true =>
          go_wp2_with fail
          refine (HRt.out w5).mono ?_
          rintro e w6 ⟨rfl, hb⟩
          have HBw6 := hide (HBw5.out.trans (hb.mono HBw5.out.size))
          have HNw6 := hide ((hb.block _ HSw5.out).trans HNw5.out)
          have HHw6 := hide ((hb.block _ HPw5.out).trans HHw5.out)
          have HSw6 := hide (Nat.lt_of_lt_of_le HSw5.out hb.size)
          have HPw6 := hide (Nat.lt_of_lt_of_le HPw5.out hb.size)
          clear hb d0 d1 d2 d3 h0 h1 h2
          have d0 : w6.cell? ⟨w.heap.size, 0, none⟩ = some (.int .i64 k) := cell_of_row _ _ _ _ _ _ HNw6.out
          have d1 : w6.cell? ⟨w.heap.size, 1, none⟩ = some (.string f) := cell_of_row _ _ _ _ _ _ HNw6.out
          have d2 : w6.cell? ⟨w.heap.size, 2, none⟩ = some (.string t) := cell_of_row _ _ _ _ _ _ HNw6.out
          have d3 : w6.cell? ⟨w.heap.size, 3, none⟩ = some (.int .i64 n) := cell_of_row _ _ _ _ _ _ HNw6.out
          have h0 : w6.cell? ⟨p, 0, none⟩ = some (.bool (hasX k 1)) := cell_of_row _ _ _ _ _ _ HHw6.out
          have h1 : w6.cell? ⟨p, 1, none⟩ = some (.bool (hasX k 2)) := cell_of_row _ _ _ _ _ _ HHw6.out
          have h2 : w6.cell? ⟨p, 2, none⟩ = some (.bool (hasX k 4)) := cell_of_row _ _ _ _ _ _ HHw6.out
          cases c4 : rightL (toL t) with
          | true =>
            have HR1 := hide (show rightE k f t n = (!r2 k t && r3 k n) by rw [HRP.out]; unfold r1; rw [C0.out, C1.out, C2.out, c3, c4]; rfl)
            clear c0 C1 C2 c3 c4 C0
            by_cases k5 : k ≤ 5
            · by_cases tq : t.toList = [46, 102, 108, 105, 116]
              · have te : (t.toList == flitB.toList) = true := by rw [tq, flit_list]; rfl
                have HE := hide (show rightE k f t n = false by rw [HR1.out]; unfold r2; rw [te, decide_eq_true k5]; rfl)
                clear te
                go_wp2_with fail
                exact bodyPost_ret (results_tmp rfl _ _ _) rfl ⟨by rw [HE.out]; rfl, HBw6.out⟩
              · have te : (t.toList == flitB.toList) = false := by rw [beq_eq_false_iff_ne, flit_list]; exact tq
                have TE := hide te
                clear te
                have te2 : (t.toList == [46, 102, 108, 105, 116]) = false := by rw [beq_eq_false_iff_ne]; exact tq
                go_wp2_with fail
                refine (HWi.out w6).mono ?_
                rintro e w7 ⟨rfl, hb⟩
                have HBw7 := hide (HBw6.out.trans (hb.mono HBw6.out.size))
                have HNw7 := hide ((hb.block _ HSw6.out).trans HNw6.out)
                have HHw7 := hide ((hb.block _ HPw6.out).trans HHw6.out)
                have HSw7 := hide (Nat.lt_of_lt_of_le HSw6.out hb.size)
                have HPw7 := hide (Nat.lt_of_lt_of_le HPw6.out hb.size)
                clear hb d0 d1 d2 d3 h0 h1 h2
                have d0 : w7.cell? ⟨w.heap.size, 0, none⟩ = some (.int .i64 k) := cell_of_row _ _ _ _ _ _ HNw7.out
                have d1 : w7.cell? ⟨w.heap.size, 1, none⟩ = some (.string f) := cell_of_row _ _ _ _ _ _ HNw7.out
                have d2 : w7.cell? ⟨w.heap.size, 2, none⟩ = some (.string t) := cell_of_row _ _ _ _ _ _ HNw7.out
                have d3 : w7.cell? ⟨w.heap.size, 3, none⟩ = some (.int .i64 n) := cell_of_row _ _ _ _ _ _ HNw7.out
                have h0 : w7.cell? ⟨p, 0, none⟩ = some (.bool (hasX k 1)) := cell_of_row _ _ _ _ _ _ HHw7.out
                have h1 : w7.cell? ⟨p, 1, none⟩ = some (.bool (hasX k 2)) := cell_of_row _ _ _ _ _ _ HHw7.out
                have h2 : w7.cell? ⟨p, 2, none⟩ = some (.bool (hasX k 4)) := cell_of_row _ _ _ _ _ _ HHw7.out
                cases wi : withinB (toL t) (toL flitB) with
                | false =>
                  have HE := hide (show rightE k f t n = false by rw [HR1.out]; unfold r2; rw [TE.out, wi, decide_eq_true k5]; rfl)
                  go_wp2_with fail
                  exact bodyPost_ret (results_tmp rfl _ _ _) rfl ⟨by rw [HE.out]; rfl, HBw7.out⟩
                | true =>
                  have HR2 := hide (show rightE k f t n = r3 k n by rw [HR1.out]; unfold r2; rw [TE.out, wi, decide_eq_true k5]; rfl)
                  clear wi
                  cases n0 : (n == 0) with
                  | true =>
                    have HE := hide (show rightE k f t n = true by rw [HR2.out]; unfold r3; rw [n0]; rfl)
                    go_wp2_with fail
                    exact bodyPost_ret (results_tmp rfl _ _ _) rfl ⟨by rw [HE.out]; rfl, HBw7.out⟩
                  | false =>
                    cases x4 : hasX k 4 with
                    | false =>
                      rw [x4] at h2
                      have HE := hide (show rightE k f t n = false by rw [HR2.out]; unfold r3; rw [n0, x4]; rfl)
                      go_wp2_with fail
                      exact bodyPost_ret (results_tmp rfl _ _ _) rfl ⟨by rw [HE.out]; rfl, HBw7.out⟩
                    | true =>
                      rw [x4] at h2
                      by_cases g0 : n > 0
                      · have HE := hide (show rightE k f t n = decide (n ≤ 511) by rw [HR2.out]; unfold r3; rw [n0, x4, decide_eq_true g0]; rfl)
                        clear x4
                        go_wp2_with fail
                        exact bodyPost_ret (results_tmp rfl _ _ _) rfl ⟨by rw [HE.out]; rfl, HBw7.out⟩
                      · have HE := hide (show rightE k f t n = false by rw [HR2.out]; unfold r3; rw [n0, x4, decide_eq_false g0]; rfl)
                        clear x4
                        go_wp2_with fail
                        exact bodyPost_ret (results_tmp rfl _ _ _) rfl ⟨by rw [HE.out]; rfl, HBw7.out⟩
            · have HR2 := hide (show rightE k f t n = r3 k n by rw [HR1.out]; unfold r2; rw [decide_eq_false k5]; rfl)
              cases n0 : (n == 0) with
              | true =>
                have HE := hide (show rightE k f t n = true by rw [HR2.out]; unfold r3; rw [n0]; rfl)
                go_wp2_with fail
                exact bodyPost_ret (results_tmp rfl _ _ _) rfl ⟨by rw [HE.out]; rfl, HBw6.out⟩
              | false =>
                cases x4 : hasX k 4 with
                | false =>
                  rw [x4] at h2
                  have HE := hide (show rightE k f t n = false by rw [HR2.out]; unfold r3; rw [n0, x4]; rfl)
                  go_wp2_with fail
                  exact bodyPost_ret (results_tmp rfl _ _ _) rfl ⟨by rw [HE.out]; rfl, HBw6.out⟩
                | true =>
                  rw [x4] at h2
                  by_cases g0 : n > 0
                  · have HE := hide (show rightE k f t n = decide (n ≤ 511) by rw [HR2.out]; unfold r3; rw [n0, x4, decide_eq_true g0]; rfl)
                    clear x4
                    go_wp2_with fail
                    exact bodyPost_ret (results_tmp rfl _ _ _) rfl ⟨by rw [HE.out]; rfl, HBw6.out⟩
                  · have HE := hide (show rightE k f t n = false by rw [HR2.out]; unfold r3; rw [n0, x4, decide_eq_false g0]; rfl)
                    clear x4
                    go_wp2_with fail
                    exact bodyPost_ret (results_tmp rfl _ _ _) rfl ⟨by rw [HE.out]; rfl, HBw6.out⟩
          | false =>
            have HE := hide (show rightE k f t n = false by rw [HRP.out]; unfold r1; rw [c4, Bool.not_false, Bool.or_true]; rfl)
            go_wp2_with fail
            exact bodyPost_ret (results_tmp rfl _ _ _) rfl ⟨by rw [HE.out]; rfl, HBw6.out⟩
        | false =>
          have HE := hide (show rightE k f t n = false by rw [HRP.out]; unfold r1; rw [c3, Bool.not_false, Bool.or_true, Bool.true_or]; rfl)
          go_wp2_with fail
          exact bodyPost_ret (results_tmp rfl _ _ _) rfl ⟨by rw [HE.out]; rfl, HBw5.out⟩
end Go.Proofs.YtlohoamhgioheaaDoor
