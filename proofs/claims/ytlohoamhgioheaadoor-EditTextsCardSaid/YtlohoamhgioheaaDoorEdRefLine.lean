/-
  The reference's Line.
-/
import Derived.Test.YtlohoamhgioheaaDoorEdRefRight
import Derived.Test.YtlohoamhgioheaaDoorEdGuess
namespace Go.Proofs.YtlohoamhgioheaaDoor
open Go.RowKit
set_option maxRecDepth 100000

theorem index3 (a b c : Bool) (W : World) : (Instr.index 49 (.agg #[.bool a, .bool b, .bool c]) (.int .i64 0)).run Tryd.prog W = .ok (.bool a) W ∧ (Instr.index 49 (.agg #[.bool a, .bool b, .bool c]) (.int .i64 1)).run Tryd.prog W = .ok (.bool b) W ∧
    (Instr.index 49 (.agg #[.bool a, .bool b, .bool c]) (.int .i64 2)).run Tryd.prog W = .ok (.bool c) W := ⟨by kernel_rfl, by kernel_rfl, by kernel_rfl⟩
theorem word_size (k : Int) : (wordB k).size ≤ 6 := by
  have e : (wordB k).size = (wordL k).length := by rw [← wordB_toL]; simp
  rw [e]
  by_cases h : wordL k = []
  · rw [h]; simp
  · rcases kinds_cases h with rfl | rfl | rfl | rfl | rfl | rfl | rfl | rfl | rfl <;> decide
theorem line_parts {k : Int} {f t : ByteArray} {n : Int} {x : ByteArray} (hr : rightE k f t n = true) (h : toL x = Lib.join ((partsB k f t n).map toL) [32]) : lineB k f t n = x := by
  unfold lineB
  rw [hr, if_pos rfl]
  exact bytes_ext (by rw [h]; simp [toL])

set_option maxHeartbeats 8000000 in
theorem refELine_any (k : Int) (f t : ByteArray) (n : Int) (w : World) (hf : (f.size : Int) ≤ 400000) (ht : (t.size : Int) ≤ 400000) :
    Calls Tryd.prog 9 #[.agg #[.int .i64 k, .string f, .string t, .int .i64 n]] w fun e w' => e = .returned (.string (lineB k f t n)) ∧ Below w.heap.size w w' := by
  have HRt := hide (fun W => refERight_any k f t n W (by omega) (by omega))
  have HWd := hide (fun W => refWord_any k W)
  have HHs := hide (fun W => refHas_any k W)
  have hix := index3 (hasX k 1) (hasX k 2) (hasX k 4)
  have hws := word_size k
  have hwsi : ((wordB k).size : Int) ≤ 6 := by omega
  obtain ⟨w1, hw1⟩ : ∃ w1, w1 = w.alloc (.cells #[.int .i64 k, .string f, .string t, .int .i64 n] 23) := ⟨_, rfl⟩
  have HB1 := hide (show Below w.heap.size w w1 by rw [hw1]; exact (Below.refl _ w).alloc (Nat.le_refl _) _)
  have hn1 : w1.heap[w.heap.size]? = some (.cells #[.int .i64 k, .string f, .string t, .int .i64 n] 23 (0, 0)) := by rw [hw1]; exact World.alloc_heap_new _ _
  have hs1 : w.heap.size < w1.heap.size := by rw [hw1]; simp
  have HN1 := hide hn1
  have HS1 := hide hs1
  go_enter Tryd.func9, Tryd.ntmps9
  go_wp2_with fail
  rw [← hw1]
  clear hw1 hs1
  have d0 : w1.cell? ⟨w.heap.size, 0, none⟩ = some (.int .i64 k) := cell_of_row _ _ _ _ _ _ hn1
  have d1 : w1.cell? ⟨w.heap.size, 1, none⟩ = some (.string f) := cell_of_row _ _ _ _ _ _ hn1
  have d2 : w1.cell? ⟨w.heap.size, 2, none⟩ = some (.string t) := cell_of_row _ _ _ _ _ _ hn1
  have d3 : w1.cell? ⟨w.heap.size, 3, none⟩ = some (.int .i64 n) := cell_of_row _ _ _ _ _ _ hn1
  clear hn1
  go_wp2_with fail
  refine (HRt.out w1).mono ?_
  rintro e w2 ⟨rfl, hb⟩
  have HB2 := hide (HB1.out.trans (hb.mono HB1.out.size))
  have HN2 := hide ((hb.block _ HS1.out).trans HN1.out)
  have HS2 := hide (Nat.lt_of_lt_of_le HS1.out hb.size)
  clear hb d0 d1 d2 d3 HB1 HN1 HS1
  have d0 : w2.cell? ⟨w.heap.size, 0, none⟩ = some (.int .i64 k) := cell_of_row _ _ _ _ _ _ HN2.out
  have d1 : w2.cell? ⟨w.heap.size, 1, none⟩ = some (.string f) := cell_of_row _ _ _ _ _ _ HN2.out
  have d2 : w2.cell? ⟨w.heap.size, 2, none⟩ = some (.string t) := cell_of_row _ _ _ _ _ _ HN2.out
  have d3 : w2.cell? ⟨w.heap.size, 3, none⟩ = some (.int .i64 n) := cell_of_row _ _ _ _ _ _ HN2.out
  cases hr : rightE k f t n with
  | false =>
    have HE := hide (show lineB k f t n = ⟨#[]⟩ by unfold lineB; rw [hr]; rfl)
    clear hr
    go_wp2_with fail
    exact bodyPost_ret (results_tmp rfl _ _ _) rfl ⟨by rw [HE.out]; rfl, HB2.out⟩
  | true =>
    have HE := hide (fun x => line_parts (x := x) hr)
    have hn01 : 0 ≤ n ∧ n ≤ 511 := by
      unfold rightE at hr
      simp only [Bool.and_eq_true, decide_eq_true_eq] at hr
      omega
    obtain ⟨m, rfl⟩ : ∃ m : Nat, n = m := ⟨n.toNat, by omega⟩
    have HM := hide (show m ≤ 511 by omega)
    clear hr hn01
    go_wp2_with fail
    refine (HWd.out w2).mono ?_
    rintro e w3 ⟨rfl, hb⟩
    have HB3 := hide (HB2.out.trans (hb.mono HB2.out.size))
    have HN3 := hide ((hb.block _ HS2.out).trans HN2.out)
    have HS3 := hide (Nat.lt_of_lt_of_le HS2.out hb.size)
    clear hb d0 d1 d2 d3 HB2 HN2 HS2
    have d0 : w3.cell? ⟨w.heap.size, 0, none⟩ = some (.int .i64 k) := cell_of_row _ _ _ _ _ _ HN3.out
    have d1 : w3.cell? ⟨w.heap.size, 1, none⟩ = some (.string f) := cell_of_row _ _ _ _ _ _ HN3.out
    have d2 : w3.cell? ⟨w.heap.size, 2, none⟩ = some (.string t) := cell_of_row _ _ _ _ _ _ HN3.out
    have d3 : w3.cell? ⟨w.heap.size, 3, none⟩ = some (.int .i64 ((m : Nat) : Int)) := cell_of_row _ _ _ _ _ _ HN3.out
    simp only [has3] at HHs
    go_wp2_with fail
    cases hx1 : hasX k 1 with
    | false =>
      cases hx2 : hasX k 2 with
      | false =>
        cases hx4 : hasX k 4 with
        | false =>
          rw [hx1, hx2, hx4] at HHs hix
          have HXX1 := hide hx1
          have HXX2 := hide hx2
          have HXX4 := hide hx4
          clear hx1 hx2 hx4
          refine (HHs.out w3).mono ?_
          rintro e w4 ⟨rfl, hb⟩
          have HB4 := hide (HB3.out.trans (hb.mono HB3.out.size))
          have HN4 := hide ((hb.block _ HS3.out).trans HN3.out)
          have HS4 := hide (Nat.lt_of_lt_of_le HS3.out hb.size)
          clear hb d0 d1 d2 d3 HB3 HN3 HS3
          have d0 : w4.cell? ⟨w.heap.size, 0, none⟩ = some (.int .i64 k) := cell_of_row _ _ _ _ _ _ HN4.out
          have d1 : w4.cell? ⟨w.heap.size, 1, none⟩ = some (.string f) := cell_of_row _ _ _ _ _ _ HN4.out
          have d2 : w4.cell? ⟨w.heap.size, 2, none⟩ = some (.string t) := cell_of_row _ _ _ _ _ _ HN4.out
          have d3 : w4.cell? ⟨w.heap.size, 3, none⟩ = some (.int .i64 ((m : Nat) : Int)) := cell_of_row _ _ _ _ _ _ HN4.out
          go_wp2_with fail
          refine (HHs.out w4).mono ?_
          rintro e w5 ⟨rfl, hb⟩
          have HB5 := hide (HB4.out.trans (hb.mono HB4.out.size))
          have HN5 := hide ((hb.block _ HS4.out).trans HN4.out)
          have HS5 := hide (Nat.lt_of_lt_of_le HS4.out hb.size)
          clear hb d0 d1 d2 d3 HB4 HN4 HS4
          have d0 : w5.cell? ⟨w.heap.size, 0, none⟩ = some (.int .i64 k) := cell_of_row _ _ _ _ _ _ HN5.out
          have d1 : w5.cell? ⟨w.heap.size, 1, none⟩ = some (.string f) := cell_of_row _ _ _ _ _ _ HN5.out
          have d2 : w5.cell? ⟨w.heap.size, 2, none⟩ = some (.string t) := cell_of_row _ _ _ _ _ _ HN5.out
          have d3 : w5.cell? ⟨w.heap.size, 3, none⟩ = some (.int .i64 ((m : Nat) : Int)) := cell_of_row _ _ _ _ _ _ HN5.out
          go_wp2_with fail
          refine (HHs.out w5).mono ?_
          rintro e w6 ⟨rfl, hb⟩
          have HB6 := hide (HB5.out.trans (hb.mono HB5.out.size))
          have HN6 := hide ((hb.block _ HS5.out).trans HN5.out)
          have HS6 := hide (Nat.lt_of_lt_of_le HS5.out hb.size)
          clear hb d0 d1 d2 d3 HB5 HN5 HS5
          have d0 : w6.cell? ⟨w.heap.size, 0, none⟩ = some (.int .i64 k) := cell_of_row _ _ _ _ _ _ HN6.out
          have d1 : w6.cell? ⟨w.heap.size, 1, none⟩ = some (.string f) := cell_of_row _ _ _ _ _ _ HN6.out
          have d2 : w6.cell? ⟨w.heap.size, 2, none⟩ = some (.string t) := cell_of_row _ _ _ _ _ _ HN6.out
          have d3 : w6.cell? ⟨w.heap.size, 3, none⟩ = some (.int .i64 ((m : Nat) : Int)) := cell_of_row _ _ _ _ _ _ HN6.out
          have HE2 := hide (HE.out (wordB k) (by unfold partsB; rw [HXX1.out, HXX2.out, HXX4.out]; simp [Lib.join_one]; try rfl))
          go_wp2_with fail
          exact bodyPost_ret (results_tmp rfl _ _ _) rfl ⟨by rw [HE2.out]; rfl, HB6.out⟩
        | true =>
          rw [hx1, hx2, hx4] at HHs hix
          have HXX1 := hide hx1
          have HXX2 := hide hx2
          have HXX4 := hide hx4
          clear hx1 hx2 hx4
          refine (HHs.out w3).mono ?_
          rintro e w4 ⟨rfl, hb⟩
          have HB4 := hide (HB3.out.trans (hb.mono HB3.out.size))
          have HN4 := hide ((hb.block _ HS3.out).trans HN3.out)
          have HS4 := hide (Nat.lt_of_lt_of_le HS3.out hb.size)
          clear hb d0 d1 d2 d3 HB3 HN3 HS3
          have d0 : w4.cell? ⟨w.heap.size, 0, none⟩ = some (.int .i64 k) := cell_of_row _ _ _ _ _ _ HN4.out
          have d1 : w4.cell? ⟨w.heap.size, 1, none⟩ = some (.string f) := cell_of_row _ _ _ _ _ _ HN4.out
          have d2 : w4.cell? ⟨w.heap.size, 2, none⟩ = some (.string t) := cell_of_row _ _ _ _ _ _ HN4.out
          have d3 : w4.cell? ⟨w.heap.size, 3, none⟩ = some (.int .i64 ((m : Nat) : Int)) := cell_of_row _ _ _ _ _ _ HN4.out
          go_wp2_with fail
          refine (HHs.out w4).mono ?_
          rintro e w5 ⟨rfl, hb⟩
          have HB5 := hide (HB4.out.trans (hb.mono HB4.out.size))
          have HN5 := hide ((hb.block _ HS4.out).trans HN4.out)
          have HS5 := hide (Nat.lt_of_lt_of_le HS4.out hb.size)
          clear hb d0 d1 d2 d3 HB4 HN4 HS4
          have d0 : w5.cell? ⟨w.heap.size, 0, none⟩ = some (.int .i64 k) := cell_of_row _ _ _ _ _ _ HN5.out
          have d1 : w5.cell? ⟨w.heap.size, 1, none⟩ = some (.string f) := cell_of_row _ _ _ _ _ _ HN5.out
          have d2 : w5.cell? ⟨w.heap.size, 2, none⟩ = some (.string t) := cell_of_row _ _ _ _ _ _ HN5.out
          have d3 : w5.cell? ⟨w.heap.size, 3, none⟩ = some (.int .i64 ((m : Nat) : Int)) := cell_of_row _ _ _ _ _ _ HN5.out
          go_wp2_with fail
          refine (HHs.out w5).mono ?_
          rintro e w6 ⟨rfl, hb⟩
          have HB6 := hide (HB5.out.trans (hb.mono HB5.out.size))
          have HN6 := hide ((hb.block _ HS5.out).trans HN5.out)
          have HS6 := hide (Nat.lt_of_lt_of_le HS5.out hb.size)
          clear hb d0 d1 d2 d3 HB5 HN5 HS5
          have d0 : w6.cell? ⟨w.heap.size, 0, none⟩ = some (.int .i64 k) := cell_of_row _ _ _ _ _ _ HN6.out
          have d1 : w6.cell? ⟨w.heap.size, 1, none⟩ = some (.string f) := cell_of_row _ _ _ _ _ _ HN6.out
          have d2 : w6.cell? ⟨w.heap.size, 2, none⟩ = some (.string t) := cell_of_row _ _ _ _ _ _ HN6.out
          have d3 : w6.cell? ⟨w.heap.size, 3, none⟩ = some (.int .i64 ((m : Nat) : Int)) := cell_of_row _ _ _ _ _ _ HN6.out
          have HD := hide (digits_any m w6 HM.out)
          have hzm : (numB (m : Nat)).size ≤ 3 := by have := (digits_all m (by have := HM.out; omega)).2.2; show (Lib.itoa (m : Nat)).toArray.size ≤ 3; simpa using this
          go_wp2_with fail
          refine (HD.out).mono ?_
          rintro e wz ⟨rfl, rfl⟩
          have HE2 := hide (HE.out (((wordB k ++ ⟨#[32]⟩) ++ numB (m : Nat))) (by unfold partsB; rw [HXX1.out, HXX2.out, HXX4.out]; simp [toL_app, parts_two]; try rfl))
          go_wp2_with fail
          exact bodyPost_ret (results_tmp rfl _ _ _) rfl ⟨by rw [HE2.out]; rfl, HB6.out⟩
      | true =>
        cases hx4 : hasX k 4 with
        | false =>
          rw [hx1, hx2, hx4] at HHs hix
          have HXX1 := hide hx1
          have HXX2 := hide hx2
          have HXX4 := hide hx4
          clear hx1 hx2 hx4
          refine (HHs.out w3).mono ?_
          rintro e w4 ⟨rfl, hb⟩
          have HB4 := hide (HB3.out.trans (hb.mono HB3.out.size))
          have HN4 := hide ((hb.block _ HS3.out).trans HN3.out)
          have HS4 := hide (Nat.lt_of_lt_of_le HS3.out hb.size)
          clear hb d0 d1 d2 d3 HB3 HN3 HS3
          have d0 : w4.cell? ⟨w.heap.size, 0, none⟩ = some (.int .i64 k) := cell_of_row _ _ _ _ _ _ HN4.out
          have d1 : w4.cell? ⟨w.heap.size, 1, none⟩ = some (.string f) := cell_of_row _ _ _ _ _ _ HN4.out
          have d2 : w4.cell? ⟨w.heap.size, 2, none⟩ = some (.string t) := cell_of_row _ _ _ _ _ _ HN4.out
          have d3 : w4.cell? ⟨w.heap.size, 3, none⟩ = some (.int .i64 ((m : Nat) : Int)) := cell_of_row _ _ _ _ _ _ HN4.out
          go_wp2_with fail
          refine (HHs.out w4).mono ?_
          rintro e w5 ⟨rfl, hb⟩
          have HB5 := hide (HB4.out.trans (hb.mono HB4.out.size))
          have HN5 := hide ((hb.block _ HS4.out).trans HN4.out)
          have HS5 := hide (Nat.lt_of_lt_of_le HS4.out hb.size)
          clear hb d0 d1 d2 d3 HB4 HN4 HS4
          have d0 : w5.cell? ⟨w.heap.size, 0, none⟩ = some (.int .i64 k) := cell_of_row _ _ _ _ _ _ HN5.out
          have d1 : w5.cell? ⟨w.heap.size, 1, none⟩ = some (.string f) := cell_of_row _ _ _ _ _ _ HN5.out
          have d2 : w5.cell? ⟨w.heap.size, 2, none⟩ = some (.string t) := cell_of_row _ _ _ _ _ _ HN5.out
          have d3 : w5.cell? ⟨w.heap.size, 3, none⟩ = some (.int .i64 ((m : Nat) : Int)) := cell_of_row _ _ _ _ _ _ HN5.out
          go_wp2_with fail
          refine (HHs.out w5).mono ?_
          rintro e w6 ⟨rfl, hb⟩
          have HB6 := hide (HB5.out.trans (hb.mono HB5.out.size))
          have HN6 := hide ((hb.block _ HS5.out).trans HN5.out)
          have HS6 := hide (Nat.lt_of_lt_of_le HS5.out hb.size)
          clear hb d0 d1 d2 d3 HB5 HN5 HS5
          have d0 : w6.cell? ⟨w.heap.size, 0, none⟩ = some (.int .i64 k) := cell_of_row _ _ _ _ _ _ HN6.out
          have d1 : w6.cell? ⟨w.heap.size, 1, none⟩ = some (.string f) := cell_of_row _ _ _ _ _ _ HN6.out
          have d2 : w6.cell? ⟨w.heap.size, 2, none⟩ = some (.string t) := cell_of_row _ _ _ _ _ _ HN6.out
          have d3 : w6.cell? ⟨w.heap.size, 3, none⟩ = some (.int .i64 ((m : Nat) : Int)) := cell_of_row _ _ _ _ _ _ HN6.out
          have HE2 := hide (HE.out (((wordB k ++ ⟨#[32]⟩) ++ t)) (by unfold partsB; rw [HXX1.out, HXX2.out, HXX4.out]; simp [toL_app, parts_two]; try rfl))
          go_wp2_with fail
          exact bodyPost_ret (results_tmp rfl _ _ _) rfl ⟨by rw [HE2.out]; rfl, HB6.out⟩
        | true =>
          rw [hx1, hx2, hx4] at HHs hix
          have HXX1 := hide hx1
          have HXX2 := hide hx2
          have HXX4 := hide hx4
          clear hx1 hx2 hx4
          refine (HHs.out w3).mono ?_
          rintro e w4 ⟨rfl, hb⟩
          have HB4 := hide (HB3.out.trans (hb.mono HB3.out.size))
          have HN4 := hide ((hb.block _ HS3.out).trans HN3.out)
          have HS4 := hide (Nat.lt_of_lt_of_le HS3.out hb.size)
          clear hb d0 d1 d2 d3 HB3 HN3 HS3
          have d0 : w4.cell? ⟨w.heap.size, 0, none⟩ = some (.int .i64 k) := cell_of_row _ _ _ _ _ _ HN4.out
          have d1 : w4.cell? ⟨w.heap.size, 1, none⟩ = some (.string f) := cell_of_row _ _ _ _ _ _ HN4.out
          have d2 : w4.cell? ⟨w.heap.size, 2, none⟩ = some (.string t) := cell_of_row _ _ _ _ _ _ HN4.out
          have d3 : w4.cell? ⟨w.heap.size, 3, none⟩ = some (.int .i64 ((m : Nat) : Int)) := cell_of_row _ _ _ _ _ _ HN4.out
          go_wp2_with fail
          refine (HHs.out w4).mono ?_
          rintro e w5 ⟨rfl, hb⟩
          have HB5 := hide (HB4.out.trans (hb.mono HB4.out.size))
          have HN5 := hide ((hb.block _ HS4.out).trans HN4.out)
          have HS5 := hide (Nat.lt_of_lt_of_le HS4.out hb.size)
          clear hb d0 d1 d2 d3 HB4 HN4 HS4
          have d0 : w5.cell? ⟨w.heap.size, 0, none⟩ = some (.int .i64 k) := cell_of_row _ _ _ _ _ _ HN5.out
          have d1 : w5.cell? ⟨w.heap.size, 1, none⟩ = some (.string f) := cell_of_row _ _ _ _ _ _ HN5.out
          have d2 : w5.cell? ⟨w.heap.size, 2, none⟩ = some (.string t) := cell_of_row _ _ _ _ _ _ HN5.out
          have d3 : w5.cell? ⟨w.heap.size, 3, none⟩ = some (.int .i64 ((m : Nat) : Int)) := cell_of_row _ _ _ _ _ _ HN5.out
          go_wp2_with fail
          refine (HHs.out w5).mono ?_
          rintro e w6 ⟨rfl, hb⟩
          have HB6 := hide (HB5.out.trans (hb.mono HB5.out.size))
          have HN6 := hide ((hb.block _ HS5.out).trans HN5.out)
          have HS6 := hide (Nat.lt_of_lt_of_le HS5.out hb.size)
          clear hb d0 d1 d2 d3 HB5 HN5 HS5
          have d0 : w6.cell? ⟨w.heap.size, 0, none⟩ = some (.int .i64 k) := cell_of_row _ _ _ _ _ _ HN6.out
          have d1 : w6.cell? ⟨w.heap.size, 1, none⟩ = some (.string f) := cell_of_row _ _ _ _ _ _ HN6.out
          have d2 : w6.cell? ⟨w.heap.size, 2, none⟩ = some (.string t) := cell_of_row _ _ _ _ _ _ HN6.out
          have d3 : w6.cell? ⟨w.heap.size, 3, none⟩ = some (.int .i64 ((m : Nat) : Int)) := cell_of_row _ _ _ _ _ _ HN6.out
          have HD := hide (digits_any m w6 HM.out)
          have hzm : (numB (m : Nat)).size ≤ 3 := by have := (digits_all m (by have := HM.out; omega)).2.2; show (Lib.itoa (m : Nat)).toArray.size ≤ 3; simpa using this
          go_wp2_with fail
          refine (HD.out).mono ?_
          rintro e wz ⟨rfl, rfl⟩
          have HE2 := hide (HE.out (((((wordB k ++ ⟨#[32]⟩) ++ t) ++ ⟨#[32]⟩) ++ numB (m : Nat))) (by unfold partsB; rw [HXX1.out, HXX2.out, HXX4.out]; simp [toL_app, parts_three]; try rfl))
          go_wp2_with fail
          exact bodyPost_ret (results_tmp rfl _ _ _) rfl ⟨by rw [HE2.out]; rfl, HB6.out⟩
    | true =>
      cases hx2 : hasX k 2 with
      | false =>
        cases hx4 : hasX k 4 with
        | false =>
          rw [hx1, hx2, hx4] at HHs hix
          have HXX1 := hide hx1
          have HXX2 := hide hx2
          have HXX4 := hide hx4
          clear hx1 hx2 hx4
          refine (HHs.out w3).mono ?_
          rintro e w4 ⟨rfl, hb⟩
          have HB4 := hide (HB3.out.trans (hb.mono HB3.out.size))
          have HN4 := hide ((hb.block _ HS3.out).trans HN3.out)
          have HS4 := hide (Nat.lt_of_lt_of_le HS3.out hb.size)
          clear hb d0 d1 d2 d3 HB3 HN3 HS3
          have d0 : w4.cell? ⟨w.heap.size, 0, none⟩ = some (.int .i64 k) := cell_of_row _ _ _ _ _ _ HN4.out
          have d1 : w4.cell? ⟨w.heap.size, 1, none⟩ = some (.string f) := cell_of_row _ _ _ _ _ _ HN4.out
          have d2 : w4.cell? ⟨w.heap.size, 2, none⟩ = some (.string t) := cell_of_row _ _ _ _ _ _ HN4.out
          have d3 : w4.cell? ⟨w.heap.size, 3, none⟩ = some (.int .i64 ((m : Nat) : Int)) := cell_of_row _ _ _ _ _ _ HN4.out
          go_wp2_with fail
          refine (HHs.out w4).mono ?_
          rintro e w5 ⟨rfl, hb⟩
          have HB5 := hide (HB4.out.trans (hb.mono HB4.out.size))
          have HN5 := hide ((hb.block _ HS4.out).trans HN4.out)
          have HS5 := hide (Nat.lt_of_lt_of_le HS4.out hb.size)
          clear hb d0 d1 d2 d3 HB4 HN4 HS4
          have d0 : w5.cell? ⟨w.heap.size, 0, none⟩ = some (.int .i64 k) := cell_of_row _ _ _ _ _ _ HN5.out
          have d1 : w5.cell? ⟨w.heap.size, 1, none⟩ = some (.string f) := cell_of_row _ _ _ _ _ _ HN5.out
          have d2 : w5.cell? ⟨w.heap.size, 2, none⟩ = some (.string t) := cell_of_row _ _ _ _ _ _ HN5.out
          have d3 : w5.cell? ⟨w.heap.size, 3, none⟩ = some (.int .i64 ((m : Nat) : Int)) := cell_of_row _ _ _ _ _ _ HN5.out
          go_wp2_with fail
          refine (HHs.out w5).mono ?_
          rintro e w6 ⟨rfl, hb⟩
          have HB6 := hide (HB5.out.trans (hb.mono HB5.out.size))
          have HN6 := hide ((hb.block _ HS5.out).trans HN5.out)
          have HS6 := hide (Nat.lt_of_lt_of_le HS5.out hb.size)
          clear hb d0 d1 d2 d3 HB5 HN5 HS5
          have d0 : w6.cell? ⟨w.heap.size, 0, none⟩ = some (.int .i64 k) := cell_of_row _ _ _ _ _ _ HN6.out
          have d1 : w6.cell? ⟨w.heap.size, 1, none⟩ = some (.string f) := cell_of_row _ _ _ _ _ _ HN6.out
          have d2 : w6.cell? ⟨w.heap.size, 2, none⟩ = some (.string t) := cell_of_row _ _ _ _ _ _ HN6.out
          have d3 : w6.cell? ⟨w.heap.size, 3, none⟩ = some (.int .i64 ((m : Nat) : Int)) := cell_of_row _ _ _ _ _ _ HN6.out
          have HE2 := hide (HE.out (((wordB k ++ ⟨#[32]⟩) ++ f)) (by unfold partsB; rw [HXX1.out, HXX2.out, HXX4.out]; simp [toL_app, parts_two]; try rfl))
          go_wp2_with fail
          exact bodyPost_ret (results_tmp rfl _ _ _) rfl ⟨by rw [HE2.out]; rfl, HB6.out⟩
        | true =>
          rw [hx1, hx2, hx4] at HHs hix
          have HXX1 := hide hx1
          have HXX2 := hide hx2
          have HXX4 := hide hx4
          clear hx1 hx2 hx4
          refine (HHs.out w3).mono ?_
          rintro e w4 ⟨rfl, hb⟩
          have HB4 := hide (HB3.out.trans (hb.mono HB3.out.size))
          have HN4 := hide ((hb.block _ HS3.out).trans HN3.out)
          have HS4 := hide (Nat.lt_of_lt_of_le HS3.out hb.size)
          clear hb d0 d1 d2 d3 HB3 HN3 HS3
          have d0 : w4.cell? ⟨w.heap.size, 0, none⟩ = some (.int .i64 k) := cell_of_row _ _ _ _ _ _ HN4.out
          have d1 : w4.cell? ⟨w.heap.size, 1, none⟩ = some (.string f) := cell_of_row _ _ _ _ _ _ HN4.out
          have d2 : w4.cell? ⟨w.heap.size, 2, none⟩ = some (.string t) := cell_of_row _ _ _ _ _ _ HN4.out
          have d3 : w4.cell? ⟨w.heap.size, 3, none⟩ = some (.int .i64 ((m : Nat) : Int)) := cell_of_row _ _ _ _ _ _ HN4.out
          go_wp2_with fail
          refine (HHs.out w4).mono ?_
          rintro e w5 ⟨rfl, hb⟩
          have HB5 := hide (HB4.out.trans (hb.mono HB4.out.size))
          have HN5 := hide ((hb.block _ HS4.out).trans HN4.out)
          have HS5 := hide (Nat.lt_of_lt_of_le HS4.out hb.size)
          clear hb d0 d1 d2 d3 HB4 HN4 HS4
          have d0 : w5.cell? ⟨w.heap.size, 0, none⟩ = some (.int .i64 k) := cell_of_row _ _ _ _ _ _ HN5.out
          have d1 : w5.cell? ⟨w.heap.size, 1, none⟩ = some (.string f) := cell_of_row _ _ _ _ _ _ HN5.out
          have d2 : w5.cell? ⟨w.heap.size, 2, none⟩ = some (.string t) := cell_of_row _ _ _ _ _ _ HN5.out
          have d3 : w5.cell? ⟨w.heap.size, 3, none⟩ = some (.int .i64 ((m : Nat) : Int)) := cell_of_row _ _ _ _ _ _ HN5.out
          go_wp2_with fail
          refine (HHs.out w5).mono ?_
          rintro e w6 ⟨rfl, hb⟩
          have HB6 := hide (HB5.out.trans (hb.mono HB5.out.size))
          have HN6 := hide ((hb.block _ HS5.out).trans HN5.out)
          have HS6 := hide (Nat.lt_of_lt_of_le HS5.out hb.size)
          clear hb d0 d1 d2 d3 HB5 HN5 HS5
          have d0 : w6.cell? ⟨w.heap.size, 0, none⟩ = some (.int .i64 k) := cell_of_row _ _ _ _ _ _ HN6.out
          have d1 : w6.cell? ⟨w.heap.size, 1, none⟩ = some (.string f) := cell_of_row _ _ _ _ _ _ HN6.out
          have d2 : w6.cell? ⟨w.heap.size, 2, none⟩ = some (.string t) := cell_of_row _ _ _ _ _ _ HN6.out
          have d3 : w6.cell? ⟨w.heap.size, 3, none⟩ = some (.int .i64 ((m : Nat) : Int)) := cell_of_row _ _ _ _ _ _ HN6.out
          have HD := hide (digits_any m w6 HM.out)
          have hzm : (numB (m : Nat)).size ≤ 3 := by have := (digits_all m (by have := HM.out; omega)).2.2; show (Lib.itoa (m : Nat)).toArray.size ≤ 3; simpa using this
          go_wp2_with fail
          refine (HD.out).mono ?_
          rintro e wz ⟨rfl, rfl⟩
          have HE2 := hide (HE.out (((((wordB k ++ ⟨#[32]⟩) ++ f) ++ ⟨#[32]⟩) ++ numB (m : Nat))) (by unfold partsB; rw [HXX1.out, HXX2.out, HXX4.out]; simp [toL_app, parts_three]; try rfl))
          go_wp2_with fail
          exact bodyPost_ret (results_tmp rfl _ _ _) rfl ⟨by rw [HE2.out]; rfl, HB6.out⟩
      | true =>
        cases hx4 : hasX k 4 with
        | false =>
          rw [hx1, hx2, hx4] at HHs hix
          have HXX1 := hide hx1
          have HXX2 := hide hx2
          have HXX4 := hide hx4
          clear hx1 hx2 hx4
          refine (HHs.out w3).mono ?_
          rintro e w4 ⟨rfl, hb⟩
          have HB4 := hide (HB3.out.trans (hb.mono HB3.out.size))
          have HN4 := hide ((hb.block _ HS3.out).trans HN3.out)
          have HS4 := hide (Nat.lt_of_lt_of_le HS3.out hb.size)
          clear hb d0 d1 d2 d3 HB3 HN3 HS3
          have d0 : w4.cell? ⟨w.heap.size, 0, none⟩ = some (.int .i64 k) := cell_of_row _ _ _ _ _ _ HN4.out
          have d1 : w4.cell? ⟨w.heap.size, 1, none⟩ = some (.string f) := cell_of_row _ _ _ _ _ _ HN4.out
          have d2 : w4.cell? ⟨w.heap.size, 2, none⟩ = some (.string t) := cell_of_row _ _ _ _ _ _ HN4.out
          have d3 : w4.cell? ⟨w.heap.size, 3, none⟩ = some (.int .i64 ((m : Nat) : Int)) := cell_of_row _ _ _ _ _ _ HN4.out
          go_wp2_with fail
          refine (HHs.out w4).mono ?_
          rintro e w5 ⟨rfl, hb⟩
          have HB5 := hide (HB4.out.trans (hb.mono HB4.out.size))
          have HN5 := hide ((hb.block _ HS4.out).trans HN4.out)
          have HS5 := hide (Nat.lt_of_lt_of_le HS4.out hb.size)
          clear hb d0 d1 d2 d3 HB4 HN4 HS4
          have d0 : w5.cell? ⟨w.heap.size, 0, none⟩ = some (.int .i64 k) := cell_of_row _ _ _ _ _ _ HN5.out
          have d1 : w5.cell? ⟨w.heap.size, 1, none⟩ = some (.string f) := cell_of_row _ _ _ _ _ _ HN5.out
          have d2 : w5.cell? ⟨w.heap.size, 2, none⟩ = some (.string t) := cell_of_row _ _ _ _ _ _ HN5.out
          have d3 : w5.cell? ⟨w.heap.size, 3, none⟩ = some (.int .i64 ((m : Nat) : Int)) := cell_of_row _ _ _ _ _ _ HN5.out
          go_wp2_with fail
          refine (HHs.out w5).mono ?_
          rintro e w6 ⟨rfl, hb⟩
          have HB6 := hide (HB5.out.trans (hb.mono HB5.out.size))
          have HN6 := hide ((hb.block _ HS5.out).trans HN5.out)
          have HS6 := hide (Nat.lt_of_lt_of_le HS5.out hb.size)
          clear hb d0 d1 d2 d3 HB5 HN5 HS5
          have d0 : w6.cell? ⟨w.heap.size, 0, none⟩ = some (.int .i64 k) := cell_of_row _ _ _ _ _ _ HN6.out
          have d1 : w6.cell? ⟨w.heap.size, 1, none⟩ = some (.string f) := cell_of_row _ _ _ _ _ _ HN6.out
          have d2 : w6.cell? ⟨w.heap.size, 2, none⟩ = some (.string t) := cell_of_row _ _ _ _ _ _ HN6.out
          have d3 : w6.cell? ⟨w.heap.size, 3, none⟩ = some (.int .i64 ((m : Nat) : Int)) := cell_of_row _ _ _ _ _ _ HN6.out
          have HE2 := hide (HE.out (((((wordB k ++ ⟨#[32]⟩) ++ f) ++ ⟨#[32]⟩) ++ t)) (by unfold partsB; rw [HXX1.out, HXX2.out, HXX4.out]; simp [toL_app, parts_three]; try rfl))
          go_wp2_with fail
          exact bodyPost_ret (results_tmp rfl _ _ _) rfl ⟨by rw [HE2.out]; rfl, HB6.out⟩
        | true =>
          rw [hx1, hx2, hx4] at HHs hix
          have HXX1 := hide hx1
          have HXX2 := hide hx2
          have HXX4 := hide hx4
          clear hx1 hx2 hx4
          refine (HHs.out w3).mono ?_
          rintro e w4 ⟨rfl, hb⟩
          have HB4 := hide (HB3.out.trans (hb.mono HB3.out.size))
          have HN4 := hide ((hb.block _ HS3.out).trans HN3.out)
          have HS4 := hide (Nat.lt_of_lt_of_le HS3.out hb.size)
          clear hb d0 d1 d2 d3 HB3 HN3 HS3
          have d0 : w4.cell? ⟨w.heap.size, 0, none⟩ = some (.int .i64 k) := cell_of_row _ _ _ _ _ _ HN4.out
          have d1 : w4.cell? ⟨w.heap.size, 1, none⟩ = some (.string f) := cell_of_row _ _ _ _ _ _ HN4.out
          have d2 : w4.cell? ⟨w.heap.size, 2, none⟩ = some (.string t) := cell_of_row _ _ _ _ _ _ HN4.out
          have d3 : w4.cell? ⟨w.heap.size, 3, none⟩ = some (.int .i64 ((m : Nat) : Int)) := cell_of_row _ _ _ _ _ _ HN4.out
          go_wp2_with fail
          refine (HHs.out w4).mono ?_
          rintro e w5 ⟨rfl, hb⟩
          have HB5 := hide (HB4.out.trans (hb.mono HB4.out.size))
          have HN5 := hide ((hb.block _ HS4.out).trans HN4.out)
          have HS5 := hide (Nat.lt_of_lt_of_le HS4.out hb.size)
          clear hb d0 d1 d2 d3 HB4 HN4 HS4
          have d0 : w5.cell? ⟨w.heap.size, 0, none⟩ = some (.int .i64 k) := cell_of_row _ _ _ _ _ _ HN5.out
          have d1 : w5.cell? ⟨w.heap.size, 1, none⟩ = some (.string f) := cell_of_row _ _ _ _ _ _ HN5.out
          have d2 : w5.cell? ⟨w.heap.size, 2, none⟩ = some (.string t) := cell_of_row _ _ _ _ _ _ HN5.out
          have d3 : w5.cell? ⟨w.heap.size, 3, none⟩ = some (.int .i64 ((m : Nat) : Int)) := cell_of_row _ _ _ _ _ _ HN5.out
          go_wp2_with fail
          refine (HHs.out w5).mono ?_
          rintro e w6 ⟨rfl, hb⟩
          have HB6 := hide (HB5.out.trans (hb.mono HB5.out.size))
          have HN6 := hide ((hb.block _ HS5.out).trans HN5.out)
          have HS6 := hide (Nat.lt_of_lt_of_le HS5.out hb.size)
          clear hb d0 d1 d2 d3 HB5 HN5 HS5
          have d0 : w6.cell? ⟨w.heap.size, 0, none⟩ = some (.int .i64 k) := cell_of_row _ _ _ _ _ _ HN6.out
          have d1 : w6.cell? ⟨w.heap.size, 1, none⟩ = some (.string f) := cell_of_row _ _ _ _ _ _ HN6.out
          have d2 : w6.cell? ⟨w.heap.size, 2, none⟩ = some (.string t) := cell_of_row _ _ _ _ _ _ HN6.out
          have d3 : w6.cell? ⟨w.heap.size, 3, none⟩ = some (.int .i64 ((m : Nat) : Int)) := cell_of_row _ _ _ _ _ _ HN6.out
          have HD := hide (digits_any m w6 HM.out)
          have hzm : (numB (m : Nat)).size ≤ 3 := by have := (digits_all m (by have := HM.out; omega)).2.2; show (Lib.itoa (m : Nat)).toArray.size ≤ 3; simpa using this
          go_wp2_with fail
          refine (HD.out).mono ?_
          rintro e wz ⟨rfl, rfl⟩
          have HE2 := hide (HE.out (((((((wordB k ++ ⟨#[32]⟩) ++ f) ++ ⟨#[32]⟩) ++ t) ++ ⟨#[32]⟩) ++ numB (m : Nat))) (by unfold partsB; rw [HXX1.out, HXX2.out, HXX4.out]; simp [toL_app, parts_four]; try rfl))
          go_wp2_with fail
          exact bodyPost_ret (results_tmp rfl _ _ _) rfl ⟨by rw [HE2.out]; rfl, HB6.out⟩
end Go.Proofs.YtlohoamhgioheaaDoor
