/-
  edit.path, edit.Right.
-/
import Derived.Test.YtlohoamhgioheaaDoorEdTab
import Derived.Test.YtlohoamhgioheaaDoorAutoPathUnder
import Derived.Test.YtlohoamhgioheaaDoorSuf
import Derived.Lib.QuietBelow
namespace Go.Proofs.YtlohoamhgioheaaDoor
open Go.RowKit Go.Sort
set_option maxRecDepth 100000

/-- May a text stand where a path is had, or isn't? -/
def pathE (p : ByteArray) (b : Bool) : Bool := ((!p.toList.isEmpty) == b) && rightL p.data.toList
set_option maxHeartbeats 1000000 in
theorem path_any (p : ByteArray) (b : Bool) (w : World) (hp : (p.size : Int) ≤ 1000000) :
    Calls Tryd.prog 26 #[.string p, .bool b] w fun e w' => e = .returned (.bool (pathE p b)) ∧ Below w.heap.size w w' := by
  have HR := hide (right_any p w (by omega))
  cases hc : ((!p.toList.isEmpty) == b) with
  | false =>
    have HE := hide (show pathE p b = false by unfold pathE; rw [hc]; rfl)
    go_enter Tryd.func26, Tryd.ntmps26
    go_wp2_with fail
    exact bodyPost_ret (results_tmp rfl _ _ _) rfl ⟨by rw [HE.out]; rfl, Below.refl _ _⟩
  | true =>
    have HE := hide (show pathE p b = rightL p.data.toList by unfold pathE; rw [hc]; rfl)
    go_enter Tryd.func26, Tryd.ntmps26
    go_wp2_with fail
    refine (HR.out).mono ?_
    rintro e w1 ⟨rfl, hb⟩
    go_wp2_with fail
    exact bodyPost_ret (results_tmp rfl _ _ _) rfl ⟨by rw [HE.out]; rfl, hb⟩

/-- The reserved directory. -/
abbrev flitB : ByteArray := ⟨#[46, 102, 108, 105, 116]⟩
def underE (t : ByteArray) : Bool := okB t flitB && !(t.toList == flitB.toList)
/-- Is an edit right? -/
def rightE (k : Int) (f t : ByteArray) (n : Int) : Bool :=
  !(wordL k).isEmpty && (pathE f (hasX k 1) && (pathE t (hasX k 2) && (!(decide (k ≤ 5) && !underE t) && (!(!(n == 0) && !hasX k 4) && (decide (0 ≤ n) && decide (n < 512))))))

theorem has_below (k b : Int) (w : World) (hT : Tabs w) (hb : b = 1 ∨ b = 2 ∨ b = 4) :
    Calls Tryd.prog 21 #[.int .i64 k, .int .i64 b] w fun e w' => e = .returned (.bool (hasX k b)) ∧ Below w.heap.size w w' :=
  (has_any k b w hT hb).mono fun _ _ ⟨h1, h2⟩ => ⟨h1, h2 ▸ Below.refl _ _⟩
set_option maxHeartbeats 4000000 in
theorem edRight_any (k : Int) (f t : ByteArray) (n : Int) (w : World) (hT : Tabs w) (hf : (f.size : Int) ≤ 1000000) (ht : (t.size : Int) ≤ 1000000) :
    Calls Tryd.prog 10 #[.agg #[.int .i64 k, .string f, .string t, .int .i64 n]] w fun e w' => e = .returned (.bool (rightE k f t n)) ∧ Below w.heap.size w w' := by
  have HT := hide hT
  have HW := hide (fun W (hb : Below w.heap.size w W) => word_any k W (HT.out.below hb))
  have HX := hide (fun W (hb : Below w.heap.size w W) b hb' => has_below k b W (HT.out.below hb) hb')
  have HP := hide (fun p b W (hp : (p.size : Int) ≤ 1000000) => path_any p b W hp)
  have HU := hide (show ∀ W, Calls Tryd.prog 27 #[.string t, .string flitB] W fun e w' => e = .returned (.bool (underE t)) ∧ Below W.heap.size W w' from fun W => under_any t flitB W (by omega) (by decide))
  clear hT
  cases hw : (wordL k).isEmpty with
  | true =>
    have HE := hide (show rightE k f t n = false by unfold rightE; rw [hw]; rfl)
    have HB := hide (show wordB k = ⟨#[]⟩ by unfold wordB; rw [List.isEmpty_iff.1 hw])
    clear hw
    go_enter Tryd.func10, Tryd.ntmps10
    go_wp2_with fail
    refine (HW.out _ ((Below.refl _ _).alloc (Nat.le_refl _) _)).mono ?_
    rintro e w1 ⟨rfl, rfl⟩
    rw [HB.out]
    go_wp2_with fail
    exact bodyPost_ret (results_tmp rfl _ _ _) rfl ⟨by rw [HE.out]; rfl, (Below.refl _ _).alloc (Nat.le_refl _) _⟩
  | false =>
    have hne : (wordB k).toList.isEmpty = false := by rw [Lib.toList_data, wordB_toL]; exact hw
    have HE0 := hide (show rightE k f t n = (pathE f (hasX k 1) && (pathE t (hasX k 2) && (!(decide (k ≤ 5) && !underE t) && (!(!(n == 0) && !hasX k 4) && (decide (0 ≤ n) && decide (n < 512)))))) by unfold rightE; rw [hw]; rfl)
    clear hw
    generalize wordB k = WB at hne HW
    go_enter Tryd.func10, Tryd.ntmps10
    go_wp2_with fail
    obtain ⟨w1, hw1⟩ : ∃ w1, w1 = w.alloc (.cells #[.int .i64 k, .string f, .string t, .int .i64 n] 23) := ⟨_, rfl⟩
    have hb1 : Below w.heap.size w w1 := by rw [hw1]; exact (Below.refl _ _).alloc (Nat.le_refl _) _
    have hn : w1.heap[w.heap.size]? = some (.cells #[.int .i64 k, .string f, .string t, .int .i64 n] 23 (0, 0)) := by rw [hw1]; exact World.alloc_heap_new _ _
    rw [← hw1]
    have d0 : w1.cell? ⟨w.heap.size, 0, none⟩ = some (.int .i64 k) := cell_of_row _ _ _ _ _ _ hn
    have d1 : w1.cell? ⟨w.heap.size, 1, none⟩ = some (.string f) := cell_of_row _ _ _ _ _ _ hn
    have d2 : w1.cell? ⟨w.heap.size, 2, none⟩ = some (.string t) := cell_of_row _ _ _ _ _ _ hn
    have d3 : w1.cell? ⟨w.heap.size, 3, none⟩ = some (.int .i64 n) := cell_of_row _ _ _ _ _ _ hn
    have HW1 := hide hw1
    have hz1 : w.heap.size < w1.heap.size := by rw [hw1]; simp
    clear hw1 hn
    go_wp2_with fail
    refine (HW.out _ hb1).mono ?_
    rintro e w2 ⟨rfl, rfl⟩
    go_wp2_with fail
    have q0 := fun d os => cell_regrown d0 d os
    have q1 := fun d os => cell_regrown d1 d os
    have q2 := fun d os => cell_regrown d2 d os
    have HB1 := hide hb1
    have hx := fun b hb d os => Calls.regrown_of (HX.out (Go.Sort.grow (redrawn w2 d) os) (HB1.out.trans ((below_regrown w2 d os).mono HB1.out.size)) b hb)
    have hp := fun p b hp d os => Calls.regrown_of (HP.out p b (Go.Sort.grow (redrawn w2 d) os) hp)
    have hor1 : (1 : Int) = 1 ∨ (1 : Int) = 2 ∨ (1 : Int) = 4 := .inl rfl
    have hor2 : (2 : Int) = 1 ∨ (2 : Int) = 2 ∨ (2 : Int) = 4 := .inr (.inl rfl)
    have HHX := hide hx
    have HHP := hide hp
    have HOR1 := hide hor1
    have HOR2 := hide hor2
    clear hx hp hor1 hor2
    clear hb1
    cases hpf : pathE f (hasX k 1) with
    | false =>
      have HE := hide (show rightE k f t n = false by rw [HE0.out, hpf]; rfl)
      refine wp_region_quiet_below (by kernel_rfl) (by kernel_rfl) ?_
      repeat (go_big_quiet_step (first | (go_at_call 21; exact HHX.out _ (by first | exact HOR1.out | exact HOR2.out) _ _) | (go_at_call 26; exact HHP.out _ _ (by assumption) _ _)))
      refine wpQuiet_nil ?_
      intro w13 hw13
      obtain ⟨⟨d9, os9⟩, rfl⟩ := hw13
      have hb13 := hide (HB1.out.trans ((below_regrown w2 d9 os9).mono HB1.out.size))
      go_wp2_with fail
      exact bodyPost_ret (results_tmp rfl _ _ _) rfl ⟨by rw [HE.out]; rfl, hb13.out⟩
    | true =>
      have HE1 := hide (show rightE k f t n = (pathE t (hasX k 2) && (!(decide (k ≤ 5) && !underE t) && (!(!(n == 0) && !hasX k 4) && (decide (0 ≤ n) && decide (n < 512))))) by rw [HE0.out, hpf]; rfl)
      cases hpt : pathE t (hasX k 2) with
      | false =>
        have HE := hide (show rightE k f t n = false by rw [HE1.out, hpt]; rfl)
        refine wp_region_quiet_below (by kernel_rfl) (by kernel_rfl) ?_
        repeat (go_big_quiet_step (first | (go_at_call 21; exact HHX.out _ (by first | exact HOR1.out | exact HOR2.out) _ _) | (go_at_call 26; exact HHP.out _ _ (by assumption) _ _)))
        refine wpQuiet_nil ?_
        intro w13 hw13
        obtain ⟨⟨d9, os9⟩, rfl⟩ := hw13
        have hb13 := hide (HB1.out.trans ((below_regrown w2 d9 os9).mono HB1.out.size))
        go_wp2_with fail
        exact bodyPost_ret (results_tmp rfl _ _ _) rfl ⟨by rw [HE.out]; rfl, hb13.out⟩
      | true =>
        have HE2 := hide (show rightE k f t n = (!(decide (k ≤ 5) && !underE t) && (!(!(n == 0) && !hasX k 4) && (decide (0 ≤ n) && decide (n < 512)))) by rw [HE1.out, hpt]; rfl)
        have q3 := fun d os => cell_regrown d3 d os
        refine wp_region_quiet_below (by kernel_rfl) (by kernel_rfl) ?_
        repeat (go_big_quiet_step (first | (go_at_call 21; exact HHX.out _ (by first | exact HOR1.out | exact HOR2.out) _ _) | (go_at_call 26; exact HHP.out _ _ (by assumption) _ _)))
        refine wpQuiet_nil ?_
        intro w13 hw13
        obtain ⟨⟨d9, os9⟩, rfl⟩ := hw13
        have hb13 := hide (HB1.out.trans ((below_regrown w2 d9 os9).mono HB1.out.size))
        have hs13 := (below_regrown w2 d9 os9).size
        have e0 := q0 d9 os9
        have e2 := q2 d9 os9
        have e3 := q3 d9 os9
        generalize Go.Sort.grow (redrawn w2 d9) os9 = w3 at hb13 e0 e2 e3 hs13 ⊢
        clear q0 q1 q2 q3 HHX HHP d0 d1 d2 d3 hpf hpt
        by_cases hk5 : k ≤ 5
        · have HU3 := hide (HU.out w3)
          cases hu : underE t with
          | false =>
            have HE := hide (show rightE k f t n = false by rw [HE2.out, hu, decide_eq_true hk5]; rfl)
            rw [hu] at HU3
            clear hu
            go_wp2_with fail
            refine (HU3.out).mono ?_
            rintro e w4 ⟨rfl, hb4⟩
            have hb14 := hide (hb13.out.trans (hb4.mono hb13.out.size))
            clear hb4
            go_wp2_with fail
            exact bodyPost_ret (results_tmp rfl _ _ _) rfl ⟨by rw [HE.out]; rfl, hb14.out⟩
          | true =>
            have HE3 := hide (show rightE k f t n = (!(!(n == 0) && !hasX k 4) && (decide (0 ≤ n) && decide (n < 512))) by rw [HE2.out, hu, decide_eq_true hk5]; rfl)
            rw [hu] at HU3
            clear hu
            go_wp2_with fail
            refine (HU3.out).mono ?_
            rintro e w4 ⟨rfl, hb4⟩
            have HB := hide (hb13.out.trans (hb4.mono hb13.out.size))
            have E0 : w4.cell? ⟨w.heap.size, 0, none⟩ = some (.int .i64 k) := (hb4.cell (p := ⟨w.heap.size, 0, none⟩) (by show w.heap.size < w3.heap.size; omega)).trans e0
            have E3 : w4.cell? ⟨w.heap.size, 3, none⟩ = some (.int .i64 n) := (hb4.cell (p := ⟨w.heap.size, 3, none⟩) (by show w.heap.size < w3.heap.size; omega)).trans e3
            have hs4 := hb4.size
            clear hb4 e0 e2 e3
            cases hn0 : (n == 0) with
            | true =>
              obtain rfl : n = 0 := by simpa using hn0
              have HE := hide (show rightE k f t 0 = true by rw [HE3.out]; simp)
              clear hn0
              go_wp2_with fail
              exact bodyPost_ret (results_tmp rfl _ _ _) rfl ⟨by rw [HE.out]; rfl, HB.out⟩
            | false =>
              have hne0 : (n != 0) = true := by rw [bne, hn0]; rfl
              have HX4 := hide (HX.out w4 HB.out 4 (.inr (.inr rfl)))
              cases hx4 : hasX k 4 with
              | false =>
                have HE := hide (show rightE k f t n = false by rw [HE3.out, hx4, hn0]; rfl)
                rw [hx4] at HX4
                clear hx4
                go_wp2_with fail
                refine (HX4.out).mono ?_
                rintro e w5 ⟨rfl, hb5⟩
                have HB5 := hide (HB.out.trans (hb5.mono HB.out.size))
                clear hb5
                go_wp2_with fail
                exact bodyPost_ret (results_tmp rfl _ _ _) rfl ⟨by rw [HE.out]; rfl, HB5.out⟩
              | true =>
                have HE4 := hide (show rightE k f t n = (decide (0 ≤ n) && decide (n < 512)) by rw [HE3.out, hx4, hn0]; rfl)
                rw [hx4] at HX4
                clear hx4
                go_wp2_with fail
                refine (HX4.out).mono ?_
                rintro e w5 ⟨rfl, hb5⟩
                have HB5 := hide (HB.out.trans (hb5.mono HB.out.size))
                have g3 : w5.cell? ⟨w.heap.size, 3, none⟩ = some (.int .i64 n) := (hb5.cell (p := ⟨w.heap.size, 3, none⟩) (by show w.heap.size < w4.heap.size; omega)).trans E3
                clear hb5 E0 E3
                by_cases hn1 : n ≥ 0
                · have HE := hide (show rightE k f t n = decide (n < 512) by rw [HE4.out, decide_eq_true hn1]; rfl)
                  go_wp2_with fail
                  exact bodyPost_ret (results_tmp rfl _ _ _) rfl ⟨by rw [HE.out]; rfl, HB5.out⟩
                · have HE := hide (show rightE k f t n = false by rw [HE4.out, decide_eq_false (show ¬ 0 ≤ n from hn1)]; rfl)
                  go_wp2_with fail
                  exact bodyPost_ret (results_tmp rfl _ _ _) rfl ⟨by rw [HE.out]; rfl, HB5.out⟩
        · have HE3 := hide (show rightE k f t n = (!(!(n == 0) && !hasX k 4) && (decide (0 ≤ n) && decide (n < 512))) by rw [HE2.out, decide_eq_false hk5]; rfl)
          have HB := hb13
          have E0 := e0
          have E3 := e3
          clear e0 e2 e3
          cases hn0 : (n == 0) with
          | true =>
            obtain rfl : n = 0 := by simpa using hn0
            have HE := hide (show rightE k f t 0 = true by rw [HE3.out]; simp)
            clear hn0
            go_wp2_with fail
            exact bodyPost_ret (results_tmp rfl _ _ _) rfl ⟨by rw [HE.out]; rfl, HB.out⟩
          | false =>
            have hne0 : (n != 0) = true := by rw [bne, hn0]; rfl
            have HX4 := hide (HX.out w3 HB.out 4 (.inr (.inr rfl)))
            cases hx4 : hasX k 4 with
            | false =>
              have HE := hide (show rightE k f t n = false by rw [HE3.out, hx4, hn0]; rfl)
              rw [hx4] at HX4
              clear hx4
              go_wp2_with fail
              refine (HX4.out).mono ?_
              rintro e w5 ⟨rfl, hb5⟩
              have HB5 := hide (HB.out.trans (hb5.mono HB.out.size))
              clear hb5
              go_wp2_with fail
              exact bodyPost_ret (results_tmp rfl _ _ _) rfl ⟨by rw [HE.out]; rfl, HB5.out⟩
            | true =>
              have HE4 := hide (show rightE k f t n = (decide (0 ≤ n) && decide (n < 512)) by rw [HE3.out, hx4, hn0]; rfl)
              rw [hx4] at HX4
              clear hx4
              go_wp2_with fail
              refine (HX4.out).mono ?_
              rintro e w5 ⟨rfl, hb5⟩
              have HB5 := hide (HB.out.trans (hb5.mono HB.out.size))
              have g3 : w5.cell? ⟨w.heap.size, 3, none⟩ = some (.int .i64 n) := (hb5.cell (p := ⟨w.heap.size, 3, none⟩) (by show w.heap.size < w3.heap.size; omega)).trans E3
              clear hb5 E0 E3
              by_cases hn1 : n ≥ 0
              · have HE := hide (show rightE k f t n = decide (n < 512) by rw [HE4.out, decide_eq_true hn1]; rfl)
                go_wp2_with fail
                exact bodyPost_ret (results_tmp rfl _ _ _) rfl ⟨by rw [HE.out]; rfl, HB5.out⟩
              · have HE := hide (show rightE k f t n = false by rw [HE4.out, decide_eq_false (show ¬ 0 ≤ n from hn1)]; rfl)
                go_wp2_with fail
                exact bodyPost_ret (results_tmp rfl _ _ _) rfl ⟨by rw [HE.out]; rfl, HB5.out⟩
end Go.Proofs.YtlohoamhgioheaaDoor
