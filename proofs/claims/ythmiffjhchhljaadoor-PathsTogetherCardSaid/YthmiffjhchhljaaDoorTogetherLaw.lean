/-
  PathsTogether's law, walked.
-/
import Derived.Test.YthmiffjhchhljaaDoorPathAwake
namespace Go.Proofs.YthmiffjhchhljaaDoor
open Go.RowKit
set_option maxRecDepth 100000

set_option maxHeartbeats 4000000 in
theorem together_law (p q r t : ByteArray) (w : World) :
    Calls Tryd.prog 7 #[.agg #[.string p, .string q, .string r, .string t]] w fun e w' => e = .returned (.bool true) ∧ Below w.heap.size w w' := by
  have hrow := World.alloc_heap_new w (Obj.cells #[.string p, .string q, .string r, .string t] 43)
  have hc0 : (w.alloc (.cells #[.string p, .string q, .string r, .string t] 43)).cell? ⟨w.heap.size, 0, none⟩ = some (.string p) := cell_of_row _ _ _ _ _ _ hrow
  have hc1 : (w.alloc (.cells #[.string p, .string q, .string r, .string t] 43)).cell? ⟨w.heap.size, 1, none⟩ = some (.string q) := cell_of_row _ _ _ _ _ _ hrow
  have hc2 : (w.alloc (.cells #[.string p, .string q, .string r, .string t] 43)).cell? ⟨w.heap.size, 2, none⟩ = some (.string r) := cell_of_row _ _ _ _ _ _ hrow
  have hc3 : (w.alloc (.cells #[.string p, .string q, .string r, .string t] 43)).cell? ⟨w.heap.size, 3, none⟩ = some (.string t) := cell_of_row _ _ _ _ _ _ hrow
  have hB0 : Below w.heap.size w (w.alloc (.cells #[.string p, .string q, .string r, .string t] 43)) := (Below.refl _ w).alloc (Nat.le_refl _) _
  clear hrow
  go_enter Tryd.func7, Tryd.ntmps7
  go_wp2_with fail
  generalize w.alloc (.cells #[.string p, .string q, .string r, .string t] 43) = w0 at hc0 hc1 hc2 hc3 hB0 ⊢
  go_quiet (fail)
  have hB1 := below_drewN hB0 nq
  clear hc0 hc1 hc2 hc3 hB0
  generalize w0.drewN nq = w1 at hB1 ⊢
  by_cases h1 : (100 : Int) < p.size
  · go_wp2_with fail
    refine (awake_any _).mono ?_
    rintro e w9 ⟨rfl, hB9⟩
    go_wp2_with fail
    refine bodyPost_ret (results_tmp rfl _ _ _) rfl ⟨rfl, hB1.trans (hB9.mono hB1.size)⟩
  by_cases h2 : (100 : Int) < q.size
  · go_wp2_with fail
    refine (awake_any _).mono ?_
    rintro e w9 ⟨rfl, hB9⟩
    go_wp2_with fail
    refine bodyPost_ret (results_tmp rfl _ _ _) rfl ⟨rfl, hB1.trans (hB9.mono hB1.size)⟩
  by_cases h3 : (100 : Int) < r.size
  · go_wp2_with fail
    refine (awake_any _).mono ?_
    rintro e w9 ⟨rfl, hB9⟩
    go_wp2_with fail
    refine bodyPost_ret (results_tmp rfl _ _ _) rfl ⟨rfl, hB1.trans (hB9.mono hB1.size)⟩
  by_cases h4 : (100 : Int) < t.size
  · go_wp2_with fail
    refine (awake_any _).mono ?_
    rintro e w9 ⟨rfl, hB9⟩
    go_wp2_with fail
    refine bodyPost_ret (results_tmp rfl _ _ _) rfl ⟨rfl, hB1.trans (hB9.mono hB1.size)⟩
  go_wp2_with fail
  refine (refRight_any q _ (by omega)).mono ?_
  rintro e w2 ⟨rfl, hB2'⟩
  have hB2 := hB1.trans (hB2'.mono hB1.size)
  clear hB1 hB2'
  cases hq : rightL (toL q) with
  | false =>
    go_wp2_with fail
    refine (awake_any _).mono ?_
    rintro e w9 ⟨rfl, hB9⟩
    go_wp2_with fail
    refine bodyPost_ret (results_tmp rfl _ _ _) rfl ⟨rfl, hB2.trans (hB9.mono hB2.size)⟩
  | true =>
    have HQ := hide hq
    clear hq
    go_wp2_with fail
    refine (within_any p t _ (by omega) (by omega)).mono ?_
    rintro e w3 ⟨rfl, hB3'⟩
    have hB3 := hB2.trans (hB3'.mono hB2.size)
    clear hB2 hB3'
    cases hpt : okB p t with
    | false =>
      go_wp2_with fail
      refine (awake_any _).mono ?_
      rintro e w4 ⟨rfl, hB4'⟩
      have hB4 := hB3.trans (hB4'.mono hB3.size)
      clear hB3 hB4'
      go_wp2_with fail
      refine (within_any p t _ (by omega) (by omega)).mono ?_
      rw [hpt]
      rintro e w9 ⟨rfl, hB9⟩
      go_wp2_with fail
      refine bodyPost_ret (results_tmp rfl _ _ _) rfl ⟨rfl, hB4.trans (hB9.mono hB4.size)⟩
    | true =>
      have HP := hide hpt
      have HF := within_first _ _ ((okB_iff p t).1 hpt)
      clear hpt
      go_wp2_with fail
      refine (within_any r t _ (by omega) (by omega)).mono ?_
      rintro e w4 ⟨rfl, hB4'⟩
      have hB4 := hB3.trans (hB4'.mono hB3.size)
      clear hB3 hB4'
      cases hrt : okB r t with
      | false =>
        go_wp2_with fail
        refine (awake_any _).mono ?_
        rintro e w8 ⟨rfl, hB8'⟩
        have hB8 := hB4.trans (hB8'.mono hB4.size)
        clear hB4 hB8'
        go_wp2_with fail
        refine (within_any p t _ (by omega) (by omega)).mono ?_
        rw [HP.out]
        rintro e w9 ⟨rfl, hB9'⟩
        have hB9 := hB8.trans (hB9'.mono hB8.size)
        clear hB8 hB9'
        go_wp2_with fail
        refine (cmp_any t p _ (by omega) (by omega)).mono ?_
        rintro e w10 ⟨rfl, hB10⟩
        have HF' : cmpL t.data.toList p.data.toList ≤ 0 := HF
        go_wp2_with fail
        refine bodyPost_ret (results_tmp rfl _ _ _) rfl ⟨rfl, hB9.trans (hB10.mono hB9.size)⟩
      | true =>
        have HR := hide hrt
        clear hrt
        go_wp2_with fail
        refine (cmp_any p q _ (by omega) (by omega)).mono ?_
        rintro e w5 ⟨rfl, hB5'⟩
        have hB5 := hB4.trans (hB5'.mono hB4.size)
        clear hB4 hB5'
        by_cases hpq : cmpL p.data.toList q.data.toList ≤ 0
        · go_wp2_with fail
          refine (cmp_any q r _ (by omega) (by omega)).mono ?_
          rintro e w6 ⟨rfl, hB6'⟩
          have hB6 := hB5.trans (hB6'.mono hB5.size)
          clear hB5 hB6'
          by_cases hqr : cmpL q.data.toList r.data.toList ≤ 0
          · have hqt : okB q t = true := (okB_iff q t).2 (together _ _ _ _ HQ.out ((okB_iff p t).1 HP.out) ((okB_iff r t).1 HR.out) hpq hqr)
            go_wp2_with fail
            refine (within_any q t _ (by omega) (by omega)).mono ?_
            rw [hqt]
            rintro e w7 ⟨rfl, hB7'⟩
            have hB7 := hB6.trans (hB7'.mono hB6.size)
            clear hB6 hB7' hqt
            go_wp2_with fail
            refine (awake_any _).mono ?_
            rintro e w8 ⟨rfl, hB8'⟩
            have hB8 := hB7.trans (hB8'.mono hB7.size)
            clear hB7 hB8'
            go_wp2_with fail
            refine (within_any p t _ (by omega) (by omega)).mono ?_
            rw [HP.out]
            rintro e w9 ⟨rfl, hB9'⟩
            have hB9 := hB8.trans (hB9'.mono hB8.size)
            clear hB8 hB9'
            go_wp2_with fail
            refine (cmp_any t p _ (by omega) (by omega)).mono ?_
            rintro e w10 ⟨rfl, hB10⟩
            have HF' : cmpL t.data.toList p.data.toList ≤ 0 := HF
            go_wp2_with fail
            refine bodyPost_ret (results_tmp rfl _ _ _) rfl ⟨rfl, hB9.trans (hB10.mono hB9.size)⟩
          · go_wp2_with fail
            refine (awake_any _).mono ?_
            rintro e w8 ⟨rfl, hB8'⟩
            have hB8 := hB6.trans (hB8'.mono hB6.size)
            clear hB6 hB8'
            go_wp2_with fail
            refine (within_any p t _ (by omega) (by omega)).mono ?_
            rw [HP.out]
            rintro e w9 ⟨rfl, hB9'⟩
            have hB9 := hB8.trans (hB9'.mono hB8.size)
            clear hB8 hB9'
            go_wp2_with fail
            refine (cmp_any t p _ (by omega) (by omega)).mono ?_
            rintro e w10 ⟨rfl, hB10⟩
            have HF' : cmpL t.data.toList p.data.toList ≤ 0 := HF
            go_wp2_with fail
            refine bodyPost_ret (results_tmp rfl _ _ _) rfl ⟨rfl, hB9.trans (hB10.mono hB9.size)⟩
        · go_wp2_with fail
          refine (awake_any _).mono ?_
          rintro e w8 ⟨rfl, hB8'⟩
          have hB8 := hB5.trans (hB8'.mono hB5.size)
          clear hB5 hB8'
          go_wp2_with fail
          refine (within_any p t _ (by omega) (by omega)).mono ?_
          rw [HP.out]
          rintro e w9 ⟨rfl, hB9'⟩
          have hB9 := hB8.trans (hB9'.mono hB8.size)
          clear hB8 hB9'
          go_wp2_with fail
          refine (cmp_any t p _ (by omega) (by omega)).mono ?_
          rintro e w10 ⟨rfl, hB10⟩
          have HF' : cmpL t.data.toList p.data.toList ≤ 0 := HF
          go_wp2_with fail
          refine bodyPost_ret (results_tmp rfl _ _ _) rfl ⟨rfl, hB9.trans (hB10.mono hB9.size)⟩
end Go.Proofs.YthmiffjhchhljaaDoor
