/-
  The law JournalTells, walked.
-/
import Derived.Test.YtggdndmjfbiaiaaDoorJnAwake
import Derived.Test.YtggdndmjfbiaiaaDoorJnFrom
import Derived.Test.YtggdndmjfbiaiaaDoorJnTell
import Derived.Lib.QuietBelow
namespace Go.Proofs.YtggdndmjfbiaiaaDoor
open Go.RowKit Go.Sort
set_option maxRecDepth 100000

theorem law_step (s : Sm) (rk rn : Int) :
    (rk = 1 → (stepS s (rk, rn)).st = s.st + 1 ∧ (stepS s (rk, rn)).pl = s.pl ∧ (stepS s (rk, rn)).dd = s.dd) ∧ (rk = 2 → (stepS s (rk, rn)).st = s.st ∧ (stepS s (rk, rn)).pl = rn ∧ (stepS s (rk, rn)).dd = 0) ∧
    (rk = 3 → (stepS s (rk, rn)).st = s.st ∧ (stepS s (rk, rn)).pl = s.pl ∧ (stepS s (rk, rn)).dd = s.dd + 1) ∧ ((rk ≠ 1 ∧ rk ≠ 2 ∧ rk ≠ 3) → (stepS s (rk, rn)).st = s.st ∧ (stepS s (rk, rn)).pl = s.pl ∧ (stepS s (rk, rn)).dd = s.dd) := by
  refine ⟨?_, ?_, ?_, ?_⟩
  · rintro rfl; exact ⟨rfl, rfl, rfl⟩
  · rintro rfl; exact ⟨rfl, rfl, rfl⟩
  · rintro rfl; exact ⟨rfl, rfl, rfl⟩
  · rintro ⟨h1, h2, h3⟩
    simp [stepS, h1, h2, h3]
set_option maxHeartbeats 16000000 in
theorem jtells_law (A : Option Addr) (l : List (Int × Int)) (c : Nat) (w : World) (hT : Tabs w) (hA : RdR w w.heap.size A l) :
    Calls Tryd.prog 5 #[.slice A l.length c] w fun e w' => e = .returned (.bool true) ∧ Below w.heap.size w w' := by
  obtain ⟨i0, hi, hz0, hz1, hz2⟩ := info_parts info_rec
  have HAw := hide (fun W (hb : Below w.heap.size w W) => jawake_any W (hT.below hb))
  by_cases hl60 : (l.length : Int) > 60
  · have HA := hide (HAw.out w (Below.refl _ _))
    clear HAw hT hA
    go_enter Tryd.func5, Tryd.ntmps5
    go_wp2_with fail
    refine (HA.out).mono ?_
    rintro e w1 ⟨rfl, hb⟩
    go_wp2_with fail
    exact bodyPost_ret (results_tmp rfl _ _ _) rfl ⟨rfl, hb⟩
  · have HA := hide hA
    clear hA hT
    go_enter Tryd.func5, Tryd.ntmps5
    go_wp2_with fail
    go_loopg [3, 4, 5, 6, 7] l.length (fun gk ov sv pv dv iv wr => ∃ (i : Nat) (B : Option Addr) (d : Nat) (st pl dd : Int), ov = .slice B i d ∧ sv = .int .i64 st ∧ pv = .int .i64 pl ∧ dv = .int .i64 dd ∧ iv = .int .i64 i ∧ i + gk = l.length ∧ Hid (st = (tellS (l.take i)).st ∧ pl = (tellS (l.take i)).pl ∧ dd = (tellS (l.take i)).dd) ∧ Hid (RI w 34 (.slice B i d) (l.take i) wr))
    case atStart => exact ⟨0, none, 0, 0, 0, 0, rfl, rfl, rfl, rfl, rfl, by omega, hide ⟨rfl, rfl, rfl⟩, hide ⟨Below.refl _ _, World.ownsRow_nil _ _ _ _⟩⟩
    case round =>
      obtain ⟨i, B, d, st, pl, dd, rfl, rfl, rfl, rfl, rfl, hig, HS, HO⟩ := hrel
      cases gk with
      | zero =>
        obtain rfl : i = l.length := by omega
        have hF : RI w 34 (.slice B l.length d) l wr := by have h := HO.out; rwa [List.take_length] at h
        have HS1 := HS.out
        rw [List.take_length] at HS1
        have HTl := hide (tell_any B l d wr (RdR.own hF.own) (by omega))
        have HB := hide hF.below
        clear hF HO HS
        go_wp2_with fail
        refine (HTl.out).mono ?_
        rintro e w2 ⟨rfl, hb2⟩
        have HB2 := hide (HB.out.trans (hb2.mono HB.out.size))
        clear hb2
        obtain ⟨en, hen⟩ : ∃ en, tellS l = ⟨st, pl, dd, en⟩ := ⟨(tellS l).en, by rw [HS1.1, HS1.2.1, HS1.2.2]⟩
        rw [hen]
        have hen2 : en = (tellS l).en := by rw [hen]
        clear HS1
        simp only [Sm.cells]
        obtain ⟨w3, hw3⟩ : ∃ w3, w3 = w2.alloc (.cells #[.int .i64 st, .int .i64 pl, .int .i64 dd, .bool en] 38) := ⟨_, rfl⟩
        have hr3 : w3.heap[w2.heap.size]? = some (.cells #[.int .i64 st, .int .i64 pl, .int .i64 dd, .bool en] 38 (0, 0)) := by rw [hw3]; exact World.alloc_heap_new _ _
        have HB3 := hide (show Below w.heap.size w w3 by rw [hw3]; exact HB2.out.alloc HB2.out.size _)
        have y0 : w3.cell? ⟨w2.heap.size, 0, none⟩ = some (.int .i64 st) := cell_of_row _ _ _ _ _ _ hr3
        have y1 : w3.cell? ⟨w2.heap.size, 1, none⟩ = some (.int .i64 pl) := cell_of_row _ _ _ _ _ _ hr3
        have y2 : w3.cell? ⟨w2.heap.size, 2, none⟩ = some (.int .i64 dd) := cell_of_row _ _ _ _ _ _ hr3
        have y3 : w3.cell? ⟨w2.heap.size, 3, none⟩ = some (.bool en) := cell_of_row _ _ _ _ _ _ hr3
        have q0 := fun d os => cell_regrown y0 d os
        have q1 := fun d os => cell_regrown y1 d os
        have q2 := fun d os => cell_regrown y2 d os
        have q3 := fun d os => cell_regrown y3 d os
        have ka := hide (fun d os => Calls.regrown_of (HAw.out (Go.Sort.grow (redrawn w3 d) os) (HB3.out.trans ((below_regrown w3 d os).mono HB3.out.size))))
        have Hw3 := hide hw3
        by_cases hl0 : l = []
        · have he : en = false := by rw [hen2, hl0]; rfl
          have h0 : ((l.length : Int) > 0) = False := by rw [hl0]; simp
          have hz : (l.length : Int) = 0 := by rw [hl0]; rfl
          have hd0 : decide (0 < l.length) = false := by rw [hl0]; rfl
          subst he
          clear hen hen2 hw3 hr3 y0 y1 y2 y3 h0 hz
          obtain ⟨n, hn⟩ : ∃ n, n = l.length := ⟨_, rfl⟩
          rw [← hn] at hd0 hl60 ⊢
          clear hn hig HTl
          go_wp2_with fail
          rw [← Hw3.out]
          refine wp_region_quiet_below (by kernel_rfl) (by kernel_rfl) ?_
          repeat (go_big_quiet_step ((go_at_call 6; exact ka.out _ _)))
          refine wpQuiet_nil ?_
          intro w5 hw5
          obtain ⟨⟨d9, os9⟩, rfl⟩ := hw5
          have HB5 := hide (HB3.out.trans ((below_regrown w3 d9 os9).mono HB3.out.size))
          generalize Go.Sort.grow (redrawn w3 d9) os9 = w5 at HB5 ⊢
          clear q0 q1 q2 q3 ka
          go_wp2_with fail
          exact bodyPost_ret (results_tmp rfl _ _ _) rfl ⟨rfl, HB5.out⟩
        · obtain ⟨m, ⟨rk, rn⟩, hm⟩ : ∃ m r, l = m ++ [r] := ⟨_, _, (List.dropLast_concat_getLast hl0).symm⟩
          have he : en = (rk == 4) := by rw [hen2, hm, tell_snoc]; rfl
          have hml : l.length = m.length + 1 := by rw [hm]; simp
          have hat : l[m.length]? = some (rk, rn) := by rw [hm]; simp
          obtain ⟨ad, rfl, hlt, hnd⟩ := (HA.out.below HB3.out (Nat.le_refl _)) m.length (rk, rn) hat
          have y5 : w3.cell? (ad.add (m.length * 2)) = some (.int .i64 rk) := hnd.k
          have q5 := fun d os => cell_regrown y5 d os
          have hd0 : decide (0 < l.length) = true := by rw [decide_eq_true_eq]; omega
          have hd1 : 0 < l.length := by omega
          have hpos : (0 : Int) < (l.length : Int) := by omega
          have hmi : (l.length : Int) - 1 = (m.length : Int) := by omega
          have hml0 : (0 : Int) ≤ (m.length : Int) := by omega
          have hml1 : (m.length : Int) < (l.length : Int) := by omega
          have hmw : IntKind.i64.wrap (m.length : Int) = (m.length : Int) := IntWalk.i64_in _ (by omega)
          subst he
          clear hen hen2 hw3 hr3 y0 y1 y2 y3 y5 hnd hat hm hl0
          obtain ⟨n, hn⟩ : ∃ n, n = l.length := ⟨_, rfl⟩
          obtain ⟨n1, hn1⟩ : ∃ n1, n1 = m.length := ⟨_, rfl⟩
          rw [← hn] at hd0 hd1 hpos hmi hml1 hl60 ⊢
          rw [← hn1] at hmi hml0 hml1 hmw q5
          clear hn hn1 hml hig HTl
          go_wp2_with fail
          rw [← Hw3.out]
          refine wp_region_quiet_below (by kernel_rfl) (by kernel_rfl) ?_
          repeat (go_big_quiet_step ((go_at_call 6; exact ka.out _ _)))
          refine wpQuiet_nil ?_
          intro w5 hw5
          obtain ⟨⟨d9, os9⟩, rfl⟩ := hw5
          have HB5 := hide (HB3.out.trans ((below_regrown w3 d9 os9).mono HB3.out.size))
          generalize Go.Sort.grow (redrawn w3 d9) os9 = w5 at HB5 ⊢
          clear q0 q1 q2 q3 q5 ka
          go_wp2_with fail
          exact bodyPost_ret (results_tmp rfl _ _ _) rfl ⟨rfl, HB5.out⟩
      | succ g0 =>
        have hii : (i : Int) < l.length := by omega
        have hi0 : (0 : Int) ≤ (i : Int) := by omega
        obtain ⟨t, ht⟩ : ∃ t, l[i]? = some t := ⟨_, List.getElem?_eq_getElem (by omega)⟩
        obtain ⟨ad, rfl, hlt, hnd⟩ := (HA.out.below HO.out.below (Nat.le_refl _)) i t ht
        obtain ⟨ad', e', _, q0, q1⟩ := HA.out i t ht
        cases e'
        have hlx : (ad.add (i * 2)).block < w.heap.size := by rw [add_block]; exact hlt
        have hiw : IntKind.i64.wrap ((i : Int) + 1) = ((i + 1 : Nat) : Int) := by rw [IntWalk.i64_in _ (by omega)]; rfl
        have hT := hide (show l.take (i + 1) = l.take i ++ [t] by
          obtain ⟨h1, e1⟩ := List.getElem?_eq_some_iff.1 ht
          rw [← List.take_append_getElem h1, e1])
        obtain ⟨⟨b1, b2⟩, b3, b4⟩ := tell_bound (l.take i)
        rw [List.length_take, Nat.min_eq_left (by omega), ← HS.out.1] at b2
        rw [List.length_take, Nat.min_eq_left (by omega), ← HS.out.2.2] at b4
        rw [← HS.out.1] at b1
        rw [← HS.out.2.2] at b3
        obtain ⟨c0, c1⟩ := hnd
        obtain ⟨rk, rn⟩ := t
        simp only at c0 c1 q0 q1
        have HSt := hide (show tellS (l.take (i + 1)) = stepS (tellS (l.take i)) (rk, rn) by rw [hT.out, tell_snoc])
        have HLs := hide (law_step (tellS (l.take i)) rk rn)
        clear ht hlt
        go_wp2_with fail
        have hS := hide (fun (W : World) (h : Below w.heap.size w W) => (⟨(h.cell hlx).trans q0, (h.cell (p := ⟨_, _, none⟩) hlx).trans q1⟩ : W.cell? (ad.add (i * 2)) = some (.int .i64 rk) ∧ W.cell? ⟨(ad.add (i * 2)).block, (ad.add (i * 2)).off + 1, none⟩ = some (.int .i64 rn)))
        have hB1 := HO.out.below.drew
        have hB4 := (HO.out.below.alloc HO.out.below.size (.cells #[.int .i64 rk, .int .i64 rn] 34)).drew
        have htl : (l.take i).length = i := by rw [List.length_take]; omega
        have hO4 : (wr.alloc (.cells #[.int .i64 rk, .int .i64 rn] 34)).drew.ownsRow w.heap.size 34 2 (.slice B i d) i (cellsR (l.take i)) := by
          have h := HO.out.own.alloc (.cells #[.int .i64 rk, .int .i64 rn] 34)
          rw [htl] at h
          exact h
        have HB5 := hide (fun (w5 : World) (hg : (wr.alloc (.cells #[.int .i64 rk, .int .i64 rn] 34)).drew.grownBy w5 (Value.slice B i d).ownBlock) => hB4.grown hg hB4.size (fun r e => (hO4.lt r e).1))
        have HNew := hide (show ∀ j u, (cellsR [(rk, rn)])[j]? = some u → (wr.alloc (.cells #[.int .i64 rk, .int .i64 rn] 34)).drew.cell? ((⟨wr.heap.size, 0, none⟩ : Addr).add j) = some u from new_rec wr rk rn _)
        have HO4 := hide hO4
        have HB1 := hide hB1
        have HB4 := hide hB4
        have hsz := hB4.size
        clear c0 c1 hB1 hB4 hO4 q0 q1
        go_region_held3 (fun w' => w'.cell? (ad.add (i * 2)) = some (.int .i64 rk) ∧ w'.cell? ⟨(ad.add (i * 2)).block, (ad.add (i * 2)).off + 1, none⟩ = some (.int .i64 rn))
          (first | exact hS.out _ HB1.out | exact hS.out _ HB4.out | exact hS.out _ (HB5.out _ hG5))
          (first
            | (refine step_append_lies _ rfl (.tmp 19) (.tmp 31) 26 rfl w.heap.size 34 i0 _ 2 16 Tryd.underlying26 hi hz0 hz1 hz2 rfl (by decide) _ i _ rfl HO4.out ⟨wr.heap.size, 0, none⟩ 1 1 (cellsR [(rk, rn)]) rfl rfl HNew.out (cellsR_one _) (by decide) (by unfold maxLen; omega) (by omega) hsz _ rfl ?_
               intro g cap w5 hO5 hG5 hat hlt5))
        all_goals
          have HO6 := hide (show RI w 34 (.slice (some ⟨g, 0, none⟩) (i + 1) cap) (l.take (i + 1)) w5 from ⟨HB5.out _ hG5, by rw [hT.out, cellsR_app, List.length_append, htl]; exact hO5⟩)
          obtain ⟨c0, c1⟩ := hS.out _ (HB5.out _ hG5)
          clear hO5 hG5 hat hlt5
          have hcases : rk = 1 ∨ rk = 2 ∨ rk = 3 ∨ (rk ≠ 1 ∧ rk ≠ 2 ∧ rk ≠ 3) := by omega
          obtain ⟨L1, L2, L3, L4⟩ := HLs.out
          rcases hcases with rfl | rfl | rfl | hne
          · have HN := hide (show st + 1 = (tellS (l.take (i + 1))).st ∧ pl = (tellS (l.take (i + 1))).pl ∧ dd = (tellS (l.take (i + 1))).dd by rw [HSt.out]; obtain ⟨e1, e2, e3⟩ := L1 rfl; rw [e1, e2, e3, HS.out.1, HS.out.2.1, HS.out.2.2]; exact ⟨rfl, rfl, rfl⟩)
            clear L1 L2 L3 L4
            go_wp2_with fail
            go_roundg g0
            case rel => exact ⟨i + 1, some ⟨g, 0, none⟩, cap, _, _, _, rfl, rfl, rfl, rfl, rfl, by omega, HN, HO6⟩
            case measure => omega
          · have HN := hide (show st = (tellS (l.take (i + 1))).st ∧ rn = (tellS (l.take (i + 1))).pl ∧ 0 = (tellS (l.take (i + 1))).dd by rw [HSt.out]; obtain ⟨e1, e2, e3⟩ := L2 rfl; rw [e1, e2, e3, HS.out.1]; exact ⟨rfl, rfl, rfl⟩)
            clear L1 L2 L3 L4
            go_wp2_with fail
            go_roundg g0
            case rel => exact ⟨i + 1, some ⟨g, 0, none⟩, cap, _, _, _, rfl, rfl, rfl, rfl, rfl, by omega, HN, HO6⟩
            case measure => omega
          · have HN := hide (show st = (tellS (l.take (i + 1))).st ∧ pl = (tellS (l.take (i + 1))).pl ∧ dd + 1 = (tellS (l.take (i + 1))).dd by rw [HSt.out]; obtain ⟨e1, e2, e3⟩ := L3 rfl; rw [e1, e2, e3, HS.out.1, HS.out.2.1, HS.out.2.2]; exact ⟨rfl, rfl, rfl⟩)
            clear L1 L2 L3 L4
            go_wp2_with fail
            go_roundg g0
            case rel => exact ⟨i + 1, some ⟨g, 0, none⟩, cap, _, _, _, rfl, rfl, rfl, rfl, rfl, by omega, HN, HO6⟩
            case measure => omega
          · have HN := hide (show st = (tellS (l.take (i + 1))).st ∧ pl = (tellS (l.take (i + 1))).pl ∧ dd = (tellS (l.take (i + 1))).dd by rw [HSt.out]; obtain ⟨e1, e2, e3⟩ := L4 hne; rw [e1, e2, e3, HS.out.1, HS.out.2.1, HS.out.2.2]; exact ⟨rfl, rfl, rfl⟩)
            have k1 : (rk == 1) = false := by rw [beq_eq_false_iff_ne]; exact hne.1
            have k2 : (rk == 2) = false := by rw [beq_eq_false_iff_ne]; exact hne.2.1
            have k3 : (rk == 3) = false := by rw [beq_eq_false_iff_ne]; exact hne.2.2
            clear L1 L2 L3 L4 hne
            go_wp2_with fail
            go_roundg g0
            case rel => exact ⟨i + 1, some ⟨g, 0, none⟩, cap, _, _, _, rfl, rfl, rfl, rfl, rfl, by omega, HN, HO6⟩
            case measure => omega
end Go.Proofs.YtggdndmjfbiaiaaDoor
