/-
  The law EditCounts, walked.
-/
import Derived.Test.YtlohoamhgioheaaDoorEdAwake
import Derived.Test.YtlohoamhgioheaaDoorEdCount
import Derived.Deep.QuietTactic
import Derived.BigQuiet
namespace Go.Proofs.YtlohoamhgioheaaDoor
open Go.RowKit
set_option maxRecDepth 100000

theorem RdE.drewN {w : World} {A : Option Addr} {l : List Et} (h : RdE w w.heap.size A l) (n : Nat) : RdE (w.drewN n) (w.drewN n).heap.size A l := h.step (below_drewN (Below.refl _ w) n)
theorem RdI.drewN {w : World} {A : Option Addr} {l : List Int} (h : RdI w w.heap.size A l) (n : Nat) : RdI (w.drewN n) (w.drewN n).heap.size A l := h.step (below_drewN (Below.refl _ w) n)
set_option maxHeartbeats 8000000 in
theorem edCounts_law (A : Option Addr) (l : List Et) (c : Nat) (C : Option Addr) (zs : List Int) (d : Nat) (w : World) (hT : Tabs w) (hA : RdE w w.heap.size A l) (hC : RdI w w.heap.size C zs) :
    Calls Tryd.prog 5 #[.slice A l.length c, .slice C zs.length d] w fun e w' => e = .returned (.bool true) ∧ Below w.heap.size w w' := by
  have HF := hide (few_any A l c w hA)
  have HAw := hide (fun W (hb : Below w.heap.size w W) => edAwake_any W (hT.below hb))
  have HA := hide hA
  have HC := hide hC
  clear hT
  cases hf : fewL l with
  | false =>
    rw [hf] at HF
    clear hf hA hC
    go_enter Tryd.func5, Tryd.ntmps5
    go_wp2_with fail
    refine (HF.out).mono ?_
    rintro e w1 ⟨rfl, hb1⟩
    have HB1 := hide hb1
    clear hb1
    go_wp2_with fail
    refine (HAw.out _ HB1.out).mono ?_
    rintro e w2 ⟨rfl, hb2⟩
    have HB2 := hide (HB1.out.trans (hb2.mono HB1.out.size))
    clear hb2
    go_wp2_with fail
    exact bodyPost_ret (results_tmp rfl _ _ _) rfl ⟨rfl, HB2.out⟩
  | true =>
    have hl20 := (few_at hf).1
    rw [hf] at HF
    clear hf hA hC
    by_cases hz : (zs.length : Int) > 20
    · go_enter Tryd.func5, Tryd.ntmps5
      go_wp2_with fail
      refine (HF.out).mono ?_
      rintro e w1 ⟨rfl, hb1⟩
      have HB1 := hide hb1
      clear hb1
      go_wp2_with fail
      refine (HAw.out _ HB1.out).mono ?_
      rintro e w2 ⟨rfl, hb2⟩
      have HB2 := hide (HB1.out.trans (hb2.mono HB1.out.size))
      clear hb2
      go_wp2_with fail
      exact bodyPost_ret (results_tmp rfl _ _ _) rfl ⟨rfl, HB2.out⟩
    · go_enter Tryd.func5, Tryd.ntmps5
      go_wp2_with fail
      refine (HF.out).mono ?_
      rintro e w1 ⟨rfl, hb1⟩
      have HB1 := hide hb1
      have hA1 := HA.out.step hb1
      have hC1 := HC.out.step hb1
      clear hb1
      go_wp2_with fail
      go_loopg [5, 6] l.length (fun gk nv iv wr => ∃ i n : Nat, nv = .int .i64 n ∧ iv = .int .i64 i ∧ i + gk = l.length ∧ n ≤ i ∧ Hid (n + countE zs (l.drop i) = countE zs l) ∧ Below w.heap.size w wr ∧ RdE wr wr.heap.size A l ∧ RdI wr wr.heap.size C zs)
      case atStart => exact ⟨0, 0, rfl, rfl, by omega, Nat.le_refl _, hide (by simp), HB1.out, hA1, hC1⟩
      case round =>
        obtain ⟨i, n, rfl, rfl, hig, hni, HB, hB, hR, hS⟩ := hrel
        clear hA1 hC1
        cases gk with
        | zero =>
          obtain rfl : i = l.length := by omega
          have hn : n = countE zs l := by rw [← HB.out, List.drop_length]; rfl
          have HK1 := hide (fun W (hb : Below wr.heap.size wr W) => count_any A l c C zs d W (hR.step hb) (hS.step hb) (by omega) (by omega))
          have HK2 := hide (fun W (hb : Below wr.heap.size wr W) => count_any A l c none [] 0 W (hR.step hb) (RdI.nil _ _ _) (by omega) (by decide))
          rw [← hn] at HK1
          simp only [count_none] at HK2
          have HBw := hide hB
          have HA1 := hide (HAw.out _ hB)
          clear HB hB hR hS
          go_wp2_with fail
          refine (HA1.out).mono ?_
          rintro e w3 ⟨rfl, hb3⟩
          have HB3 := hide hb3
          clear hb3
          go_wp2_with fail
          refine (HK1.out _ HB3.out).mono ?_
          rintro e w4 ⟨rfl, hb4⟩
          have HB4 := hide (HB3.out.trans (hb4.mono HB3.out.size))
          clear hb4
          go_wp2_with fail
          refine (HK2.out _ HB4.out).mono ?_
          rintro e w5 ⟨rfl, hb5⟩
          have HB5 := hide (HBw.out.trans ((HB4.out.trans (hb5.mono HB4.out.size)).mono HBw.out.size))
          clear hb5
          go_wp2_with fail
          exact bodyPost_ret (results_tmp rfl _ _ _) rfl ⟨by simp, HB5.out⟩
        | succ g0 =>
          have hii : (i : Int) < l.length := by omega
          obtain ⟨e, he⟩ : ∃ e, l[i]? = some e := ⟨_, List.getElem?_eq_getElem (by omega)⟩
          obtain ⟨ad, rfl, hlt, hnd⟩ := hR i e he
          have hd := HB.out
          rw [count_drop zs l i e he] at hd
          have HD := hide hd
          clear HB hnd hd
          go_wp2_with fail
          go_loopg [7, 8] zs.length (fun gj bv kv wr2 => ∃ (k : Nat) (b : Bool), bv = .bool b ∧ kv = .int .i64 k ∧ k + gj = zs.length ∧ Hid ((b || isIn (zs.drop k) e.k) = isIn zs e.k) ∧ Below w.heap.size w wr2 ∧ RdE wr2 wr2.heap.size (some ad) l ∧ RdI wr2 wr2.heap.size C zs)
          case atStart => exact ⟨0, false, rfl, rfl, by omega, hide (by simp), hB, hR, hS⟩
          case round =>
            obtain ⟨k, b, rfl, rfl, hkg, HI, hB2, hR2, hS2⟩ := hrel
            clear hB hR hS
            cases gk with
            | zero =>
              obtain rfl : k = zs.length := by omega
              have hq := HI.out
              rw [List.drop_length] at hq
              have HB2 := hide hB2
              have HR2 := hide hR2
              have HS2 := hide hS2
              clear HI hB2 hR2 hS2
              cases b with
              | true =>
                have HD2 := hide (show n + 1 + countE zs (l.drop (i + 1)) = countE zs l by
                  have h := HD.out
                  rw [← hq, Bool.true_or, if_pos rfl] at h
                  omega)
                clear hq
                have wn : IntKind.i64.wrap ((n : Int) + 1) = ((n + 1 : Nat) : Int) := by rw [IntWalk.i64_in _ (by omega)]; rfl
                go_wp2_with fail
                go_roundg g0
                case rel => exact ⟨i + 1, n + 1, rfl, rfl, by omega, by omega, HD2, HB2.out, HR2.out, HS2.out⟩
                case measure => omega
              | false =>
                have HD2 := hide (show n + countE zs (l.drop (i + 1)) = countE zs l by
                  have h := HD.out
                  rw [← hq] at h
                  simpa [isIn] using h)
                clear hq
                go_wp2_with fail
                go_roundg g0
                case rel => exact ⟨i + 1, n, rfl, rfl, by omega, by omega, HD2, HB2.out, HR2.out, HS2.out⟩
                case measure => omega
            | succ g1 =>
              have hki : (k : Int) < zs.length := by omega
              obtain ⟨z, hz1⟩ : ∃ z, zs[k]? = some z := ⟨_, List.getElem?_eq_getElem (by omega)⟩
              obtain ⟨bd, rfl, hltb, cz⟩ := hS2 k z hz1
              obtain ⟨_, e1, _, hnd⟩ := hR2 i e he
              cases e1
              have ck := hnd.k
              have hq := HI.out
              rw [isIn_drop zs e.k k z hz1] at hq
              have HB2 := hide hB2
              have HR2 := hide hR2
              have HS2 := hide hS2
              clear HI hB2 hR2 hS2 hnd
              cases b with
              | true =>
                rw [Bool.true_or] at hq
                have HI2 := hide (show (true || isIn (zs.drop (k + 1)) e.k) = isIn zs e.k by rw [Bool.true_or]; exact hq)
                clear hq cz ck
                go_wp2_with fail
                go_quiet (fail)
                go_wp2_with fail
                go_roundg g1
                case rel => exact ⟨k + 1, true, rfl, rfl, by omega, HI2, below_drewN HB2.out _, HR2.out.drewN _, HS2.out.drewN _⟩
                case measure => omega
              | false =>
                have hv0 : (e.k == z) = (z == e.k) := by rw [Bool.eq_iff_iff, beq_iff_eq, beq_iff_eq]; exact eq_comm
                rw [hv0, Bool.false_or] at hq
                have HI2 := hide hq
                clear hq hv0
                go_wp2_with fail
                go_quiet (fail)
                go_wp2_with fail
                go_roundg g1
                case rel => exact ⟨k + 1, (z == e.k), rfl, rfl, by omega, HI2, below_drewN HB2.out _, HR2.out.drewN _, HS2.out.drewN _⟩
                case measure => omega
end Go.Proofs.YtlohoamhgioheaaDoor
