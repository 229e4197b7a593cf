/-
  The reference's Read.
-/
import Derived.Test.YtlohoamhgioheaaDoorEdMath
import Derived.Test.YtlohoamhgioheaaDoorEdCut
import Derived.Test.YtlohoamhgioheaaDoorEdRefLine
namespace Go.Proofs.YtlohoamhgioheaaDoor
open Go.RowKit Go.Sort
set_option maxRecDepth 100000

theorem words_ne (l : List UInt8) : wordsW l ≠ [] := by
  obtain ⟨a, x, h, _⟩ := wordsW_snoc l
  rw [h]
  simp
theorem add_pos (a : Addr) (k : Nat) (h : k ≠ 0) : a.add k = ⟨a.block, a.off + k, none⟩ := by
  unfold Addr.add
  rw [if_neg h]
set_option maxHeartbeats 32000000 in
theorem refERead_any (s : ByteArray) (w : World) (hs : (s.size : Int) ≤ 300000) :
    Calls Tryd.prog 15 #[.string s] w fun e w' => e = .returned (.tuple #[.agg (readT s).cells, .bool (okR s)]) ∧ Below w.heap.size w w' := by
  have HS := hide hs
  have HC := hide (fun W => blanks_any s W (by omega))
  have HWd := hide (fun k W => refWord_any k W)
  have HHs := hide (fun k W => refHas_any k W)
  clear hs
  go_enter Tryd.func15, Tryd.ntmps15
  obtain ⟨w1, hw1⟩ : ∃ w1, w1 = w.alloc (.cells zeroEt.cells 23) := ⟨_, rfl⟩
  have HB1 := hide (show Below w.heap.size w w1 by rw [hw1]; exact (Below.refl _ w).alloc (Nat.le_refl _) _)
  have hr1 : w1.heap[w.heap.size]? = some (.cells zeroEt.cells 23 (0, 0)) := by rw [hw1]; exact World.alloc_heap_new _ _
  have hs1 : w.heap.size < w1.heap.size := by rw [hw1]; simp
  simp only [zeroEt, Et.cells] at hw1
  go_wp2_with fail
  rw [← hw1]
  clear hw1
  refine (HC.out w1).mono ?_
  rintro e w2 ⟨A, c, cs, rfl, hcs, hcap, hR2, hb2⟩
  have HB2 := hide (HB1.out.trans (hb2.mono HB1.out.size))
  have HR2 := hide ((hb2.block _ hs1).trans hr1)
  have HS2 := hide (show w.heap.size < w2.heap.size from Nat.lt_of_lt_of_le hs1 hb2.size)
  have HRd := hide hR2
  have HCS := hide hcs
  have hlen : 0 < cs.length := by
    rcases Nat.eq_zero_or_pos cs.length with h0 | h0
    · have e0 : cs = [] := List.length_eq_zero_iff.1 h0
      rw [e0] at hcs
      exact absurd hcs.symm (words_ne _)
    · exact h0
  have HLen := hide hlen
  have hzs : ∀ x ∈ cs, x.size ≤ s.size := fun x hx => by
    have h1 : toL x ∈ wordsW (toL s) := by rw [← hcs]; exact List.mem_map.2 ⟨x, hx, rfl⟩
    have h2 := words_len (toL s) _ h1
    simpa [toL] using h2
  have HZs := hide hzs
  have hcli : (cs.length : Int) ≤ 300001 := by
    have h1 := words_count (toL s)
    rw [← hcs] at h1
    have := HS.out
    simp [toL] at h1
    omega
  have HCL := hide hcli
  clear hb2 hr1 hs1 hR2 hcs HC hlen hzs hcli
  have HOk := hide (fun h : okR s = true => ok_kind h)
  go_wp2_with fail
  go_loopg [5] 9 (fun gk kv wr => ∃ k : Nat, kv = .int .i64 k ∧ k + gk = 10 ∧ 1 ≤ k ∧ Hid (okR s = true → (k : Int) ≤ (guessT s).k) ∧ Hid (Below w2.heap.size w2 wr))
  case atStart => exact ⟨1, rfl, by omega, Nat.le_refl _, hide (fun h => by have := (HOk.out h).1; omega), hide (Below.refl _ _)⟩
  case round =>
    obtain ⟨k, rfl, hkg, hk1, HI, HB⟩ := hrel
    cases gk with
    | zero =>
      obtain rfl : k = 10 := by omega
      have ho : okR s = false := by
        cases h : okR s with
        | false => rfl
        | true => have h1 := HI.out h; have h2 := (HOk.out h).2.1; omega
      have HE := hide (show (readT s).cells = #[.int .i64 0, .string ⟨#[]⟩, .string ⟨#[]⟩, .int .i64 0] by unfold readT; rw [ho]; rfl)
      have HO := hide ho
      have hr9 := (HB.out.block _ HS2.out).trans HR2.out
      have m0 : wr.cell? ⟨w.heap.size, 0, none⟩ = some (.int .i64 0) := cell_of_row _ _ _ _ _ _ hr9
      have m1 : wr.cell? ⟨w.heap.size, 1, none⟩ = some (.string ⟨#[]⟩) := cell_of_row _ _ _ _ _ _ hr9
      have m2 : wr.cell? ⟨w.heap.size, 2, none⟩ = some (.string ⟨#[]⟩) := cell_of_row _ _ _ _ _ _ hr9
      have m3 : wr.cell? ⟨w.heap.size, 3, none⟩ = some (.int .i64 0) := cell_of_row _ _ _ _ _ _ hr9
      have y0 : wr.frozen? ⟨w.heap.size, 0, none⟩ = false := frozen_of_row _ _ _ _ _ hr9
      have y1 : wr.frozen? ⟨w.heap.size, 1, none⟩ = false := frozen_of_row _ _ _ _ _ hr9
      have y2 : wr.frozen? ⟨w.heap.size, 2, none⟩ = false := frozen_of_row _ _ _ _ _ hr9
      have y3 : wr.frozen? ⟨w.heap.size, 3, none⟩ = false := frozen_of_row _ _ _ _ _ hr9
      have HR0 := hide (four_put wr w.heap.size _ _ _ _ (.int .i64 0) (.string ⟨#[]⟩) (.string ⟨#[]⟩) (.int .i64 0) _ hr9)
      have HBN := hide ((HB2.out.trans (HB.out.mono HB2.out.size)).trans HR0.out.1)
      clear hr9 ho
      go_wp2_with fail
      refine bodyPost_ret (results_row2 (P := Tryd.prog) rfl _ _ w.heap.size _ _ _ _ rfl HR0.out.2 Tryd.underlying23 rfl (by kernel_rfl)) rfl ⟨by rw [HE.out, HO.out]; rfl, HBN.out⟩
    | succ g0 =>
      have hk9 : (k : Int) ≤ 9 := by omega
      obtain ⟨x0, hx0⟩ : ∃ x0, cs[0]? = some x0 := ⟨_, List.getElem?_eq_getElem HLen.out⟩
      have HX0 := hide hx0
      have HRr := hide (HRd.out.below HB.out (Nat.le_refl _))
      obtain ⟨ad, rfl, hlt, hc0⟩ := HRr.out 0 x0 hx0
      rw [show ad.add 0 = ad from rfl] at hc0
      have q0 := fun d os => cell_regrown hc0 d os
      have hwd := fun d os => Calls.regrown_of (HWd.out k (Go.Sort.grow (redrawn wr d) os))
      have hli : (0 : Int) < cs.length := by have := HLen.out; omega
      clear hx0 hc0
      go_wp2_with fail
      refine wp_region_quiet_below (by kernel_rfl) (by kernel_rfl) ?_
      repeat (go_big_quiet_step ((go_at_call 13; exact hwd _ _)))
      refine wpQuiet_nil ?_
      intro w13 hw13
      obtain ⟨⟨d9, os9⟩, rfl⟩ := hw13
      have HB3 := hide (HB.out.trans ((below_regrown wr d9 os9).mono HB.out.size))
      generalize Go.Sort.grow (redrawn wr d9) os9 = w3 at HB3 ⊢
      clear q0 hwd HB HRr
      cases hwk : (x0.toList == (wordB k).toList) with
      | false =>
        have hwn : (x0.toList != (wordB k).toList) = true := by rw [bne, hwk]; rfl
        have HN := hide (show okR s = true → ((k + 1 : Nat) : Int) ≤ (guessT s).k from fun h => by
          have h1 := HI.out h
          have h2 := (cand_ok HCS.out h).1
          rw [HX0.out] at h2
          have h3 : x0 = wordB (guessT s).k := by injection h2
          rcases Int.lt_or_le k (guessT s).k with h4 | h4
          · omega
          · have h5 : (guessT s).k = k := by omega
            rw [h5] at h3
            rw [h3] at hwk
            rw [(same_iff _ _).2 rfl] at hwk
            cases hwk)
        clear hwk
        go_wp2_with fail
        go_roundg g0
        case rel => exact ⟨k + 1, rfl, by omega, by omega, HN, HB3⟩
        case measure => omega
      | true =>
        have hwn : (x0.toList != (wordB k).toList) = false := by rw [bne, hwk]; rfl
        have HX := hide (show cs[0]? = some (wordB k) by rw [HX0.out, (same_iff _ _).1 hwk])
        have HKw := hide (show wordL (k : Int) ≠ [] from word_ne (by omega) (by omega))
        have hHk := fun W => HHs.out (k : Int) W
        simp only [has3] at hHk
        have HHk := hide hHk
        clear hHk hwk
        obtain ⟨w4, hw4⟩ : ∃ w4, w4 = w3.alloc (.cells #[.int .i64 k, .string ⟨#[]⟩, .string ⟨#[]⟩, .int .i64 0] 23) := ⟨_, rfl⟩
        have HB4 := hide (show Below w2.heap.size w2 w4 by rw [hw4]; exact HB3.out.alloc HB3.out.size _)
        have HE4 := hide (show w4.heap[w3.heap.size]? = some (.cells #[.int .i64 k, .string ⟨#[]⟩, .string ⟨#[]⟩, .int .i64 0] 23 (0, 0)) by rw [hw4]; exact World.alloc_heap_new _ _)
        have HPz := hide (show w2.heap.size ≤ w3.heap.size from HB3.out.size)
        go_wp2_with fail
        rw [← hw4]
        clear hw4 HB3 hwn
        generalize w3.heap.size = p at HE4 HPz ⊢
        have hlt4 : ad.block < w4.heap.size := by have := HB4.out.size; omega
        have hix := index3 (hasX (k : Int) 1) (hasX (k : Int) 2) (hasX (k : Int) 4)
        have HIx := hide hix
        cases h1 : hasX (k : Int) 1 with
        | false =>
          have hix := HIx.out
          have HH := hide (HHk.out w4)
          rw [h1] at HH hix
          have HX1 := hide h1
          clear h1
          refine (HH.out).mono ?_
          rintro e wq ⟨rfl, hb⟩
          have HBq := hide (HB4.out.trans (hb.mono HB4.out.size))
          have HEq := hide ((hb.block _ (Array.getElem?_eq_some_iff.1 HE4.out).1).trans HE4.out)
          clear hb HH
          go_wp2_with fail
          cases h2 : hasX (k : Int) 2 with
          | false =>
            have hix := HIx.out
            have HH := hide (HHk.out wq)
            rw [h2] at HH hix
            have HX2 := hide h2
            clear h2
            refine (HH.out).mono ?_
            rintro e wu ⟨rfl, hb⟩
            have HBu := hide (HBq.out.trans (hb.mono HBq.out.size))
            have HEu := hide ((hb.block _ (Array.getElem?_eq_some_iff.1 HEq.out).1).trans HEq.out)
            clear hb HH
            go_wp2_with fail
            have HcF := hide (show cF cs k = ⟨#[]⟩ by unfold cF; rw [HX1.out]; rfl)
            have HcT := hide (show cT cs k = ⟨#[]⟩ by unfold cT; rw [HX2.out]; rfl)
            have HHit := hide (fun n : Int => cand_hit (n := n) HCS.out HX.out HKw.out)
            have HCand := hide (fun h : okR s = true => cand_ok HCS.out h)
            rw [HcF.out, HcT.out] at HHit
            have HFz := hide (show ((⟨#[]⟩ : ByteArray).size : Int) ≤ 400000 by decide)
            have HTz := hide (show ((⟨#[]⟩ : ByteArray).size : Int) ≤ 400000 by decide)
            have HLn := hide (fun n W => refELine_any k (⟨#[]⟩) (⟨#[]⟩) n W HFz.out HTz.out)
            go_loopg [8] 512 (fun gk nv wr => ∃ n : Nat, nv = .int .i64 n ∧ n + gk = 512 ∧ (hasX (k : Int) 4 = false → n = 0) ∧ Hid (okR s = true → (guessT s).k = k → (n : Int) ≤ (guessT s).n) ∧ Hid (Below w2.heap.size w2 wr) ∧ Hid (∃ m : Int, wr.heap[p]? = some (.cells #[.int .i64 k, .string (⟨#[]⟩), .string (⟨#[]⟩), .int .i64 (m)] 23 (0, 0))))
            case atStart => exact ⟨0, rfl, by omega, fun _ => rfl, hide (fun h _ => (HOk.out h).2.2.1), HBu, hide ⟨0, HEu.out⟩⟩
            case round =>
              obtain ⟨n, rfl, hng, hn4, HJ, HBi, HEi⟩ := hrel
              cases gk with
              | zero =>
                obtain rfl : n = 512 := by omega
                have HN := hide (show okR s = true → ((k + 1 : Nat) : Int) ≤ (guessT s).k from fun h => by
                  have h1 := HI.out h
                  have h2 := (HOk.out h).2.2.2.1
                  rcases Int.lt_or_le k (guessT s).k with h4 | h4
                  · omega
                  · have h5 := HJ.out h (by omega); omega)
                go_wp2_with fail
                go_roundg g0
                case rel => exact ⟨k + 1, rfl, by omega, by omega, HN, HBi⟩
                case measure => omega
              | succ g1 =>
                have hn5 : (n : Int) < 512 := by omega
                obtain ⟨z, hz⟩ := HEi.out
                have yz : wr.frozen? ⟨p, 3, none⟩ = false := frozen_of_row _ _ _ _ _ hz
                have cz : wr.cell? ⟨p, 3, none⟩ = some (.int .i64 z) := cell_of_row _ _ _ _ _ _ hz
                obtain ⟨w5, hw5⟩ : ∃ W, W = wr.setCell ⟨p, 3, none⟩ (.int .i64 n) := ⟨_, rfl⟩
                have HB5 := hide (show Below w2.heap.size w2 w5 by rw [hw5]; exact HBi.out.setCell (p := ⟨p, 3, none⟩) HPz.out _)
                have he5 : w5.heap[p]? = some (.cells #[.int .i64 k, .string (⟨#[]⟩), .string (⟨#[]⟩), .int .i64 (n)] 23 (0, 0)) := by rw [hw5]; exact heap_setCell_same _ _ _ _ _ _ hz
                have k0 : w5.cell? ⟨p, 0, none⟩ = some (.int .i64 k) := cell_of_row _ _ _ _ _ _ he5
                have k1 : w5.cell? ⟨p, 1, none⟩ = some (.string (⟨#[]⟩)) := cell_of_row _ _ _ _ _ _ he5
                have k2 : w5.cell? ⟨p, 2, none⟩ = some (.string (⟨#[]⟩)) := cell_of_row _ _ _ _ _ _ he5
                have k3 : w5.cell? ⟨p, 3, none⟩ = some (.int .i64 n) := cell_of_row _ _ _ _ _ _ he5
                rw [hw5] at k0 k1 k2 k3
                have HE5 := hide he5
                clear he5 hz HEi HBi
                go_wp2_with fail
                rw [← hw5]
                clear hw5 k0 k1 k2 k3 yz cz
                refine (HLn.out n w5).mono ?_
                rintro e w6 ⟨rfl, hb6⟩
                have HB6 := hide (HB5.out.trans (hb6.mono HB5.out.size))
                have HE6 := hide ((hb6.block _ (Array.getElem?_eq_some_iff.1 HE5.out).1).trans HE5.out)
                clear hb6 HB5 HE5
                cases hl : ((lineB k (⟨#[]⟩) (⟨#[]⟩) n).toList == s.toList) with
                | true =>
                  obtain ⟨ho, hr⟩ := HHit.out n ((same_iff _ _).1 hl)
                  have HO := hide ho
                  have HE := hide (show (readT s).cells = #[.int .i64 k, .string (⟨#[]⟩), .string (⟨#[]⟩), .int .i64 (n)] by rw [hr]; rfl)
                  have k0 : w6.cell? ⟨p, 0, none⟩ = some (.int .i64 k) := cell_of_row _ _ _ _ _ _ HE6.out
                  have k1 : w6.cell? ⟨p, 1, none⟩ = some (.string (⟨#[]⟩)) := cell_of_row _ _ _ _ _ _ HE6.out
                  have k2 : w6.cell? ⟨p, 2, none⟩ = some (.string (⟨#[]⟩)) := cell_of_row _ _ _ _ _ _ HE6.out
                  have k3 : w6.cell? ⟨p, 3, none⟩ = some (.int .i64 n) := cell_of_row _ _ _ _ _ _ HE6.out
                  have hr9 := (HB6.out.block _ HS2.out).trans HR2.out
                  have m0 : w6.cell? ⟨w.heap.size, 0, none⟩ = some (.int .i64 0) := cell_of_row _ _ _ _ _ _ hr9
                  have m1 : w6.cell? ⟨w.heap.size, 1, none⟩ = some (.string ⟨#[]⟩) := cell_of_row _ _ _ _ _ _ hr9
                  have m2 : w6.cell? ⟨w.heap.size, 2, none⟩ = some (.string ⟨#[]⟩) := cell_of_row _ _ _ _ _ _ hr9
                  have m3 : w6.cell? ⟨w.heap.size, 3, none⟩ = some (.int .i64 0) := cell_of_row _ _ _ _ _ _ hr9
                  have y0 : w6.frozen? ⟨w.heap.size, 0, none⟩ = false := frozen_of_row _ _ _ _ _ hr9
                  have y1 : w6.frozen? ⟨w.heap.size, 1, none⟩ = false := frozen_of_row _ _ _ _ _ hr9
                  have y2 : w6.frozen? ⟨w.heap.size, 2, none⟩ = false := frozen_of_row _ _ _ _ _ hr9
                  have y3 : w6.frozen? ⟨w.heap.size, 3, none⟩ = false := frozen_of_row _ _ _ _ _ hr9
                  have HR0 := hide (four_put w6 w.heap.size _ _ _ _ (.int .i64 k) (.string (⟨#[]⟩)) (.string (⟨#[]⟩)) (.int .i64 n) _ hr9)
                  have HBN := hide ((HB2.out.trans (HB6.out.mono HB2.out.size)).trans HR0.out.1)
                  clear hr9 ho hr
                  go_wp2_with fail
                  refine bodyPost_ret (results_row2 (P := Tryd.prog) rfl _ _ w.heap.size _ _ _ _ rfl HR0.out.2 Tryd.underlying23 rfl (by kernel_rfl)) rfl ⟨by rw [HE.out, HO.out]; rfl, HBN.out⟩
                | false =>
                  have HMiss := hide (show okR s = true → (guessT s).k = k → (guessT s).n ≠ n from fun h hk e => by
                    obtain ⟨_, h2, h3⟩ := HCand.out h
                    rw [hk] at h2 h3
                    rw [HcF.out] at h2
                    rw [HcT.out] at h3
                    have h4 := (ok_facts h).2
                    rw [hk, ← h2, ← h3, e] at h4
                    rw [← h4, (same_iff _ _).2 rfl] at hl
                    cases hl)
                  have HH6 := hide (HHk.out w6)
                  have hix := index3 (hasX (k : Int) 1) (hasX (k : Int) 2) (hasX (k : Int) 4)
                  rcases Bool.eq_false_or_eq_true (hasX (k : Int) 4) with h4 | h4
                  · skip
                    rw [h4] at HH6 hix
                    have HX4 := hide h4
                    clear h4
                    go_wp2_with fail
                    refine (HH6.out).mono ?_
                    rintro e w7 ⟨rfl, hb7⟩
                    have HB7 := hide (HB6.out.trans (hb7.mono HB6.out.size))
                    have HE7 := hide ((hb7.block _ (Array.getElem?_eq_some_iff.1 HE6.out).1).trans HE6.out)
                    clear hb7 HB6 HE6 HH6
                    go_wp2_with fail
                    go_roundg g1
                    case rel => exact ⟨n + 1, rfl, by omega, (fun h => by rw [HX4.out] at h; cases h), hide (fun h hk => by have h1 := HJ.out h hk; have h2 := HMiss.out h hk; omega), HB7, hide ⟨n, HE7.out⟩⟩
                    case measure => omega
                  · skip
                    rw [h4] at HH6 hix
                    have HX4 := hide h4
                    clear h4
                    go_wp2_with fail
                    refine (HH6.out).mono ?_
                    rintro e w7 ⟨rfl, hb7⟩
                    have HB7 := hide (HB6.out.trans (hb7.mono HB6.out.size))
                    have HE7 := hide ((hb7.block _ (Array.getElem?_eq_some_iff.1 HE6.out).1).trans HE6.out)
                    clear hb7 HB6 HE6 HH6
                    go_wp2_with fail
                    have HN := hide (show okR s = true → ((k + 1 : Nat) : Int) ≤ (guessT s).k from fun h => by
                      have h1 := HI.out h
                      rcases Int.lt_or_le k (guessT s).k with h4 | h4
                      · omega
                      · exfalso
                        have h5 : (guessT s).k = k := by omega
                        have h6 := (HOk.out h).2.2.2.2
                        rw [h5] at h6
                        have h7 := HMiss.out h h5
                        have h8 := h6 HX4.out
                        have h9 := hn4 HX4.out
                        omega)
                    go_roundg g0
                    case rel => exact ⟨k + 1, rfl, by omega, by omega, HN, HB7⟩
                    case measure => omega
          | true =>
            have hix := HIx.out
            have HH := hide (HHk.out wq)
            rw [h2] at HH hix
            have HX2 := hide h2
            clear h2
            refine (HH.out).mono ?_
            rintro e wu ⟨rfl, hb⟩
            have HBu := hide (HBq.out.trans (hb.mono HBq.out.size))
            have HEu := hide ((hb.block _ (Array.getElem?_eq_some_iff.1 HEq.out).1).trans HEq.out)
            clear hb HH
            have HcA := hide (show cA cs k = 1 by unfold cA; rw [HX1.out]; rfl)
            by_cases hl2 : (1 : Int) < cs.length
            · obtain ⟨xt, hxt⟩ : ∃ x, cs[1]? = some x := ⟨_, List.getElem?_eq_getElem (by omega)⟩
              obtain ⟨_, e1, _, hct⟩ := (HRd.out.below HBu.out (Nat.le_refl _)) 1 xt hxt
              cases e1
              have hctx := hct
              rw [add_pos ad 1 (by decide)] at hctx
              have HTm := hide (List.mem_of_getElem? hxt)
              have HcTx := hide (show cT cs k = xt by unfold cT; rw [HcA.out, HX2.out, decide_eq_true (show 1 < cs.length by omega), hxt]; rfl)
              have yt : wu.frozen? ⟨p, 2, none⟩ = false := frozen_of_row _ _ _ _ _ HEu.out
              have ct0 : wu.cell? ⟨p, 2, none⟩ = some (.string ⟨#[]⟩) := cell_of_row _ _ _ _ _ _ HEu.out
              clear hxt
              go_wp2_with fail
              obtain ⟨wv, hwv⟩ : ∃ W, W = wu.setCell ⟨p, 2, none⟩ (.string xt) := ⟨_, rfl⟩
              have HBv := hide (show Below w2.heap.size w2 wv by rw [hwv]; exact HBu.out.setCell (p := ⟨p, 2, none⟩) HPz.out _)
              have HEv := hide (show wv.heap[p]? = some (.cells #[.int .i64 k, .string (⟨#[]⟩), .string (xt), .int .i64 (0)] 23 (0, 0)) by rw [hwv]; exact heap_setCell_same _ _ _ _ _ _ HEu.out)
              rw [← hwv]
              clear hwv yt ct0 hct hctx hl2
              have HcF := hide (show cF cs k = ⟨#[]⟩ by unfold cF; rw [HX1.out]; rfl)
              have HcT := hide (show cT cs k = xt by exact HcTx.out)
              have HHit := hide (fun n : Int => cand_hit (n := n) HCS.out HX.out HKw.out)
              have HCand := hide (fun h : okR s = true => cand_ok HCS.out h)
              rw [HcF.out, HcT.out] at HHit
              have HFz := hide (show ((⟨#[]⟩ : ByteArray).size : Int) ≤ 400000 by decide)
              have HTz := hide (show ((xt : ByteArray).size : Int) ≤ 400000 by have := HS.out; have := HZs.out _ HTm.out; omega)
              have HLn := hide (fun n W => refELine_any k (⟨#[]⟩) (xt) n W HFz.out HTz.out)
              go_loopg [8] 512 (fun gk nv wr => ∃ n : Nat, nv = .int .i64 n ∧ n + gk = 512 ∧ (hasX (k : Int) 4 = false → n = 0) ∧ Hid (okR s = true → (guessT s).k = k → (n : Int) ≤ (guessT s).n) ∧ Hid (Below w2.heap.size w2 wr) ∧ Hid (∃ m : Int, wr.heap[p]? = some (.cells #[.int .i64 k, .string (⟨#[]⟩), .string (xt), .int .i64 (m)] 23 (0, 0))))
              case atStart => exact ⟨0, rfl, by omega, fun _ => rfl, hide (fun h _ => (HOk.out h).2.2.1), HBv, hide ⟨0, HEv.out⟩⟩
              case round =>
                obtain ⟨n, rfl, hng, hn4, HJ, HBi, HEi⟩ := hrel
                cases gk with
                | zero =>
                  obtain rfl : n = 512 := by omega
                  have HN := hide (show okR s = true → ((k + 1 : Nat) : Int) ≤ (guessT s).k from fun h => by
                    have h1 := HI.out h
                    have h2 := (HOk.out h).2.2.2.1
                    rcases Int.lt_or_le k (guessT s).k with h4 | h4
                    · omega
                    · have h5 := HJ.out h (by omega); omega)
                  go_wp2_with fail
                  go_roundg g0
                  case rel => exact ⟨k + 1, rfl, by omega, by omega, HN, HBi⟩
                  case measure => omega
                | succ g1 =>
                  have hn5 : (n : Int) < 512 := by omega
                  obtain ⟨z, hz⟩ := HEi.out
                  have yz : wr.frozen? ⟨p, 3, none⟩ = false := frozen_of_row _ _ _ _ _ hz
                  have cz : wr.cell? ⟨p, 3, none⟩ = some (.int .i64 z) := cell_of_row _ _ _ _ _ _ hz
                  obtain ⟨w5, hw5⟩ : ∃ W, W = wr.setCell ⟨p, 3, none⟩ (.int .i64 n) := ⟨_, rfl⟩
                  have HB5 := hide (show Below w2.heap.size w2 w5 by rw [hw5]; exact HBi.out.setCell (p := ⟨p, 3, none⟩) HPz.out _)
                  have he5 : w5.heap[p]? = some (.cells #[.int .i64 k, .string (⟨#[]⟩), .string (xt), .int .i64 (n)] 23 (0, 0)) := by rw [hw5]; exact heap_setCell_same _ _ _ _ _ _ hz
                  have k0 : w5.cell? ⟨p, 0, none⟩ = some (.int .i64 k) := cell_of_row _ _ _ _ _ _ he5
                  have k1 : w5.cell? ⟨p, 1, none⟩ = some (.string (⟨#[]⟩)) := cell_of_row _ _ _ _ _ _ he5
                  have k2 : w5.cell? ⟨p, 2, none⟩ = some (.string (xt)) := cell_of_row _ _ _ _ _ _ he5
                  have k3 : w5.cell? ⟨p, 3, none⟩ = some (.int .i64 n) := cell_of_row _ _ _ _ _ _ he5
                  rw [hw5] at k0 k1 k2 k3
                  have HE5 := hide he5
                  clear he5 hz HEi HBi
                  go_wp2_with fail
                  rw [← hw5]
                  clear hw5 k0 k1 k2 k3 yz cz
                  refine (HLn.out n w5).mono ?_
                  rintro e w6 ⟨rfl, hb6⟩
                  have HB6 := hide (HB5.out.trans (hb6.mono HB5.out.size))
                  have HE6 := hide ((hb6.block _ (Array.getElem?_eq_some_iff.1 HE5.out).1).trans HE5.out)
                  clear hb6 HB5 HE5
                  cases hl : ((lineB k (⟨#[]⟩) (xt) n).toList == s.toList) with
                  | true =>
                    obtain ⟨ho, hr⟩ := HHit.out n ((same_iff _ _).1 hl)
                    have HO := hide ho
                    have HE := hide (show (readT s).cells = #[.int .i64 k, .string (⟨#[]⟩), .string (xt), .int .i64 (n)] by rw [hr]; rfl)
                    have k0 : w6.cell? ⟨p, 0, none⟩ = some (.int .i64 k) := cell_of_row _ _ _ _ _ _ HE6.out
                    have k1 : w6.cell? ⟨p, 1, none⟩ = some (.string (⟨#[]⟩)) := cell_of_row _ _ _ _ _ _ HE6.out
                    have k2 : w6.cell? ⟨p, 2, none⟩ = some (.string (xt)) := cell_of_row _ _ _ _ _ _ HE6.out
                    have k3 : w6.cell? ⟨p, 3, none⟩ = some (.int .i64 n) := cell_of_row _ _ _ _ _ _ HE6.out
                    have hr9 := (HB6.out.block _ HS2.out).trans HR2.out
                    have m0 : w6.cell? ⟨w.heap.size, 0, none⟩ = some (.int .i64 0) := cell_of_row _ _ _ _ _ _ hr9
                    have m1 : w6.cell? ⟨w.heap.size, 1, none⟩ = some (.string ⟨#[]⟩) := cell_of_row _ _ _ _ _ _ hr9
                    have m2 : w6.cell? ⟨w.heap.size, 2, none⟩ = some (.string ⟨#[]⟩) := cell_of_row _ _ _ _ _ _ hr9
                    have m3 : w6.cell? ⟨w.heap.size, 3, none⟩ = some (.int .i64 0) := cell_of_row _ _ _ _ _ _ hr9
                    have y0 : w6.frozen? ⟨w.heap.size, 0, none⟩ = false := frozen_of_row _ _ _ _ _ hr9
                    have y1 : w6.frozen? ⟨w.heap.size, 1, none⟩ = false := frozen_of_row _ _ _ _ _ hr9
                    have y2 : w6.frozen? ⟨w.heap.size, 2, none⟩ = false := frozen_of_row _ _ _ _ _ hr9
                    have y3 : w6.frozen? ⟨w.heap.size, 3, none⟩ = false := frozen_of_row _ _ _ _ _ hr9
                    have HR0 := hide (four_put w6 w.heap.size _ _ _ _ (.int .i64 k) (.string (⟨#[]⟩)) (.string (xt)) (.int .i64 n) _ hr9)
                    have HBN := hide ((HB2.out.trans (HB6.out.mono HB2.out.size)).trans HR0.out.1)
                    clear hr9 ho hr
                    go_wp2_with fail
                    refine bodyPost_ret (results_row2 (P := Tryd.prog) rfl _ _ w.heap.size _ _ _ _ rfl HR0.out.2 Tryd.underlying23 rfl (by kernel_rfl)) rfl ⟨by rw [HE.out, HO.out]; rfl, HBN.out⟩
                  | false =>
                    have HMiss := hide (show okR s = true → (guessT s).k = k → (guessT s).n ≠ n from fun h hk e => by
                      obtain ⟨_, h2, h3⟩ := HCand.out h
                      rw [hk] at h2 h3
                      rw [HcF.out] at h2
                      rw [HcT.out] at h3
                      have h4 := (ok_facts h).2
                      rw [hk, ← h2, ← h3, e] at h4
                      rw [← h4, (same_iff _ _).2 rfl] at hl
                      cases hl)
                    have HH6 := hide (HHk.out w6)
                    have hix := index3 (hasX (k : Int) 1) (hasX (k : Int) 2) (hasX (k : Int) 4)
                    rcases Bool.eq_false_or_eq_true (hasX (k : Int) 4) with h4 | h4
                    · skip
                      rw [h4] at HH6 hix
                      have HX4 := hide h4
                      clear h4
                      go_wp2_with fail
                      refine (HH6.out).mono ?_
                      rintro e w7 ⟨rfl, hb7⟩
                      have HB7 := hide (HB6.out.trans (hb7.mono HB6.out.size))
                      have HE7 := hide ((hb7.block _ (Array.getElem?_eq_some_iff.1 HE6.out).1).trans HE6.out)
                      clear hb7 HB6 HE6 HH6
                      go_wp2_with fail
                      go_roundg g1
                      case rel => exact ⟨n + 1, rfl, by omega, (fun h => by rw [HX4.out] at h; cases h), hide (fun h hk => by have h1 := HJ.out h hk; have h2 := HMiss.out h hk; omega), HB7, hide ⟨n, HE7.out⟩⟩
                      case measure => omega
                    · skip
                      rw [h4] at HH6 hix
                      have HX4 := hide h4
                      clear h4
                      go_wp2_with fail
                      refine (HH6.out).mono ?_
                      rintro e w7 ⟨rfl, hb7⟩
                      have HB7 := hide (HB6.out.trans (hb7.mono HB6.out.size))
                      have HE7 := hide ((hb7.block _ (Array.getElem?_eq_some_iff.1 HE6.out).1).trans HE6.out)
                      clear hb7 HB6 HE6 HH6
                      go_wp2_with fail
                      have HN := hide (show okR s = true → ((k + 1 : Nat) : Int) ≤ (guessT s).k from fun h => by
                        have h1 := HI.out h
                        rcases Int.lt_or_le k (guessT s).k with h4 | h4
                        · omega
                        · exfalso
                          have h5 : (guessT s).k = k := by omega
                          have h6 := (HOk.out h).2.2.2.2
                          rw [h5] at h6
                          have h7 := HMiss.out h h5
                          have h8 := h6 HX4.out
                          have h9 := hn4 HX4.out
                          omega)
                      go_roundg g0
                      case rel => exact ⟨k + 1, rfl, by omega, by omega, HN, HB7⟩
                      case measure => omega
            · have HcTx := hide (show cT cs k = ⟨#[]⟩ by unfold cT; rw [HcA.out, HX2.out, decide_eq_false (show ¬ 1 < cs.length by omega)]; rfl)
              go_wp2_with fail
              clear hl2
              have HcF := hide (show cF cs k = ⟨#[]⟩ by unfold cF; rw [HX1.out]; rfl)
              have HcT := hide (show cT cs k = ⟨#[]⟩ by exact HcTx.out)
              have HHit := hide (fun n : Int => cand_hit (n := n) HCS.out HX.out HKw.out)
              have HCand := hide (fun h : okR s = true => cand_ok HCS.out h)
              rw [HcF.out, HcT.out] at HHit
              have HFz := hide (show ((⟨#[]⟩ : ByteArray).size : Int) ≤ 400000 by decide)
              have HTz := hide (show ((⟨#[]⟩ : ByteArray).size : Int) ≤ 400000 by decide)
              have HLn := hide (fun n W => refELine_any k (⟨#[]⟩) (⟨#[]⟩) n W HFz.out HTz.out)
              go_loopg [8] 512 (fun gk nv wr => ∃ n : Nat, nv = .int .i64 n ∧ n + gk = 512 ∧ (hasX (k : Int) 4 = false → n = 0) ∧ Hid (okR s = true → (guessT s).k = k → (n : Int) ≤ (guessT s).n) ∧ Hid (Below w2.heap.size w2 wr) ∧ Hid (∃ m : Int, wr.heap[p]? = some (.cells #[.int .i64 k, .string (⟨#[]⟩), .string (⟨#[]⟩), .int .i64 (m)] 23 (0, 0))))
              case atStart => exact ⟨0, rfl, by omega, fun _ => rfl, hide (fun h _ => (HOk.out h).2.2.1), HBu, hide ⟨0, HEu.out⟩⟩
              case round =>
                obtain ⟨n, rfl, hng, hn4, HJ, HBi, HEi⟩ := hrel
                cases gk with
                | zero =>
                  obtain rfl : n = 512 := by omega
                  have HN := hide (show okR s = true → ((k + 1 : Nat) : Int) ≤ (guessT s).k from fun h => by
                    have h1 := HI.out h
                    have h2 := (HOk.out h).2.2.2.1
                    rcases Int.lt_or_le k (guessT s).k with h4 | h4
                    · omega
                    · have h5 := HJ.out h (by omega); omega)
                  go_wp2_with fail
                  go_roundg g0
                  case rel => exact ⟨k + 1, rfl, by omega, by omega, HN, HBi⟩
                  case measure => omega
                | succ g1 =>
                  have hn5 : (n : Int) < 512 := by omega
                  obtain ⟨z, hz⟩ := HEi.out
                  have yz : wr.frozen? ⟨p, 3, none⟩ = false := frozen_of_row _ _ _ _ _ hz
                  have cz : wr.cell? ⟨p, 3, none⟩ = some (.int .i64 z) := cell_of_row _ _ _ _ _ _ hz
                  obtain ⟨w5, hw5⟩ : ∃ W, W = wr.setCell ⟨p, 3, none⟩ (.int .i64 n) := ⟨_, rfl⟩
                  have HB5 := hide (show Below w2.heap.size w2 w5 by rw [hw5]; exact HBi.out.setCell (p := ⟨p, 3, none⟩) HPz.out _)
                  have he5 : w5.heap[p]? = some (.cells #[.int .i64 k, .string (⟨#[]⟩), .string (⟨#[]⟩), .int .i64 (n)] 23 (0, 0)) := by rw [hw5]; exact heap_setCell_same _ _ _ _ _ _ hz
                  have k0 : w5.cell? ⟨p, 0, none⟩ = some (.int .i64 k) := cell_of_row _ _ _ _ _ _ he5
                  have k1 : w5.cell? ⟨p, 1, none⟩ = some (.string (⟨#[]⟩)) := cell_of_row _ _ _ _ _ _ he5
                  have k2 : w5.cell? ⟨p, 2, none⟩ = some (.string (⟨#[]⟩)) := cell_of_row _ _ _ _ _ _ he5
                  have k3 : w5.cell? ⟨p, 3, none⟩ = some (.int .i64 n) := cell_of_row _ _ _ _ _ _ he5
                  rw [hw5] at k0 k1 k2 k3
                  have HE5 := hide he5
                  clear he5 hz HEi HBi
                  go_wp2_with fail
                  rw [← hw5]
                  clear hw5 k0 k1 k2 k3 yz cz
                  refine (HLn.out n w5).mono ?_
                  rintro e w6 ⟨rfl, hb6⟩
                  have HB6 := hide (HB5.out.trans (hb6.mono HB5.out.size))
                  have HE6 := hide ((hb6.block _ (Array.getElem?_eq_some_iff.1 HE5.out).1).trans HE5.out)
                  clear hb6 HB5 HE5
                  cases hl : ((lineB k (⟨#[]⟩) (⟨#[]⟩) n).toList == s.toList) with
                  | true =>
                    obtain ⟨ho, hr⟩ := HHit.out n ((same_iff _ _).1 hl)
                    have HO := hide ho
                    have HE := hide (show (readT s).cells = #[.int .i64 k, .string (⟨#[]⟩), .string (⟨#[]⟩), .int .i64 (n)] by rw [hr]; rfl)
                    have k0 : w6.cell? ⟨p, 0, none⟩ = some (.int .i64 k) := cell_of_row _ _ _ _ _ _ HE6.out
                    have k1 : w6.cell? ⟨p, 1, none⟩ = some (.string (⟨#[]⟩)) := cell_of_row _ _ _ _ _ _ HE6.out
                    have k2 : w6.cell? ⟨p, 2, none⟩ = some (.string (⟨#[]⟩)) := cell_of_row _ _ _ _ _ _ HE6.out
                    have k3 : w6.cell? ⟨p, 3, none⟩ = some (.int .i64 n) := cell_of_row _ _ _ _ _ _ HE6.out
                    have hr9 := (HB6.out.block _ HS2.out).trans HR2.out
                    have m0 : w6.cell? ⟨w.heap.size, 0, none⟩ = some (.int .i64 0) := cell_of_row _ _ _ _ _ _ hr9
                    have m1 : w6.cell? ⟨w.heap.size, 1, none⟩ = some (.string ⟨#[]⟩) := cell_of_row _ _ _ _ _ _ hr9
                    have m2 : w6.cell? ⟨w.heap.size, 2, none⟩ = some (.string ⟨#[]⟩) := cell_of_row _ _ _ _ _ _ hr9
                    have m3 : w6.cell? ⟨w.heap.size, 3, none⟩ = some (.int .i64 0) := cell_of_row _ _ _ _ _ _ hr9
                    have y0 : w6.frozen? ⟨w.heap.size, 0, none⟩ = false := frozen_of_row _ _ _ _ _ hr9
                    have y1 : w6.frozen? ⟨w.heap.size, 1, none⟩ = false := frozen_of_row _ _ _ _ _ hr9
                    have y2 : w6.frozen? ⟨w.heap.size, 2, none⟩ = false := frozen_of_row _ _ _ _ _ hr9
                    have y3 : w6.frozen? ⟨w.heap.size, 3, none⟩ = false := frozen_of_row _ _ _ _ _ hr9
                    have HR0 := hide (four_put w6 w.heap.size _ _ _ _ (.int .i64 k) (.string (⟨#[]⟩)) (.string (⟨#[]⟩)) (.int .i64 n) _ hr9)
                    have HBN := hide ((HB2.out.trans (HB6.out.mono HB2.out.size)).trans HR0.out.1)
                    clear hr9 ho hr
                    go_wp2_with fail
                    refine bodyPost_ret (results_row2 (P := Tryd.prog) rfl _ _ w.heap.size _ _ _ _ rfl HR0.out.2 Tryd.underlying23 rfl (by kernel_rfl)) rfl ⟨by rw [HE.out, HO.out]; rfl, HBN.out⟩
                  | false =>
                    have HMiss := hide (show okR s = true → (guessT s).k = k → (guessT s).n ≠ n from fun h hk e => by
                      obtain ⟨_, h2, h3⟩ := HCand.out h
                      rw [hk] at h2 h3
                      rw [HcF.out] at h2
                      rw [HcT.out] at h3
                      have h4 := (ok_facts h).2
                      rw [hk, ← h2, ← h3, e] at h4
                      rw [← h4, (same_iff _ _).2 rfl] at hl
                      cases hl)
                    have HH6 := hide (HHk.out w6)
                    have hix := index3 (hasX (k : Int) 1) (hasX (k : Int) 2) (hasX (k : Int) 4)
                    rcases Bool.eq_false_or_eq_true (hasX (k : Int) 4) with h4 | h4
                    · skip
                      rw [h4] at HH6 hix
                      have HX4 := hide h4
                      clear h4
                      go_wp2_with fail
                      refine (HH6.out).mono ?_
                      rintro e w7 ⟨rfl, hb7⟩
                      have HB7 := hide (HB6.out.trans (hb7.mono HB6.out.size))
                      have HE7 := hide ((hb7.block _ (Array.getElem?_eq_some_iff.1 HE6.out).1).trans HE6.out)
                      clear hb7 HB6 HE6 HH6
                      go_wp2_with fail
                      go_roundg g1
                      case rel => exact ⟨n + 1, rfl, by omega, (fun h => by rw [HX4.out] at h; cases h), hide (fun h hk => by have h1 := HJ.out h hk; have h2 := HMiss.out h hk; omega), HB7, hide ⟨n, HE7.out⟩⟩
                      case measure => omega
                    · skip
                      rw [h4] at HH6 hix
                      have HX4 := hide h4
                      clear h4
                      go_wp2_with fail
                      refine (HH6.out).mono ?_
                      rintro e w7 ⟨rfl, hb7⟩
                      have HB7 := hide (HB6.out.trans (hb7.mono HB6.out.size))
                      have HE7 := hide ((hb7.block _ (Array.getElem?_eq_some_iff.1 HE6.out).1).trans HE6.out)
                      clear hb7 HB6 HE6 HH6
                      go_wp2_with fail
                      have HN := hide (show okR s = true → ((k + 1 : Nat) : Int) ≤ (guessT s).k from fun h => by
                        have h1 := HI.out h
                        rcases Int.lt_or_le k (guessT s).k with h4 | h4
                        · omega
                        · exfalso
                          have h5 : (guessT s).k = k := by omega
                          have h6 := (HOk.out h).2.2.2.2
                          rw [h5] at h6
                          have h7 := HMiss.out h h5
                          have h8 := h6 HX4.out
                          have h9 := hn4 HX4.out
                          omega)
                      go_roundg g0
                      case rel => exact ⟨k + 1, rfl, by omega, by omega, HN, HB7⟩
                      case measure => omega
        | true =>
          have hix := HIx.out
          have HH := hide (HHk.out w4)
          rw [h1] at HH hix
          have HX1 := hide h1
          clear h1
          refine (HH.out).mono ?_
          rintro e wq ⟨rfl, hb⟩
          have HBq := hide (HB4.out.trans (hb.mono HB4.out.size))
          have HEq := hide ((hb.block _ (Array.getElem?_eq_some_iff.1 HE4.out).1).trans HE4.out)
          clear hb HH
          by_cases hl1 : (1 : Int) < cs.length
          · have HL1 := hide (show 1 < cs.length by omega)
            obtain ⟨xf, hxf⟩ : ∃ x, cs[1]? = some x := ⟨_, List.getElem?_eq_getElem (by omega)⟩
            obtain ⟨_, e1, _, hcf⟩ := (HRd.out.below HBq.out (Nat.le_refl _)) 1 xf hxf
            cases e1
            have hcfx := hcf
            rw [add_pos ad 1 (by decide)] at hcfx
            have HFm := hide (List.mem_of_getElem? hxf)
            have HcFx := hide (show cF cs k = xf by unfold cF; rw [HX1.out, decide_eq_true HL1.out, hxf]; rfl)
            have yf : wq.frozen? ⟨p, 1, none⟩ = false := frozen_of_row _ _ _ _ _ HEq.out
            have cf0 : wq.cell? ⟨p, 1, none⟩ = some (.string ⟨#[]⟩) := cell_of_row _ _ _ _ _ _ HEq.out
            clear hxf
            go_wp2_with fail
            obtain ⟨wx, hwx⟩ : ∃ W, W = wq.setCell ⟨p, 1, none⟩ (.string xf) := ⟨_, rfl⟩
            have HBx := hide (show Below w2.heap.size w2 wx by rw [hwx]; exact HBq.out.setCell (p := ⟨p, 1, none⟩) HPz.out _)
            have HEx := hide (show wx.heap[p]? = some (.cells #[.int .i64 k, .string (xf), .string (⟨#[]⟩), .int .i64 (0)] 23 (0, 0)) by rw [hwx]; exact heap_setCell_same _ _ _ _ _ _ HEq.out)
            rw [← hwx]
            clear hwx yf cf0 hcf hcfx hl1
            cases h2 : hasX (k : Int) 2 with
            | false =>
              have hix := HIx.out
              have HH := hide (HHk.out wx)
              rw [h2] at HH hix
              have HX2 := hide h2
              clear h2
              refine (HH.out).mono ?_
              rintro e wu ⟨rfl, hb⟩
              have HBu := hide (HBx.out.trans (hb.mono HBx.out.size))
              have HEu := hide ((hb.block _ (Array.getElem?_eq_some_iff.1 HEx.out).1).trans HEx.out)
              clear hb HH
              go_wp2_with fail
              have HcF := hide (show cF cs k = xf by exact HcFx.out)
              have HcT := hide (show cT cs k = ⟨#[]⟩ by unfold cT; rw [HX2.out]; rfl)
              have HHit := hide (fun n : Int => cand_hit (n := n) HCS.out HX.out HKw.out)
              have HCand := hide (fun h : okR s = true => cand_ok HCS.out h)
              rw [HcF.out, HcT.out] at HHit
              have HFz := hide (show ((xf : ByteArray).size : Int) ≤ 400000 by have := HS.out; have := HZs.out _ HFm.out; omega)
              have HTz := hide (show ((⟨#[]⟩ : ByteArray).size : Int) ≤ 400000 by decide)
              have HLn := hide (fun n W => refELine_any k (xf) (⟨#[]⟩) n W HFz.out HTz.out)
              go_loopg [8] 512 (fun gk nv wr => ∃ n : Nat, nv = .int .i64 n ∧ n + gk = 512 ∧ (hasX (k : Int) 4 = false → n = 0) ∧ Hid (okR s = true → (guessT s).k = k → (n : Int) ≤ (guessT s).n) ∧ Hid (Below w2.heap.size w2 wr) ∧ Hid (∃ m : Int, wr.heap[p]? = some (.cells #[.int .i64 k, .string (xf), .string (⟨#[]⟩), .int .i64 (m)] 23 (0, 0))))
              case atStart => exact ⟨0, rfl, by omega, fun _ => rfl, hide (fun h _ => (HOk.out h).2.2.1), HBu, hide ⟨0, HEu.out⟩⟩
              case round =>
                obtain ⟨n, rfl, hng, hn4, HJ, HBi, HEi⟩ := hrel
                cases gk with
                | zero =>
                  obtain rfl : n = 512 := by omega
                  have HN := hide (show okR s = true → ((k + 1 : Nat) : Int) ≤ (guessT s).k from fun h => by
                    have h1 := HI.out h
                    have h2 := (HOk.out h).2.2.2.1
                    rcases Int.lt_or_le k (guessT s).k with h4 | h4
                    · omega
                    · have h5 := HJ.out h (by omega); omega)
                  go_wp2_with fail
                  go_roundg g0
                  case rel => exact ⟨k + 1, rfl, by omega, by omega, HN, HBi⟩
                  case measure => omega
                | succ g1 =>
                  have hn5 : (n : Int) < 512 := by omega
                  obtain ⟨z, hz⟩ := HEi.out
                  have yz : wr.frozen? ⟨p, 3, none⟩ = false := frozen_of_row _ _ _ _ _ hz
                  have cz : wr.cell? ⟨p, 3, none⟩ = some (.int .i64 z) := cell_of_row _ _ _ _ _ _ hz
                  obtain ⟨w5, hw5⟩ : ∃ W, W = wr.setCell ⟨p, 3, none⟩ (.int .i64 n) := ⟨_, rfl⟩
                  have HB5 := hide (show Below w2.heap.size w2 w5 by rw [hw5]; exact HBi.out.setCell (p := ⟨p, 3, none⟩) HPz.out _)
                  have he5 : w5.heap[p]? = some (.cells #[.int .i64 k, .string (xf), .string (⟨#[]⟩), .int .i64 (n)] 23 (0, 0)) := by rw [hw5]; exact heap_setCell_same _ _ _ _ _ _ hz
                  have k0 : w5.cell? ⟨p, 0, none⟩ = some (.int .i64 k) := cell_of_row _ _ _ _ _ _ he5
                  have k1 : w5.cell? ⟨p, 1, none⟩ = some (.string (xf)) := cell_of_row _ _ _ _ _ _ he5
                  have k2 : w5.cell? ⟨p, 2, none⟩ = some (.string (⟨#[]⟩)) := cell_of_row _ _ _ _ _ _ he5
                  have k3 : w5.cell? ⟨p, 3, none⟩ = some (.int .i64 n) := cell_of_row _ _ _ _ _ _ he5
                  rw [hw5] at k0 k1 k2 k3
                  have HE5 := hide he5
                  clear he5 hz HEi HBi
                  go_wp2_with fail
                  rw [← hw5]
                  clear hw5 k0 k1 k2 k3 yz cz
                  refine (HLn.out n w5).mono ?_
                  rintro e w6 ⟨rfl, hb6⟩
                  have HB6 := hide (HB5.out.trans (hb6.mono HB5.out.size))
                  have HE6 := hide ((hb6.block _ (Array.getElem?_eq_some_iff.1 HE5.out).1).trans HE5.out)
                  clear hb6 HB5 HE5
                  cases hl : ((lineB k (xf) (⟨#[]⟩) n).toList == s.toList) with
                  | true =>
                    obtain ⟨ho, hr⟩ := HHit.out n ((same_iff _ _).1 hl)
                    have HO := hide ho
                    have HE := hide (show (readT s).cells = #[.int .i64 k, .string (xf), .string (⟨#[]⟩), .int .i64 (n)] by rw [hr]; rfl)
                    have k0 : w6.cell? ⟨p, 0, none⟩ = some (.int .i64 k) := cell_of_row _ _ _ _ _ _ HE6.out
                    have k1 : w6.cell? ⟨p, 1, none⟩ = some (.string (xf)) := cell_of_row _ _ _ _ _ _ HE6.out
                    have k2 : w6.cell? ⟨p, 2, none⟩ = some (.string (⟨#[]⟩)) := cell_of_row _ _ _ _ _ _ HE6.out
                    have k3 : w6.cell? ⟨p, 3, none⟩ = some (.int .i64 n) := cell_of_row _ _ _ _ _ _ HE6.out
                    have hr9 := (HB6.out.block _ HS2.out).trans HR2.out
                    have m0 : w6.cell? ⟨w.heap.size, 0, none⟩ = some (.int .i64 0) := cell_of_row _ _ _ _ _ _ hr9
                    have m1 : w6.cell? ⟨w.heap.size, 1, none⟩ = some (.string ⟨#[]⟩) := cell_of_row _ _ _ _ _ _ hr9
                    have m2 : w6.cell? ⟨w.heap.size, 2, none⟩ = some (.string ⟨#[]⟩) := cell_of_row _ _ _ _ _ _ hr9
                    have m3 : w6.cell? ⟨w.heap.size, 3, none⟩ = some (.int .i64 0) := cell_of_row _ _ _ _ _ _ hr9
                    have y0 : w6.frozen? ⟨w.heap.size, 0, none⟩ = false := frozen_of_row _ _ _ _ _ hr9
                    have y1 : w6.frozen? ⟨w.heap.size, 1, none⟩ = false := frozen_of_row _ _ _ _ _ hr9
                    have y2 : w6.frozen? ⟨w.heap.size, 2, none⟩ = false := frozen_of_row _ _ _ _ _ hr9
                    have y3 : w6.frozen? ⟨w.heap.size, 3, none⟩ = false := frozen_of_row _ _ _ _ _ hr9
                    have HR0 := hide (four_put w6 w.heap.size _ _ _ _ (.int .i64 k) (.string (xf)) (.string (⟨#[]⟩)) (.int .i64 n) _ hr9)
                    have HBN := hide ((HB2.out.trans (HB6.out.mono HB2.out.size)).trans HR0.out.1)
                    clear hr9 ho hr
                    go_wp2_with fail
                    refine bodyPost_ret (results_row2 (P := Tryd.prog) rfl _ _ w.heap.size _ _ _ _ rfl HR0.out.2 Tryd.underlying23 rfl (by kernel_rfl)) rfl ⟨by rw [HE.out, HO.out]; rfl, HBN.out⟩
                  | false =>
                    have HMiss := hide (show okR s = true → (guessT s).k = k → (guessT s).n ≠ n from fun h hk e => by
                      obtain ⟨_, h2, h3⟩ := HCand.out h
                      rw [hk] at h2 h3
                      rw [HcF.out] at h2
                      rw [HcT.out] at h3
                      have h4 := (ok_facts h).2
                      rw [hk, ← h2, ← h3, e] at h4
                      rw [← h4, (same_iff _ _).2 rfl] at hl
                      cases hl)
                    have HH6 := hide (HHk.out w6)
                    have hix := index3 (hasX (k : Int) 1) (hasX (k : Int) 2) (hasX (k : Int) 4)
                    rcases Bool.eq_false_or_eq_true (hasX (k : Int) 4) with h4 | h4
                    · skip
                      rw [h4] at HH6 hix
                      have HX4 := hide h4
                      clear h4
                      go_wp2_with fail
                      refine (HH6.out).mono ?_
                      rintro e w7 ⟨rfl, hb7⟩
                      have HB7 := hide (HB6.out.trans (hb7.mono HB6.out.size))
                      have HE7 := hide ((hb7.block _ (Array.getElem?_eq_some_iff.1 HE6.out).1).trans HE6.out)
                      clear hb7 HB6 HE6 HH6
                      go_wp2_with fail
                      go_roundg g1
                      case rel => exact ⟨n + 1, rfl, by omega, (fun h => by rw [HX4.out] at h; cases h), hide (fun h hk => by have h1 := HJ.out h hk; have h2 := HMiss.out h hk; omega), HB7, hide ⟨n, HE7.out⟩⟩
                      case measure => omega
                    · skip
                      rw [h4] at HH6 hix
                      have HX4 := hide h4
                      clear h4
                      go_wp2_with fail
                      refine (HH6.out).mono ?_
                      rintro e w7 ⟨rfl, hb7⟩
                      have HB7 := hide (HB6.out.trans (hb7.mono HB6.out.size))
                      have HE7 := hide ((hb7.block _ (Array.getElem?_eq_some_iff.1 HE6.out).1).trans HE6.out)
                      clear hb7 HB6 HE6 HH6
                      go_wp2_with fail
                      have HN := hide (show okR s = true → ((k + 1 : Nat) : Int) ≤ (guessT s).k from fun h => by
                        have h1 := HI.out h
                        rcases Int.lt_or_le k (guessT s).k with h4 | h4
                        · omega
                        · exfalso
                          have h5 : (guessT s).k = k := by omega
                          have h6 := (HOk.out h).2.2.2.2
                          rw [h5] at h6
                          have h7 := HMiss.out h h5
                          have h8 := h6 HX4.out
                          have h9 := hn4 HX4.out
                          omega)
                      go_roundg g0
                      case rel => exact ⟨k + 1, rfl, by omega, by omega, HN, HB7⟩
                      case measure => omega
            | true =>
              have hix := HIx.out
              have HH := hide (HHk.out wx)
              rw [h2] at HH hix
              have HX2 := hide h2
              clear h2
              refine (HH.out).mono ?_
              rintro e wu ⟨rfl, hb⟩
              have HBu := hide (HBx.out.trans (hb.mono HBx.out.size))
              have HEu := hide ((hb.block _ (Array.getElem?_eq_some_iff.1 HEx.out).1).trans HEx.out)
              clear hb HH
              have HcA := hide (show cA cs k = 2 by unfold cA; rw [HX1.out, decide_eq_true HL1.out]; rfl)
              by_cases hl2 : (2 : Int) < cs.length
              · obtain ⟨xt, hxt⟩ : ∃ x, cs[2]? = some x := ⟨_, List.getElem?_eq_getElem (by omega)⟩
                obtain ⟨_, e1, _, hct⟩ := (HRd.out.below HBu.out (Nat.le_refl _)) 2 xt hxt
                cases e1
                have hctx := hct
                rw [add_pos ad 2 (by decide)] at hctx
                have HTm := hide (List.mem_of_getElem? hxt)
                have HcTx := hide (show cT cs k = xt by unfold cT; rw [HcA.out, HX2.out, decide_eq_true (show 2 < cs.length by omega), hxt]; rfl)
                have yt : wu.frozen? ⟨p, 2, none⟩ = false := frozen_of_row _ _ _ _ _ HEu.out
                have ct0 : wu.cell? ⟨p, 2, none⟩ = some (.string ⟨#[]⟩) := cell_of_row _ _ _ _ _ _ HEu.out
                clear hxt
                go_wp2_with fail
                obtain ⟨wv, hwv⟩ : ∃ W, W = wu.setCell ⟨p, 2, none⟩ (.string xt) := ⟨_, rfl⟩
                have HBv := hide (show Below w2.heap.size w2 wv by rw [hwv]; exact HBu.out.setCell (p := ⟨p, 2, none⟩) HPz.out _)
                have HEv := hide (show wv.heap[p]? = some (.cells #[.int .i64 k, .string (xf), .string (xt), .int .i64 (0)] 23 (0, 0)) by rw [hwv]; exact heap_setCell_same _ _ _ _ _ _ HEu.out)
                rw [← hwv]
                clear hwv yt ct0 hct hctx hl2
                have HcF := hide (show cF cs k = xf by exact HcFx.out)
                have HcT := hide (show cT cs k = xt by exact HcTx.out)
                have HHit := hide (fun n : Int => cand_hit (n := n) HCS.out HX.out HKw.out)
                have HCand := hide (fun h : okR s = true => cand_ok HCS.out h)
                rw [HcF.out, HcT.out] at HHit
                have HFz := hide (show ((xf : ByteArray).size : Int) ≤ 400000 by have := HS.out; have := HZs.out _ HFm.out; omega)
                have HTz := hide (show ((xt : ByteArray).size : Int) ≤ 400000 by have := HS.out; have := HZs.out _ HTm.out; omega)
                have HLn := hide (fun n W => refELine_any k (xf) (xt) n W HFz.out HTz.out)
                go_loopg [8] 512 (fun gk nv wr => ∃ n : Nat, nv = .int .i64 n ∧ n + gk = 512 ∧ (hasX (k : Int) 4 = false → n = 0) ∧ Hid (okR s = true → (guessT s).k = k → (n : Int) ≤ (guessT s).n) ∧ Hid (Below w2.heap.size w2 wr) ∧ Hid (∃ m : Int, wr.heap[p]? = some (.cells #[.int .i64 k, .string (xf), .string (xt), .int .i64 (m)] 23 (0, 0))))
                case atStart => exact ⟨0, rfl, by omega, fun _ => rfl, hide (fun h _ => (HOk.out h).2.2.1), HBv, hide ⟨0, HEv.out⟩⟩
                case round =>
                  obtain ⟨n, rfl, hng, hn4, HJ, HBi, HEi⟩ := hrel
                  cases gk with
                  | zero =>
                    obtain rfl : n = 512 := by omega
                    have HN := hide (show okR s = true → ((k + 1 : Nat) : Int) ≤ (guessT s).k from fun h => by
                      have h1 := HI.out h
                      have h2 := (HOk.out h).2.2.2.1
                      rcases Int.lt_or_le k (guessT s).k with h4 | h4
                      · omega
                      · have h5 := HJ.out h (by omega); omega)
                    go_wp2_with fail
                    go_roundg g0
                    case rel => exact ⟨k + 1, rfl, by omega, by omega, HN, HBi⟩
                    case measure => omega
                  | succ g1 =>
                    have hn5 : (n : Int) < 512 := by omega
                    obtain ⟨z, hz⟩ := HEi.out
                    have yz : wr.frozen? ⟨p, 3, none⟩ = false := frozen_of_row _ _ _ _ _ hz
                    have cz : wr.cell? ⟨p, 3, none⟩ = some (.int .i64 z) := cell_of_row _ _ _ _ _ _ hz
                    obtain ⟨w5, hw5⟩ : ∃ W, W = wr.setCell ⟨p, 3, none⟩ (.int .i64 n) := ⟨_, rfl⟩
                    have HB5 := hide (show Below w2.heap.size w2 w5 by rw [hw5]; exact HBi.out.setCell (p := ⟨p, 3, none⟩) HPz.out _)
                    have he5 : w5.heap[p]? = some (.cells #[.int .i64 k, .string (xf), .string (xt), .int .i64 (n)] 23 (0, 0)) := by rw [hw5]; exact heap_setCell_same _ _ _ _ _ _ hz
                    have k0 : w5.cell? ⟨p, 0, none⟩ = some (.int .i64 k) := cell_of_row _ _ _ _ _ _ he5
                    have k1 : w5.cell? ⟨p, 1, none⟩ = some (.string (xf)) := cell_of_row _ _ _ _ _ _ he5
                    have k2 : w5.cell? ⟨p, 2, none⟩ = some (.string (xt)) := cell_of_row _ _ _ _ _ _ he5
                    have k3 : w5.cell? ⟨p, 3, none⟩ = some (.int .i64 n) := cell_of_row _ _ _ _ _ _ he5
                    rw [hw5] at k0 k1 k2 k3
                    have HE5 := hide he5
                    clear he5 hz HEi HBi
                    go_wp2_with fail
                    rw [← hw5]
                    clear hw5 k0 k1 k2 k3 yz cz
                    refine (HLn.out n w5).mono ?_
                    rintro e w6 ⟨rfl, hb6⟩
                    have HB6 := hide (HB5.out.trans (hb6.mono HB5.out.size))
                    have HE6 := hide ((hb6.block _ (Array.getElem?_eq_some_iff.1 HE5.out).1).trans HE5.out)
                    clear hb6 HB5 HE5
                    cases hl : ((lineB k (xf) (xt) n).toList == s.toList) with
                    | true =>
                      obtain ⟨ho, hr⟩ := HHit.out n ((same_iff _ _).1 hl)
                      have HO := hide ho
                      have HE := hide (show (readT s).cells = #[.int .i64 k, .string (xf), .string (xt), .int .i64 (n)] by rw [hr]; rfl)
                      have k0 : w6.cell? ⟨p, 0, none⟩ = some (.int .i64 k) := cell_of_row _ _ _ _ _ _ HE6.out
                      have k1 : w6.cell? ⟨p, 1, none⟩ = some (.string (xf)) := cell_of_row _ _ _ _ _ _ HE6.out
                      have k2 : w6.cell? ⟨p, 2, none⟩ = some (.string (xt)) := cell_of_row _ _ _ _ _ _ HE6.out
                      have k3 : w6.cell? ⟨p, 3, none⟩ = some (.int .i64 n) := cell_of_row _ _ _ _ _ _ HE6.out
                      have hr9 := (HB6.out.block _ HS2.out).trans HR2.out
                      have m0 : w6.cell? ⟨w.heap.size, 0, none⟩ = some (.int .i64 0) := cell_of_row _ _ _ _ _ _ hr9
                      have m1 : w6.cell? ⟨w.heap.size, 1, none⟩ = some (.string ⟨#[]⟩) := cell_of_row _ _ _ _ _ _ hr9
                      have m2 : w6.cell? ⟨w.heap.size, 2, none⟩ = some (.string ⟨#[]⟩) := cell_of_row _ _ _ _ _ _ hr9
                      have m3 : w6.cell? ⟨w.heap.size, 3, none⟩ = some (.int .i64 0) := cell_of_row _ _ _ _ _ _ hr9
                      have y0 : w6.frozen? ⟨w.heap.size, 0, none⟩ = false := frozen_of_row _ _ _ _ _ hr9
                      have y1 : w6.frozen? ⟨w.heap.size, 1, none⟩ = false := frozen_of_row _ _ _ _ _ hr9
                      have y2 : w6.frozen? ⟨w.heap.size, 2, none⟩ = false := frozen_of_row _ _ _ _ _ hr9
                      have y3 : w6.frozen? ⟨w.heap.size, 3, none⟩ = false := frozen_of_row _ _ _ _ _ hr9
                      have HR0 := hide (four_put w6 w.heap.size _ _ _ _ (.int .i64 k) (.string (xf)) (.string (xt)) (.int .i64 n) _ hr9)
                      have HBN := hide ((HB2.out.trans (HB6.out.mono HB2.out.size)).trans HR0.out.1)
                      clear hr9 ho hr
                      go_wp2_with fail
                      refine bodyPost_ret (results_row2 (P := Tryd.prog) rfl _ _ w.heap.size _ _ _ _ rfl HR0.out.2 Tryd.underlying23 rfl (by kernel_rfl)) rfl ⟨by rw [HE.out, HO.out]; rfl, HBN.out⟩
                    | false =>
                      have HMiss := hide (show okR s = true → (guessT s).k = k → (guessT s).n ≠ n from fun h hk e => by
                        obtain ⟨_, h2, h3⟩ := HCand.out h
                        rw [hk] at h2 h3
                        rw [HcF.out] at h2
                        rw [HcT.out] at h3
                        have h4 := (ok_facts h).2
                        rw [hk, ← h2, ← h3, e] at h4
                        rw [← h4, (same_iff _ _).2 rfl] at hl
                        cases hl)
                      have HH6 := hide (HHk.out w6)
                      have hix := index3 (hasX (k : Int) 1) (hasX (k : Int) 2) (hasX (k : Int) 4)
                      rcases Bool.eq_false_or_eq_true (hasX (k : Int) 4) with h4 | h4
                      · skip
                        rw [h4] at HH6 hix
                        have HX4 := hide h4
                        clear h4
                        go_wp2_with fail
                        refine (HH6.out).mono ?_
                        rintro e w7 ⟨rfl, hb7⟩
                        have HB7 := hide (HB6.out.trans (hb7.mono HB6.out.size))
                        have HE7 := hide ((hb7.block _ (Array.getElem?_eq_some_iff.1 HE6.out).1).trans HE6.out)
                        clear hb7 HB6 HE6 HH6
                        go_wp2_with fail
                        go_roundg g1
                        case rel => exact ⟨n + 1, rfl, by omega, (fun h => by rw [HX4.out] at h; cases h), hide (fun h hk => by have h1 := HJ.out h hk; have h2 := HMiss.out h hk; omega), HB7, hide ⟨n, HE7.out⟩⟩
                        case measure => omega
                      · skip
                        rw [h4] at HH6 hix
                        have HX4 := hide h4
                        clear h4
                        go_wp2_with fail
                        refine (HH6.out).mono ?_
                        rintro e w7 ⟨rfl, hb7⟩
                        have HB7 := hide (HB6.out.trans (hb7.mono HB6.out.size))
                        have HE7 := hide ((hb7.block _ (Array.getElem?_eq_some_iff.1 HE6.out).1).trans HE6.out)
                        clear hb7 HB6 HE6 HH6
                        go_wp2_with fail
                        have HN := hide (show okR s = true → ((k + 1 : Nat) : Int) ≤ (guessT s).k from fun h => by
                          have h1 := HI.out h
                          rcases Int.lt_or_le k (guessT s).k with h4 | h4
                          · omega
                          · exfalso
                            have h5 : (guessT s).k = k := by omega
                            have h6 := (HOk.out h).2.2.2.2
                            rw [h5] at h6
                            have h7 := HMiss.out h h5
                            have h8 := h6 HX4.out
                            have h9 := hn4 HX4.out
                            omega)
                        go_roundg g0
                        case rel => exact ⟨k + 1, rfl, by omega, by omega, HN, HB7⟩
                        case measure => omega
              · have HcTx := hide (show cT cs k = ⟨#[]⟩ by unfold cT; rw [HcA.out, HX2.out, decide_eq_false (show ¬ 2 < cs.length by omega)]; rfl)
                go_wp2_with fail
                clear hl2
                have HcF := hide (show cF cs k = xf by exact HcFx.out)
                have HcT := hide (show cT cs k = ⟨#[]⟩ by exact HcTx.out)
                have HHit := hide (fun n : Int => cand_hit (n := n) HCS.out HX.out HKw.out)
                have HCand := hide (fun h : okR s = true => cand_ok HCS.out h)
                rw [HcF.out, HcT.out] at HHit
                have HFz := hide (show ((xf : ByteArray).size : Int) ≤ 400000 by have := HS.out; have := HZs.out _ HFm.out; omega)
                have HTz := hide (show ((⟨#[]⟩ : ByteArray).size : Int) ≤ 400000 by decide)
                have HLn := hide (fun n W => refELine_any k (xf) (⟨#[]⟩) n W HFz.out HTz.out)
                go_loopg [8] 512 (fun gk nv wr => ∃ n : Nat, nv = .int .i64 n ∧ n + gk = 512 ∧ (hasX (k : Int) 4 = false → n = 0) ∧ Hid (okR s = true → (guessT s).k = k → (n : Int) ≤ (guessT s).n) ∧ Hid (Below w2.heap.size w2 wr) ∧ Hid (∃ m : Int, wr.heap[p]? = some (.cells #[.int .i64 k, .string (xf), .string (⟨#[]⟩), .int .i64 (m)] 23 (0, 0))))
                case atStart => exact ⟨0, rfl, by omega, fun _ => rfl, hide (fun h _ => (HOk.out h).2.2.1), HBu, hide ⟨0, HEu.out⟩⟩
                case round =>
                  obtain ⟨n, rfl, hng, hn4, HJ, HBi, HEi⟩ := hrel
                  cases gk with
                  | zero =>
                    obtain rfl : n = 512 := by omega
                    have HN := hide (show okR s = true → ((k + 1 : Nat) : Int) ≤ (guessT s).k from fun h => by
                      have h1 := HI.out h
                      have h2 := (HOk.out h).2.2.2.1
                      rcases Int.lt_or_le k (guessT s).k with h4 | h4
                      · omega
                      · have h5 := HJ.out h (by omega); omega)
                    go_wp2_with fail
                    go_roundg g0
                    case rel => exact ⟨k + 1, rfl, by omega, by omega, HN, HBi⟩
                    case measure => omega
                  | succ g1 =>
                    have hn5 : (n : Int) < 512 := by omega
                    obtain ⟨z, hz⟩ := HEi.out
                    have yz : wr.frozen? ⟨p, 3, none⟩ = false := frozen_of_row _ _ _ _ _ hz
                    have cz : wr.cell? ⟨p, 3, none⟩ = some (.int .i64 z) := cell_of_row _ _ _ _ _ _ hz
                    obtain ⟨w5, hw5⟩ : ∃ W, W = wr.setCell ⟨p, 3, none⟩ (.int .i64 n) := ⟨_, rfl⟩
                    have HB5 := hide (show Below w2.heap.size w2 w5 by rw [hw5]; exact HBi.out.setCell (p := ⟨p, 3, none⟩) HPz.out _)
                    have he5 : w5.heap[p]? = some (.cells #[.int .i64 k, .string (xf), .string (⟨#[]⟩), .int .i64 (n)] 23 (0, 0)) := by rw [hw5]; exact heap_setCell_same _ _ _ _ _ _ hz
                    have k0 : w5.cell? ⟨p, 0, none⟩ = some (.int .i64 k) := cell_of_row _ _ _ _ _ _ he5
                    have k1 : w5.cell? ⟨p, 1, none⟩ = some (.string (xf)) := cell_of_row _ _ _ _ _ _ he5
                    have k2 : w5.cell? ⟨p, 2, none⟩ = some (.string (⟨#[]⟩)) := cell_of_row _ _ _ _ _ _ he5
                    have k3 : w5.cell? ⟨p, 3, none⟩ = some (.int .i64 n) := cell_of_row _ _ _ _ _ _ he5
                    rw [hw5] at k0 k1 k2 k3
                    have HE5 := hide he5
                    clear he5 hz HEi HBi
                    go_wp2_with fail
                    rw [← hw5]
                    clear hw5 k0 k1 k2 k3 yz cz
                    refine (HLn.out n w5).mono ?_
                    rintro e w6 ⟨rfl, hb6⟩
                    have HB6 := hide (HB5.out.trans (hb6.mono HB5.out.size))
                    have HE6 := hide ((hb6.block _ (Array.getElem?_eq_some_iff.1 HE5.out).1).trans HE5.out)
                    clear hb6 HB5 HE5
                    cases hl : ((lineB k (xf) (⟨#[]⟩) n).toList == s.toList) with
                    | true =>
                      obtain ⟨ho, hr⟩ := HHit.out n ((same_iff _ _).1 hl)
                      have HO := hide ho
                      have HE := hide (show (readT s).cells = #[.int .i64 k, .string (xf), .string (⟨#[]⟩), .int .i64 (n)] by rw [hr]; rfl)
                      have k0 : w6.cell? ⟨p, 0, none⟩ = some (.int .i64 k) := cell_of_row _ _ _ _ _ _ HE6.out
                      have k1 : w6.cell? ⟨p, 1, none⟩ = some (.string (xf)) := cell_of_row _ _ _ _ _ _ HE6.out
                      have k2 : w6.cell? ⟨p, 2, none⟩ = some (.string (⟨#[]⟩)) := cell_of_row _ _ _ _ _ _ HE6.out
                      have k3 : w6.cell? ⟨p, 3, none⟩ = some (.int .i64 n) := cell_of_row _ _ _ _ _ _ HE6.out
                      have hr9 := (HB6.out.block _ HS2.out).trans HR2.out
                      have m0 : w6.cell? ⟨w.heap.size, 0, none⟩ = some (.int .i64 0) := cell_of_row _ _ _ _ _ _ hr9
                      have m1 : w6.cell? ⟨w.heap.size, 1, none⟩ = some (.string ⟨#[]⟩) := cell_of_row _ _ _ _ _ _ hr9
                      have m2 : w6.cell? ⟨w.heap.size, 2, none⟩ = some (.string ⟨#[]⟩) := cell_of_row _ _ _ _ _ _ hr9
                      have m3 : w6.cell? ⟨w.heap.size, 3, none⟩ = some (.int .i64 0) := cell_of_row _ _ _ _ _ _ hr9
                      have y0 : w6.frozen? ⟨w.heap.size, 0, none⟩ = false := frozen_of_row _ _ _ _ _ hr9
                      have y1 : w6.frozen? ⟨w.heap.size, 1, none⟩ = false := frozen_of_row _ _ _ _ _ hr9
                      have y2 : w6.frozen? ⟨w.heap.size, 2, none⟩ = false := frozen_of_row _ _ _ _ _ hr9
                      have y3 : w6.frozen? ⟨w.heap.size, 3, none⟩ = false := frozen_of_row _ _ _ _ _ hr9
                      have HR0 := hide (four_put w6 w.heap.size _ _ _ _ (.int .i64 k) (.string (xf)) (.string (⟨#[]⟩)) (.int .i64 n) _ hr9)
                      have HBN := hide ((HB2.out.trans (HB6.out.mono HB2.out.size)).trans HR0.out.1)
                      clear hr9 ho hr
                      go_wp2_with fail
                      refine bodyPost_ret (results_row2 (P := Tryd.prog) rfl _ _ w.heap.size _ _ _ _ rfl HR0.out.2 Tryd.underlying23 rfl (by kernel_rfl)) rfl ⟨by rw [HE.out, HO.out]; rfl, HBN.out⟩
                    | false =>
                      have HMiss := hide (show okR s = true → (guessT s).k = k → (guessT s).n ≠ n from fun h hk e => by
                        obtain ⟨_, h2, h3⟩ := HCand.out h
                        rw [hk] at h2 h3
                        rw [HcF.out] at h2
                        rw [HcT.out] at h3
                        have h4 := (ok_facts h).2
                        rw [hk, ← h2, ← h3, e] at h4
                        rw [← h4, (same_iff _ _).2 rfl] at hl
                        cases hl)
                      have HH6 := hide (HHk.out w6)
                      have hix := index3 (hasX (k : Int) 1) (hasX (k : Int) 2) (hasX (k : Int) 4)
                      rcases Bool.eq_false_or_eq_true (hasX (k : Int) 4) with h4 | h4
                      · skip
                        rw [h4] at HH6 hix
                        have HX4 := hide h4
                        clear h4
                        go_wp2_with fail
                        refine (HH6.out).mono ?_
                        rintro e w7 ⟨rfl, hb7⟩
                        have HB7 := hide (HB6.out.trans (hb7.mono HB6.out.size))
                        have HE7 := hide ((hb7.block _ (Array.getElem?_eq_some_iff.1 HE6.out).1).trans HE6.out)
                        clear hb7 HB6 HE6 HH6
                        go_wp2_with fail
                        go_roundg g1
                        case rel => exact ⟨n + 1, rfl, by omega, (fun h => by rw [HX4.out] at h; cases h), hide (fun h hk => by have h1 := HJ.out h hk; have h2 := HMiss.out h hk; omega), HB7, hide ⟨n, HE7.out⟩⟩
                        case measure => omega
                      · skip
                        rw [h4] at HH6 hix
                        have HX4 := hide h4
                        clear h4
                        go_wp2_with fail
                        refine (HH6.out).mono ?_
                        rintro e w7 ⟨rfl, hb7⟩
                        have HB7 := hide (HB6.out.trans (hb7.mono HB6.out.size))
                        have HE7 := hide ((hb7.block _ (Array.getElem?_eq_some_iff.1 HE6.out).1).trans HE6.out)
                        clear hb7 HB6 HE6 HH6
                        go_wp2_with fail
                        have HN := hide (show okR s = true → ((k + 1 : Nat) : Int) ≤ (guessT s).k from fun h => by
                          have h1 := HI.out h
                          rcases Int.lt_or_le k (guessT s).k with h4 | h4
                          · omega
                          · exfalso
                            have h5 : (guessT s).k = k := by omega
                            have h6 := (HOk.out h).2.2.2.2
                            rw [h5] at h6
                            have h7 := HMiss.out h h5
                            have h8 := h6 HX4.out
                            have h9 := hn4 HX4.out
                            omega)
                        go_roundg g0
                        case rel => exact ⟨k + 1, rfl, by omega, by omega, HN, HB7⟩
                        case measure => omega
          · have HL1 := hide (show ¬ 1 < cs.length by omega)
            go_wp2_with fail
            clear hl1
            cases h2 : hasX (k : Int) 2 with
            | false =>
              have hix := HIx.out
              have HH := hide (HHk.out wq)
              rw [h2] at HH hix
              have HX2 := hide h2
              clear h2
              refine (HH.out).mono ?_
              rintro e wu ⟨rfl, hb⟩
              have HBu := hide (HBq.out.trans (hb.mono HBq.out.size))
              have HEu := hide ((hb.block _ (Array.getElem?_eq_some_iff.1 HEq.out).1).trans HEq.out)
              clear hb HH
              go_wp2_with fail
              have HcF := hide (show cF cs k = ⟨#[]⟩ by unfold cF; rw [HX1.out, decide_eq_false HL1.out]; rfl)
              have HcT := hide (show cT cs k = ⟨#[]⟩ by unfold cT; rw [HX2.out]; rfl)
              have HHit := hide (fun n : Int => cand_hit (n := n) HCS.out HX.out HKw.out)
              have HCand := hide (fun h : okR s = true => cand_ok HCS.out h)
              rw [HcF.out, HcT.out] at HHit
              have HFz := hide (show ((⟨#[]⟩ : ByteArray).size : Int) ≤ 400000 by decide)
              have HTz := hide (show ((⟨#[]⟩ : ByteArray).size : Int) ≤ 400000 by decide)
              have HLn := hide (fun n W => refELine_any k (⟨#[]⟩) (⟨#[]⟩) n W HFz.out HTz.out)
              go_loopg [8] 512 (fun gk nv wr => ∃ n : Nat, nv = .int .i64 n ∧ n + gk = 512 ∧ (hasX (k : Int) 4 = false → n = 0) ∧ Hid (okR s = true → (guessT s).k = k → (n : Int) ≤ (guessT s).n) ∧ Hid (Below w2.heap.size w2 wr) ∧ Hid (∃ m : Int, wr.heap[p]? = some (.cells #[.int .i64 k, .string (⟨#[]⟩), .string (⟨#[]⟩), .int .i64 (m)] 23 (0, 0))))
              case atStart => exact ⟨0, rfl, by omega, fun _ => rfl, hide (fun h _ => (HOk.out h).2.2.1), HBu, hide ⟨0, HEu.out⟩⟩
              case round =>
                obtain ⟨n, rfl, hng, hn4, HJ, HBi, HEi⟩ := hrel
                cases gk with
                | zero =>
                  obtain rfl : n = 512 := by omega
                  have HN := hide (show okR s = true → ((k + 1 : Nat) : Int) ≤ (guessT s).k from fun h => by
                    have h1 := HI.out h
                    have h2 := (HOk.out h).2.2.2.1
                    rcases Int.lt_or_le k (guessT s).k with h4 | h4
                    · omega
                    · have h5 := HJ.out h (by omega); omega)
                  go_wp2_with fail
                  go_roundg g0
                  case rel => exact ⟨k + 1, rfl, by omega, by omega, HN, HBi⟩
                  case measure => omega
                | succ g1 =>
                  have hn5 : (n : Int) < 512 := by omega
                  obtain ⟨z, hz⟩ := HEi.out
                  have yz : wr.frozen? ⟨p, 3, none⟩ = false := frozen_of_row _ _ _ _ _ hz
                  have cz : wr.cell? ⟨p, 3, none⟩ = some (.int .i64 z) := cell_of_row _ _ _ _ _ _ hz
                  obtain ⟨w5, hw5⟩ : ∃ W, W = wr.setCell ⟨p, 3, none⟩ (.int .i64 n) := ⟨_, rfl⟩
                  have HB5 := hide (show Below w2.heap.size w2 w5 by rw [hw5]; exact HBi.out.setCell (p := ⟨p, 3, none⟩) HPz.out _)
                  have he5 : w5.heap[p]? = some (.cells #[.int .i64 k, .string (⟨#[]⟩), .string (⟨#[]⟩), .int .i64 (n)] 23 (0, 0)) := by rw [hw5]; exact heap_setCell_same _ _ _ _ _ _ hz
                  have k0 : w5.cell? ⟨p, 0, none⟩ = some (.int .i64 k) := cell_of_row _ _ _ _ _ _ he5
                  have k1 : w5.cell? ⟨p, 1, none⟩ = some (.string (⟨#[]⟩)) := cell_of_row _ _ _ _ _ _ he5
                  have k2 : w5.cell? ⟨p, 2, none⟩ = some (.string (⟨#[]⟩)) := cell_of_row _ _ _ _ _ _ he5
                  have k3 : w5.cell? ⟨p, 3, none⟩ = some (.int .i64 n) := cell_of_row _ _ _ _ _ _ he5
                  rw [hw5] at k0 k1 k2 k3
                  have HE5 := hide he5
                  clear he5 hz HEi HBi
                  go_wp2_with fail
                  rw [← hw5]
                  clear hw5 k0 k1 k2 k3 yz cz
                  refine (HLn.out n w5).mono ?_
                  rintro e w6 ⟨rfl, hb6⟩
                  have HB6 := hide (HB5.out.trans (hb6.mono HB5.out.size))
                  have HE6 := hide ((hb6.block _ (Array.getElem?_eq_some_iff.1 HE5.out).1).trans HE5.out)
                  clear hb6 HB5 HE5
                  cases hl : ((lineB k (⟨#[]⟩) (⟨#[]⟩) n).toList == s.toList) with
                  | true =>
                    obtain ⟨ho, hr⟩ := HHit.out n ((same_iff _ _).1 hl)
                    have HO := hide ho
                    have HE := hide (show (readT s).cells = #[.int .i64 k, .string (⟨#[]⟩), .string (⟨#[]⟩), .int .i64 (n)] by rw [hr]; rfl)
                    have k0 : w6.cell? ⟨p, 0, none⟩ = some (.int .i64 k) := cell_of_row _ _ _ _ _ _ HE6.out
                    have k1 : w6.cell? ⟨p, 1, none⟩ = some (.string (⟨#[]⟩)) := cell_of_row _ _ _ _ _ _ HE6.out
                    have k2 : w6.cell? ⟨p, 2, none⟩ = some (.string (⟨#[]⟩)) := cell_of_row _ _ _ _ _ _ HE6.out
                    have k3 : w6.cell? ⟨p, 3, none⟩ = some (.int .i64 n) := cell_of_row _ _ _ _ _ _ HE6.out
                    have hr9 := (HB6.out.block _ HS2.out).trans HR2.out
                    have m0 : w6.cell? ⟨w.heap.size, 0, none⟩ = some (.int .i64 0) := cell_of_row _ _ _ _ _ _ hr9
                    have m1 : w6.cell? ⟨w.heap.size, 1, none⟩ = some (.string ⟨#[]⟩) := cell_of_row _ _ _ _ _ _ hr9
                    have m2 : w6.cell? ⟨w.heap.size, 2, none⟩ = some (.string ⟨#[]⟩) := cell_of_row _ _ _ _ _ _ hr9
                    have m3 : w6.cell? ⟨w.heap.size, 3, none⟩ = some (.int .i64 0) := cell_of_row _ _ _ _ _ _ hr9
                    have y0 : w6.frozen? ⟨w.heap.size, 0, none⟩ = false := frozen_of_row _ _ _ _ _ hr9
                    have y1 : w6.frozen? ⟨w.heap.size, 1, none⟩ = false := frozen_of_row _ _ _ _ _ hr9
                    have y2 : w6.frozen? ⟨w.heap.size, 2, none⟩ = false := frozen_of_row _ _ _ _ _ hr9
                    have y3 : w6.frozen? ⟨w.heap.size, 3, none⟩ = false := frozen_of_row _ _ _ _ _ hr9
                    have HR0 := hide (four_put w6 w.heap.size _ _ _ _ (.int .i64 k) (.string (⟨#[]⟩)) (.string (⟨#[]⟩)) (.int .i64 n) _ hr9)
                    have HBN := hide ((HB2.out.trans (HB6.out.mono HB2.out.size)).trans HR0.out.1)
                    clear hr9 ho hr
                    go_wp2_with fail
                    refine bodyPost_ret (results_row2 (P := Tryd.prog) rfl _ _ w.heap.size _ _ _ _ rfl HR0.out.2 Tryd.underlying23 rfl (by kernel_rfl)) rfl ⟨by rw [HE.out, HO.out]; rfl, HBN.out⟩
                  | false =>
                    have HMiss := hide (show okR s = true → (guessT s).k = k → (guessT s).n ≠ n from fun h hk e => by
                      obtain ⟨_, h2, h3⟩ := HCand.out h
                      rw [hk] at h2 h3
                      rw [HcF.out] at h2
                      rw [HcT.out] at h3
                      have h4 := (ok_facts h).2
                      rw [hk, ← h2, ← h3, e] at h4
                      rw [← h4, (same_iff _ _).2 rfl] at hl
                      cases hl)
                    have HH6 := hide (HHk.out w6)
                    have hix := index3 (hasX (k : Int) 1) (hasX (k : Int) 2) (hasX (k : Int) 4)
                    rcases Bool.eq_false_or_eq_true (hasX (k : Int) 4) with h4 | h4
                    · skip
                      rw [h4] at HH6 hix
                      have HX4 := hide h4
                      clear h4
                      go_wp2_with fail
                      refine (HH6.out).mono ?_
                      rintro e w7 ⟨rfl, hb7⟩
                      have HB7 := hide (HB6.out.trans (hb7.mono HB6.out.size))
                      have HE7 := hide ((hb7.block _ (Array.getElem?_eq_some_iff.1 HE6.out).1).trans HE6.out)
                      clear hb7 HB6 HE6 HH6
                      go_wp2_with fail
                      go_roundg g1
                      case rel => exact ⟨n + 1, rfl, by omega, (fun h => by rw [HX4.out] at h; cases h), hide (fun h hk => by have h1 := HJ.out h hk; have h2 := HMiss.out h hk; omega), HB7, hide ⟨n, HE7.out⟩⟩
                      case measure => omega
                    · skip
                      rw [h4] at HH6 hix
                      have HX4 := hide h4
                      clear h4
                      go_wp2_with fail
                      refine (HH6.out).mono ?_
                      rintro e w7 ⟨rfl, hb7⟩
                      have HB7 := hide (HB6.out.trans (hb7.mono HB6.out.size))
                      have HE7 := hide ((hb7.block _ (Array.getElem?_eq_some_iff.1 HE6.out).1).trans HE6.out)
                      clear hb7 HB6 HE6 HH6
                      go_wp2_with fail
                      have HN := hide (show okR s = true → ((k + 1 : Nat) : Int) ≤ (guessT s).k from fun h => by
                        have h1 := HI.out h
                        rcases Int.lt_or_le k (guessT s).k with h4 | h4
                        · omega
                        · exfalso
                          have h5 : (guessT s).k = k := by omega
                          have h6 := (HOk.out h).2.2.2.2
                          rw [h5] at h6
                          have h7 := HMiss.out h h5
                          have h8 := h6 HX4.out
                          have h9 := hn4 HX4.out
                          omega)
                      go_roundg g0
                      case rel => exact ⟨k + 1, rfl, by omega, by omega, HN, HB7⟩
                      case measure => omega
            | true =>
              have hix := HIx.out
              have HH := hide (HHk.out wq)
              rw [h2] at HH hix
              have HX2 := hide h2
              clear h2
              refine (HH.out).mono ?_
              rintro e wu ⟨rfl, hb⟩
              have HBu := hide (HBq.out.trans (hb.mono HBq.out.size))
              have HEu := hide ((hb.block _ (Array.getElem?_eq_some_iff.1 HEq.out).1).trans HEq.out)
              clear hb HH
              have HcA := hide (show cA cs k = 1 by unfold cA; rw [HX1.out, decide_eq_false HL1.out]; rfl)
              by_cases hl2 : (1 : Int) < cs.length
              · exact absurd hl2 (by have := HL1.out; omega)
              · have HcTx := hide (show cT cs k = ⟨#[]⟩ by unfold cT; rw [HcA.out, HX2.out, decide_eq_false (show ¬ 1 < cs.length by omega)]; rfl)
                go_wp2_with fail
                clear hl2
                have HcF := hide (show cF cs k = ⟨#[]⟩ by unfold cF; rw [HX1.out, decide_eq_false HL1.out]; rfl)
                have HcT := hide (show cT cs k = ⟨#[]⟩ by exact HcTx.out)
                have HHit := hide (fun n : Int => cand_hit (n := n) HCS.out HX.out HKw.out)
                have HCand := hide (fun h : okR s = true => cand_ok HCS.out h)
                rw [HcF.out, HcT.out] at HHit
                have HFz := hide (show ((⟨#[]⟩ : ByteArray).size : Int) ≤ 400000 by decide)
                have HTz := hide (show ((⟨#[]⟩ : ByteArray).size : Int) ≤ 400000 by decide)
                have HLn := hide (fun n W => refELine_any k (⟨#[]⟩) (⟨#[]⟩) n W HFz.out HTz.out)
                go_loopg [8] 512 (fun gk nv wr => ∃ n : Nat, nv = .int .i64 n ∧ n + gk = 512 ∧ (hasX (k : Int) 4 = false → n = 0) ∧ Hid (okR s = true → (guessT s).k = k → (n : Int) ≤ (guessT s).n) ∧ Hid (Below w2.heap.size w2 wr) ∧ Hid (∃ m : Int, wr.heap[p]? = some (.cells #[.int .i64 k, .string (⟨#[]⟩), .string (⟨#[]⟩), .int .i64 (m)] 23 (0, 0))))
                case atStart => exact ⟨0, rfl, by omega, fun _ => rfl, hide (fun h _ => (HOk.out h).2.2.1), HBu, hide ⟨0, HEu.out⟩⟩
                case round =>
                  obtain ⟨n, rfl, hng, hn4, HJ, HBi, HEi⟩ := hrel
                  cases gk with
                  | zero =>
                    obtain rfl : n = 512 := by omega
                    have HN := hide (show okR s = true → ((k + 1 : Nat) : Int) ≤ (guessT s).k from fun h => by
                      have h1 := HI.out h
                      have h2 := (HOk.out h).2.2.2.1
                      rcases Int.lt_or_le k (guessT s).k with h4 | h4
                      · omega
                      · have h5 := HJ.out h (by omega); omega)
                    go_wp2_with fail
                    go_roundg g0
                    case rel => exact ⟨k + 1, rfl, by omega, by omega, HN, HBi⟩
                    case measure => omega
                  | succ g1 =>
                    have hn5 : (n : Int) < 512 := by omega
                    obtain ⟨z, hz⟩ := HEi.out
                    have yz : wr.frozen? ⟨p, 3, none⟩ = false := frozen_of_row _ _ _ _ _ hz
                    have cz : wr.cell? ⟨p, 3, none⟩ = some (.int .i64 z) := cell_of_row _ _ _ _ _ _ hz
                    obtain ⟨w5, hw5⟩ : ∃ W, W = wr.setCell ⟨p, 3, none⟩ (.int .i64 n) := ⟨_, rfl⟩
                    have HB5 := hide (show Below w2.heap.size w2 w5 by rw [hw5]; exact HBi.out.setCell (p := ⟨p, 3, none⟩) HPz.out _)
                    have he5 : w5.heap[p]? = some (.cells #[.int .i64 k, .string (⟨#[]⟩), .string (⟨#[]⟩), .int .i64 (n)] 23 (0, 0)) := by rw [hw5]; exact heap_setCell_same _ _ _ _ _ _ hz
                    have k0 : w5.cell? ⟨p, 0, none⟩ = some (.int .i64 k) := cell_of_row _ _ _ _ _ _ he5
                    have k1 : w5.cell? ⟨p, 1, none⟩ = some (.string (⟨#[]⟩)) := cell_of_row _ _ _ _ _ _ he5
                    have k2 : w5.cell? ⟨p, 2, none⟩ = some (.string (⟨#[]⟩)) := cell_of_row _ _ _ _ _ _ he5
                    have k3 : w5.cell? ⟨p, 3, none⟩ = some (.int .i64 n) := cell_of_row _ _ _ _ _ _ he5
                    rw [hw5] at k0 k1 k2 k3
                    have HE5 := hide he5
                    clear he5 hz HEi HBi
                    go_wp2_with fail
                    rw [← hw5]
                    clear hw5 k0 k1 k2 k3 yz cz
                    refine (HLn.out n w5).mono ?_
                    rintro e w6 ⟨rfl, hb6⟩
                    have HB6 := hide (HB5.out.trans (hb6.mono HB5.out.size))
                    have HE6 := hide ((hb6.block _ (Array.getElem?_eq_some_iff.1 HE5.out).1).trans HE5.out)
                    clear hb6 HB5 HE5
                    cases hl : ((lineB k (⟨#[]⟩) (⟨#[]⟩) n).toList == s.toList) with
                    | true =>
                      obtain ⟨ho, hr⟩ := HHit.out n ((same_iff _ _).1 hl)
                      have HO := hide ho
                      have HE := hide (show (readT s).cells = #[.int .i64 k, .string (⟨#[]⟩), .string (⟨#[]⟩), .int .i64 (n)] by rw [hr]; rfl)
                      have k0 : w6.cell? ⟨p, 0, none⟩ = some (.int .i64 k) := cell_of_row _ _ _ _ _ _ HE6.out
                      have k1 : w6.cell? ⟨p, 1, none⟩ = some (.string (⟨#[]⟩)) := cell_of_row _ _ _ _ _ _ HE6.out
                      have k2 : w6.cell? ⟨p, 2, none⟩ = some (.string (⟨#[]⟩)) := cell_of_row _ _ _ _ _ _ HE6.out
                      have k3 : w6.cell? ⟨p, 3, none⟩ = some (.int .i64 n) := cell_of_row _ _ _ _ _ _ HE6.out
                      have hr9 := (HB6.out.block _ HS2.out).trans HR2.out
                      have m0 : w6.cell? ⟨w.heap.size, 0, none⟩ = some (.int .i64 0) := cell_of_row _ _ _ _ _ _ hr9
                      have m1 : w6.cell? ⟨w.heap.size, 1, none⟩ = some (.string ⟨#[]⟩) := cell_of_row _ _ _ _ _ _ hr9
                      have m2 : w6.cell? ⟨w.heap.size, 2, none⟩ = some (.string ⟨#[]⟩) := cell_of_row _ _ _ _ _ _ hr9
                      have m3 : w6.cell? ⟨w.heap.size, 3, none⟩ = some (.int .i64 0) := cell_of_row _ _ _ _ _ _ hr9
                      have y0 : w6.frozen? ⟨w.heap.size, 0, none⟩ = false := frozen_of_row _ _ _ _ _ hr9
                      have y1 : w6.frozen? ⟨w.heap.size, 1, none⟩ = false := frozen_of_row _ _ _ _ _ hr9
                      have y2 : w6.frozen? ⟨w.heap.size, 2, none⟩ = false := frozen_of_row _ _ _ _ _ hr9
                      have y3 : w6.frozen? ⟨w.heap.size, 3, none⟩ = false := frozen_of_row _ _ _ _ _ hr9
                      have HR0 := hide (four_put w6 w.heap.size _ _ _ _ (.int .i64 k) (.string (⟨#[]⟩)) (.string (⟨#[]⟩)) (.int .i64 n) _ hr9)
                      have HBN := hide ((HB2.out.trans (HB6.out.mono HB2.out.size)).trans HR0.out.1)
                      clear hr9 ho hr
                      go_wp2_with fail
                      refine bodyPost_ret (results_row2 (P := Tryd.prog) rfl _ _ w.heap.size _ _ _ _ rfl HR0.out.2 Tryd.underlying23 rfl (by kernel_rfl)) rfl ⟨by rw [HE.out, HO.out]; rfl, HBN.out⟩
                    | false =>
                      have HMiss := hide (show okR s = true → (guessT s).k = k → (guessT s).n ≠ n from fun h hk e => by
                        obtain ⟨_, h2, h3⟩ := HCand.out h
                        rw [hk] at h2 h3
                        rw [HcF.out] at h2
                        rw [HcT.out] at h3
                        have h4 := (ok_facts h).2
                        rw [hk, ← h2, ← h3, e] at h4
                        rw [← h4, (same_iff _ _).2 rfl] at hl
                        cases hl)
                      have HH6 := hide (HHk.out w6)
                      have hix := index3 (hasX (k : Int) 1) (hasX (k : Int) 2) (hasX (k : Int) 4)
                      rcases Bool.eq_false_or_eq_true (hasX (k : Int) 4) with h4 | h4
                      · skip
                        rw [h4] at HH6 hix
                        have HX4 := hide h4
                        clear h4
                        go_wp2_with fail
                        refine (HH6.out).mono ?_
                        rintro e w7 ⟨rfl, hb7⟩
                        have HB7 := hide (HB6.out.trans (hb7.mono HB6.out.size))
                        have HE7 := hide ((hb7.block _ (Array.getElem?_eq_some_iff.1 HE6.out).1).trans HE6.out)
                        clear hb7 HB6 HE6 HH6
                        go_wp2_with fail
                        go_roundg g1
                        case rel => exact ⟨n + 1, rfl, by omega, (fun h => by rw [HX4.out] at h; cases h), hide (fun h hk => by have h1 := HJ.out h hk; have h2 := HMiss.out h hk; omega), HB7, hide ⟨n, HE7.out⟩⟩
                        case measure => omega
                      · skip
                        rw [h4] at HH6 hix
                        have HX4 := hide h4
                        clear h4
                        go_wp2_with fail
                        refine (HH6.out).mono ?_
                        rintro e w7 ⟨rfl, hb7⟩
                        have HB7 := hide (HB6.out.trans (hb7.mono HB6.out.size))
                        have HE7 := hide ((hb7.block _ (Array.getElem?_eq_some_iff.1 HE6.out).1).trans HE6.out)
                        clear hb7 HB6 HE6 HH6
                        go_wp2_with fail
                        have HN := hide (show okR s = true → ((k + 1 : Nat) : Int) ≤ (guessT s).k from fun h => by
                          have h1 := HI.out h
                          rcases Int.lt_or_le k (guessT s).k with h4 | h4
                          · omega
                          · exfalso
                            have h5 : (guessT s).k = k := by omega
                            have h6 := (HOk.out h).2.2.2.2
                            rw [h5] at h6
                            have h7 := HMiss.out h h5
                            have h8 := h6 HX4.out
                            have h9 := hn4 HX4.out
                            omega)
                        go_roundg g0
                        case rel => exact ⟨k + 1, rfl, by omega, by omega, HN, HB7⟩
                        case measure => omega
end Go.Proofs.YtlohoamhgioheaaDoor
