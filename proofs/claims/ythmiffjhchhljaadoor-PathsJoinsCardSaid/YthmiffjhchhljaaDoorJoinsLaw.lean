/-
  PathsJoins's law, walked, over what strings.Join owes.
-/
import Derived.Test.YthmiffjhchhljaaDoorPathJoin
namespace Go.Proofs.YthmiffjhchhljaaDoor
open Go.RowKit
set_option maxRecDepth 100000

theorem glue_bound : ∀ l : List (List UInt8), l.all nameL = true → (glueL l).length ≤ 13 * l.length
  | [], _ => by simp [glueL]
  | [x], h => by
    simp [nameL] at h
    simp [glueL]; omega
  | x :: y :: r, h => by
    rw [List.all_cons, Bool.and_eq_true] at h
    have ih := glue_bound (y :: r) h.2
    have hx := h.1
    simp [nameL] at hx
    rw [glue_cons _ _ (by simp)]
    simp at ih ⊢; omega
theorem glue_names {l : List (List UInt8)} (h : l.all nameL = true) (hl : l.length ≤ 16) : namesL (glueL l) = l := by
  rw [names_cut, right_cut, cut_glue letter_slash l h, h, decide_eq_true hl]; rfl

set_option maxHeartbeats 8000000 in
theorem joins_law (HJ : JoinOwes) (A : Option Addr) (cs : List ByteArray) (c : Nat) (w : World) (hA : Rd w w.heap.size A cs) (hcap : cs.length ≤ c) :
    Calls Tryd.prog 4 #[.slice A cs.length c] w fun e w' => e = .returned (.bool true) ∧ Below w.heap.size w w' := by
  by_cases h30 : (30 : Int) < cs.length
  · go_enter Tryd.func4, Tryd.ntmps4
    go_wp2_with fail
    refine (awake_any _).mono ?_
    rintro e w9 ⟨rfl, hB9⟩
    go_wp2_with fail
    refine bodyPost_ret (results_tmp rfl _ _ _) rfl ⟨rfl, hB9⟩
  go_enter Tryd.func4, Tryd.ntmps4
  go_wp2_with fail
  go_loopw [3, 4] (fun b i wr => ∃ k : Nat, k ≤ cs.length ∧ i = .int .i64 k ∧ b = .bool (!((cs.map toL).take k).all nameL) ∧ wr = w) (fun _ i _ => cs.length - (intOf i).toNat)
  case atStart => exact ⟨0, Nat.zero_le _, rfl, by simp, rfl⟩
  case round =>
    obtain ⟨k, hk, rfl, rfl, rfl⟩ := hrel
    by_cases hlt : (k : Int) < cs.length
    · have hlt' : k < cs.length := by omega
      obtain ⟨ad, rfl, _, hc⟩ := hA k cs[k] (List.getElem?_eq_getElem hlt')
      have hsn := all_take_succ cs k cs[k] (List.getElem?_eq_getElem hlt')
      by_cases h40 : (40 : Int) < cs[k].size
      · clear hsn
        go_wp2_with fail
        refine (awake_any _).mono ?_
        rintro e w9 ⟨rfl, hB9⟩
        go_wp2_with fail
        refine bodyPost_ret (results_tmp rfl _ _ _) rfl ⟨rfl, hB9⟩
      · cases hb : ((cs.map toL).take k).all nameL with
        | false =>
          rw [hb, Bool.false_and] at hsn
          have HS := hide hsn
          clear hsn hb
          go_wp2_with fail
          go_roundw
          case rel => exact ⟨k + 1, by omega, rfl, by rw [HS.out]; rfl, trivial⟩
          case measure => simp [intOf]; omega
        | true =>
          rw [hb, Bool.true_and] at hsn
          have HS := hide hsn
          clear hsn hb
          go_wp2_with fail
          refine (refName_any cs[k] _ (by omega)).mono ?_
          rintro e w2 ⟨rfl, rfl⟩
          cases hn : nameL cs[k].data.toList with
          | true =>
            go_wp2_with fail
            go_roundw
            case rel => exact ⟨k + 1, by omega, rfl, by rw [HS.out, show nameL (toL cs[k]) = true from hn]; rfl, trivial⟩
            case measure => simp [intOf]; omega
          | false =>
            go_wp2_with fail
            go_roundw
            case rel => exact ⟨k + 1, by omega, rfl, by rw [HS.out, show nameL (toL cs[k]) = false from hn]; rfl, trivial⟩
            case measure => simp [intOf]; omega
    · rw [List.take_of_length_le (l := cs.map toL) (by simp; omega)]
      cases hall : (cs.map toL).all nameL with
      | false =>
        have HALL := hide hall
        clear hall
        go_wp2_with fail
        refine (pathJoin_any HJ A cs c _ hA hcap (by omega)).mono ?_
        rintro e w1 ⟨⟨g, rfl, hg⟩, hB1⟩
        have hall := HALL.out
        have E1 : joinE (cs.map toL) = 2 := by unfold joinE; rw [hall]; rfl
        obtain rfl : g = ⟨#[]⟩ := toL_inj (hg.trans (by unfold joinG; rw [hall]; rfl))
        rw [E1]
        clear hall E1 hg
        go_wp2_with fail
        refine (awake_any _).mono ?_
        rintro e w9 ⟨rfl, hB9⟩
        go_wp2_with fail
        refine bodyPost_ret (results_tmp rfl _ _ _) rfl ⟨rfl, hB1.trans (hB9.mono hB1.size)⟩
      | true =>
        have HALL := hide hall
        clear hall
        go_wp2_with fail
        refine (pathJoin_any HJ A cs c _ hA hcap (by omega)).mono ?_
        rintro e w1 ⟨⟨g, rfl, hg⟩, hB1⟩
        have hall := HALL.out
        by_cases hl : (16 : Int) < cs.length
        · have E1 : joinE (cs.map toL) = 5 := by unfold joinE; rw [hall, if_neg (by simp), if_neg (by rw [List.length_map]; omega)]
          obtain rfl : g = ⟨#[]⟩ := toL_inj (hg.trans (by unfold joinG; rw [if_neg]; · rfl
                                                          · rintro ⟨_, h⟩; rw [List.length_map] at h; omega))
          rw [E1]
          clear hall E1 hg
          go_wp2_with fail
          refine (awake_any _).mono ?_
          rintro e w9 ⟨rfl, hB9⟩
          go_wp2_with fail
          refine bodyPost_ret (results_tmp rfl _ _ _) rfl ⟨rfl, hB1.trans (hB9.mono hB1.size)⟩
        · have E1 : joinE (cs.map toL) = 0 := by unfold joinE; rw [hall, if_neg (by simp), if_pos (by rw [List.length_map]; omega)]
          have hg2 : toL g = glueL (cs.map toL) := by rw [hg]; unfold joinG; rw [if_pos ⟨hall, by rw [List.length_map]; omega⟩]
          have hgs : (g.size : Int) ≤ 1000 := by
            have := glue_bound _ hall
            rw [← hg2] at this
            simp [toL] at this
            omega
          have HN := hide (show namesL (toL g) = cs.map toL by rw [hg2, glue_names hall (by rw [List.length_map]; omega)])
          have HSZ := hide (show ∀ (j : Nat) (x : ByteArray), cs[j]? = some x → (x.size : Int) ≤ 1000000 from fun j x hx => by
            have := name_len (List.all_eq_true.1 hall (toL x) (List.mem_map.2 ⟨x, List.mem_of_getElem? hx, rfl⟩))
            omega)
          have HG2 := hide hg2
          have hA1 := (hA.below hB1 (Nat.le_refl _)).mono hB1.size
          rw [E1]
          clear hall E1 hg hg2
          go_wp2_with fail
          refine (lawNames_any g 99 _ (by omega) (by omega)).mono ?_
          rintro e w2 ⟨B, d, ds, rfl, hds, hdcap, hR2, hB2'⟩
          have HD := hide (show (ds.map toL == cs.map toL) = true by
            rw [beq_iff_eq, hds, HN.out, List.take_of_length_le (by rw [List.length_map]; omega)])
          have hdl : (ds.length : Int) ≤ 1000000 := by
            have := congrArg List.length (beq_iff_eq.1 HD.out)
            simp at this
            omega
          have hA2 := (hA1.below hB2' (Nat.le_refl _)).mono hB2'.size
          have hB2 := hB1.trans (hB2'.mono hB1.size)
          clear hds hA1 hB1 hB2'
          go_wp2_with fail
          refine (awake_any _).mono ?_
          rintro e w3 ⟨rfl, hB3'⟩
          have hA3 := (hA2.below hB3' (Nat.le_refl _)).mono hB3'.size
          have hR3 := (hR2.below hB3' (Nat.le_refl _)).mono hB3'.size
          have hB3 := hB2.trans (hB3'.mono hB2.size)
          clear hA2 hR2 hB2 hB3'
          go_wp2_with fail
          refine (refGlue_any A cs c _ _ hA3 (by omega) HSZ.out).mono ?_
          rintro e w4 ⟨⟨g', rfl, hg', _⟩, rfl⟩
          obtain rfl : g' = g := toL_inj (hg'.trans HG2.out.symm)
          clear hg'
          go_wp2_with fail
          refine (refSame_any B A ds cs d c _ hR3 hA3 (by omega)).mono ?_
          rw [HD.out]
          rintro e w5 ⟨rfl, hB5⟩
          go_wp2_with fail
          refine bodyPost_ret (results_tmp rfl _ _ _) rfl ⟨rfl, hB3.trans (hB5.mono hB3.size)⟩
end Go.Proofs.YthmiffjhchhljaaDoor
