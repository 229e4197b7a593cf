/-
  The reference's Glue, Names, Parent, Base, Within.
-/
import Derived.Test.YthmiffjhchhljaaDoorRefCmp
import Derived.Test.YthmiffjhchhljaaDoorPathCutMore
namespace Go.Proofs.YthmiffjhchhljaaDoor
open Go.RowKit
set_option maxRecDepth 100000

theorem glue_take_succ (cs : List ByteArray) (k : Nat) (x : ByteArray) (hx : cs[k]? = some x) :
    glueL ((cs.map toL).take (k + 1)) = if k = 0 then toL x else glueL ((cs.map toL).take k) ++ 47 :: toL x := by
  obtain ⟨hlt, he⟩ := List.getElem?_eq_some_iff.1 hx
  rw [List.take_succ_eq_append_getElem (by simpa using hlt)]
  by_cases hk : k = 0
  · subst hk
    rw [if_pos rfl]; simp [he, glueL]
  · rw [if_neg hk, glue_append _ _ (by
      intro e
      rcases List.take_eq_nil_iff.1 e with h | h
      · exact hk h
      · have := congrArg List.length h
        simp at this
        subst this
        simp at hlt) (by simp)]
    simp [he, glueL]

set_option maxHeartbeats 2000000 in
theorem refGlue_any (A : Option Addr) (cs : List ByteArray) (c B : Nat) (w : World) (hA : Rd w B A cs) (hn : (cs.length : Int) ≤ 1000001) (hz : ∀ (k : Nat) (x : ByteArray), cs[k]? = some x → (x.size : Int) ≤ 1000000) :
    Calls Tryd.prog 18 #[.slice A cs.length c] w fun e w' => (∃ g : ByteArray, e = .returned (.string g) ∧ toL g = glueL (cs.map toL) ∧ (g.size : Int) ≤ 1000001 * cs.length) ∧ w' = w := by
  have HZ := hide hz
  clear hz
  go_enter Tryd.func18, Tryd.ntmps18
  go_wp2_with fail
  go_loopw [3, 4] (fun s i wr => ∃ (k : Nat) (g : ByteArray), k ≤ cs.length ∧ i = .int .i64 k ∧ s = .string g ∧ (g.size : Int) ≤ 1000001 * k ∧ Hid (toL g = glueL ((cs.map toL).take k)) ∧ wr = w) (fun _ i _ => cs.length - (intOf i).toNat)
  case atStart => exact ⟨0, ⟨#[]⟩, Nat.zero_le _, rfl, rfl, by decide, hide (by simp [glueL, toL]), rfl⟩
  case round =>
    obtain ⟨k, g, hk, rfl, rfl, hg, HG, rfl⟩ := hrel
    by_cases l1 : (k : Int) < cs.length
    · have n1 : k < cs.length := by omega
      have g1 := List.getElem?_eq_getElem n1
      obtain ⟨ad, rfl, _, hc⟩ := hA k _ g1
      have hz := HZ.out k _ g1
      have hs := glue_take_succ cs k _ g1
      clear g1
      by_cases h0 : k = 0
      · have HS := hide (show toL (g ++ cs[k]) = glueL ((cs.map toL).take (k + 1)) by
          rw [hs, if_pos h0, toL_app, HG.out, show (cs.map toL).take k = [] by rw [h0]; rfl]; rfl)
        have h0' : ¬ (0 : Int) < k := by omega
        have hgk : (g.size : Int) = 0 := by omega
        have q1 : ¬ 9223372036854775807 < g.size + cs[k].size := by omega
        clear hs h0 hgk
        go_wp2_with fail
        go_roundw
        case rel => exact ⟨k + 1, g ++ cs[k], by omega, rfl, rfl, by rw [ByteArray.size_append]; omega, HS, trivial⟩
        case measure => simp [intOf]; omega
      · have HS := hide (show toL (g ++ ⟨#[47]⟩ ++ cs[k]) = glueL ((cs.map toL).take (k + 1)) by
          rw [hs, if_neg h0, toL_app, toL_app, HG.out]; simp [toL])
        clear hs
        have h0' : (0 : Int) < k := by omega
        have q1 : ¬ 9223372036854775807 < g.size + 1 := by omega
        have q2 : ¬ 9223372036854775807 < g.size + 1 + cs[k].size := by omega
        go_wp2_with fail
        go_roundw
        case rel => exact ⟨k + 1, g ++ ⟨#[47]⟩ ++ cs[k], by omega, rfl, rfl, by rw [ByteArray.size_append, ByteArray.size_append]; show ((g.size + 1 + cs[k].size : Nat) : Int) ≤ _; omega, HS, trivial⟩
        case measure => simp [intOf]; omega
    · obtain rfl : k = cs.length := by omega
      have HF := hide (show toL g = glueL (cs.map toL) by rw [HG.out, List.take_of_length_le (by simp)])
      go_wp2_with fail
      refine bodyPost_ret (results_tmp rfl _ _ _) rfl ⟨⟨g, rfl, HF.out, by omega⟩, rfl⟩

set_option maxHeartbeats 1000000 in
theorem refNames_any (p : ByteArray) (w : World) (hp : (p.size : Int) ≤ 1000000) :
    Calls Tryd.prog 13 #[.string p] w (Cuts w (namesL (toL p))) := by
  go_enter Tryd.func13, Tryd.ntmps13
  go_wp2_with fail
  refine (refRight_any p w hp).mono ?_
  rintro e w1 ⟨rfl, hB1⟩
  cases hr : rightL (toL p) with
  | false =>
    have HN := hide (show namesL (toL p) = [] by rw [names_cut, hr]; rfl)
    go_wp2_with fail
    refine bodyPost_ret (results_tmp rfl _ _ _) rfl ⟨none, 0, [], rfl, HN.out.symm, by simp, Rd.nil _ _ _, hB1⟩
  | true =>
    have HN := hide (show namesL (toL p) = cutL (toL p) by rw [names_cut, hr]; rfl)
    go_wp2_with fail
    refine (refCut_any p w1 hp).mono ?_
    rintro e w2 ⟨A, c, cs, rfl, hcs, hcap, hR, hB2⟩
    have HC := hide hcs
    clear hcs
    go_wp2_with fail
    refine bodyPost_ret (results_tmp rfl _ _ _) rfl ⟨A, c, cs, rfl, by rw [HC.out, HN.out], hcap, hR, hB1.trans (hB2.mono hB1.size)⟩
theorem names_size {cs : List ByteArray} {p : ByteArray} (h : cs.map toL = namesL (toL p)) (hp : (p.size : Int) ≤ 1000000) : (cs.length : Int) ≤ 16 ∧ ∀ (k : Nat) (x : ByteArray), cs[k]? = some x → (x.size : Int) ≤ 1000000 := by
  constructor
  · have := namesL_len (toL p)
    rw [← h] at this
    simp at this
    omega
  · intro k x hx
    rw [names_cut] at h
    cases hr : rightL (toL p) with
    | false => rw [hr] at h; simp at h; subst h; simp at hx
    | true =>
      rw [hr] at h
      have := piece_size h hx
      simp [toL] at this
      omega
theorem Rd.take {w : World} {B : Nat} {A : Option Addr} {l : List ByteArray} (h : Rd w B A l) (k : Nat) : Rd w B A (l.take k) := fun j x hx => by
  rw [List.getElem?_take] at hx
  split at hx
  · exact h j x hx
  · cases hx

set_option maxHeartbeats 1000000 in
theorem refParent_any (p : ByteArray) (w : World) (hp : (p.size : Int) ≤ 1000000) :
    Calls Tryd.prog 17 #[.string p] w fun e w' => (∃ g : ByteArray, e = .returned (.tuple #[.string g, .bool (!(namesL (toL p)).isEmpty)]) ∧ toL g = glueL (namesL (toL p)).dropLast) ∧ Below w.heap.size w w' := by
  go_enter Tryd.func17, Tryd.ntmps17
  go_wp2_with fail
  refine (refNames_any p w hp).mono ?_
  rintro e w1 ⟨A, c, cs, rfl, hcs, hcap, hR, hB1⟩
  obtain ⟨hn, hz⟩ := names_size hcs hp
  have HC := hide hcs
  have HZ := hide hz
  clear hcs hz
  by_cases h0 : cs.length = 0
  · have HN := hide (show namesL (toL p) = [] by rw [← HC.out, List.eq_nil_of_length_eq_zero h0]; rfl)
    have e0 : ((cs.length : Int) == 0) = true := by simp [h0]
    clear h0
    go_wp2_with fail
    refine bodyPost_ret (results_tmp2 rfl _ _ _) rfl ⟨⟨⟨#[]⟩, by rw [HN.out]; rfl, by rw [HN.out]; rfl⟩, hB1⟩
  · have e0 : ((cs.length : Int) == 0) = false := by rw [beq_eq_false_iff_ne]; omega
    have g1 : (0 : Int) ≤ (cs.length : Int) - 1 := by omega
    have g2 : (cs.length : Int) - 1 ≤ c := by omega
    have g3 : ((cs.length : Int) - 1).toNat = cs.length - 1 := by omega
    have hne : cs ≠ [] := fun e => h0 (by rw [e]; rfl)
    have HN := hide (show (namesL (toL p)).isEmpty = false by
      rw [← HC.out]; cases cs with | nil => exact absurd rfl hne | cons => rfl)
    have HT := hide (show (cs.take (cs.length - 1)).map toL = (namesL (toL p)).dropLast by
      rw [← HC.out, List.dropLast_eq_take, List.map_take, List.length_map])
    have hG := refGlue_any A (cs.take (cs.length - 1)) c w1.heap.size w1 (hR.take _) (by simp; omega) (fun k x hx => by
      rw [List.getElem?_take] at hx
      split at hx
      · exact HZ.out k x hx
      · cases hx)
    rw [List.length_take, Nat.min_eq_left (by omega)] at hG
    have HG := hide hG
    clear hne hG h0
    go_wp2_with fail
    refine HG.out.mono ?_
    rintro e w2 ⟨⟨g, rfl, hg, _⟩, rfl⟩
    have HE := hide hg
    clear hg
    go_wp2_with fail
    refine bodyPost_ret (results_tmp2 rfl _ _ _) rfl ⟨⟨g, by rw [HN.out]; rfl, by rw [HE.out, HT.out]⟩, hB1⟩

set_option maxHeartbeats 1000000 in
theorem refBase_any (p : ByteArray) (w : World) (hp : (p.size : Int) ≤ 1000000) :
    Calls Tryd.prog 26 #[.string p] w fun e w' => (∃ g : ByteArray, e = .returned (.string g) ∧ toL g = (namesL (toL p)).getLastD []) ∧ Below w.heap.size w w' := by
  go_enter Tryd.func26, Tryd.ntmps26
  go_wp2_with fail
  refine (refNames_any p w hp).mono ?_
  rintro e w1 ⟨A, c, cs, rfl, hcs, hcap, hR, hB1⟩
  obtain ⟨hn, _⟩ := names_size hcs hp
  have HC := hide hcs
  clear hcs
  by_cases h0 : cs.length = 0
  · have HN := hide (show namesL (toL p) = [] by rw [← HC.out, List.eq_nil_of_length_eq_zero h0]; rfl)
    have e0 : ((cs.length : Int) == 0) = true := by simp [h0]
    clear h0
    go_wp2_with fail
    refine bodyPost_ret (results_tmp rfl _ _ _) rfl ⟨⟨⟨#[]⟩, rfl, by rw [HN.out]; rfl⟩, hB1⟩
  · have e0 : ((cs.length : Int) == 0) = false := by rw [beq_eq_false_iff_ne]; omega
    have n1 : cs.length - 1 < cs.length := by omega
    have g1 : (0 : Int) ≤ (cs.length : Int) - 1 := by omega
    have g2 : (cs.length : Int) - 1 < cs.length := by omega
    have g3 : ((cs.length : Int) - 1).toNat = cs.length - 1 := by omega
    obtain ⟨ad, rfl, _, hc⟩ := hR (cs.length - 1) _ (List.getElem?_eq_getElem n1)
    have HN := hide (show toL cs[cs.length - 1] = (namesL (toL p)).getLastD [] by
      have hne : cs ≠ [] := fun e => h0 (by rw [e]; rfl)
      rw [← HC.out, List.getLastD_eq_getLast?, List.getLast?_eq_getElem?, List.getElem?_map, List.length_map, List.getElem?_eq_getElem n1]
      rfl)
    clear h0
    go_wp2_with fail
    refine bodyPost_ret (results_tmp rfl _ _ _) rfl ⟨⟨cs[cs.length - 1], rfl, HN.out⟩, hB1⟩

set_option maxHeartbeats 2000000 in
theorem refWithin_any (p q : ByteArray) (w : World) (hp : (p.size : Int) ≤ 1000000) (hq : (q.size : Int) ≤ 1000000) :
    Calls Tryd.prog 28 #[.string p, .string q] w fun e w' => e = .returned (.bool (withinB (toL p) (toL q))) ∧ Below w.heap.size w w' := by
  go_enter Tryd.func28, Tryd.ntmps28
  go_wp2_with fail
  refine (refCut_any p w hp).mono ?_
  rintro e w1 ⟨A, c, cs, rfl, hcs, _, hR1, hB1⟩
  go_wp2_with fail
  refine (refCut_any q w1 hq).mono ?_
  rintro e w2 ⟨B, d, ds, rfl, hds, _, hS1, hB2'⟩
  have hB2 := hB1.trans (hB2'.mono hB1.size)
  have hR2 := (hR1.below hB2' (Nat.le_refl _)).mono hB2'.size
  have hn : (cs.length : Int) ≤ 1000001 := by
    have := cut_count (toL p)
    rw [← hcs] at this
    simp [toL] at this
    omega
  have hm : (ds.length : Int) ≤ 1000001 := by
    have := cut_count (toL q)
    rw [← hds] at this
    simp [toL] at this
    omega
  have HC := hide hcs
  have HD := hide hds
  clear hcs hds hB1 hB2' hR1
  go_wp2_with fail
  refine (refRight_any p w2 hp).mono ?_
  rintro e w3 ⟨rfl, hB3'⟩
  have hB3 := hB2.trans (hB3'.mono hB2.size)
  have hR3 := hR2.below hB3' (Nat.le_refl _)
  have hS3 := hS1.below hB3' (Nat.le_refl _)
  have hz3 := hB3'.size
  clear hB2 hB3' hR2 hS1
  cases hrp : rightL (toL p) with
  | false =>
    have HW := hide (show withinB (toL p) (toL q) = false by unfold withinB; rw [hrp]; rfl)
    go_wp2_with fail
    refine bodyPost_ret (results_tmp rfl _ _ _) rfl ⟨by rw [HW.out]; rfl, hB3⟩
  | true =>
    have HP := hide hrp
    clear hrp
    go_wp2_with fail
    refine (refRight_any q w3 hq).mono ?_
    rintro e w4 ⟨rfl, hB4'⟩
    have hB4 := hB3.trans (hB4'.mono hB3.size)
    have hR4 := (hR3.mono hz3).below hB4' (Nat.le_refl _)
    have hS4 := (hS3.mono hz3).below hB4' (Nat.le_refl _)
    have hz4 := hB4'.size
    clear hB3 hB4' hR3 hS3
    cases hrq : rightL (toL q) with
    | false =>
      have HW := hide (show withinB (toL p) (toL q) = false by unfold withinB; rw [hrq, Bool.and_false]; rfl)
      go_wp2_with fail
      refine bodyPost_ret (results_tmp rfl _ _ _) rfl ⟨by rw [HW.out]; rfl, hB4⟩
    | true =>
      have HW := hide (show withinB (toL p) (toL q) = (ds.map toL).isPrefixOf (cs.map toL) by unfold withinB; rw [hrq, HP.out, HC.out, HD.out]; rfl)
      clear hrq
      by_cases hl : (cs.length : Int) < ds.length
      · have HF := hide (show withinB (toL p) (toL q) = false by
          rw [HW.out]
          cases h : (ds.map toL).isPrefixOf (cs.map toL) with
          | false => rfl
          | true =>
            have := (List.isPrefixOf_iff_prefix.1 h).length_le
            simp at this
            omega)
        go_wp2_with fail
        refine bodyPost_ret (results_tmp rfl _ _ _) rfl ⟨by rw [HF.out]; rfl, hB4⟩
      · go_wp2_with fail
        go_loopw [7] (fun i wr => ∃ k : Nat, k ≤ ds.length ∧ i = .int .i64 k ∧ Hid (((cs.map toL).take k == (ds.map toL).take k) = true) ∧ Drew w4 wr) (fun i _ => ds.length - (intOf i).toNat)
        case atStart => exact ⟨0, Nat.zero_le _, rfl, hide (by simp), Drew.refl _⟩
        case round =>
          obtain ⟨k, hk, rfl, HE, hD⟩ := hrel
          have hBr : Below w.heap.size w wr := by obtain ⟨n, rfl⟩ := hD; exact below_drewN hB4 n
          have hRr : Rd wr w3.heap.size A cs := by obtain ⟨n, rfl⟩ := hD; exact hR4
          have hSr : Rd wr w3.heap.size B ds := by obtain ⟨n, rfl⟩ := hD; exact hS4
          clear hR4 hS4 hB4
          by_cases hlt : (k : Int) < ds.length
          · have n2 : k < ds.length := by omega
            have n1 : k < cs.length := by omega
            have hltA : (k : Int) < cs.length := by omega
            obtain ⟨ad, rfl, _, hc⟩ := hRr k _ (List.getElem?_eq_getElem n1)
            obtain ⟨bd, rfl, _, hd⟩ := hSr k _ (List.getElem?_eq_getElem n2)
            have hs := take_same cs ds k _ _ (List.getElem?_eq_getElem n1) (List.getElem?_eq_getElem n2)
            rw [HE.out, Bool.true_and] at hs
            have HS := hide hs
            clear hs
            cases he : (cs[k].toList == ds[k].toList) with
            | true =>
              have he' : (cs[k].toList != ds[k].toList) = false := by simp [bne, he]
              go_wp2_with fail
              go_quiet (fail)
              go_wp2_with fail
              go_roundw
              case rel => exact ⟨k + 1, by omega, rfl, hide (by rw [HS.out, he]), hD.step _⟩
              case measure => simp [intOf]; omega
            | false =>
              have he' : (cs[k].toList != ds[k].toList) = true := by simp [bne, he]
              have HF := hide (show withinB (toL p) (toL q) = false by
                rw [HW.out]
                cases h : (ds.map toL).isPrefixOf (cs.map toL) with
                | false => rfl
                | true =>
                  obtain ⟨t, ht⟩ := List.isPrefixOf_iff_prefix.1 h
                  have h2 := HS.out
                  rw [he, ← ht, List.take_append_of_le_length (by simp; omega)] at h2
                  simp at h2)
              go_wp2_with fail
              go_quiet (fail)
              go_wp2_with fail
              refine bodyPost_ret (results_tmp rfl _ _ _) rfl ⟨by rw [HF.out]; rfl, below_drewN hBr _⟩
          · have HF := hide (show withinB (toL p) (toL q) = true by
              rw [HW.out, List.isPrefixOf_iff_prefix]
              have h := HE.out
              rw [beq_iff_eq, List.take_of_length_le (l := ds.map toL) (by simp; omega)] at h
              rw [← h]
              exact List.take_prefix _ _)
            go_wp2_with fail
            refine bodyPost_ret (results_tmp rfl _ _ _) rfl ⟨by rw [HF.out]; rfl, hBr⟩
end Go.Proofs.YthmiffjhchhljaaDoor
