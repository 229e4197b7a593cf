/-
  Texts that belong together: RefGlue, RefMoves, TreeDad, NodeRef.
-/
import Derived.Test.YteoafohebgfjdaaGreatDoorAutoPathCmpL
import Derived.Test.YteoafohebgfjdaaGreatDoorAutoRoundRegion
import Derived.Test.YteoafohebgfjdaaGreatDoorAutoRefCmp
import Derived.Test.YteoafohebgfjdaaGreatDoorAutoPathCutMore
import Derived.Test.YteoafohebgfjdaaGreatDoorAutoNodesOwn
/-
  The reference's Glue, Names, Parent, Base, Within.
-/
namespace Go.Proofs.YteoafohebgfjdaaGreatDoor
open Go.RowKit
set_option maxRecDepth 100000

theorem glue_take_succ (cs : List ByteArray) (k : Nat) (x : ByteArray) (hx : cs[k]? = some x) :
    glueL ((cs.map toL).take (k + 1)) = if k = 0 then toL x else glueL ((cs.map toL).take k) ++ 47 :: toL x := by
  obtain ⟨hlt, he⟩ := List.getElem?_eq_some_iff.1 hx
  rw [List.take_succ_eq_append_getElem (by simpa using hlt)]
  by_cases hk : k = 0
  · subst hk
    rw [if_pos rfl]; simp [he, glueL]
  · rw [if_neg hk, glue_append _ _ (by
      intro e
      rcases List.take_eq_nil_iff.1 e with h | h
      · exact hk h
      · have := congrArg List.length h
        simp at this
        subst this
        simp at hlt) (by simp)]
    simp [he, glueL]

set_option maxHeartbeats 2000000 in
theorem refGlue_any (A : Option Addr) (cs : List ByteArray) (c B : Nat) (w : World) (hA : Rd w B A cs) (hn : (cs.length : Int) ≤ 1000001) (hz : ∀ (k : Nat) (x : ByteArray), cs[k]? = some x → (x.size : Int) ≤ 1000000) :
    Calls Tryz.prog 58 #[.slice A cs.length c] w fun e w' => (∃ g : ByteArray, e = .returned (.string g) ∧ toL g = glueL (cs.map toL) ∧ (g.size : Int) ≤ 1000001 * cs.length) ∧ w' = w := by
  have HZ := hide hz
  clear hz
  go_enter Tryz.func58, Tryz.ntmps58
  go_wp2_with fail
  go_loopw [3, 4] (fun s i wr => ∃ (k : Nat) (g : ByteArray), k ≤ cs.length ∧ i = .int .i64 k ∧ s = .string g ∧ (g.size : Int) ≤ 1000001 * k ∧ Hid (toL g = glueL ((cs.map toL).take k)) ∧ wr = w) (fun _ i _ => cs.length - (intOf i).toNat)
  case atStart => exact ⟨0, ⟨#[]⟩, Nat.zero_le _, rfl, rfl, by decide, hide (by simp [glueL, toL]), rfl⟩
  case round =>
    obtain ⟨k, g, hk, rfl, rfl, hg, HG, rfl⟩ := hrel
    by_cases l1 : (k : Int) < cs.length
    · have n1 : k < cs.length := by omega
      have g1 := List.getElem?_eq_getElem n1
      obtain ⟨ad, rfl, _, hc⟩ := hA k _ g1
      have hz := HZ.out k _ g1
      have hs := glue_take_succ cs k _ g1
      clear g1
      by_cases h0 : k = 0
      · have HS := hide (show toL (g ++ cs[k]) = glueL ((cs.map toL).take (k + 1)) by
          rw [hs, if_pos h0, toL_app, HG.out, show (cs.map toL).take k = [] by rw [h0]; rfl]; rfl)
        have h0' : ¬ (0 : Int) < k := by omega
        have hgk : (g.size : Int) = 0 := by omega
        have q1 : ¬ 9223372036854775807 < g.size + cs[k].size := by omega
        clear hs h0 hgk
        go_wp2_with fail
        go_roundw
        case rel => exact ⟨k + 1, g ++ cs[k], by omega, rfl, rfl, by rw [ByteArray.size_append]; omega, HS, trivial⟩
        case measure => simp [intOf]; omega
      · have HS := hide (show toL (g ++ ⟨#[47]⟩ ++ cs[k]) = glueL ((cs.map toL).take (k + 1)) by
          rw [hs, if_neg h0, toL_app, toL_app, HG.out]; simp [toL])
        clear hs
        have h0' : (0 : Int) < k := by omega
        have q1 : ¬ 9223372036854775807 < g.size + 1 := by omega
        have q2 : ¬ 9223372036854775807 < g.size + 1 + cs[k].size := by omega
        go_wp2_with fail
        go_roundw
        case rel => exact ⟨k + 1, g ++ ⟨#[47]⟩ ++ cs[k], by omega, rfl, rfl, by rw [ByteArray.size_append, ByteArray.size_append]; show ((g.size + 1 + cs[k].size : Nat) : Int) ≤ _; omega, HS, trivial⟩
        case measure => simp [intOf]; omega
    · obtain rfl : k = cs.length := by omega
      have HF := hide (show toL g = glueL (cs.map toL) by rw [HG.out, List.take_of_length_le (by simp)])
      go_wp2_with fail
      refine bodyPost_ret (results_tmp rfl _ _ _) rfl ⟨⟨g, rfl, HF.out, by omega⟩, rfl⟩

set_option maxHeartbeats 1000000 in
theorem refNames_any (p : ByteArray) (w : World) (hp : (p.size : Int) ≤ 1000000) :
    Calls Tryz.prog 57 #[.string p] w (Cuts w (namesL (toL p))) := by
  go_enter Tryz.func57, Tryz.ntmps57
  go_wp2_with fail
  refine (refRight_any p w hp).mono ?_
  rintro e w1 ⟨rfl, hB1⟩
  cases hr : rightL (toL p) with
  | false =>
    have HN := hide (show namesL (toL p) = [] by rw [names_cut, hr]; rfl)
    go_wp2_with fail
    refine bodyPost_ret (results_tmp rfl _ _ _) rfl ⟨none, 0, [], rfl, HN.out.symm, by simp, Rd.nil _ _ _, hB1⟩
  | true =>
    have HN := hide (show namesL (toL p) = cutL (toL p) by rw [names_cut, hr]; rfl)
    go_wp2_with fail
    refine (refCut_any p w1 hp).mono ?_
    rintro e w2 ⟨A, c, cs, rfl, hcs, hcap, hR, hB2⟩
    have HC := hide hcs
    clear hcs
    go_wp2_with fail
    refine bodyPost_ret (results_tmp rfl _ _ _) rfl ⟨A, c, cs, rfl, by rw [HC.out, HN.out], hcap, hR, hB1.trans (hB2.mono hB1.size)⟩
theorem names_size {cs : List ByteArray} {p : ByteArray} (h : cs.map toL = namesL (toL p)) (hp : (p.size : Int) ≤ 1000000) : (cs.length : Int) ≤ 16 ∧ ∀ (k : Nat) (x : ByteArray), cs[k]? = some x → (x.size : Int) ≤ 1000000 := by
  constructor
  · have := namesL_len (toL p)
    rw [← h] at this
    simp at this
    omega
  · intro k x hx
    rw [names_cut] at h
    cases hr : rightL (toL p) with
    | false => rw [hr] at h; simp at h; subst h; simp at hx
    | true =>
      rw [hr] at h
      have := piece_size h hx
      simp [toL] at this
      omega
theorem Rd.take {w : World} {B : Nat} {A : Option Addr} {l : List ByteArray} (h : Rd w B A l) (k : Nat) : Rd w B A (l.take k) := fun j x hx => by
  rw [List.getElem?_take] at hx
  split at hx
  · exact h j x hx
  · cases hx

end Go.Proofs.YteoafohebgfjdaaGreatDoor
/-
  The reference's Glue, Names, Parent, Base, Within.
-/
namespace Go.Proofs.YteoafohebgfjdaaGreatDoor
open Go.RowKit
set_option maxRecDepth 100000

set_option maxHeartbeats 1000000 in
theorem refParent_any (p : ByteArray) (w : World) (hp : (p.size : Int) ≤ 1000000) :
    Calls Tryz.prog 36 #[.string p] w fun e w' => (∃ g : ByteArray, e = .returned (.tuple #[.string g, .bool (!(namesL (toL p)).isEmpty)]) ∧ toL g = glueL (namesL (toL p)).dropLast) ∧ Below w.heap.size w w' := by
  go_enter Tryz.func36, Tryz.ntmps36
  go_wp2_with fail
  refine (refNames_any p w hp).mono ?_
  rintro e w1 ⟨A, c, cs, rfl, hcs, hcap, hR, hB1⟩
  obtain ⟨hn, hz⟩ := names_size hcs hp
  have HC := hide hcs
  have HZ := hide hz
  clear hcs hz
  by_cases h0 : cs.length = 0
  · have HN := hide (show namesL (toL p) = [] by rw [← HC.out, List.eq_nil_of_length_eq_zero h0]; rfl)
    have e0 : ((cs.length : Int) == 0) = true := by simp [h0]
    clear h0
    go_wp2_with fail
    refine bodyPost_ret (results_tmp2 rfl _ _ _) rfl ⟨⟨⟨#[]⟩, by rw [HN.out]; rfl, by rw [HN.out]; rfl⟩, hB1⟩
  · have e0 : ((cs.length : Int) == 0) = false := by rw [beq_eq_false_iff_ne]; omega
    have g1 : (0 : Int) ≤ (cs.length : Int) - 1 := by omega
    have g2 : (cs.length : Int) - 1 ≤ c := by omega
    have g3 : ((cs.length : Int) - 1).toNat = cs.length - 1 := by omega
    have hne : cs ≠ [] := fun e => h0 (by rw [e]; rfl)
    have HN := hide (show (namesL (toL p)).isEmpty = false by
      rw [← HC.out]; cases cs with | nil => exact absurd rfl hne | cons => rfl)
    have HT := hide (show (cs.take (cs.length - 1)).map toL = (namesL (toL p)).dropLast by
      rw [← HC.out, List.dropLast_eq_take, List.map_take, List.length_map])
    have hG := refGlue_any A (cs.take (cs.length - 1)) c w1.heap.size w1 (hR.take _) (by simp; omega) (fun k x hx => by
      rw [List.getElem?_take] at hx
      split at hx
      · exact HZ.out k x hx
      · cases hx)
    rw [List.length_take, Nat.min_eq_left (by omega)] at hG
    have HG := hide hG
    clear hne hG h0
    go_wp2_with fail
    refine HG.out.mono ?_
    rintro e w2 ⟨⟨g, rfl, hg, _⟩, rfl⟩
    have HE := hide hg
    clear hg
    go_wp2_with fail
    refine bodyPost_ret (results_tmp2 rfl _ _ _) rfl ⟨⟨g, by rw [HN.out]; rfl, by rw [HE.out, HT.out]⟩, hB1⟩

set_option maxHeartbeats 2000000 in
theorem refWithin_any (p q : ByteArray) (w : World) (hp : (p.size : Int) ≤ 1000000) (hq : (q.size : Int) ≤ 1000000) :
    Calls Tryz.prog 26 #[.string p, .string q] w fun e w' => e = .returned (.bool (withinB (toL p) (toL q))) ∧ Below w.heap.size w w' := by
  go_enter Tryz.func26, Tryz.ntmps26
  go_wp2_with fail
  refine (refCut_any p w hp).mono ?_
  rintro e w1 ⟨A, c, cs, rfl, hcs, _, hR1, hB1⟩
  go_wp2_with fail
  refine (refCut_any q w1 hq).mono ?_
  rintro e w2 ⟨B, d, ds, rfl, hds, _, hS1, hB2'⟩
  have hB2 := hB1.trans (hB2'.mono hB1.size)
  have hR2 := (hR1.below hB2' (Nat.le_refl _)).mono hB2'.size
  have hn : (cs.length : Int) ≤ 1000001 := by
    have := cut_count (toL p)
    rw [← hcs] at this
    simp [toL] at this
    omega
  have hm : (ds.length : Int) ≤ 1000001 := by
    have := cut_count (toL q)
    rw [← hds] at this
    simp [toL] at this
    omega
  have HC := hide hcs
  have HD := hide hds
  clear hcs hds hB1 hB2' hR1
  go_wp2_with fail
  refine (refRight_any p w2 hp).mono ?_
  rintro e w3 ⟨rfl, hB3'⟩
  have hB3 := hB2.trans (hB3'.mono hB2.size)
  have hR3 := hR2.below hB3' (Nat.le_refl _)
  have hS3 := hS1.below hB3' (Nat.le_refl _)
  have hz3 := hB3'.size
  clear hB2 hB3' hR2 hS1
  cases hrp : rightL (toL p) with
  | false =>
    have HW := hide (show withinB (toL p) (toL q) = false by unfold withinB; rw [hrp]; rfl)
    go_wp2_with fail
    refine bodyPost_ret (results_tmp rfl _ _ _) rfl ⟨by rw [HW.out]; rfl, hB3⟩
  | true =>
    have HP := hide hrp
    clear hrp
    go_wp2_with fail
    refine (refRight_any q w3 hq).mono ?_
    rintro e w4 ⟨rfl, hB4'⟩
    have hB4 := hB3.trans (hB4'.mono hB3.size)
    have hR4 := (hR3.mono hz3).below hB4' (Nat.le_refl _)
    have hS4 := (hS3.mono hz3).below hB4' (Nat.le_refl _)
    have hz4 := hB4'.size
    clear hB3 hB4' hR3 hS3
    cases hrq : rightL (toL q) with
    | false =>
      have HW := hide (show withinB (toL p) (toL q) = false by unfold withinB; rw [hrq, Bool.and_false]; rfl)
      go_wp2_with fail
      refine bodyPost_ret (results_tmp rfl _ _ _) rfl ⟨by rw [HW.out]; rfl, hB4⟩
    | true =>
      have HW := hide (show withinB (toL p) (toL q) = (ds.map toL).isPrefixOf (cs.map toL) by unfold withinB; rw [hrq, HP.out, HC.out, HD.out]; rfl)
      clear hrq
      by_cases hl : (cs.length : Int) < ds.length
      · have HF := hide (show withinB (toL p) (toL q) = false by
          rw [HW.out]
          cases h : (ds.map toL).isPrefixOf (cs.map toL) with
          | false => rfl
          | true =>
            have := (List.isPrefixOf_iff_prefix.1 h).length_le
            simp at this
            omega)
        go_wp2_with fail
        refine bodyPost_ret (results_tmp rfl _ _ _) rfl ⟨by rw [HF.out]; rfl, hB4⟩
      · go_wp2_with fail
        go_loopw [7] (fun i wr => ∃ k : Nat, k ≤ ds.length ∧ i = .int .i64 k ∧ Hid (((cs.map toL).take k == (ds.map toL).take k) = true) ∧ Drew w4 wr) (fun i _ => ds.length - (intOf i).toNat)
        case atStart => exact ⟨0, Nat.zero_le _, rfl, hide (by simp), Drew.refl _⟩
        case round =>
          obtain ⟨k, hk, rfl, HE, hD⟩ := hrel
          have hBr : Below w.heap.size w wr := by obtain ⟨n, rfl⟩ := hD; exact below_drewN hB4 n
          have hRr : Rd wr w3.heap.size A cs := by obtain ⟨n, rfl⟩ := hD; exact hR4
          have hSr : Rd wr w3.heap.size B ds := by obtain ⟨n, rfl⟩ := hD; exact hS4
          clear hR4 hS4 hB4
          by_cases hlt : (k : Int) < ds.length
          · have n2 : k < ds.length := by omega
            have n1 : k < cs.length := by omega
            have hltA : (k : Int) < cs.length := by omega
            obtain ⟨ad, rfl, _, hc⟩ := hRr k _ (List.getElem?_eq_getElem n1)
            obtain ⟨bd, rfl, _, hd⟩ := hSr k _ (List.getElem?_eq_getElem n2)
            have hs := take_same cs ds k _ _ (List.getElem?_eq_getElem n1) (List.getElem?_eq_getElem n2)
            rw [HE.out, Bool.true_and] at hs
            have HS := hide hs
            clear hs
            cases he : (cs[k].toList == ds[k].toList) with
            | true =>
              have he' : (cs[k].toList != ds[k].toList) = false := by simp [bne, he]
              go_wp2_with fail
              go_quiet (fail)
              go_wp2_with fail
              go_roundw
              case rel => exact ⟨k + 1, by omega, rfl, hide (by rw [HS.out, he]), hD.step _⟩
              case measure => simp [intOf]; omega
            | false =>
              have he' : (cs[k].toList != ds[k].toList) = true := by simp [bne, he]
              have HF := hide (show withinB (toL p) (toL q) = false by
                rw [HW.out]
                cases h : (ds.map toL).isPrefixOf (cs.map toL) with
                | false => rfl
                | true =>
                  obtain ⟨t, ht⟩ := List.isPrefixOf_iff_prefix.1 h
                  have h2 := HS.out
                  rw [he, ← ht, List.take_append_of_le_length (by simp; omega)] at h2
                  simp at h2)
              go_wp2_with fail
              go_quiet (fail)
              go_wp2_with fail
              refine bodyPost_ret (results_tmp rfl _ _ _) rfl ⟨by rw [HF.out]; rfl, below_drewN hBr _⟩
          · have HF := hide (show withinB (toL p) (toL q) = true by
              rw [HW.out, List.isPrefixOf_iff_prefix]
              have h := HE.out
              rw [beq_iff_eq, List.take_of_length_le (l := ds.map toL) (by simp; omega)] at h
              rw [← h]
              exact List.take_prefix _ _)
            go_wp2_with fail
            refine bodyPost_ret (results_tmp rfl _ _ _) rfl ⟨by rw [HF.out]; rfl, hBr⟩
end Go.Proofs.YteoafohebgfjdaaGreatDoor
/-
  The reference's Parent in a tree: what is wrong with a path's parent (10.1).
-/
namespace Go.Proofs.YteoafohebgfjdaaGreatDoor
open Go.RowKit
set_option maxRecDepth 100000

/-- A path's parent. -/
def upG (p : ByteArray) : ByteArray := ofL (glueL (namesL (toL p)).dropLast)
theorem at_from (p : ByteArray) : ∀ (l : List Nd) (i : Nat), atFrom p i l = -1 ∨ ∃ k n, atFrom p i l = ((i + k : Nat) : Int) ∧ l[k]? = some n ∧ hit p n = true
  | [], i => .inl rfl
  | n :: t, i => by
    unfold atFrom
    cases h : hit p n with
    | true => exact .inr ⟨0, n, by rw [if_pos rfl]; rfl, rfl, h⟩
    | false =>
      rw [if_neg (by decide)]
      rcases at_from p t (i + 1) with h2 | ⟨k, m, h2, h3, h4⟩
      · exact .inl h2
      · exact .inr ⟨k + 1, m, by rw [h2]; congr 1; omega, h3, h4⟩
theorem at_cases (p : ByteArray) (l : List Nd) : atL p l = -1 ∨ ∃ k n, atL p l = ((k : Nat) : Int) ∧ l[k]? = some n ∧ hit p n = true := by
  rcases at_from p l 0 with h | ⟨k, n, h, h2⟩
  · exact .inl h
  · exact .inr ⟨k, n, by unfold atL; rw [h]; congr 1; omega, h2⟩
/-- What is wrong with a path's parent. -/
def dadL (l : List Nd) (p : ByteArray) : Nat :=
  if (upG p).toList.isEmpty = true then 0
  else if atL (upG p) l < 0 then 6
  else match l[(atL (upG p) l).toNat]? with
    | some n => if n.kind = 1 then 0 else 8
    | none => 0

set_option maxHeartbeats 4000000 in
theorem refDad_any (A : Option Addr) (l : List Nd) (c : Nat) (p : ByteArray) (w : World) (hA : RdN w w.heap.size A l) (hl : (l.length : Int) ≤ 1000000) (hp : (p.size : Int) ≤ 1000000) :
    Calls Tryz.prog 23 #[.slice A l.length c, .string p] w fun e w' => e = .returned (.int .i64 (dadL l p : Nat)) ∧ Below w.heap.size w w' := by
  obtain ⟨V, hV⟩ : ∃ V, V = dadL l p := ⟨_, rfl⟩
  rw [← hV]
  have HAt := hide (fun (g : ByteArray) (W : World) (h : RdN W W.heap.size A l) => refAt_any A l c g W h hl)
  have HCases := hide (at_cases (upG p) l)
  unfold dadL at hV
  have HV := hide hV
  clear hV
  go_enter Tryz.func23, Tryz.ntmps23
  go_wp2_with fail
  refine (refParent_any p w hp).mono ?_
  rintro e w1 ⟨⟨g, rfl, hg⟩, hB1⟩
  obtain rfl : g = upG p := toL_inj (by rw [hg]; rfl)
  clear hg
  have hR1 := hA.step hB1
  generalize upG p = g at HAt HCases HV ⊢
  generalize (!(namesL (toL p)).isEmpty) = ok
  go_wp2_with fail
  refine (HAt.out g w1 hR1).mono ?_
  rintro e w2 ⟨rfl, hB2⟩
  have hB := hB1.trans (hB2.mono hB1.size)
  have hR2 := hR1.step hB2
  clear hR1 hB2 hB1 hA HAt
  cases he : g.toList.isEmpty with
  | true =>
    have HE := hide (show V = 0 by rw [HV.out, if_pos he])
    clear HV HCases
    go_wp2_with fail
    exact bodyPost_ret (results_tmp rfl _ _ _) rfl ⟨by rw [HE.out]; rfl, hB⟩
  | false =>
    rcases HCases.out with h | ⟨k, n, h, hn, _⟩
    · have HE := hide (show V = 6 by rw [HV.out, if_neg (by rw [he]; decide), h, if_pos (by decide)])
      rw [h]
      clear HV HCases h
      go_wp2_with fail
      exact bodyPost_ret (results_tmp rfl _ _ _) rfl ⟨by rw [HE.out]; rfl, hB⟩
    · have hv := HV.out
      rw [if_neg (by rw [he]; decide), h, if_neg (by omega), Int.toNat_natCast, hn] at hv
      simp only at hv
      obtain ⟨ad, rfl, hlt, hnd⟩ := hR2 k n hn
      have c1 := hnd.kind
      have hkl : k < l.length := (List.getElem?_eq_some_iff.1 hn).1
      have hki : (k : Int) < l.length := by omega
      rw [h]
      clear HV HCases h hn hnd
      by_cases hk : n.kind = 1
      · rw [if_pos hk] at hv
        rw [hk] at c1
        have HE := hide hv
        clear hv hk
        go_wp2_with fail
        exact bodyPost_ret (results_tmp rfl _ _ _) rfl ⟨by rw [HE.out]; rfl, hB⟩
      · rw [if_neg hk] at hv
        have kb : (n.kind == 1) = false := beq_eq_false_iff_ne.2 hk
        have kn : (n.kind != 1) = true := by rw [bne, kb]; rfl
        have HE := hide hv
        clear hv hk
        go_wp2_with fail
        exact bodyPost_ret (results_tmp rfl _ _ _) rfl ⟨by rw [HE.out]; rfl, hB⟩
end Go.Proofs.YteoafohebgfjdaaGreatDoor
/-
  The reference's Check of a node (9.1).
-/
namespace Go.Proofs.YteoafohebgfjdaaGreatDoor
open Go.RowKit
set_option maxRecDepth 100000

/-- Does a text have a byte that a link's target may not have? -/
def textBad (l : List UInt8) : Bool := l.any fun c => decide (c.toNat < 33) || decide (126 < c.toNat)
/-- What is wrong with a node. -/
def checkN (n : Nd) : Nat :=
  if n.path.toList.isEmpty = true ∨ rightL (toL n.path) = false then 2
  else if n.kind ≠ 1 ∧ n.kind ≠ 2 ∧ n.kind ≠ 3 then 8
  else if (n.kind = 1 ∧ 0 < n.data.size) ∨ (n.kind = 2 ∧ 16384 < n.data.size) ∨ (n.kind = 3 ∧ 64 < n.data.size) then 5
  else if n.mode < 0 ∨ 4095 < n.mode ∨ n.time < 0 ∨ 1099511627776 < n.time then 1
  else if n.kind = 3 ∧ (n.mode ≠ 0 ∨ n.data.size = 0 ∨ textBad (toL n.data) = true) then 1
  else 0
theorem bad_at (s : ByteArray) (i : Nat) (h : i < s.size) : textBad ((toL s).drop i) = (decide (s[i].toNat < 33) || decide (126 < s[i].toNat) || textBad ((toL s).drop (i + 1))) := by
  have hl : i < (toL s).length := by simpa [toL] using h
  unfold textBad
  rw [List.drop_eq_getElem_cons hl, List.any_cons]
  rfl

set_option maxHeartbeats 16000000 in
theorem refNode_any (n : Nd) (w : World) (hp : (n.path.size : Int) ≤ 1000000) (hd : (n.data.size : Int) ≤ 1000000) :
    Calls Tryz.prog 21 #[.agg n.cells] w fun e w' => e = .returned (.int .i64 (checkN n : Nat)) ∧ Below w.heap.size w w' := by
  obtain ⟨K, hK⟩ : ∃ K, K = checkN n := ⟨_, rfl⟩
  rw [← hK]
  obtain ⟨path, kind, mode, time, data⟩ := n
  simp only at hp hd
  have hB0 : Below w.heap.size w (w.alloc (.cells #[.string path, .int .i64 kind, .int .i64 mode, .int .i64 time, .string data] 36)) := (Below.refl _ w).alloc (Nat.le_refl _) _
  have r0 := World.alloc_heap_new w (Obj.cells #[.string path, .int .i64 kind, .int .i64 mode, .int .i64 time, .string data] 36)
  have HR := hide (fun W => refRight_any path W hp)
  show Calls _ _ #[.agg #[.string path, .int .i64 kind, .int .i64 mode, .int .i64 time, .string data]] _ _
  cases he : path.toList.isEmpty with
  | true =>
    have HV := hide (show K = 2 by rw [hK]; unfold checkN; rw [if_pos (.inl he)])
    clear hK
    go_enter Tryz.func21, Tryz.ntmps21
    go_wp2_with fail
    exact bodyPost_ret (results_tmp rfl _ _ _) rfl ⟨by rw [HV.out]; rfl, hB0⟩
  | false =>
    have HR2 := HR.out (w.alloc (.cells #[.string path, .int .i64 kind, .int .i64 mode, .int .i64 time, .string data] 36))
    clear HR
    cases hr : rightL (toL path) with
    | false =>
      rw [hr] at HR2
      have HC := hide HR2
      have HV := hide (show K = 2 by rw [hK]; unfold checkN; rw [if_pos (.inr hr)])
      clear hK hr HR2
      go_enter Tryz.func21, Tryz.ntmps21
      go_wp2_with (go_at_call 34; refine HC.out.mono ?_; rintro e w2 ⟨rfl, hb2⟩)
      exact bodyPost_ret (results_tmp rfl _ _ _) rfl ⟨by rw [HV.out]; rfl, hB0.trans (hb2.mono hB0.size)⟩
    | true =>
      rw [hr] at HR2
      have HC := hide HR2
      have HK := hide hK
      have HPath := hide (And.intro he hr)
      clear hK hr HR2
      go_enter Tryz.func21, Tryz.ntmps21
      go_upto_if 12 with (go_at_call 34; refine HC.out.mono ?_; rintro e w2 ⟨rfl, hb2⟩)
      have s0 := (hb2.block w.heap.size (by simp)).trans r0
      have hB := hB0.trans (hb2.mono hB0.size)
      have c1 : w2.cell? ⟨w.heap.size, 1, none⟩ = some (.int .i64 kind) := cell_of_row _ _ _ _ _ _ s0
      have c2 : w2.cell? ⟨w.heap.size, 2, none⟩ = some (.int .i64 mode) := cell_of_row _ _ _ _ _ _ s0
      have c3 : w2.cell? ⟨w.heap.size, 3, none⟩ = some (.int .i64 time) := cell_of_row _ _ _ _ _ _ s0
      have c4 : w2.cell? ⟨w.heap.size, 4, none⟩ = some (.string data) := cell_of_row _ _ _ _ _ _ s0
      clear s0 hb2 HC hB0 r0
      have hpre : ∀ X : Nat, (checkN ⟨path, kind, mode, time, data⟩ = X) = ((if kind ≠ 1 ∧ kind ≠ 2 ∧ kind ≠ 3 then 8
        else if (kind = 1 ∧ 0 < data.size) ∨ (kind = 2 ∧ 16384 < data.size) ∨ (kind = 3 ∧ 64 < data.size) then 5
        else if mode < 0 ∨ 4095 < mode ∨ time < 0 ∨ 1099511627776 < time then 1
        else if kind = 3 ∧ (mode ≠ 0 ∨ data.size = 0 ∨ textBad (toL data) = true) then 1 else 0) = X) := fun X => by
        unfold checkN
        rw [if_neg (by simp [HPath.out.1, HPath.out.2])]
      have HP := hide hpre
      clear hpre HPath
      by_cases k1 : kind = 1
      · subst k1
        by_cases hsz : (0 : Int) < data.size
        · have hsn : 0 < data.size := by omega
          have HV := hide (show K = 5 by rw [HK.out, HP.out]; simp [hsn])
          clear HK HP
          go_wp2_with fail
          exact bodyPost_ret (results_tmp rfl _ _ _) rfl ⟨by rw [HV.out]; rfl, hB⟩
        obtain rfl : data = ⟨#[]⟩ := by
          obtain ⟨⟨l⟩⟩ := data
          cases l with
          | nil => rfl
          | cons a l => exact absurd (show (0 : Int) < ((⟨⟨a :: l⟩⟩ : ByteArray).size : Int) by simp [ByteArray.size]) hsz
        clear hsz
        by_cases hm : mode < 0
        · have HV := hide (show K = 1 by rw [HK.out, HP.out]; simp [show ¬ 0 < (⟨#[]⟩ : ByteArray).size by decide, hm])
          clear HK HP
          go_wp2_with fail
          exact bodyPost_ret (results_tmp rfl _ _ _) rfl ⟨by rw [HV.out]; rfl, hB⟩
        by_cases hm2 : 4095 < mode
        · have HV := hide (show K = 1 by rw [HK.out, HP.out]; simp [show ¬ 0 < (⟨#[]⟩ : ByteArray).size by decide, hm, hm2])
          clear HK HP
          go_wp2_with fail
          exact bodyPost_ret (results_tmp rfl _ _ _) rfl ⟨by rw [HV.out]; rfl, hB⟩
        by_cases ht : time < 0
        · have HV := hide (show K = 1 by rw [HK.out, HP.out]; simp [show ¬ 0 < (⟨#[]⟩ : ByteArray).size by decide, hm, hm2, ht])
          clear HK HP
          go_wp2_with fail
          exact bodyPost_ret (results_tmp rfl _ _ _) rfl ⟨by rw [HV.out]; rfl, hB⟩
        by_cases ht2 : 1099511627776 < time
        · have HV := hide (show K = 1 by rw [HK.out, HP.out]; simp [show ¬ 0 < (⟨#[]⟩ : ByteArray).size by decide, hm, hm2, ht, ht2])
          clear HK HP
          go_wp2_with fail
          exact bodyPost_ret (results_tmp rfl _ _ _) rfl ⟨by rw [HV.out]; rfl, hB⟩
        have HV := hide (show K = 0 by rw [HK.out, HP.out]; simp [show ¬ 0 < (⟨#[]⟩ : ByteArray).size by decide, hm, hm2, ht, ht2])
        clear HK HP
        go_wp2_with fail
        exact bodyPost_ret (results_tmp rfl _ _ _) rfl ⟨by rw [HV.out]; rfl, hB⟩
      by_cases k2 : kind = 2
      · subst k2
        by_cases hsz : (16384 : Int) < data.size
        · have hsn : 16384 < data.size := by omega
          have HV := hide (show K = 5 by rw [HK.out, HP.out]; simp [hsn])
          clear HK HP
          go_wp2_with fail
          exact bodyPost_ret (results_tmp rfl _ _ _) rfl ⟨by rw [HV.out]; rfl, hB⟩
        by_cases hm : mode < 0
        · have HV := hide (show K = 1 by rw [HK.out, HP.out]; simp [show ¬ 16384 < data.size by omega, hm])
          clear HK HP
          go_wp2_with fail
          exact bodyPost_ret (results_tmp rfl _ _ _) rfl ⟨by rw [HV.out]; rfl, hB⟩
        by_cases hm2 : 4095 < mode
        · have HV := hide (show K = 1 by rw [HK.out, HP.out]; simp [show ¬ 16384 < data.size by omega, hm, hm2])
          clear HK HP
          go_wp2_with fail
          exact bodyPost_ret (results_tmp rfl _ _ _) rfl ⟨by rw [HV.out]; rfl, hB⟩
        by_cases ht : time < 0
        · have HV := hide (show K = 1 by rw [HK.out, HP.out]; simp [show ¬ 16384 < data.size by omega, hm, hm2, ht])
          clear HK HP
          go_wp2_with fail
          exact bodyPost_ret (results_tmp rfl _ _ _) rfl ⟨by rw [HV.out]; rfl, hB⟩
        by_cases ht2 : 1099511627776 < time
        · have HV := hide (show K = 1 by rw [HK.out, HP.out]; simp [show ¬ 16384 < data.size by omega, hm, hm2, ht, ht2])
          clear HK HP
          go_wp2_with fail
          exact bodyPost_ret (results_tmp rfl _ _ _) rfl ⟨by rw [HV.out]; rfl, hB⟩
        have HV := hide (show K = 0 by rw [HK.out, HP.out]; simp [show ¬ 16384 < data.size by omega, hm, hm2, ht, ht2])
        clear HK HP
        go_wp2_with fail
        exact bodyPost_ret (results_tmp rfl _ _ _) rfl ⟨by rw [HV.out]; rfl, hB⟩
      by_cases k3 : kind = 3
      · subst k3
        by_cases hsz : (64 : Int) < data.size
        · have hsn : 64 < data.size := by omega
          have HV := hide (show K = 5 by rw [HK.out, HP.out]; simp [hsn])
          clear HK HP
          go_wp2_with fail
          exact bodyPost_ret (results_tmp rfl _ _ _) rfl ⟨by rw [HV.out]; rfl, hB⟩
        by_cases hm : mode < 0
        · have HV := hide (show K = 1 by rw [HK.out, HP.out]; simp [show ¬ 64 < data.size by omega, hm])
          clear HK HP
          go_wp2_with fail
          exact bodyPost_ret (results_tmp rfl _ _ _) rfl ⟨by rw [HV.out]; rfl, hB⟩
        by_cases hm2 : 4095 < mode
        · have HV := hide (show K = 1 by rw [HK.out, HP.out]; simp [show ¬ 64 < data.size by omega, hm, hm2])
          clear HK HP
          go_wp2_with fail
          exact bodyPost_ret (results_tmp rfl _ _ _) rfl ⟨by rw [HV.out]; rfl, hB⟩
        by_cases ht : time < 0
        · have HV := hide (show K = 1 by rw [HK.out, HP.out]; simp [show ¬ 64 < data.size by omega, hm, hm2, ht])
          clear HK HP
          go_wp2_with fail
          exact bodyPost_ret (results_tmp rfl _ _ _) rfl ⟨by rw [HV.out]; rfl, hB⟩
        by_cases ht2 : 1099511627776 < time
        · have HV := hide (show K = 1 by rw [HK.out, HP.out]; simp [show ¬ 64 < data.size by omega, hm, hm2, ht, ht2])
          clear HK HP
          go_wp2_with fail
          exact bodyPost_ret (results_tmp rfl _ _ _) rfl ⟨by rw [HV.out]; rfl, hB⟩
        by_cases hm0 : mode = 0
        · subst hm0
          by_cases hz : data.size = 0
          · have hzi : ((data.size : Int) == 0) = true := by rw [hz]; rfl
            have HV := hide (show K = 1 by rw [HK.out, HP.out]; simp [hz, ht, ht2])
            clear HK HP
            go_wp2_with fail
            exact bodyPost_ret (results_tmp rfl _ _ _) rfl ⟨by rw [HV.out]; rfl, hB⟩
          have hzi : ((data.size : Int) == 0) = false := beq_eq_false_iff_ne.2 (by omega)
          have HV := hide (show K = if textBad ((toL data).drop 0) = true then 1 else 0 by rw [HK.out, HP.out, List.drop_zero]; simp [show ¬ 64 < data.size by omega, hz, ht, ht2])
          clear HK HP
          go_wp2_with fail
          go_loopg [3] data.size (fun gk iv wr => ∃ i : Nat, iv = .int .i64 i ∧ i + gk = data.size ∧ Hid (K = if textBad ((toL data).drop i) = true then 1 else 0) ∧ wr = w2)
          case atStart => exact ⟨0, rfl, by omega, HV, rfl⟩
          case round =>
            obtain ⟨i, rfl, hig, HW, rfl⟩ := hrel
            cases gk with
            | zero =>
              obtain rfl : i = data.size := by omega
              have HE := hide (show K = 0 by rw [HW.out, List.drop_of_length_le (by simp [toL])]; rfl)
              clear HW HV
              go_wp2_with fail
              exact bodyPost_ret (results_tmp rfl _ _ _) rfl ⟨by rw [HE.out]; rfl, hB⟩
            | succ g0 =>
              have his : i < data.size := by omega
              have hii : (i : Int) < data.size := by omega
              obtain ⟨y, hy⟩ : ∃ y, data[i]'his = y := ⟨_, rfl⟩
              have hd := HW.out
              rw [bad_at data i his, hy] at hd
              clear HW HV
              by_cases y1 : (y.toNat : Int) < 33
              · have HE := hide (show K = 1 by rw [hd]; simp [show y.toNat < 33 by omega])
                clear hd
                go_wp2_with fail
                exact bodyPost_ret (results_tmp rfl _ _ _) rfl ⟨by rw [HE.out]; rfl, hB⟩
              by_cases y2 : (126 : Int) < y.toNat
              · have HE := hide (show K = 1 by rw [hd]; simp [show 126 < y.toNat by omega])
                clear hd
                go_wp2_with fail
                exact bodyPost_ret (results_tmp rfl _ _ _) rfl ⟨by rw [HE.out]; rfl, hB⟩
              have HE := hide (show K = if textBad ((toL data).drop (i + 1)) = true then 1 else 0 by rw [hd]; simp [show ¬ y.toNat < 33 by omega, show ¬ 126 < y.toNat by omega])
              have hiw : IntKind.i64.wrap ((i : Int) + 1) = ((i + 1 : Nat) : Int) := by rw [IntWalk.i64_in _ (by omega)]; rfl
              clear hd
              go_wp2_with fail
              go_roundg g0
              case rel => exact ⟨i + 1, rfl, by omega, HE, rfl⟩
              case measure => omega
        · have hmb : (mode == 0) = false := beq_eq_false_iff_ne.2 hm0
          have HV := hide (show K = 1 by rw [HK.out, HP.out]; simp [show ¬ 64 < data.size by omega, hm, hm2, ht, ht2, hm0])
          clear HK HP
          go_wp2_with fail
          exact bodyPost_ret (results_tmp rfl _ _ _) rfl ⟨by rw [HV.out]; rfl, hB⟩
      have kb1 : (kind == 1) = false := beq_eq_false_iff_ne.2 k1
      have kb2 : (kind == 2) = false := beq_eq_false_iff_ne.2 k2
      have kb3 : (kind == 3) = false := beq_eq_false_iff_ne.2 k3
      have kn1 : (kind != 1) = true := by rw [bne, kb1]; rfl
      have kn2 : (kind != 2) = true := by rw [bne, kb2]; rfl
      have kn3 : (kind != 3) = true := by rw [bne, kb3]; rfl
      have HV := hide (show K = 8 by rw [HK.out, HP.out]; simp [k1, k2, k3])
      clear HK HP
      go_wp2_with fail
      exact bodyPost_ret (results_tmp rfl _ _ _) rfl ⟨by rw [HV.out]; rfl, hB⟩
end Go.Proofs.YteoafohebgfjdaaGreatDoor
