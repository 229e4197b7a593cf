/-
  The law TokenGets: its walk.
-/
import Derived.Test.YteaagmlejoiehaaTkAwake
import Derived.Test.YteaagmlejoiehaaTkRefGet
import Derived.Test.YteaagmlejoiehaaTkMath
import Derived.Deep.RegionHeld
import Derived.Deep.RegionHeld3
namespace Go.Proofs.Yteaagmlejoiehaa
open Go.RowKit
set_option maxRecDepth 100000

theorem getF_len : ∀ (f : Nat) (o : List Tk) (m : List UInt8), (getF f o m).1.length ≤ o.length + f
  | 0, o, m => by simp [getF]
  | f + 1, o, m => by
    unfold getF
    split
    · simp
    · split
      · simp
      · split
        · have := getF_len f (o ++ [(readK m).1]) (readK m).2.1
          simp only [List.length_append, List.length_singleton] at this
          omega
        · simp
theorem getT_len (l : List UInt8) : (getT l).1.length ≤ l.length := by
  have := getF_len l.length [] l
  simpa [getT] using this
theorem readN_er (l : List UInt8) (e m : Nat) (h : e ≤ 5) : (readN l e m).2.2 ≤ 5 := by
  have := (numL_facts l).2.2
  unfold readN
  split
  · exact h
  · split
    · show (numL l).2.2 ≤ 5; omega
    · split
      · exact Nat.le_refl _
      · exact Nat.zero_le _
theorem readT_er (l : List UInt8) (e m : Nat) (h : e ≤ 5) : (readT l e m).2.2 ≤ 5 := by
  have := readN_er l e m h
  unfold readT textOf
  generalize readN l e m = r at this ⊢
  split
  · exact this
  · split
    · show 4 ≤ 5; decide
    · exact Nat.zero_le _
theorem readK_er (l : List UInt8) : (readK l).2.2 ≤ 5 := by
  have := readN_er l 0 4097 (by decide)
  unfold readK
  generalize readN l 0 4097 = r at this ⊢
  split
  · exact readN_er _ _ _ this
  · exact readT_er _ _ _ this
theorem getF_er : ∀ (f : Nat) (o : List Tk) (m : List UInt8), (getF f o m).2 ≤ 5
  | 0, o, m => by simp [getF]
  | f + 1, o, m => by
    unfold getF
    split
    · simp
    · split
      · exact readK_er m
      · split
        · exact getF_er f _ _
        · show 3 ≤ 5; decide
theorem getT_err (l : List UInt8) : (getT l).2 ≤ 5 := getF_er _ _ _
theorem keepB {w1 W W2 : World} {V : Value} {sl : ByteArray} (KC : Hid (∀ W : World, Below w1.heap.size w1 W → (convert 22 9 V).run Try.prog W = .ok (.string sl) W)) (h : Below w1.heap.size w1 W ∧ (convert 22 9 V).run Try.prog W = .ok (.string sl) W) (hb : Below W.heap.size W W2) :
    Below w1.heap.size w1 W2 ∧ (convert 22 9 V).run Try.prog W2 = .ok (.string sl) W2 :=
  ⟨h.1.trans (hb.mono h.1.size), KC.out _ (h.1.trans (hb.mono h.1.size))⟩

set_option maxHeartbeats 16000000 in
theorem gets_law (A : Option Addr) (l : List UInt8) (c : Nat) (w : World) (hR : RdB w w.heap.size A l) (hc : Caps A l.length c) :
    Calls Try.prog 8 #[.slice A l.length c] w fun e w' => e = .returned (.bool true) ∧ Below w.heap.size w w' := by
  by_cases h5 : (500 : Int) < l.length
  · go_enter Try.func8, Try.ntmps8
    clear hR hc
    go_wp2_with fail
    refine (tkAwake_any w).mono ?_
    rintro e w1 ⟨rfl, hb⟩
    go_wp2_with fail
    exact bodyPost_ret (results_tmp rfl _ _ _) rfl ⟨rfl, hb⟩
  · have hl : l.length ≤ 500 := by omega
    have HG := hide (getT_any A l c w hR hc (by omega))
    have HRf := hide (fun W => refGetT_any l W (by omega))
    have hgl := getT_len l
    have hee := getT_err l
    have honce := getT_once l
    obtain ⟨g, hg⟩ : ∃ g, g = getT l := ⟨_, rfl⟩
    rw [← hg] at HG HRf hgl honce hee
    obtain ⟨q, e⟩ := g
    simp only at HG HRf hgl honce hee
    have HRl := hide hR
    clear hg hR hc
    go_enter Try.func8, Try.ntmps8
    go_wp2_with fail
    refine HG.out.mono ?_
    rintro en w1 ⟨v, rfl, hI⟩
    obtain ⟨D, d, rfl⟩ := ownsRow_slice hI.own
    have hcv := conv_any (HRl.out.below hI.below (Nat.le_refl _)) c
    have HI := hide hI
    clear hI HG
    go_wp2_with fail
    refine (HRf.out w1).mono ?_
    rintro en w2 ⟨v, rfl, hI2⟩
    obtain ⟨E, f, rfl⟩ := ownsRow_slice hI2.own
    have hB2 := HI.out.below.trans (hI2.below.mono HI.out.below.size)
    have HD := hide (fun (W : World) (h : Below w2.heap.size w2 W) => ((RdT.own HI.out.own).step hI2.below).step h)
    have HE := hide (fun (W : World) (h : Below w2.heap.size w2 W) => (RdT.own hI2.own).step h)
    obtain ⟨X, hX⟩ : ∃ X, X = Value.slice A l.length c := ⟨_, rfl⟩
    obtain ⟨sl, hsl⟩ : ∃ sl, sl = ofL l := ⟨_, rfl⟩
    have KC := hide (fun (W : World) (h : Below w2.heap.size w2 W) => (show (convert 22 9 X).run Try.prog W = .ok (.string sl) W by
      rw [hX, hsl]; exact conv_any (HRl.out.below (hB2.trans (h.mono hB2.size)) (Nat.le_refl _)) c))
    have HB2 := hide hB2
    have hd0 := keepB KC ⟨Below.refl w2.heap.size w2, KC.out _ (Below.refl _ _)⟩ (Below.refl w2.heap.size w2).drew
    rw [← hX]
    clear HI hI2 hB2 HRf hcv hX
    have hql : (q.length : Int) ≤ 500 := by omega
    by_cases he : e = 0
    · have hput := honce he
      subst he
      have HP := hide (fun (W : World) (h : Below w2.heap.size w2 W) => (show Calls Try.prog 35 #[.slice D q.length d] W fun e w' => (∃ Y, e = .returned Y ∧ (convert 22 9 Y).run Try.prog w' = .ok (.string sl) w') ∧ Below W.heap.size W w' from by
        refine (putT_any D q d W (HD.out W h) (by omega)).mono ?_
        rintro e w' ⟨G, g, h1, _, h3, h4⟩
        rw [hput] at h1 h3
        exact ⟨⟨_, h1, by rw [hsl]; exact conv_any h3 g⟩, h4⟩))
      clear honce hput hsl
      go_wp2_with fail
      go_region_held (fun w' => Below w2.heap.size w2 w' ∧ (convert 22 9 X).run Try.prog w' = .ok (.string sl) w')
        (first
          | assumption
          | exact hd0
          | exact keepB KC (by assumption) hbk)
        (first
          | (go_at_call 31; with_reducible refine (tkAwake_any _).mono ?_; rintro en wk ⟨rfl, hbk⟩)
          | (go_at_call 42; with_reducible refine (from_any D q d _ (HD.out _ (And.left (by assumption))) (by omega)).mono ?_; rintro en wk ⟨v, rfl, hJ⟩; obtain ⟨G, g, rfl⟩ := ownsRow_slice hJ.own; have hbk := hJ.below)
          | (go_at_call 39; with_reducible refine (refTSame_any G E q q g f _ (RdT.own hJ.own) (HE.out _ (And.left (by assumption))) (by omega)).mono ?_; rw [sameB_refl]; rintro en wk ⟨rfl, hbk⟩)
          | (go_at_call 35; with_reducible refine (HP.out _ (And.left (by assumption))).mono ?_; rintro en wk ⟨⟨Y, rfl, hcv2⟩, hbk⟩))
      all_goals
        rename_i hS
        have HF := hide (HB2.out.trans (hS.1.mono HB2.out.size))
        clear hS
        go_wp2_with fail
        exact bodyPost_ret (results_tmp rfl _ _ _) rfl ⟨rfl, HF.out⟩
    · have E1 : ((e : Int) != 0) = true := by rw [bne_iff_ne]; omega
      have E2 : ((e : Int) == 0) = false := by rw [beq_eq_false_iff_ne]; omega
      clear honce hsl he hee
      have hS := hd0.1
      clear hd0
      go_wp2_with fail
      refine wp_region_noPanic ?_
      refine wp_region_any (by kernel_rfl) ?_
      change wpAny _ _ _ _ _ _ _ (World.drew _)
      refine wpAny_ready (rs := [0]) (by kernel_rfl) (by simp) ?_
      refine AllReady.cons rfl (fun K hK => ?_) AllReady.nil
      go_simp
      refine (tkAwake_any _).mono ?_
      rintro en wk ⟨rfl, hbk⟩
      have hS := hS.trans (hbk.mono hS.size)
      clear hbk
      refine hK _ _ ?_
      clear hK K
      try simp only [Act.put, List.getElem_toArray, List.getElem_cons_succ, List.getElem_cons_zero, List.setIfInBounds_toArray, List.set_cons_zero, List.set_cons_succ]
      refine wpAny_take (i := 1) (v := .bool true) rfl (by kernel_rfl) (by kernel_rfl) (by kernel_rfl) (fun _ _ _ h => h) (Or.inl ⟨by kernel_rfl, fun W => by go_simp⟩) ?_
      try simp only [Act.put, List.getElem_toArray, List.getElem_cons_succ, List.getElem_cons_zero, List.setIfInBounds_toArray, List.set_cons_zero, List.set_cons_succ]
      refine wpAny_take (i := 2) (v := .slice D q.length d) rfl (by kernel_rfl) (by kernel_rfl) (by kernel_rfl) (fun _ _ _ h => h) (Or.inl ⟨by kernel_rfl, fun W => by go_simp⟩) ?_
      try simp only [Act.put, List.getElem_toArray, List.getElem_cons_succ, List.getElem_cons_zero, List.setIfInBounds_toArray, List.set_cons_zero, List.set_cons_succ]
      refine wpAny_take (i := 4) (v := .slice E q.length f) rfl (by kernel_rfl) (by kernel_rfl) (by kernel_rfl) (fun _ _ _ h => h) (Or.inl ⟨by kernel_rfl, fun W => by go_simp⟩) ?_
      try simp only [Act.put, List.getElem_toArray, List.getElem_cons_succ, List.getElem_cons_zero, List.setIfInBounds_toArray, List.set_cons_zero, List.set_cons_succ]
      refine wpAny_ready (rs := [3]) (by kernel_rfl) (by simp) ?_
      refine AllReady.cons rfl (fun K hK => ?_) AllReady.nil
      go_simp
      refine (from_any D q d _ (HD.out _ hS) (by omega)).mono ?_
      rintro en wj ⟨v, rfl, hJ⟩
      obtain ⟨G, g, rfl⟩ := ownsRow_slice hJ.own
      have hS := hS.trans (hJ.below.mono hS.size)
      refine hK _ _ ?_
      clear hK K
      try simp only [Act.put, List.getElem_toArray, List.getElem_cons_succ, List.getElem_cons_zero, List.setIfInBounds_toArray, List.set_cons_zero, List.set_cons_succ]
      refine wpAny_ready (rs := [5]) (by kernel_rfl) (by simp) ?_
      refine AllReady.cons rfl (fun K hK => ?_) AllReady.nil
      go_simp
      have HSm := hide (refTSame_any G E q q g f _ (RdT.own hJ.own) (HE.out _ hS) (by omega))
      rw [sameB_refl] at HSm
      refine HSm.out.mono ?_
      rintro en wl ⟨rfl, hbl⟩
      have hS := hS.trans (hbl.mono hS.size)
      clear hbl hJ HSm
      refine hK _ _ ?_
      clear hK K
      try simp only [Act.put, List.getElem_toArray, List.getElem_cons_succ, List.getElem_cons_zero, List.setIfInBounds_toArray, List.set_cons_zero, List.set_cons_succ]
      refine wpAny_take (i := 6) (v := .bool true) rfl (by kernel_rfl) (by kernel_rfl) (by kernel_rfl) (fun _ _ _ h => h) (Or.inl ⟨by kernel_rfl, fun W => by go_simp⟩) ?_
      try simp only [Act.put, List.getElem_toArray, List.getElem_cons_succ, List.getElem_cons_zero, List.setIfInBounds_toArray, List.set_cons_zero, List.set_cons_succ]
      refine wpAny_take (i := 7) (v := .bool true) rfl (by kernel_rfl) (by kernel_rfl) (by kernel_rfl) (fun _ _ _ h => h) (Or.inl ⟨by kernel_rfl, fun W => by go_simp⟩) ?_
      try simp only [Act.put, List.getElem_toArray, List.getElem_cons_succ, List.getElem_cons_zero, List.setIfInBounds_toArray, List.set_cons_zero, List.set_cons_succ]
      refine wpAny_take (i := 8) (v := .int .i64 (e : Nat)) rfl (by kernel_rfl) (by kernel_rfl) (by kernel_rfl) (fun _ _ _ h => h) (Or.inl ⟨by kernel_rfl, fun W => by go_simp⟩) ?_
      try simp only [Act.put, List.getElem_toArray, List.getElem_cons_succ, List.getElem_cons_zero, List.setIfInBounds_toArray, List.set_cons_zero, List.set_cons_succ]
      refine wpAny_take (i := 9) (v := .int .i64 (e : Nat)) rfl (by kernel_rfl) (by kernel_rfl) (by kernel_rfl) (fun _ _ _ h => h) (Or.inl ⟨by kernel_rfl, fun W => by go_simp⟩) ?_
      try simp only [Act.put, List.getElem_toArray, List.getElem_cons_succ, List.getElem_cons_zero, List.setIfInBounds_toArray, List.set_cons_zero, List.set_cons_succ]
      refine wpAny_take (i := 10) (v := .bool true) rfl (by kernel_rfl) (by kernel_rfl) (by kernel_rfl) (fun _ _ _ h => h) (Or.inl ⟨by kernel_rfl, fun W => by go_simp⟩) ?_
      try simp only [Act.put, List.getElem_toArray, List.getElem_cons_succ, List.getElem_cons_zero, List.setIfInBounds_toArray, List.set_cons_zero, List.set_cons_succ]
      refine wpAny_take (i := 11) (v := .bool true) rfl (by kernel_rfl) (by kernel_rfl) (by kernel_rfl) (fun _ _ _ h => h) (Or.inl ⟨by kernel_rfl, fun W => by go_simp⟩) ?_
      try simp only [Act.put, List.getElem_toArray, List.getElem_cons_succ, List.getElem_cons_zero, List.setIfInBounds_toArray, List.set_cons_zero, List.set_cons_succ]
      refine wpAny_take (i := 12) (v := .bool true) rfl (by kernel_rfl) (by kernel_rfl) (by kernel_rfl) (fun _ _ _ h => h) (Or.inl ⟨by kernel_rfl, fun W => by go_simp⟩) ?_
      try simp only [Act.put, List.getElem_toArray, List.getElem_cons_succ, List.getElem_cons_zero, List.setIfInBounds_toArray, List.set_cons_zero, List.set_cons_succ]
      refine wpAny_take (i := 13) (v := .int .i64 (e : Nat)) rfl (by kernel_rfl) (by kernel_rfl) (by kernel_rfl) (fun _ _ _ h => h) (Or.inl ⟨by kernel_rfl, fun W => by go_simp⟩) ?_
      try simp only [Act.put, List.getElem_toArray, List.getElem_cons_succ, List.getElem_cons_zero, List.setIfInBounds_toArray, List.set_cons_zero, List.set_cons_succ]
      refine wpAny_take (i := 14) (v := .bool true) rfl (by kernel_rfl) (by kernel_rfl) (by kernel_rfl) (fun _ _ _ h => h) (Or.inl ⟨by kernel_rfl, fun W => by go_simp⟩) ?_
      try simp only [Act.put, List.getElem_toArray, List.getElem_cons_succ, List.getElem_cons_zero, List.setIfInBounds_toArray, List.set_cons_zero, List.set_cons_succ]
      refine wpAny_take (i := 15) (v := .bool true) rfl (by kernel_rfl) (by kernel_rfl) (by kernel_rfl) (fun _ _ _ h => h) (Or.inl ⟨by kernel_rfl, fun W => by go_simp⟩) ?_
      try simp only [Act.put, List.getElem_toArray, List.getElem_cons_succ, List.getElem_cons_zero, List.setIfInBounds_toArray, List.set_cons_zero, List.set_cons_succ]
      refine wpAny_take (i := 16) (v := undef) rfl (by kernel_rfl) (by kernel_rfl) (by kernel_rfl) (fun _ _ _ h => h) (Or.inr ⟨by kernel_rfl, rfl⟩) ?_
      try simp only [Act.put, List.getElem_toArray, List.getElem_cons_succ, List.getElem_cons_zero, List.setIfInBounds_toArray, List.set_cons_zero, List.set_cons_succ]
      refine wpAny_take (i := 17) (v := undef) rfl (by kernel_rfl) (by kernel_rfl) (by kernel_rfl) (fun _ _ _ h => h) (Or.inr ⟨by kernel_rfl, rfl⟩) ?_
      try simp only [Act.put, List.getElem_toArray, List.getElem_cons_succ, List.getElem_cons_zero, List.setIfInBounds_toArray, List.set_cons_zero, List.set_cons_succ]
      refine wpAny_take (i := 18) (v := undef) rfl (by kernel_rfl) (by kernel_rfl) (by kernel_rfl) (fun _ _ _ h => h) (Or.inr ⟨by kernel_rfl, rfl⟩) ?_
      try simp only [Act.put, List.getElem_toArray, List.getElem_cons_succ, List.getElem_cons_zero, List.setIfInBounds_toArray, List.set_cons_zero, List.set_cons_succ]
      refine wpAny_take (i := 19) (v := undef) rfl (by kernel_rfl) (by kernel_rfl) (by kernel_rfl) (fun _ _ _ h => h) (Or.inr ⟨by kernel_rfl, rfl⟩) ?_
      try simp only [Act.put, List.getElem_toArray, List.getElem_cons_succ, List.getElem_cons_zero, List.setIfInBounds_toArray, List.set_cons_zero, List.set_cons_succ]
      refine wpAny_take (i := 20) (v := undef) rfl (by kernel_rfl) (by kernel_rfl) (by kernel_rfl) (fun _ _ _ h => h) (Or.inr ⟨by kernel_rfl, rfl⟩) ?_
      try simp only [Act.put, List.getElem_toArray, List.getElem_cons_succ, List.getElem_cons_zero, List.setIfInBounds_toArray, List.set_cons_zero, List.set_cons_succ]
      refine wpAny_take (i := 21) (v := undef) rfl (by kernel_rfl) (by kernel_rfl) (by kernel_rfl) (fun _ _ _ h => h) (Or.inr ⟨by kernel_rfl, rfl⟩) ?_
      try simp only [Act.put, List.getElem_toArray, List.getElem_cons_succ, List.getElem_cons_zero, List.setIfInBounds_toArray, List.set_cons_zero, List.set_cons_succ]
      refine wpAny_take (i := 22) (v := .bool true) rfl (by kernel_rfl) (by kernel_rfl) (by kernel_rfl) (fun _ _ _ h => h) (Or.inl ⟨by kernel_rfl, fun W => by go_simp⟩) ?_
      try simp only [Act.put, List.getElem_toArray, List.getElem_cons_succ, List.getElem_cons_zero, List.setIfInBounds_toArray, List.set_cons_zero, List.set_cons_succ]
      refine wpAny_take (i := 23) (v := .bool true) rfl (by kernel_rfl) (by kernel_rfl) (by kernel_rfl) (fun _ _ _ h => h) (Or.inl ⟨by kernel_rfl, fun W => by go_simp⟩) ?_
      try simp only [Act.put, List.getElem_toArray, List.getElem_cons_succ, List.getElem_cons_zero, List.setIfInBounds_toArray, List.set_cons_zero, List.set_cons_succ]
      refine wpAny_take (i := 24) (v := .bool true) rfl (by kernel_rfl) (by kernel_rfl) (by kernel_rfl) (fun _ _ _ h => h) (Or.inl ⟨by kernel_rfl, fun W => by go_simp⟩) ?_
      try simp only [Act.put, List.getElem_toArray, List.getElem_cons_succ, List.getElem_cons_zero, List.setIfInBounds_toArray, List.set_cons_zero, List.set_cons_succ]
      refine wpAny_done (by kernel_rfl) ?_ _
      refine NoPanic.normal ?_
      have HF := hide (HB2.out.trans (hS.mono HB2.out.size))
      clear hS
      go_wp2_with fail
      exact bodyPost_ret (results_tmp rfl _ _ _) rfl ⟨rfl, HF.out⟩
end Go.Proofs.Yteaagmlejoiehaa
