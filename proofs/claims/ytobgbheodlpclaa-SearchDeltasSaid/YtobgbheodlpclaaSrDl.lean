/-
  Texts that belong together: SrRefOf, SrDeltasLaw.
-/
import Derived.Test.YtobgbheodlpclaaSrRefA
import Derived.Test.YtobgbheodlpclaaTkRefJoin
import Derived.Test.YtobgbheodlpclaaBkRight
import Derived.Test.YtobgbheodlpclaaAutoRollStep
import Derived.Test.YtobgbheodlpclaaAutoHeldOp
import Derived.Test.YtobgbheodlpclaaAutoSrAwake
import Derived.Test.YtobgbheodlpclaaAutoTkTo
import Derived.Deep.RegionHeld3
/-
  The reference's Of: what is found, of signatures that are right.
-/
namespace Go.Proofs.Ytobgbheodlpclaa
open Go.RowKit
set_option maxRecDepth 100000

theorem ext_winS (l : List UInt8) (i n : Nat) : (ofL l).extract i (i + n) = ofL (winW l n i) := by
  apply toL_inj
  unfold toL winW
  rw [Lib.extract_data]
  simp [ofL]
theorem ext_end (l : List UInt8) (i : Nat) : (ofL l).extract i l.length = ofL (l.drop i) := by
  have h : (l.drop i).take (l.length - i) = l.drop i := List.take_of_length_le (by rw [List.length_drop]; omega)
  apply toL_inj
  unfold toL
  rw [Lib.extract_data]
  simpa [ofL] using h
theorem refS_at (bl : List Sg) (n tl : Nat) (ls : Sg) (f p nx : Nat) (b : List UInt8) (x : UInt8) (hx : b[p]? = some x) : refS bl n tl ls (f + 1) (b.drop p) nx = if n ≤ b.length - p then
      (match whichL bl (signL (winW b n p)) nx with
      | some k => copyT k :: refS bl n tl ls f (b.drop (p + n)) (k + 1)
      | none => byteT x :: refS bl n tl ls f (b.drop (p + 1)) 0)
    else if tailB tl ls (b.drop p) = true then copyT bl.length :: refS bl n tl ls f (b.drop (p + tl)) (bl.length + 1)
    else byteT x :: refS bl n tl ls f (b.drop (p + 1)) 0 := by
  obtain ⟨hlt, e⟩ := List.getElem?_eq_some_iff.1 hx
  have hd := List.drop_eq_getElem_cons hlt
  have hl : b.length - p = (b.drop p).length := by rw [List.length_drop]
  rw [e] at hd
  rw [hl]
  unfold winW
  have h1 : b.drop (p + n) = (b.drop p).drop n := by rw [List.drop_drop]
  have h2 : b.drop (p + tl) = (b.drop p).drop tl := by rw [List.drop_drop]
  rw [h1, h2, hd, refS_cons]
  rfl
theorem refS_len (bl : List Sg) (n tl : Nat) (ls : Sg) (hn : 0 < n) : ∀ (f : Nat) (b : List UInt8) (nx : Nat), b.length ≤ f → (refS bl n tl ls f b nx).length ≤ b.length
  | 0, _, _, _ => Nat.zero_le _
  | f + 1, [], _, _ => Nat.zero_le _
  | f + 1, x :: r, nx, h => by
    simp only [List.length_cons] at h
    rw [refS_cons]
    split
    · rename_i h1
      simp only [List.length_cons] at h1
      split
      · rename_i k _
        have := refS_len bl n tl ls hn f ((x :: r).drop n) (k + 1) (by rw [List.length_drop, List.length_cons]; omega)
        rw [List.length_drop, List.length_cons] at this
        rw [List.length_cons, List.length_cons]
        refine Nat.succ_le_succ (Nat.le_trans this (by omega))
      · have := refS_len bl n tl ls hn f r 0 (by omega)
        simp only [List.length_cons]; omega
    · split
      · rename_i hB
        have h0 : tl ≠ 0 := by
          unfold tailB at hB
          simp only [Bool.and_eq_true, decide_eq_true_eq] at hB
          exact hB.1
        have := refS_len bl n tl ls hn f ((x :: r).drop tl) (bl.length + 1) (by rw [List.length_drop, List.length_cons]; omega)
        rw [List.length_drop, List.length_cons] at this
        simp only [List.length_cons]; omega
      · have := refS_len bl n tl ls hn f r 0 (by omega)
        simp only [List.length_cons]; omega
theorem refS_one (bl : List Sg) (n tl : Nat) (ls : Sg) : ∀ (f : Nat) (b : List UInt8) (nx : Nat), ∀ t ∈ refS bl n tl ls f b nx, t.data.size ≤ 1
  | 0, _, _, t, h => by cases h
  | f + 1, [], _, t, h => by cases h
  | f + 1, x :: r, nx, t, h => by
    rw [refS_cons] at h
    have hb : (byteT x).data.size ≤ 1 := by show (ofL [x]).size ≤ 1; rw [ofL_size]; simp
    have hc : ∀ k, (copyT k).data.size ≤ 1 := fun k => Nat.zero_le _
    split at h
    · split at h
      · rcases List.mem_cons.1 h with rfl | h
        · exact hc _
        · exact refS_one bl n tl ls f _ _ t h
      · rcases List.mem_cons.1 h with rfl | h
        · exact hb
        · exact refS_one bl n tl ls f _ _ t h
    · split at h
      · rcases List.mem_cons.1 h with rfl | h
        · exact hc _
        · exact refS_one bl n tl ls f _ _ t h
      · rcases List.mem_cons.1 h with rfl | h
        · exact hb
        · exact refS_one bl n tl ls f _ _ t h

set_option maxHeartbeats 32000000 in
theorem refSrOf_any (n : Nat) (A : Option Addr) (bl : List Sg) (c tl : Nat) (s : Sg) (b : List UInt8) (w : World) (hr : rightS (n : Nat) bl.length (tl : Nat) s = true) (hA : RdSg w w.heap.size A bl) (hl : b.length ≤ 400) :
    Calls Try.prog 53 #[.agg (sigC (n : Nat) A bl.length c (tl : Nat) s), .string (ofL b)] w fun e w' => ∃ v, e = .returned v ∧ TI w 69 v (joinR (refS bl n tl s b.length b 0)) w' := by
  obtain ⟨i0, hi, hz0, hz1, hz2⟩ := info_parts info_rtk
  have hin : 4 ≤ n ∧ n ≤ 64 ∧ bl.length ≤ 4096 ∧ tl < n := by
    have h := hr
    unfold rightS at h
    simp only [Bool.and_eq_true, decide_eq_true_eq] at h
    obtain ⟨h1, h2, h3, h4⟩ := h
    refine ⟨by omega, by omega, h3, ?_⟩
    split at h4
    · omega
    · simp only [Bool.and_eq_true, decide_eq_true_eq] at h4; omega
  obtain ⟨g1, g2, g3, g4⟩ := hin
  have HRi := hide (fun W => (show Calls Try.prog 30 #[.agg (sigC (n : Nat) A bl.length c (tl : Nat) s)] W fun e w' => e = .returned (.bool true) ∧ Below W.heap.size W w' from by
    have q := refSigRight_any (n : Nat) A bl.length c (tl : Nat) s W
    rw [hr] at q
    exact q))
  have HWh := hide (fun (W : World) (q : Below w.heap.size w W) (g : Sg) (v : Int) (nx : Nat) (h1 : NextI v nx) (h2 : nx ≤ 5000) => refWhich_any (n : Nat) A bl c (tl : Nat) s g v nx W ((hA.below q (Nat.le_refl _)).mono q.size) g3 h1 h2)
  obtain ⟨R, hR⟩ : ∃ R, R = refS bl n tl s b.length b 0 := ⟨_, rfl⟩
  have hRl : R.length ≤ b.length := by rw [hR]; exact refS_len bl n tl s (by omega) _ b 0 (Nat.le_refl _)
  have hRs : ∀ t ∈ R, t.data.size ≤ 1000000 := fun t ht => by rw [hR] at ht; exact Nat.le_trans (refS_one bl n tl s _ b 0 t ht) (by decide)
  have HV := hide (show ([] : List Tk) ++ refS bl n tl s b.length (b.drop 0) 0 = R by rw [hR]; rfl)
  rw [← hR]
  have hb1 := (Below.refl w.heap.size w).alloc (Nat.le_refl _) (Obj.cells (sigC (n : Nat) A bl.length c (tl : Nat) s) 42)
  have hr1 := World.alloc_heap_new w (Obj.cells (sigC (n : Nat) A bl.length c (tl : Nat) s) 42)
  obtain ⟨w1, hw1⟩ : ∃ w1, w1 = w.alloc (Obj.cells (sigC (n : Nat) A bl.length c (tl : Nat) s) 42) := ⟨_, rfl⟩
  have hW1 := hw1
  rw [← hw1] at hb1 hr1
  obtain ⟨sw, sh, slo⟩ := s
  simp only [sigC] at HRi HWh hW1 hr1 ⊢
  have HB1 := hide hb1
  have HR1 := hide hr1
  have HO := hide (World.ownsRow_nil w1 w1.heap.size 69 3)
  have hbs : (ofL b).size = b.length := ofL_size b
  have HRS := hide hRs
  clear hr hA hR hb1 hr1 hw1 hRs
  go_enter Try.func53, Try.ntmps53
  go_wp2_with fail
  rw [← hW1]
  clear hW1
  go_loopg [5, 6, 7] b.length (fun gk lv nv pv wr => ∃ (B : Option Addr) (d p nx : Nat) (v : Int) (o : List Tk), lv = .slice B o.length d ∧ nv = .int .i64 v ∧ pv = .int .i64 (p : Nat) ∧ p ≤ b.length ∧ b.length - p ≤ gk ∧ o.length ≤ p ∧ nx ≤ 4097 ∧ Hid (NextI v nx) ∧ Hid (TI w1 69 (.slice B o.length d) o wr) ∧ Hid (o ++ refS bl n tl ⟨sw, sh, slo⟩ gk (b.drop p) nx = R))
  case atStart => exact ⟨none, 0, 0, 0, -1, [], rfl, rfl, rfl, Nat.zero_le _, by omega, Nat.zero_le _, by omega, hide (.inr ⟨rfl, rfl⟩), hide ⟨Below.refl _ _, HO.out⟩, HV⟩
  case round =>
    obtain ⟨B, d, p, nx, v, o, rfl, rfl, rfl, hpb, hpg, hop, hnx, HN, HI, HQ⟩ := hrel
    clear HV HO
    by_cases hend : p = b.length
    · have hno : ¬ (p : Int) < b.length := by omega
      have HE := hide (show o = R from by rw [← HQ.out, hend, List.drop_length, refS_nil, List.append_nil])
      have HJ := hide (refJoin_any B o d wr (RdT.own HI.out.own) (by omega) (by rw [HE.out]; exact HRS.out))
      rw [HE.out] at HJ
      have HBr := hide (HB1.out.trans (HI.out.below.mono HB1.out.size))
      have hoR : o.length = R.length := by rw [HE.out]
      rw [← hoR] at HJ
      have hoH := hide hoR
      clear HQ HI HN hoR hend
      go_wp2_with fail
      refine HJ.out.mono ?_
      rintro e w3 ⟨v3, rfl, hI3⟩
      have HF := hide (show TI w 69 v3 (joinR R) w3 from ⟨HBr.out.trans (hI3.below.mono HBr.out.size), ownsRow_lowerT hI3.own HBr.out.size⟩)
      clear hI3
      go_wp2_with fail
      exact bodyPost_ret (results_tmp rfl _ _ _) rfl ⟨v3, rfl, HF.out⟩
    · cases gk with
      | zero => omega
      | succ g0 =>
        have hyes : (p : Int) < b.length := by omega
        obtain ⟨x, hx⟩ : ∃ x, b[p]? = some x := ⟨_, List.getElem?_eq_getElem (by omega)⟩
        have hq := HQ.out
        rw [refS_at _ _ _ _ _ _ _ _ x hx] at hq
        have hx1 : winW b 1 p = [x] := by
          obtain ⟨hlt, e⟩ := List.getElem?_eq_some_iff.1 hx
          unfold winW
          rw [List.drop_eq_getElem_cons hlt, e]; rfl
        have HX1 := hide (show (ofL b).extract p (p + 1) = ofL [x] from by rw [ext_winS, hx1])
        have HRow := hide ((HI.out.below.block _ (Array.getElem?_eq_some_iff.1 HR1.out).1).trans HR1.out)
        have HBr := hide (HB1.out.trans (HI.out.below.mono HB1.out.size))
        have c0 : wr.cell? ⟨w.heap.size, 0, none⟩ = some (.int .i64 (n : Nat)) := cell_of_row _ _ 0 _ _ _ HRow.out
        have c1 : wr.cell? ⟨w.heap.size, 1, none⟩ = some (.slice A bl.length c) := cell_of_row _ _ 1 _ _ _ HRow.out
        have c2 : wr.cell? ⟨w.heap.size, 2, none⟩ = some (.int .i64 (tl : Nat)) := cell_of_row _ _ 2 _ _ _ HRow.out
        have c3 : wr.cell? ⟨w.heap.size, 3, none⟩ = some (.int .u32 (sw : Nat)) := cell_of_row _ _ 3 _ _ _ HRow.out
        have c4 : wr.cell? ⟨w.heap.size, 4, none⟩ = some (.int .u64 (sh : Nat)) := cell_of_row _ _ 4 _ _ _ HRow.out
        have c5 : wr.cell? ⟨w.heap.size, 5, none⟩ = some (.int .u64 (slo : Nat)) := cell_of_row _ _ 5 _ _ _ HRow.out
        have hpw : IntKind.i64.wrap ((p : Int) + 1) = ((p + 1 : Nat) : Int) := by rw [IntWalk.i64_in _ (by omega)]; rfl
        clear HQ hx hx1
        go_wp2_with fail
        refine (HRi.out _).mono ?_
        rintro e w2 ⟨rfl, hb2⟩
        have HI2 := hide (HI.out.step hb2)
        have HRow2 := hide ((hb2.block _ (Array.getElem?_eq_some_iff.1 HRow.out).1).trans HRow.out)
        have HBr2 := hide (HBr.out.trans (hb2.mono HBr.out.size))
        clear hb2 HI HRow HBr c0 c1 c2 c3 c4 c5
        have c0 : w2.cell? ⟨w.heap.size, 0, none⟩ = some (.int .i64 (n : Nat)) := cell_of_row _ _ 0 _ _ _ HRow2.out
        have c1 : w2.cell? ⟨w.heap.size, 1, none⟩ = some (.slice A bl.length c) := cell_of_row _ _ 1 _ _ _ HRow2.out
        have c2 : w2.cell? ⟨w.heap.size, 2, none⟩ = some (.int .i64 (tl : Nat)) := cell_of_row _ _ 2 _ _ _ HRow2.out
        have c3 : w2.cell? ⟨w.heap.size, 3, none⟩ = some (.int .u32 (sw : Nat)) := cell_of_row _ _ 3 _ _ _ HRow2.out
        have c4 : w2.cell? ⟨w.heap.size, 4, none⟩ = some (.int .u64 (sh : Nat)) := cell_of_row _ _ 4 _ _ _ HRow2.out
        have c5 : w2.cell? ⟨w.heap.size, 5, none⟩ = some (.int .u64 (slo : Nat)) := cell_of_row _ _ 5 _ _ _ HRow2.out
        by_cases hn : n ≤ b.length - p
        · rw [if_pos hn] at hq
          have HQ1 := hide hq
          have hn1 : (n : Int) ≤ (b.length : Int) - p := by omega
          have HQN := hide hn
          obtain ⟨e, he⟩ : ∃ e, e = p + n := ⟨_, rfl⟩
          have he1 : (p : Int) + n = (e : Nat) := by omega
          have hew : IntKind.i64.wrap (e : Int) = (e : Nat) := IntWalk.i64_in _ (by omega)
          have he2 : (p : Int) ≤ e := by omega
          have he3 : (e : Int) ≤ b.length := by omega
          have he4 : (0 : Int) ≤ e := by omega
          have heb : e ≤ b.length := by omega
          have HE := hide he
          clear hq hn he
          go_upto_region 8 with fail
          have hext : (ofL b).extract p e = ofL (winW b n p) := by rw [HE.out]; exact ext_winS b p n
          have hwl : (winW b n p).length ≤ 64 := by unfold winW; rw [List.length_take]; omega
          have HSo := hide (fun W => refSignOf_any (winW b n p) W (by omega))
          simp only [Sg.cells] at HSo HWh
          have HSB := hide (fun (W : World) (q : Below w2.heap.size w2 W) => (⟨q, cell_of_row _ _ 0 _ _ _ ((q.block _ (Array.getElem?_eq_some_iff.1 HRow2.out).1).trans HRow2.out), cell_of_row _ _ 1 _ _ _ ((q.block _ (Array.getElem?_eq_some_iff.1 HRow2.out).1).trans HRow2.out), cell_of_row _ _ 2 _ _ _ ((q.block _ (Array.getElem?_eq_some_iff.1 HRow2.out).1).trans HRow2.out), cell_of_row _ _ 3 _ _ _ ((q.block _ (Array.getElem?_eq_some_iff.1 HRow2.out).1).trans HRow2.out), cell_of_row _ _ 4 _ _ _ ((q.block _ (Array.getElem?_eq_some_iff.1 HRow2.out).1).trans HRow2.out), cell_of_row _ _ 5 _ _ _ ((q.block _ (Array.getElem?_eq_some_iff.1 HRow2.out).1).trans HRow2.out)⟩ : Below w2.heap.size w2 W ∧ W.cell? ⟨w.heap.size, 0, none⟩ = some (.int .i64 (n : Nat)) ∧ W.cell? ⟨w.heap.size, 1, none⟩ = some (.slice A bl.length c) ∧ W.cell? ⟨w.heap.size, 2, none⟩ = some (.int .i64 (tl : Nat)) ∧ W.cell? ⟨w.heap.size, 3, none⟩ = some (.int .u32 (sw : Nat)) ∧ W.cell? ⟨w.heap.size, 4, none⟩ = some (.int .u64 (sh : Nat)) ∧ W.cell? ⟨w.heap.size, 5, none⟩ = some (.int .u64 (slo : Nat))))
          have hdd := HSB.out _ (Below.refl w2.heap.size w2).drew
          generalize winW b n p = y at HSo HQ1 hext
          refine wp_region_held (by kernel_rfl) (S := fun W => Below w2.heap.size w2 W ∧ W.cell? ⟨w.heap.size, 0, none⟩ = some (.int .i64 (n : Nat)) ∧ W.cell? ⟨w.heap.size, 1, none⟩ = some (.slice A bl.length c) ∧ W.cell? ⟨w.heap.size, 2, none⟩ = some (.int .i64 (tl : Nat)) ∧ W.cell? ⟨w.heap.size, 3, none⟩ = some (.int .u32 (sw : Nat)) ∧ W.cell? ⟨w.heap.size, 4, none⟩ = some (.int .u64 (sh : Nat)) ∧ W.cell? ⟨w.heap.size, 5, none⟩ = some (.int .u64 (slo : Nat))) ?_
          change wpAnyH _ _ _ _ _ _ _ _ (World.drew _)
          refine wpAnyH_take (i := 0) (v := .agg #[.int .i64 (n : Nat), .slice A bl.length c, .int .i64 (tl : Nat), .int .u32 (sw : Nat), .int .u64 (sh : Nat), .int .u64 (slo : Nat)]) rfl (by kernel_rfl) (by kernel_rfl) (by kernel_rfl) (fun _ _ _ h => h) (Or.inl ⟨by kernel_rfl, ?yz1⟩) hdd ?rz1
          case yz1 => intro W hS; obtain ⟨_, s0, s1, s2, s3, s4, s5⟩ := hS; go_simp; try with_reducible rfl
          try simp only [Act.put, List.getElem_toArray, List.getElem_cons_zero, List.setIfInBounds_toArray, List.set_cons_zero, List.set_cons_succ]
          refine wpAnyH_take (i := 1) (v := ?vz2) rfl (by kernel_rfl) (by kernel_rfl) (by kernel_rfl) (fun _ _ _ h => h) (Or.inl ⟨by kernel_rfl, ?yz2⟩) hdd ?rz2
          case yz2 => intro W hS; obtain ⟨_, s0, s1, s2, s3, s4, s5⟩ := hS; go_simp; try with_reducible rfl
          try simp only [Act.put, List.getElem_toArray, List.getElem_cons_succ, List.getElem_cons_zero, List.setIfInBounds_toArray, List.set_cons_zero, List.set_cons_succ]
          refine wpAnyH_take (i := 2) (v := ?vz3) rfl (by kernel_rfl) (by kernel_rfl) (by kernel_rfl) (fun _ _ _ h => h) (Or.inl ⟨by kernel_rfl, ?yz3⟩) hdd ?rz3
          case yz3 => intro W hS; obtain ⟨_, s0, s1, s2, s3, s4, s5⟩ := hS; go_simp; try with_reducible rfl
          try simp only [Act.put, List.getElem_toArray, List.getElem_cons_succ, List.getElem_cons_zero, List.setIfInBounds_toArray, List.set_cons_zero, List.set_cons_succ]
          refine wpAnyH_take (i := 3) (v := ?vz4) rfl (by kernel_rfl) (by kernel_rfl) (by kernel_rfl) (fun _ _ _ h => h) (Or.inl ⟨by kernel_rfl, ?yz4⟩) hdd ?rz4
          case yz4 => intro W hS; obtain ⟨_, s0, s1, s2, s3, s4, s5⟩ := hS; go_simp; try with_reducible rfl
          try simp only [Act.put, List.getElem_toArray, List.getElem_cons_succ, List.getElem_cons_zero, List.setIfInBounds_toArray, List.set_cons_zero, List.set_cons_succ]
          refine wpAnyH_take (i := 4) (v := ?vz5) rfl (by kernel_rfl) (by kernel_rfl) (by kernel_rfl) (fun _ _ _ h => h) (Or.inl ⟨by kernel_rfl, ?yz5⟩) hdd ?rz5
          case yz5 => intro W hS; obtain ⟨_, s0, s1, s2, s3, s4, s5⟩ := hS; go_simp; try with_reducible rfl
          try simp only [Act.put, List.getElem_toArray, List.getElem_cons_succ, List.getElem_cons_zero, List.setIfInBounds_toArray, List.set_cons_zero, List.set_cons_succ]
          refine wpAnyH_take (i := 5) (v := .int .i64 (e : Nat)) rfl (by kernel_rfl) (by kernel_rfl) (by kernel_rfl) (fun _ _ _ h => h) (Or.inl ⟨by kernel_rfl, ?yz6⟩) hdd ?rz6
          case yz6 => intro W hS; obtain ⟨_, s0, s1, s2, s3, s4, s5⟩ := hS; go_simp; try with_reducible rfl
          try simp only [Act.put, List.getElem_toArray, List.getElem_cons_succ, List.getElem_cons_zero, List.setIfInBounds_toArray, List.set_cons_zero, List.set_cons_succ]
          refine wpAnyH_take (i := 6) (v := .string (ofL y)) rfl (by kernel_rfl) (by kernel_rfl) (by kernel_rfl) (fun _ _ _ h => h) (Or.inl ⟨by kernel_rfl, ?yz7⟩) hdd ?rz7
          case yz7 => intro W hS; obtain ⟨_, s0, s1, s2, s3, s4, s5⟩ := hS; go_simp; try with_reducible rfl
          try simp only [Act.put, List.getElem_toArray, List.getElem_cons_succ, List.getElem_cons_zero, List.setIfInBounds_toArray, List.set_cons_zero, List.set_cons_succ]
          refine wpAnyH_take (i := 8) (v := ?vz8) rfl (by kernel_rfl) (by kernel_rfl) (by kernel_rfl) (fun _ _ _ h => h) (Or.inl ⟨by kernel_rfl, ?yz8⟩) hdd ?rz8
          case yz8 => intro W hS; obtain ⟨_, s0, s1, s2, s3, s4, s5⟩ := hS; go_simp; try with_reducible rfl
          try simp only [Act.put, List.getElem_toArray, List.getElem_cons_succ, List.getElem_cons_zero, List.setIfInBounds_toArray, List.set_cons_zero, List.set_cons_succ]
          refine held_one (i := 7) (by kernel_rfl) rfl (fun K hK => ?_)
          go_simp
          refine (HSo.out _).mono ?_
          rintro en W3 ⟨rfl, hbk⟩
          have hBW3 := (Below.refl w2.heap.size w2).drew.trans hbk
          have hSW3 := HSB.out _ hBW3
          refine hK _ _ hSW3 ?_
          clear hK K hbk
          try simp only [Act.put, List.getElem_toArray, List.getElem_cons_succ, List.getElem_cons_zero, List.setIfInBounds_toArray, List.set_cons_zero, List.set_cons_succ]
          refine held_one (i := 9) (by kernel_rfl) rfl (fun K hK => ?_)
          go_simp
          refine (HWh.out _ (HBr2.out.trans (hBW3.mono HBr2.out.size)) (signL y) v nx HN.out (by omega)).mono ?_
          rintro en W4 ⟨rfl, hbk⟩
          have hBW4 := hBW3.trans (hbk.mono hBW3.size)
          have hSW4 := HSB.out _ hBW4
          refine hK _ _ hSW4 ?_
          clear hK K hbk
          try simp only [Act.put, List.getElem_toArray, List.getElem_cons_succ, List.getElem_cons_zero, List.setIfInBounds_toArray, List.set_cons_zero, List.set_cons_succ]
          refine wpAnyH_take (i := 10) (v := ?vz9) rfl (by kernel_rfl) (by kernel_rfl) (by kernel_rfl) (fun _ _ _ h => h) (Or.inl ⟨by kernel_rfl, ?yz9⟩) hSW4 ?rz9
          case yz9 => intro W hS; obtain ⟨_, s0, s1, s2, s3, s4, s5⟩ := hS; go_simp; try with_reducible rfl
          try simp only [Act.put, List.getElem_toArray, List.getElem_cons_succ, List.getElem_cons_zero, List.setIfInBounds_toArray, List.set_cons_zero, List.set_cons_succ]
          refine wpAnyH_done (by kernel_rfl) ?_ _
          have HB5 := hide hBW4
          clear hSW3 hSW4 hBW3 hBW4 hdd HSo HSB c0 c1 c2 c3 c4 c5
          cases hwh : whichL bl (signL y) nx with
          | none =>
            have hK : whichI bl (signL y) nx = -1 := by unfold whichI; rw [hwh]
            rw [hK]
            have HQ9 := hide (show o ++ (byteT x :: refS bl n tl ⟨sw, sh, slo⟩ g0 (b.drop (p + 1)) 0) = R from by have h := HQ1.out; rw [hwh] at h; exact h)
            clear HQ1 hwh hK hext
            have HP9 := hide (show (o ++ [(⟨0, 0, (ofL b).extract p (p + 1)⟩ : Tk)]) ++ refS bl n tl ⟨sw, sh, slo⟩ g0 (b.drop (p + 1)) 0 = R from by rw [← HQ9.out, HX1.out]; simp [byteT])
            clear HQ9
            have hI5 := HI2.out.step HB5.out
            obtain ⟨W5, hW5⟩ : ∃ W5, W5 = W4 := ⟨_, rfl⟩
            rw [← hW5] at hI5 ⊢
            clear hW5
            have hO6 := hI5.own.alloc (.cells #[.int .i64 0, .int .i64 0, .string ((ofL b).extract p (p + 1))] 69)
            have hRn : RdT (W5.alloc (.cells #[.int .i64 0, .int .i64 0, .string ((ofL b).extract p (p + 1))] 69)) (W5.alloc (.cells #[.int .i64 0, .int .i64 0, .string ((ofL b).extract p (p + 1))] 69)).heap.size (some ⟨W5.heap.size, 0, none⟩) [(⟨0, 0, (ofL b).extract p (p + 1)⟩ : Tk)] := RdT.one W5 (⟨0, 0, (ofL b).extract p (p + 1)⟩ : Tk) 69
            have hB6 := hI5.below.alloc hI5.below.size (.cells #[.int .i64 0, .int .i64 0, .string ((ofL b).extract p (p + 1))] 69)
            have hsz6 := hB6.size
            clear hI5 HI2 HB5
            go_wp2_with (at_builtin; go_loud (refine wpList_append_toks rfl _ _ 63 rfl w1.heap.size 69 i0 Try.underlying63 hi hz0 hz1 hz2 _ _ _ rfl hO6 (some ⟨W5.heap.size, 0, none⟩) _ 1 _ [(⟨0, 0, (ofL b).extract p (p + 1)⟩ : Tk)] rfl rfl hRn (by unfold maxLen; omega) (by omega) hsz6 ?_))
            intro v7 w7 hO7 hg7
            have hB7 := hB6.grown hg7 hB6.size (fun r e => (hO6.lt r e).1)
            obtain ⟨F, g, rfl⟩ := ownsRow_slice hO7
            have hlen9 : (o ++ [(⟨0, 0, (ofL b).extract p (p + 1)⟩ : Tk)]).length = o.length + 1 := by simp
            have HO9 := hide (show TI w1 69 (.slice F (o ++ [(⟨0, 0, (ofL b).extract p (p + 1)⟩ : Tk)]).length g) (o ++ [(⟨0, 0, (ofL b).extract p (p + 1)⟩ : Tk)]) w7 from ⟨hB7, by rw [cellsT_app, hlen9]; exact hO7⟩)
            rw [hlen9] at HO9
            clear hO6 hRn hB6 hsz6 hO7 hg7 hB7
            go_wp2_with fail
            go_roundg g0
            case rel => exact ⟨F, g, p + 1, 0, -1, o ++ [(⟨0, 0, (ofL b).extract p (p + 1)⟩ : Tk)], by rw [hlen9], rfl, rfl, by omega, by omega, by rw [hlen9]; omega, by omega, hide (.inr ⟨rfl, rfl⟩), by rw [hlen9]; exact HO9, HP9⟩
            case measure => omega
          | some kk =>
            have hK : whichI bl (signL y) nx = (kk : Nat) := by unfold whichI; rw [hwh]
            rw [hK]
            have hkk := whichL_lt hwh
            have HQ9 := hide (show o ++ (copyT kk :: refS bl n tl ⟨sw, sh, slo⟩ g0 (b.drop e) (kk + 1)) = R from by have h := HQ1.out; rw [hwh] at h; simp only at h; rw [HE.out]; exact h)
            clear HQ1 hwh hK hext
            have heg : b.length - e ≤ g0 := by have := HE.out; omega
            have heo : o.length + 1 ≤ e := by have := HE.out; omega
            have hkw : IntKind.i64.wrap ((kk : Int) + 1) = ((kk + 1 : Nat) : Int) := by rw [IntWalk.i64_in _ (by omega)]; rfl
            have hk0 : (0 : Int) ≤ kk := by omega
            have HP9 := hide (show (o ++ [copyT kk]) ++ refS bl n tl ⟨sw, sh, slo⟩ g0 (b.drop e) (kk + 1) = R from by rw [← HQ9.out]; simp)
            clear HQ9
            have hI5 := HI2.out.step HB5.out
            obtain ⟨W5, hW5⟩ : ∃ W5, W5 = W4 := ⟨_, rfl⟩
            rw [← hW5] at hI5 ⊢
            clear hW5
            have hO6 := hI5.own.alloc (.cells #[.int .i64 (kk : Nat), .int .i64 1, .string ⟨#[]⟩] 69)
            have hRn : RdT (W5.alloc (.cells #[.int .i64 (kk : Nat), .int .i64 1, .string ⟨#[]⟩] 69)) (W5.alloc (.cells #[.int .i64 (kk : Nat), .int .i64 1, .string ⟨#[]⟩] 69)).heap.size (some ⟨W5.heap.size, 0, none⟩) [(copyT kk)] := RdT.one W5 (copyT kk) 69
            have hB6 := hI5.below.alloc hI5.below.size (.cells #[.int .i64 (kk : Nat), .int .i64 1, .string ⟨#[]⟩] 69)
            have hsz6 := hB6.size
            clear hI5 HI2 HB5
            go_wp2_with (at_builtin; go_loud (refine wpList_append_toks rfl _ _ 63 rfl w1.heap.size 69 i0 Try.underlying63 hi hz0 hz1 hz2 _ _ _ rfl hO6 (some ⟨W5.heap.size, 0, none⟩) _ 1 _ [(copyT kk)] rfl rfl hRn (by unfold maxLen; omega) (by omega) hsz6 ?_))
            intro v7 w7 hO7 hg7
            have hB7 := hB6.grown hg7 hB6.size (fun r e => (hO6.lt r e).1)
            obtain ⟨F, g, rfl⟩ := ownsRow_slice hO7
            have hlen9 : (o ++ [(copyT kk)]).length = o.length + 1 := by simp
            have HO9 := hide (show TI w1 69 (.slice F (o ++ [(copyT kk)]).length g) (o ++ [(copyT kk)]) w7 from ⟨hB7, by rw [cellsT_app, hlen9]; exact hO7⟩)
            rw [hlen9] at HO9
            clear hO6 hRn hB6 hsz6 hO7 hg7 hB7
            go_wp2_with fail
            go_roundg g0
            case rel => exact ⟨F, g, e, kk + 1, ((kk + 1 : Nat) : Int), o ++ [copyT kk], by rw [hlen9], rfl, rfl, by omega, by omega, by rw [hlen9]; omega, by omega, hide (.inl rfl), by rw [hlen9]; exact HO9, HP9⟩
            case measure => omega
        · rw [if_neg hn] at hq
          have hn1 : ¬ (n : Int) ≤ (b.length : Int) - p := by omega
          obtain ⟨m, hm⟩ : ∃ m, m = b.length - p := ⟨_, rfl⟩
          have hm1 : (b.length : Int) - p = (m : Nat) := by omega
          have hmw : IntKind.i64.wrap (m : Int) = (m : Nat) := IntWalk.i64_in _ (by omega)
          have hdl : (b.drop p).length = m := by rw [List.length_drop, hm]
          have HSB := hide (fun (W : World) (q : Below w2.heap.size w2 W) => (⟨q, cell_of_row _ _ 0 _ _ _ ((q.block _ (Array.getElem?_eq_some_iff.1 HRow2.out).1).trans HRow2.out), cell_of_row _ _ 1 _ _ _ ((q.block _ (Array.getElem?_eq_some_iff.1 HRow2.out).1).trans HRow2.out), cell_of_row _ _ 2 _ _ _ ((q.block _ (Array.getElem?_eq_some_iff.1 HRow2.out).1).trans HRow2.out), cell_of_row _ _ 3 _ _ _ ((q.block _ (Array.getElem?_eq_some_iff.1 HRow2.out).1).trans HRow2.out), cell_of_row _ _ 4 _ _ _ ((q.block _ (Array.getElem?_eq_some_iff.1 HRow2.out).1).trans HRow2.out), cell_of_row _ _ 5 _ _ _ ((q.block _ (Array.getElem?_eq_some_iff.1 HRow2.out).1).trans HRow2.out)⟩ : Below w2.heap.size w2 W ∧ W.cell? ⟨w.heap.size, 0, none⟩ = some (.int .i64 (n : Nat)) ∧ W.cell? ⟨w.heap.size, 1, none⟩ = some (.slice A bl.length c) ∧ W.cell? ⟨w.heap.size, 2, none⟩ = some (.int .i64 (tl : Nat)) ∧ W.cell? ⟨w.heap.size, 3, none⟩ = some (.int .u32 (sw : Nat)) ∧ W.cell? ⟨w.heap.size, 4, none⟩ = some (.int .u64 (sh : Nat)) ∧ W.cell? ⟨w.heap.size, 5, none⟩ = some (.int .u64 (slo : Nat))))
          have hdd := HSB.out _ (Below.refl w2.heap.size w2).drew
          have HM := hide hm
          have HQ0 := hide hq
          clear hm hq hn
          by_cases ht0 : tl = 0
          · have htn : ¬ 0 < tl := by omega
            have ht1 : ¬ (0 : Int) < tl := by omega
            have HQ9 := hide (show o ++ (byteT x :: refS bl n tl ⟨sw, sh, slo⟩ g0 (b.drop (p + 1)) 0) = R from by have h := HQ0.out; rw [if_neg (by unfold tailB; simp [ht0])] at h; exact h)
            clear HQ0 hdl
            have HT0 := hide ht0
            clear ht0
            go_upto_region 9 with fail
            refine wp_region_held (by kernel_rfl) (S := fun W => Below w2.heap.size w2 W ∧ W.cell? ⟨w.heap.size, 0, none⟩ = some (.int .i64 (n : Nat)) ∧ W.cell? ⟨w.heap.size, 1, none⟩ = some (.slice A bl.length c) ∧ W.cell? ⟨w.heap.size, 2, none⟩ = some (.int .i64 (tl : Nat)) ∧ W.cell? ⟨w.heap.size, 3, none⟩ = some (.int .u32 (sw : Nat)) ∧ W.cell? ⟨w.heap.size, 4, none⟩ = some (.int .u64 (sh : Nat)) ∧ W.cell? ⟨w.heap.size, 5, none⟩ = some (.int .u64 (slo : Nat))) ?_
            change wpAnyH _ _ _ _ _ _ _ _ (World.drew _)
            refine wpAnyH_take (i := 0) (v := .agg #[.int .i64 (n : Nat), .slice A bl.length c, .int .i64 (tl : Nat), .int .u32 (sw : Nat), .int .u64 (sh : Nat), .int .u64 (slo : Nat)]) rfl (by kernel_rfl) (by kernel_rfl) (by kernel_rfl) (fun _ _ _ h => h) (Or.inl ⟨by kernel_rfl, ?yz10⟩) hdd ?rz10
            case yz10 => intro W hS; obtain ⟨_, s0, s1, s2, s3, s4, s5⟩ := hS; go_simp; try with_reducible rfl
            try simp only [Act.put, List.getElem_toArray, List.getElem_cons_zero, List.setIfInBounds_toArray, List.set_cons_zero, List.set_cons_succ]
            refine held_one (i := 1) (by kernel_rfl) rfl (fun K hK => ?_)
            go_simp
            refine (HRi.out _).mono ?_
            rintro en W3 ⟨rfl, hbk⟩
            have hBW3 := (Below.refl w2.heap.size w2).drew.trans hbk
            have hSW3 := HSB.out _ hBW3
            refine hK _ _ hSW3 ?_
            clear hK K hbk
            try simp only [Act.put, List.getElem_toArray, List.getElem_cons_succ, List.getElem_cons_zero, List.setIfInBounds_toArray, List.set_cons_zero, List.set_cons_succ]
            refine wpAnyH_take (i := 2) (v := ?vz11) rfl (by kernel_rfl) (by kernel_rfl) (by kernel_rfl) (fun _ _ _ h => h) (Or.inl ⟨by kernel_rfl, ?yz11⟩) hSW3 ?rz11
            case yz11 => intro W hS; obtain ⟨_, s0, s1, s2, s3, s4, s5⟩ := hS; go_simp; try with_reducible rfl
            try simp only [Act.put, List.getElem_toArray, List.getElem_cons_succ, List.getElem_cons_zero, List.setIfInBounds_toArray, List.set_cons_zero, List.set_cons_succ]
            refine wpAnyH_take (i := 3) (v := ?vz12) rfl (by kernel_rfl) (by kernel_rfl) (by kernel_rfl) (fun _ _ _ h => h) (Or.inl ⟨by kernel_rfl, ?yz12⟩) hSW3 ?rz12
            case yz12 => intro W hS; obtain ⟨_, s0, s1, s2, s3, s4, s5⟩ := hS; go_simp; try with_reducible rfl
            try simp only [Act.put, List.getElem_toArray, List.getElem_cons_succ, List.getElem_cons_zero, List.setIfInBounds_toArray, List.set_cons_zero, List.set_cons_succ]
            refine wpAnyH_take (i := 4) (v := .int .i64 (tl : Nat)) rfl (by kernel_rfl) (by kernel_rfl) (by kernel_rfl) (fun _ _ _ h => h) (Or.inl ⟨by kernel_rfl, ?yz13⟩) hSW3 ?rz13
            case yz13 => intro W hS; obtain ⟨_, s0, s1, s2, s3, s4, s5⟩ := hS; go_simp; try with_reducible rfl
            try simp only [Act.put, List.getElem_toArray, List.getElem_cons_succ, List.getElem_cons_zero, List.setIfInBounds_toArray, List.set_cons_zero, List.set_cons_succ]
            refine wpAnyH_take (i := 5) (v := .bool false) rfl (by kernel_rfl) (by kernel_rfl) (by kernel_rfl) (fun _ _ _ h => h) (Or.inl ⟨by kernel_rfl, ?yz14⟩) hSW3 ?rz14
            case yz14 => intro W hS; obtain ⟨_, s0, s1, s2, s3, s4, s5⟩ := hS; go_simp; try with_reducible rfl
            try simp only [Act.put, List.getElem_toArray, List.getElem_cons_succ, List.getElem_cons_zero, List.setIfInBounds_toArray, List.set_cons_zero, List.set_cons_succ]
            refine wpAnyH_take (i := 6) (v := .bool false) rfl (by kernel_rfl) (by kernel_rfl) (by kernel_rfl) (fun _ _ _ h => h) (Or.inl ⟨by kernel_rfl, ?yz15⟩) hSW3 ?rz15
            case yz15 => intro W hS; obtain ⟨_, s0, s1, s2, s3, s4, s5⟩ := hS; go_simp; try with_reducible rfl
            try simp only [Act.put, List.getElem_toArray, List.getElem_cons_succ, List.getElem_cons_zero, List.setIfInBounds_toArray, List.set_cons_zero, List.set_cons_succ]
            refine wpAnyH_take (i := 7) (v := .bool false) rfl (by kernel_rfl) (by kernel_rfl) (by kernel_rfl) (fun _ _ _ h => h) (Or.inl ⟨by kernel_rfl, ?yz16⟩) hSW3 ?rz16
            case yz16 => intro W hS; obtain ⟨_, s0, s1, s2, s3, s4, s5⟩ := hS; go_simp; try with_reducible rfl
            try simp only [Act.put, List.getElem_toArray, List.getElem_cons_succ, List.getElem_cons_zero, List.setIfInBounds_toArray, List.set_cons_zero, List.set_cons_succ]
            refine wpAnyH_take (i := 8) (v := undef) rfl (by kernel_rfl) (by kernel_rfl) (by kernel_rfl) (fun _ _ _ h => h) (Or.inr ⟨by kernel_rfl, rfl⟩) hSW3 ?_
            try simp only [Act.put, List.getElem_toArray, List.getElem_cons_succ, List.getElem_cons_zero, List.setIfInBounds_toArray, List.set_cons_zero, List.set_cons_succ]
            refine wpAnyH_take (i := 9) (v := undef) rfl (by kernel_rfl) (by kernel_rfl) (by kernel_rfl) (fun _ _ _ h => h) (Or.inr ⟨by kernel_rfl, rfl⟩) hSW3 ?_
            try simp only [Act.put, List.getElem_toArray, List.getElem_cons_succ, List.getElem_cons_zero, List.setIfInBounds_toArray, List.set_cons_zero, List.set_cons_succ]
            refine wpAnyH_take (i := 10) (v := undef) rfl (by kernel_rfl) (by kernel_rfl) (by kernel_rfl) (fun _ _ _ h => h) (Or.inr ⟨by kernel_rfl, rfl⟩) hSW3 ?_
            try simp only [Act.put, List.getElem_toArray, List.getElem_cons_succ, List.getElem_cons_zero, List.setIfInBounds_toArray, List.set_cons_zero, List.set_cons_succ]
            refine wpAnyH_take (i := 11) (v := undef) rfl (by kernel_rfl) (by kernel_rfl) (by kernel_rfl) (fun _ _ _ h => h) (Or.inr ⟨by kernel_rfl, rfl⟩) hSW3 ?_
            try simp only [Act.put, List.getElem_toArray, List.getElem_cons_succ, List.getElem_cons_zero, List.setIfInBounds_toArray, List.set_cons_zero, List.set_cons_succ]
            refine wpAnyH_take (i := 12) (v := undef) rfl (by kernel_rfl) (by kernel_rfl) (by kernel_rfl) (fun _ _ _ h => h) (Or.inr ⟨by kernel_rfl, rfl⟩) hSW3 ?_
            try simp only [Act.put, List.getElem_toArray, List.getElem_cons_succ, List.getElem_cons_zero, List.setIfInBounds_toArray, List.set_cons_zero, List.set_cons_succ]
            refine wpAnyH_take (i := 13) (v := undef) rfl (by kernel_rfl) (by kernel_rfl) (by kernel_rfl) (fun _ _ _ h => h) (Or.inr ⟨by kernel_rfl, rfl⟩) hSW3 ?_
            try simp only [Act.put, List.getElem_toArray, List.getElem_cons_succ, List.getElem_cons_zero, List.setIfInBounds_toArray, List.set_cons_zero, List.set_cons_succ]
            refine wpAnyH_take (i := 14) (v := undef) rfl (by kernel_rfl) (by kernel_rfl) (by kernel_rfl) (fun _ _ _ h => h) (Or.inr ⟨by kernel_rfl, rfl⟩) hSW3 ?_
            try simp only [Act.put, List.getElem_toArray, List.getElem_cons_succ, List.getElem_cons_zero, List.setIfInBounds_toArray, List.set_cons_zero, List.set_cons_succ]
            refine wpAnyH_take (i := 15) (v := .bool false) rfl (by kernel_rfl) (by kernel_rfl) (by kernel_rfl) (fun _ _ _ h => h) (Or.inl ⟨by kernel_rfl, ?yz24⟩) hSW3 ?rz24
            case yz24 => intro W hS; obtain ⟨_, s0, s1, s2, s3, s4, s5⟩ := hS; go_simp; try with_reducible rfl
            try simp only [Act.put, List.getElem_toArray, List.getElem_cons_succ, List.getElem_cons_zero, List.setIfInBounds_toArray, List.set_cons_zero, List.set_cons_succ]
            refine wpAnyH_take (i := 16) (v := .bool false) rfl (by kernel_rfl) (by kernel_rfl) (by kernel_rfl) (fun _ _ _ h => h) (Or.inl ⟨by kernel_rfl, ?yz25⟩) hSW3 ?rz25
            case yz25 => intro W hS; obtain ⟨_, s0, s1, s2, s3, s4, s5⟩ := hS; go_simp; try with_reducible rfl
            try simp only [Act.put, List.getElem_toArray, List.getElem_cons_succ, List.getElem_cons_zero, List.setIfInBounds_toArray, List.set_cons_zero, List.set_cons_succ]
            refine wpAnyH_take (i := 17) (v := undef) rfl (by kernel_rfl) (by kernel_rfl) (by kernel_rfl) (fun _ _ _ h => h) (Or.inr ⟨by kernel_rfl, rfl⟩) hSW3 ?_
            try simp only [Act.put, List.getElem_toArray, List.getElem_cons_succ, List.getElem_cons_zero, List.setIfInBounds_toArray, List.set_cons_zero, List.set_cons_succ]
            refine wpAnyH_take (i := 18) (v := undef) rfl (by kernel_rfl) (by kernel_rfl) (by kernel_rfl) (fun _ _ _ h => h) (Or.inr ⟨by kernel_rfl, rfl⟩) hSW3 ?_
            try simp only [Act.put, List.getElem_toArray, List.getElem_cons_succ, List.getElem_cons_zero, List.setIfInBounds_toArray, List.set_cons_zero, List.set_cons_succ]
            refine wpAnyH_take (i := 19) (v := undef) rfl (by kernel_rfl) (by kernel_rfl) (by kernel_rfl) (fun _ _ _ h => h) (Or.inr ⟨by kernel_rfl, rfl⟩) hSW3 ?_
            try simp only [Act.put, List.getElem_toArray, List.getElem_cons_succ, List.getElem_cons_zero, List.setIfInBounds_toArray, List.set_cons_zero, List.set_cons_succ]
            refine wpAnyH_take (i := 20) (v := undef) rfl (by kernel_rfl) (by kernel_rfl) (by kernel_rfl) (fun _ _ _ h => h) (Or.inr ⟨by kernel_rfl, rfl⟩) hSW3 ?_
            try simp only [Act.put, List.getElem_toArray, List.getElem_cons_succ, List.getElem_cons_zero, List.setIfInBounds_toArray, List.set_cons_zero, List.set_cons_succ]
            refine wpAnyH_take (i := 21) (v := undef) rfl (by kernel_rfl) (by kernel_rfl) (by kernel_rfl) (fun _ _ _ h => h) (Or.inr ⟨by kernel_rfl, rfl⟩) hSW3 ?_
            try simp only [Act.put, List.getElem_toArray, List.getElem_cons_succ, List.getElem_cons_zero, List.setIfInBounds_toArray, List.set_cons_zero, List.set_cons_succ]
            refine wpAnyH_take (i := 22) (v := undef) rfl (by kernel_rfl) (by kernel_rfl) (by kernel_rfl) (fun _ _ _ h => h) (Or.inr ⟨by kernel_rfl, rfl⟩) hSW3 ?_
            try simp only [Act.put, List.getElem_toArray, List.getElem_cons_succ, List.getElem_cons_zero, List.setIfInBounds_toArray, List.set_cons_zero, List.set_cons_succ]
            refine wpAnyH_take (i := 23) (v := undef) rfl (by kernel_rfl) (by kernel_rfl) (by kernel_rfl) (fun _ _ _ h => h) (Or.inr ⟨by kernel_rfl, rfl⟩) hSW3 ?_
            try simp only [Act.put, List.getElem_toArray, List.getElem_cons_succ, List.getElem_cons_zero, List.setIfInBounds_toArray, List.set_cons_zero, List.set_cons_succ]
            refine wpAnyH_take (i := 24) (v := .bool false) rfl (by kernel_rfl) (by kernel_rfl) (by kernel_rfl) (fun _ _ _ h => h) (Or.inl ⟨by kernel_rfl, ?yz33⟩) hSW3 ?rz33
            case yz33 => intro W hS; obtain ⟨_, s0, s1, s2, s3, s4, s5⟩ := hS; go_simp; try with_reducible rfl
            try simp only [Act.put, List.getElem_toArray, List.getElem_cons_succ, List.getElem_cons_zero, List.setIfInBounds_toArray, List.set_cons_zero, List.set_cons_succ]
            refine wpAnyH_done (by kernel_rfl) ?_ _
            have HB5 := hide hBW3
            clear hSW3 hBW3 hdd HSB c0 c1 c2 c3 c4 c5
            have HP9 := hide (show (o ++ [(⟨0, 0, (ofL b).extract p (p + 1)⟩ : Tk)]) ++ refS bl n tl ⟨sw, sh, slo⟩ g0 (b.drop (p + 1)) 0 = R from by rw [← HQ9.out, HX1.out]; simp [byteT])
            clear HQ9
            have hI5 := HI2.out.step HB5.out
            obtain ⟨W5, hW5⟩ : ∃ W5, W5 = W3 := ⟨_, rfl⟩
            rw [← hW5] at hI5 ⊢
            clear hW5
            have hO6 := hI5.own.alloc (.cells #[.int .i64 0, .int .i64 0, .string ((ofL b).extract p (p + 1))] 69)
            have hRn : RdT (W5.alloc (.cells #[.int .i64 0, .int .i64 0, .string ((ofL b).extract p (p + 1))] 69)) (W5.alloc (.cells #[.int .i64 0, .int .i64 0, .string ((ofL b).extract p (p + 1))] 69)).heap.size (some ⟨W5.heap.size, 0, none⟩) [(⟨0, 0, (ofL b).extract p (p + 1)⟩ : Tk)] := RdT.one W5 (⟨0, 0, (ofL b).extract p (p + 1)⟩ : Tk) 69
            have hB6 := hI5.below.alloc hI5.below.size (.cells #[.int .i64 0, .int .i64 0, .string ((ofL b).extract p (p + 1))] 69)
            have hsz6 := hB6.size
            clear hI5 HI2 HB5
            go_wp2_with (at_builtin; go_loud (refine wpList_append_toks rfl _ _ 63 rfl w1.heap.size 69 i0 Try.underlying63 hi hz0 hz1 hz2 _ _ _ rfl hO6 (some ⟨W5.heap.size, 0, none⟩) _ 1 _ [(⟨0, 0, (ofL b).extract p (p + 1)⟩ : Tk)] rfl rfl hRn (by unfold maxLen; omega) (by omega) hsz6 ?_))
            intro v7 w7 hO7 hg7
            have hB7 := hB6.grown hg7 hB6.size (fun r e => (hO6.lt r e).1)
            obtain ⟨F, g, rfl⟩ := ownsRow_slice hO7
            have hlen9 : (o ++ [(⟨0, 0, (ofL b).extract p (p + 1)⟩ : Tk)]).length = o.length + 1 := by simp
            have HO9 := hide (show TI w1 69 (.slice F (o ++ [(⟨0, 0, (ofL b).extract p (p + 1)⟩ : Tk)]).length g) (o ++ [(⟨0, 0, (ofL b).extract p (p + 1)⟩ : Tk)]) w7 from ⟨hB7, by rw [cellsT_app, hlen9]; exact hO7⟩)
            rw [hlen9] at HO9
            clear hO6 hRn hB6 hsz6 hO7 hg7 hB7
            go_wp2_with fail
            go_roundg g0
            case rel => exact ⟨F, g, p + 1, 0, -1, o ++ [(⟨0, 0, (ofL b).extract p (p + 1)⟩ : Tk)], by rw [hlen9], rfl, rfl, by omega, by omega, by rw [hlen9]; omega, by omega, hide (.inr ⟨rfl, rfl⟩), by rw [hlen9]; exact HO9, HP9⟩
            case measure => omega
          · have htn : 0 < tl := by omega
            have ht1 : (0 : Int) < tl := by omega
            by_cases hmt : m = tl
            · have hmt1 : ((m : Int) == (tl : Int)) = true := by rw [beq_iff_eq]; omega
              have hext2 : (ofL b).extract p b.length = ofL (b.drop p) := ext_end b p
              have hext3 : (ofL b).extract p (ofL b).size = ofL (b.drop p) := by rw [hbs]; exact ext_end b p
              have HSo := hide (fun W => refSignOf_any (b.drop p) W (by omega))
              simp only [Sg.cells] at HSo
              have heq := rsg_eql (signL (b.drop p)) ⟨sw, sh, slo⟩
              have htb : tailB tl ⟨sw, sh, slo⟩ (b.drop p) = sgB (signL (b.drop p)) ⟨sw, sh, slo⟩ := by unfold tailB; simp [ht0, hdl, hmt]
              rw [htb] at HQ0
              have HMT := hide hmt
              clear htb hdl hmt
              generalize b.drop p = y at HSo heq hext2 hext3 HQ0
              cases hb : sgB (signL y) ⟨sw, sh, slo⟩ with
              | false =>
                rw [hb] at heq HQ0
                have HQ9 := hide (show o ++ (byteT x :: refS bl n tl ⟨sw, sh, slo⟩ g0 (b.drop (p + 1)) 0) = R from by have h := HQ0.out; rw [if_neg (by decide)] at h; exact h)
                clear HQ0 hb
                go_upto_region 9 with fail
                refine wp_region_held (by kernel_rfl) (S := fun W => Below w2.heap.size w2 W ∧ W.cell? ⟨w.heap.size, 0, none⟩ = some (.int .i64 (n : Nat)) ∧ W.cell? ⟨w.heap.size, 1, none⟩ = some (.slice A bl.length c) ∧ W.cell? ⟨w.heap.size, 2, none⟩ = some (.int .i64 (tl : Nat)) ∧ W.cell? ⟨w.heap.size, 3, none⟩ = some (.int .u32 (sw : Nat)) ∧ W.cell? ⟨w.heap.size, 4, none⟩ = some (.int .u64 (sh : Nat)) ∧ W.cell? ⟨w.heap.size, 5, none⟩ = some (.int .u64 (slo : Nat))) ?_
                change wpAnyH _ _ _ _ _ _ _ _ (World.drew _)
                refine wpAnyH_take (i := 0) (v := .agg #[.int .i64 (n : Nat), .slice A bl.length c, .int .i64 (tl : Nat), .int .u32 (sw : Nat), .int .u64 (sh : Nat), .int .u64 (slo : Nat)]) rfl (by kernel_rfl) (by kernel_rfl) (by kernel_rfl) (fun _ _ _ h => h) (Or.inl ⟨by kernel_rfl, ?yz34⟩) hdd ?rz34
                case yz34 => intro W hS; obtain ⟨_, s0, s1, s2, s3, s4, s5⟩ := hS; go_simp; try with_reducible rfl
                try simp only [Act.put, List.getElem_toArray, List.getElem_cons_zero, List.setIfInBounds_toArray, List.set_cons_zero, List.set_cons_succ]
                refine held_one (i := 1) (by kernel_rfl) rfl (fun K hK => ?_)
                go_simp
                refine (HRi.out _).mono ?_
                rintro en W3 ⟨rfl, hbk⟩
                have hBW3 := (Below.refl w2.heap.size w2).drew.trans hbk
                have hSW3 := HSB.out _ hBW3
                refine hK _ _ hSW3 ?_
                clear hK K hbk
                try simp only [Act.put, List.getElem_toArray, List.getElem_cons_succ, List.getElem_cons_zero, List.setIfInBounds_toArray, List.set_cons_zero, List.set_cons_succ]
                refine wpAnyH_take (i := 2) (v := ?vz35) rfl (by kernel_rfl) (by kernel_rfl) (by kernel_rfl) (fun _ _ _ h => h) (Or.inl ⟨by kernel_rfl, ?yz35⟩) hSW3 ?rz35
                case yz35 => intro W hS; obtain ⟨_, s0, s1, s2, s3, s4, s5⟩ := hS; go_simp; try with_reducible rfl
                try simp only [Act.put, List.getElem_toArray, List.getElem_cons_succ, List.getElem_cons_zero, List.setIfInBounds_toArray, List.set_cons_zero, List.set_cons_succ]
                refine wpAnyH_take (i := 3) (v := ?vz36) rfl (by kernel_rfl) (by kernel_rfl) (by kernel_rfl) (fun _ _ _ h => h) (Or.inl ⟨by kernel_rfl, ?yz36⟩) hSW3 ?rz36
                case yz36 => intro W hS; obtain ⟨_, s0, s1, s2, s3, s4, s5⟩ := hS; go_simp; try with_reducible rfl
                try simp only [Act.put, List.getElem_toArray, List.getElem_cons_succ, List.getElem_cons_zero, List.setIfInBounds_toArray, List.set_cons_zero, List.set_cons_succ]
                refine wpAnyH_take (i := 4) (v := .int .i64 (tl : Nat)) rfl (by kernel_rfl) (by kernel_rfl) (by kernel_rfl) (fun _ _ _ h => h) (Or.inl ⟨by kernel_rfl, ?yz37⟩) hSW3 ?rz37
                case yz37 => intro W hS; obtain ⟨_, s0, s1, s2, s3, s4, s5⟩ := hS; go_simp; try with_reducible rfl
                try simp only [Act.put, List.getElem_toArray, List.getElem_cons_succ, List.getElem_cons_zero, List.setIfInBounds_toArray, List.set_cons_zero, List.set_cons_succ]
                refine wpAnyH_take (i := 5) (v := .bool true) rfl (by kernel_rfl) (by kernel_rfl) (by kernel_rfl) (fun _ _ _ h => h) (Or.inl ⟨by kernel_rfl, ?yz38⟩) hSW3 ?rz38
                case yz38 => intro W hS; obtain ⟨_, s0, s1, s2, s3, s4, s5⟩ := hS; go_simp; try with_reducible rfl
                try simp only [Act.put, List.getElem_toArray, List.getElem_cons_succ, List.getElem_cons_zero, List.setIfInBounds_toArray, List.set_cons_zero, List.set_cons_succ]
                refine wpAnyH_take (i := 6) (v := .bool true) rfl (by kernel_rfl) (by kernel_rfl) (by kernel_rfl) (fun _ _ _ h => h) (Or.inl ⟨by kernel_rfl, ?yz39⟩) hSW3 ?rz39
                case yz39 => intro W hS; obtain ⟨_, s0, s1, s2, s3, s4, s5⟩ := hS; go_simp; try with_reducible rfl
                try simp only [Act.put, List.getElem_toArray, List.getElem_cons_succ, List.getElem_cons_zero, List.setIfInBounds_toArray, List.set_cons_zero, List.set_cons_succ]
                refine wpAnyH_take (i := 7) (v := .bool true) rfl (by kernel_rfl) (by kernel_rfl) (by kernel_rfl) (fun _ _ _ h => h) (Or.inl ⟨by kernel_rfl, ?yz40⟩) hSW3 ?rz40
                case yz40 => intro W hS; obtain ⟨_, s0, s1, s2, s3, s4, s5⟩ := hS; go_simp; try with_reducible rfl
                try simp only [Act.put, List.getElem_toArray, List.getElem_cons_succ, List.getElem_cons_zero, List.setIfInBounds_toArray, List.set_cons_zero, List.set_cons_succ]
                refine wpAnyH_take (i := 8) (v := ?vz41) rfl (by kernel_rfl) (by kernel_rfl) (by kernel_rfl) (fun _ _ _ h => h) (Or.inl ⟨by kernel_rfl, ?yz41⟩) hSW3 ?rz41
                case yz41 => intro W hS; obtain ⟨_, s0, s1, s2, s3, s4, s5⟩ := hS; go_simp; try with_reducible rfl
                try simp only [Act.put, List.getElem_toArray, List.getElem_cons_succ, List.getElem_cons_zero, List.setIfInBounds_toArray, List.set_cons_zero, List.set_cons_succ]
                refine wpAnyH_take (i := 9) (v := ?vz42) rfl (by kernel_rfl) (by kernel_rfl) (by kernel_rfl) (fun _ _ _ h => h) (Or.inl ⟨by kernel_rfl, ?yz42⟩) hSW3 ?rz42
                case yz42 => intro W hS; obtain ⟨_, s0, s1, s2, s3, s4, s5⟩ := hS; go_simp; try with_reducible rfl
                try simp only [Act.put, List.getElem_toArray, List.getElem_cons_succ, List.getElem_cons_zero, List.setIfInBounds_toArray, List.set_cons_zero, List.set_cons_succ]
                refine wpAnyH_take (i := 10) (v := ?vz43) rfl (by kernel_rfl) (by kernel_rfl) (by kernel_rfl) (fun _ _ _ h => h) (Or.inl ⟨by kernel_rfl, ?yz43⟩) hSW3 ?rz43
                case yz43 => intro W hS; obtain ⟨_, s0, s1, s2, s3, s4, s5⟩ := hS; go_simp; try with_reducible rfl
                try simp only [Act.put, List.getElem_toArray, List.getElem_cons_succ, List.getElem_cons_zero, List.setIfInBounds_toArray, List.set_cons_zero, List.set_cons_succ]
                refine wpAnyH_take (i := 11) (v := .int .i64 (m : Nat)) rfl (by kernel_rfl) (by kernel_rfl) (by kernel_rfl) (fun _ _ _ h => h) (Or.inl ⟨by kernel_rfl, ?yz44⟩) hSW3 ?rz44
                case yz44 => intro W hS; obtain ⟨_, s0, s1, s2, s3, s4, s5⟩ := hS; go_simp; try with_reducible rfl
                try simp only [Act.put, List.getElem_toArray, List.getElem_cons_succ, List.getElem_cons_zero, List.setIfInBounds_toArray, List.set_cons_zero, List.set_cons_succ]
                refine wpAnyH_take (i := 12) (v := ?vz45) rfl (by kernel_rfl) (by kernel_rfl) (by kernel_rfl) (fun _ _ _ h => h) (Or.inl ⟨by kernel_rfl, ?yz45⟩) hSW3 ?rz45
                case yz45 => intro W hS; obtain ⟨_, s0, s1, s2, s3, s4, s5⟩ := hS; go_simp; try with_reducible rfl
                try simp only [Act.put, List.getElem_toArray, List.getElem_cons_succ, List.getElem_cons_zero, List.setIfInBounds_toArray, List.set_cons_zero, List.set_cons_succ]
                refine wpAnyH_take (i := 13) (v := .int .i64 (tl : Nat)) rfl (by kernel_rfl) (by kernel_rfl) (by kernel_rfl) (fun _ _ _ h => h) (Or.inl ⟨by kernel_rfl, ?yz46⟩) hSW3 ?rz46
                case yz46 => intro W hS; obtain ⟨_, s0, s1, s2, s3, s4, s5⟩ := hS; go_simp; try with_reducible rfl
                try simp only [Act.put, List.getElem_toArray, List.getElem_cons_succ, List.getElem_cons_zero, List.setIfInBounds_toArray, List.set_cons_zero, List.set_cons_succ]
                refine wpAnyH_take (i := 14) (v := .bool true) rfl (by kernel_rfl) (by kernel_rfl) (by kernel_rfl) (fun _ _ _ h => h) (Or.inl ⟨by kernel_rfl, ?yz47⟩) hSW3 ?rz47
                case yz47 => intro W hS; obtain ⟨_, s0, s1, s2, s3, s4, s5⟩ := hS; go_simp; try with_reducible rfl
                try simp only [Act.put, List.getElem_toArray, List.getElem_cons_succ, List.getElem_cons_zero, List.setIfInBounds_toArray, List.set_cons_zero, List.set_cons_succ]
                refine wpAnyH_take (i := 15) (v := .bool true) rfl (by kernel_rfl) (by kernel_rfl) (by kernel_rfl) (fun _ _ _ h => h) (Or.inl ⟨by kernel_rfl, ?yz48⟩) hSW3 ?rz48
                case yz48 => intro W hS; obtain ⟨_, s0, s1, s2, s3, s4, s5⟩ := hS; go_simp; try with_reducible rfl
                try simp only [Act.put, List.getElem_toArray, List.getElem_cons_succ, List.getElem_cons_zero, List.setIfInBounds_toArray, List.set_cons_zero, List.set_cons_succ]
                refine wpAnyH_take (i := 16) (v := .bool true) rfl (by kernel_rfl) (by kernel_rfl) (by kernel_rfl) (fun _ _ _ h => h) (Or.inl ⟨by kernel_rfl, ?yz49⟩) hSW3 ?rz49
                case yz49 => intro W hS; obtain ⟨_, s0, s1, s2, s3, s4, s5⟩ := hS; go_simp; try with_reducible rfl
                try simp only [Act.put, List.getElem_toArray, List.getElem_cons_succ, List.getElem_cons_zero, List.setIfInBounds_toArray, List.set_cons_zero, List.set_cons_succ]
                refine wpAnyH_take (i := 17) (v := ?vz50) rfl (by kernel_rfl) (by kernel_rfl) (by kernel_rfl) (fun _ _ _ h => h) (Or.inl ⟨by kernel_rfl, ?yz50⟩) hSW3 ?rz50
                case yz50 => intro W hS; obtain ⟨_, s0, s1, s2, s3, s4, s5⟩ := hS; go_simp; try with_reducible rfl
                try simp only [Act.put, List.getElem_toArray, List.getElem_cons_succ, List.getElem_cons_zero, List.setIfInBounds_toArray, List.set_cons_zero, List.set_cons_succ]
                refine wpAnyH_take (i := 18) (v := ?vz51) rfl (by kernel_rfl) (by kernel_rfl) (by kernel_rfl) (fun _ _ _ h => h) (Or.inl ⟨by kernel_rfl, ?yz51⟩) hSW3 ?rz51
                case yz51 => intro W hS; obtain ⟨_, s0, s1, s2, s3, s4, s5⟩ := hS; go_simp; try with_reducible rfl
                try simp only [Act.put, List.getElem_toArray, List.getElem_cons_succ, List.getElem_cons_zero, List.setIfInBounds_toArray, List.set_cons_zero, List.set_cons_succ]
                refine wpAnyH_take (i := 19) (v := .string (ofL y)) rfl (by kernel_rfl) (by kernel_rfl) (by kernel_rfl) (fun _ _ _ h => h) (Or.inl ⟨by kernel_rfl, ?yz52⟩) hSW3 ?rz52
                case yz52 => intro W hS; obtain ⟨_, s0, s1, s2, s3, s4, s5⟩ := hS; go_simp; try with_reducible rfl
                try simp only [Act.put, List.getElem_toArray, List.getElem_cons_succ, List.getElem_cons_zero, List.setIfInBounds_toArray, List.set_cons_zero, List.set_cons_succ]
                refine wpAnyH_take (i := 21) (v := ?vz53) rfl (by kernel_rfl) (by kernel_rfl) (by kernel_rfl) (fun _ _ _ h => h) (Or.inl ⟨by kernel_rfl, ?yz53⟩) hSW3 ?rz53
                case yz53 => intro W hS; obtain ⟨_, s0, s1, s2, s3, s4, s5⟩ := hS; go_simp; try with_reducible rfl
                try simp only [Act.put, List.getElem_toArray, List.getElem_cons_succ, List.getElem_cons_zero, List.setIfInBounds_toArray, List.set_cons_zero, List.set_cons_succ]
                refine wpAnyH_take (i := 22) (v := .agg #[.int .u32 (sw : Nat), .int .u64 (sh : Nat), .int .u64 (slo : Nat)]) rfl (by kernel_rfl) (by kernel_rfl) (by kernel_rfl) (fun _ _ _ h => h) (Or.inl ⟨by kernel_rfl, ?yz54⟩) hSW3 ?rz54
                case yz54 => intro W hS; obtain ⟨_, s0, s1, s2, s3, s4, s5⟩ := hS; go_simp; try with_reducible rfl
                try simp only [Act.put, List.getElem_toArray, List.getElem_cons_succ, List.getElem_cons_zero, List.setIfInBounds_toArray, List.set_cons_zero, List.set_cons_succ]
                refine held_one (i := 20) (by kernel_rfl) rfl (fun K hK => ?_)
                go_simp
                refine (HSo.out _).mono ?_
                rintro en W4 ⟨rfl, hbk⟩
                have hBW4 := hBW3.trans (hbk.mono hBW3.size)
                have hSW4 := HSB.out _ hBW4
                refine hK _ _ hSW4 ?_
                clear hK K hbk
                try simp only [Act.put, List.getElem_toArray, List.getElem_cons_succ, List.getElem_cons_zero, List.setIfInBounds_toArray, List.set_cons_zero, List.set_cons_succ]
                refine wpAnyH_take (i := 23) (v := .bool false) rfl (by kernel_rfl) (by kernel_rfl) (by kernel_rfl) (fun _ _ _ h => h) (Or.inl ⟨by kernel_rfl, ?yz55⟩) hSW4 ?rz55
                case yz55 => intro W hS; obtain ⟨_, s0, s1, s2, s3, s4, s5⟩ := hS; go_simp; try with_reducible rfl
                try simp only [Act.put, List.getElem_toArray, List.getElem_cons_succ, List.getElem_cons_zero, List.setIfInBounds_toArray, List.set_cons_zero, List.set_cons_succ]
                refine wpAnyH_take (i := 24) (v := .bool false) rfl (by kernel_rfl) (by kernel_rfl) (by kernel_rfl) (fun _ _ _ h => h) (Or.inl ⟨by kernel_rfl, ?yz56⟩) hSW4 ?rz56
                case yz56 => intro W hS; obtain ⟨_, s0, s1, s2, s3, s4, s5⟩ := hS; go_simp; try with_reducible rfl
                try simp only [Act.put, List.getElem_toArray, List.getElem_cons_succ, List.getElem_cons_zero, List.setIfInBounds_toArray, List.set_cons_zero, List.set_cons_succ]
                refine wpAnyH_done (by kernel_rfl) ?_ _
                have HB5 := hide hBW4
                clear hSW3 hSW4 hBW3 hBW4 hdd HSB HSo heq hext2 hext3 c0 c1 c2 c3 c4 c5
                have HP9 := hide (show (o ++ [(⟨0, 0, (ofL b).extract p (p + 1)⟩ : Tk)]) ++ refS bl n tl ⟨sw, sh, slo⟩ g0 (b.drop (p + 1)) 0 = R from by rw [← HQ9.out, HX1.out]; simp [byteT])
                clear HQ9
                have hI5 := HI2.out.step HB5.out
                obtain ⟨W5, hW5⟩ : ∃ W5, W5 = W4 := ⟨_, rfl⟩
                rw [← hW5] at hI5 ⊢
                clear hW5
                have hO6 := hI5.own.alloc (.cells #[.int .i64 0, .int .i64 0, .string ((ofL b).extract p (p + 1))] 69)
                have hRn : RdT (W5.alloc (.cells #[.int .i64 0, .int .i64 0, .string ((ofL b).extract p (p + 1))] 69)) (W5.alloc (.cells #[.int .i64 0, .int .i64 0, .string ((ofL b).extract p (p + 1))] 69)).heap.size (some ⟨W5.heap.size, 0, none⟩) [(⟨0, 0, (ofL b).extract p (p + 1)⟩ : Tk)] := RdT.one W5 (⟨0, 0, (ofL b).extract p (p + 1)⟩ : Tk) 69
                have hB6 := hI5.below.alloc hI5.below.size (.cells #[.int .i64 0, .int .i64 0, .string ((ofL b).extract p (p + 1))] 69)
                have hsz6 := hB6.size
                clear hI5 HI2 HB5
                go_wp2_with (at_builtin; go_loud (refine wpList_append_toks rfl _ _ 63 rfl w1.heap.size 69 i0 Try.underlying63 hi hz0 hz1 hz2 _ _ _ rfl hO6 (some ⟨W5.heap.size, 0, none⟩) _ 1 _ [(⟨0, 0, (ofL b).extract p (p + 1)⟩ : Tk)] rfl rfl hRn (by unfold maxLen; omega) (by omega) hsz6 ?_))
                intro v7 w7 hO7 hg7
                have hB7 := hB6.grown hg7 hB6.size (fun r e => (hO6.lt r e).1)
                obtain ⟨F, g, rfl⟩ := ownsRow_slice hO7
                have hlen9 : (o ++ [(⟨0, 0, (ofL b).extract p (p + 1)⟩ : Tk)]).length = o.length + 1 := by simp
                have HO9 := hide (show TI w1 69 (.slice F (o ++ [(⟨0, 0, (ofL b).extract p (p + 1)⟩ : Tk)]).length g) (o ++ [(⟨0, 0, (ofL b).extract p (p + 1)⟩ : Tk)]) w7 from ⟨hB7, by rw [cellsT_app, hlen9]; exact hO7⟩)
                rw [hlen9] at HO9
                clear hO6 hRn hB6 hsz6 hO7 hg7 hB7
                go_wp2_with fail
                go_roundg g0
                case rel => exact ⟨F, g, p + 1, 0, -1, o ++ [(⟨0, 0, (ofL b).extract p (p + 1)⟩ : Tk)], by rw [hlen9], rfl, rfl, by omega, by omega, by rw [hlen9]; omega, by omega, hide (.inr ⟨rfl, rfl⟩), by rw [hlen9]; exact HO9, HP9⟩
                case measure => omega
              | true =>
                rw [hb] at heq HQ0
                obtain ⟨e, he⟩ : ∃ e, e = p + tl := ⟨_, rfl⟩
                have he1 : (p : Int) + (tl : Nat) = (e : Nat) := by omega
                have HE := hide he
                have hee : e = b.length := by have := HM.out; have := HMT.out; omega
                have heo : o.length + 1 ≤ e := by omega
                have HEb := hide hee
                clear he hee
                have HQ9 := hide (show o ++ (copyT bl.length :: refS bl n tl ⟨sw, sh, slo⟩ g0 (b.drop e) (bl.length + 1)) = R from by have h := HQ0.out; rw [if_pos rfl] at h; rw [HE.out]; exact h)
                clear HQ0 hb
                go_upto_region 9 with fail
                refine wp_region_held (by kernel_rfl) (S := fun W => Below w2.heap.size w2 W ∧ W.cell? ⟨w.heap.size, 0, none⟩ = some (.int .i64 (n : Nat)) ∧ W.cell? ⟨w.heap.size, 1, none⟩ = some (.slice A bl.length c) ∧ W.cell? ⟨w.heap.size, 2, none⟩ = some (.int .i64 (tl : Nat)) ∧ W.cell? ⟨w.heap.size, 3, none⟩ = some (.int .u32 (sw : Nat)) ∧ W.cell? ⟨w.heap.size, 4, none⟩ = some (.int .u64 (sh : Nat)) ∧ W.cell? ⟨w.heap.size, 5, none⟩ = some (.int .u64 (slo : Nat))) ?_
                change wpAnyH _ _ _ _ _ _ _ _ (World.drew _)
                refine wpAnyH_take (i := 0) (v := .agg #[.int .i64 (n : Nat), .slice A bl.length c, .int .i64 (tl : Nat), .int .u32 (sw : Nat), .int .u64 (sh : Nat), .int .u64 (slo : Nat)]) rfl (by kernel_rfl) (by kernel_rfl) (by kernel_rfl) (fun _ _ _ h => h) (Or.inl ⟨by kernel_rfl, ?yz57⟩) hdd ?rz57
                case yz57 => intro W hS; obtain ⟨_, s0, s1, s2, s3, s4, s5⟩ := hS; go_simp; try with_reducible rfl
                try simp only [Act.put, List.getElem_toArray, List.getElem_cons_zero, List.setIfInBounds_toArray, List.set_cons_zero, List.set_cons_succ]
                refine held_one (i := 1) (by kernel_rfl) rfl (fun K hK => ?_)
                go_simp
                refine (HRi.out _).mono ?_
                rintro en W3 ⟨rfl, hbk⟩
                have hBW3 := (Below.refl w2.heap.size w2).drew.trans hbk
                have hSW3 := HSB.out _ hBW3
                refine hK _ _ hSW3 ?_
                clear hK K hbk
                try simp only [Act.put, List.getElem_toArray, List.getElem_cons_succ, List.getElem_cons_zero, List.setIfInBounds_toArray, List.set_cons_zero, List.set_cons_succ]
                refine wpAnyH_take (i := 2) (v := ?vz58) rfl (by kernel_rfl) (by kernel_rfl) (by kernel_rfl) (fun _ _ _ h => h) (Or.inl ⟨by kernel_rfl, ?yz58⟩) hSW3 ?rz58
                case yz58 => intro W hS; obtain ⟨_, s0, s1, s2, s3, s4, s5⟩ := hS; go_simp; try with_reducible rfl
                try simp only [Act.put, List.getElem_toArray, List.getElem_cons_succ, List.getElem_cons_zero, List.setIfInBounds_toArray, List.set_cons_zero, List.set_cons_succ]
                refine wpAnyH_take (i := 3) (v := ?vz59) rfl (by kernel_rfl) (by kernel_rfl) (by kernel_rfl) (fun _ _ _ h => h) (Or.inl ⟨by kernel_rfl, ?yz59⟩) hSW3 ?rz59
                case yz59 => intro W hS; obtain ⟨_, s0, s1, s2, s3, s4, s5⟩ := hS; go_simp; try with_reducible rfl
                try simp only [Act.put, List.getElem_toArray, List.getElem_cons_succ, List.getElem_cons_zero, List.setIfInBounds_toArray, List.set_cons_zero, List.set_cons_succ]
                refine wpAnyH_take (i := 4) (v := .int .i64 (tl : Nat)) rfl (by kernel_rfl) (by kernel_rfl) (by kernel_rfl) (fun _ _ _ h => h) (Or.inl ⟨by kernel_rfl, ?yz60⟩) hSW3 ?rz60
                case yz60 => intro W hS; obtain ⟨_, s0, s1, s2, s3, s4, s5⟩ := hS; go_simp; try with_reducible rfl
                try simp only [Act.put, List.getElem_toArray, List.getElem_cons_succ, List.getElem_cons_zero, List.setIfInBounds_toArray, List.set_cons_zero, List.set_cons_succ]
                refine wpAnyH_take (i := 5) (v := .bool true) rfl (by kernel_rfl) (by kernel_rfl) (by kernel_rfl) (fun _ _ _ h => h) (Or.inl ⟨by kernel_rfl, ?yz61⟩) hSW3 ?rz61
                case yz61 => intro W hS; obtain ⟨_, s0, s1, s2, s3, s4, s5⟩ := hS; go_simp; try with_reducible rfl
                try simp only [Act.put, List.getElem_toArray, List.getElem_cons_succ, List.getElem_cons_zero, List.setIfInBounds_toArray, List.set_cons_zero, List.set_cons_succ]
                refine wpAnyH_take (i := 6) (v := .bool true) rfl (by kernel_rfl) (by kernel_rfl) (by kernel_rfl) (fun _ _ _ h => h) (Or.inl ⟨by kernel_rfl, ?yz62⟩) hSW3 ?rz62
                case yz62 => intro W hS; obtain ⟨_, s0, s1, s2, s3, s4, s5⟩ := hS; go_simp; try with_reducible rfl
                try simp only [Act.put, List.getElem_toArray, List.getElem_cons_succ, List.getElem_cons_zero, List.setIfInBounds_toArray, List.set_cons_zero, List.set_cons_succ]
                refine wpAnyH_take (i := 7) (v := .bool true) rfl (by kernel_rfl) (by kernel_rfl) (by kernel_rfl) (fun _ _ _ h => h) (Or.inl ⟨by kernel_rfl, ?yz63⟩) hSW3 ?rz63
                case yz63 => intro W hS; obtain ⟨_, s0, s1, s2, s3, s4, s5⟩ := hS; go_simp; try with_reducible rfl
                try simp only [Act.put, List.getElem_toArray, List.getElem_cons_succ, List.getElem_cons_zero, List.setIfInBounds_toArray, List.set_cons_zero, List.set_cons_succ]
                refine wpAnyH_take (i := 8) (v := ?vz64) rfl (by kernel_rfl) (by kernel_rfl) (by kernel_rfl) (fun _ _ _ h => h) (Or.inl ⟨by kernel_rfl, ?yz64⟩) hSW3 ?rz64
                case yz64 => intro W hS; obtain ⟨_, s0, s1, s2, s3, s4, s5⟩ := hS; go_simp; try with_reducible rfl
                try simp only [Act.put, List.getElem_toArray, List.getElem_cons_succ, List.getElem_cons_zero, List.setIfInBounds_toArray, List.set_cons_zero, List.set_cons_succ]
                refine wpAnyH_take (i := 9) (v := ?vz65) rfl (by kernel_rfl) (by kernel_rfl) (by kernel_rfl) (fun _ _ _ h => h) (Or.inl ⟨by kernel_rfl, ?yz65⟩) hSW3 ?rz65
                case yz65 => intro W hS; obtain ⟨_, s0, s1, s2, s3, s4, s5⟩ := hS; go_simp; try with_reducible rfl
                try simp only [Act.put, List.getElem_toArray, List.getElem_cons_succ, List.getElem_cons_zero, List.setIfInBounds_toArray, List.set_cons_zero, List.set_cons_succ]
                refine wpAnyH_take (i := 10) (v := ?vz66) rfl (by kernel_rfl) (by kernel_rfl) (by kernel_rfl) (fun _ _ _ h => h) (Or.inl ⟨by kernel_rfl, ?yz66⟩) hSW3 ?rz66
                case yz66 => intro W hS; obtain ⟨_, s0, s1, s2, s3, s4, s5⟩ := hS; go_simp; try with_reducible rfl
                try simp only [Act.put, List.getElem_toArray, List.getElem_cons_succ, List.getElem_cons_zero, List.setIfInBounds_toArray, List.set_cons_zero, List.set_cons_succ]
                refine wpAnyH_take (i := 11) (v := .int .i64 (m : Nat)) rfl (by kernel_rfl) (by kernel_rfl) (by kernel_rfl) (fun _ _ _ h => h) (Or.inl ⟨by kernel_rfl, ?yz67⟩) hSW3 ?rz67
                case yz67 => intro W hS; obtain ⟨_, s0, s1, s2, s3, s4, s5⟩ := hS; go_simp; try with_reducible rfl
                try simp only [Act.put, List.getElem_toArray, List.getElem_cons_succ, List.getElem_cons_zero, List.setIfInBounds_toArray, List.set_cons_zero, List.set_cons_succ]
                refine wpAnyH_take (i := 12) (v := ?vz68) rfl (by kernel_rfl) (by kernel_rfl) (by kernel_rfl) (fun _ _ _ h => h) (Or.inl ⟨by kernel_rfl, ?yz68⟩) hSW3 ?rz68
                case yz68 => intro W hS; obtain ⟨_, s0, s1, s2, s3, s4, s5⟩ := hS; go_simp; try with_reducible rfl
                try simp only [Act.put, List.getElem_toArray, List.getElem_cons_succ, List.getElem_cons_zero, List.setIfInBounds_toArray, List.set_cons_zero, List.set_cons_succ]
                refine wpAnyH_take (i := 13) (v := .int .i64 (tl : Nat)) rfl (by kernel_rfl) (by kernel_rfl) (by kernel_rfl) (fun _ _ _ h => h) (Or.inl ⟨by kernel_rfl, ?yz69⟩) hSW3 ?rz69
                case yz69 => intro W hS; obtain ⟨_, s0, s1, s2, s3, s4, s5⟩ := hS; go_simp; try with_reducible rfl
                try simp only [Act.put, List.getElem_toArray, List.getElem_cons_succ, List.getElem_cons_zero, List.setIfInBounds_toArray, List.set_cons_zero, List.set_cons_succ]
                refine wpAnyH_take (i := 14) (v := .bool true) rfl (by kernel_rfl) (by kernel_rfl) (by kernel_rfl) (fun _ _ _ h => h) (Or.inl ⟨by kernel_rfl, ?yz70⟩) hSW3 ?rz70
                case yz70 => intro W hS; obtain ⟨_, s0, s1, s2, s3, s4, s5⟩ := hS; go_simp; try with_reducible rfl
                try simp only [Act.put, List.getElem_toArray, List.getElem_cons_succ, List.getElem_cons_zero, List.setIfInBounds_toArray, List.set_cons_zero, List.set_cons_succ]
                refine wpAnyH_take (i := 15) (v := .bool true) rfl (by kernel_rfl) (by kernel_rfl) (by kernel_rfl) (fun _ _ _ h => h) (Or.inl ⟨by kernel_rfl, ?yz71⟩) hSW3 ?rz71
                case yz71 => intro W hS; obtain ⟨_, s0, s1, s2, s3, s4, s5⟩ := hS; go_simp; try with_reducible rfl
                try simp only [Act.put, List.getElem_toArray, List.getElem_cons_succ, List.getElem_cons_zero, List.setIfInBounds_toArray, List.set_cons_zero, List.set_cons_succ]
                refine wpAnyH_take (i := 16) (v := .bool true) rfl (by kernel_rfl) (by kernel_rfl) (by kernel_rfl) (fun _ _ _ h => h) (Or.inl ⟨by kernel_rfl, ?yz72⟩) hSW3 ?rz72
                case yz72 => intro W hS; obtain ⟨_, s0, s1, s2, s3, s4, s5⟩ := hS; go_simp; try with_reducible rfl
                try simp only [Act.put, List.getElem_toArray, List.getElem_cons_succ, List.getElem_cons_zero, List.setIfInBounds_toArray, List.set_cons_zero, List.set_cons_succ]
                refine wpAnyH_take (i := 17) (v := ?vz73) rfl (by kernel_rfl) (by kernel_rfl) (by kernel_rfl) (fun _ _ _ h => h) (Or.inl ⟨by kernel_rfl, ?yz73⟩) hSW3 ?rz73
                case yz73 => intro W hS; obtain ⟨_, s0, s1, s2, s3, s4, s5⟩ := hS; go_simp; try with_reducible rfl
                try simp only [Act.put, List.getElem_toArray, List.getElem_cons_succ, List.getElem_cons_zero, List.setIfInBounds_toArray, List.set_cons_zero, List.set_cons_succ]
                refine wpAnyH_take (i := 18) (v := ?vz74) rfl (by kernel_rfl) (by kernel_rfl) (by kernel_rfl) (fun _ _ _ h => h) (Or.inl ⟨by kernel_rfl, ?yz74⟩) hSW3 ?rz74
                case yz74 => intro W hS; obtain ⟨_, s0, s1, s2, s3, s4, s5⟩ := hS; go_simp; try with_reducible rfl
                try simp only [Act.put, List.getElem_toArray, List.getElem_cons_succ, List.getElem_cons_zero, List.setIfInBounds_toArray, List.set_cons_zero, List.set_cons_succ]
                refine wpAnyH_take (i := 19) (v := .string (ofL y)) rfl (by kernel_rfl) (by kernel_rfl) (by kernel_rfl) (fun _ _ _ h => h) (Or.inl ⟨by kernel_rfl, ?yz75⟩) hSW3 ?rz75
                case yz75 => intro W hS; obtain ⟨_, s0, s1, s2, s3, s4, s5⟩ := hS; go_simp; try with_reducible rfl
                try simp only [Act.put, List.getElem_toArray, List.getElem_cons_succ, List.getElem_cons_zero, List.setIfInBounds_toArray, List.set_cons_zero, List.set_cons_succ]
                refine wpAnyH_take (i := 21) (v := ?vz76) rfl (by kernel_rfl) (by kernel_rfl) (by kernel_rfl) (fun _ _ _ h => h) (Or.inl ⟨by kernel_rfl, ?yz76⟩) hSW3 ?rz76
                case yz76 => intro W hS; obtain ⟨_, s0, s1, s2, s3, s4, s5⟩ := hS; go_simp; try with_reducible rfl
                try simp only [Act.put, List.getElem_toArray, List.getElem_cons_succ, List.getElem_cons_zero, List.setIfInBounds_toArray, List.set_cons_zero, List.set_cons_succ]
                refine wpAnyH_take (i := 22) (v := .agg #[.int .u32 (sw : Nat), .int .u64 (sh : Nat), .int .u64 (slo : Nat)]) rfl (by kernel_rfl) (by kernel_rfl) (by kernel_rfl) (fun _ _ _ h => h) (Or.inl ⟨by kernel_rfl, ?yz77⟩) hSW3 ?rz77
                case yz77 => intro W hS; obtain ⟨_, s0, s1, s2, s3, s4, s5⟩ := hS; go_simp; try with_reducible rfl
                try simp only [Act.put, List.getElem_toArray, List.getElem_cons_succ, List.getElem_cons_zero, List.setIfInBounds_toArray, List.set_cons_zero, List.set_cons_succ]
                refine held_one (i := 20) (by kernel_rfl) rfl (fun K hK => ?_)
                go_simp
                refine (HSo.out _).mono ?_
                rintro en W4 ⟨rfl, hbk⟩
                have hBW4 := hBW3.trans (hbk.mono hBW3.size)
                have hSW4 := HSB.out _ hBW4
                refine hK _ _ hSW4 ?_
                clear hK K hbk
                try simp only [Act.put, List.getElem_toArray, List.getElem_cons_succ, List.getElem_cons_zero, List.setIfInBounds_toArray, List.set_cons_zero, List.set_cons_succ]
                refine wpAnyH_take (i := 23) (v := .bool true) rfl (by kernel_rfl) (by kernel_rfl) (by kernel_rfl) (fun _ _ _ h => h) (Or.inl ⟨by kernel_rfl, ?yz78⟩) hSW4 ?rz78
                case yz78 => intro W hS; obtain ⟨_, s0, s1, s2, s3, s4, s5⟩ := hS; go_simp; try with_reducible rfl
                try simp only [Act.put, List.getElem_toArray, List.getElem_cons_succ, List.getElem_cons_zero, List.setIfInBounds_toArray, List.set_cons_zero, List.set_cons_succ]
                refine wpAnyH_take (i := 24) (v := .bool true) rfl (by kernel_rfl) (by kernel_rfl) (by kernel_rfl) (fun _ _ _ h => h) (Or.inl ⟨by kernel_rfl, ?yz79⟩) hSW4 ?rz79
                case yz79 => intro W hS; obtain ⟨_, s0, s1, s2, s3, s4, s5⟩ := hS; go_simp; try with_reducible rfl
                try simp only [Act.put, List.getElem_toArray, List.getElem_cons_succ, List.getElem_cons_zero, List.setIfInBounds_toArray, List.set_cons_zero, List.set_cons_succ]
                refine wpAnyH_done (by kernel_rfl) ?_ _
                have HB5 := hide hBW4
                obtain ⟨_, x0, x1, x2, x3, x4, x5⟩ := hSW4
                clear hSW3 hBW3 hBW4 hdd HSB HSo heq hext2 hext3 c0 c1 c2 c3 c4 c5
                have hew : IntKind.i64.wrap (e : Int) = (e : Nat) := IntWalk.i64_in _ (by have := HEb.out; omega)
                have heb : e ≤ b.length := by have := HEb.out; omega
                have heg : b.length - e ≤ g0 := by have := HEb.out; omega
                have hkw : IntKind.i64.wrap ((bl.length : Int) + 1) = ((bl.length + 1 : Nat) : Int) := by rw [IntWalk.i64_in _ (by omega)]; rfl
                have hk0 : (0 : Int) ≤ bl.length := by omega
                have HP9 := hide (show (o ++ [copyT bl.length]) ++ refS bl n tl ⟨sw, sh, slo⟩ g0 (b.drop e) (bl.length + 1) = R from by rw [← HQ9.out]; simp)
                clear HQ9
                have hI5 := HI2.out.step HB5.out
                obtain ⟨W5, hW5⟩ : ∃ W5, W5 = W4 := ⟨_, rfl⟩
                rw [← hW5] at hI5 x1 x2 ⊢
                clear hW5
                have hO6 := hI5.own.alloc (.cells #[.int .i64 (bl.length : Nat), .int .i64 1, .string ⟨#[]⟩] 69)
                have hRn : RdT (W5.alloc (.cells #[.int .i64 (bl.length : Nat), .int .i64 1, .string ⟨#[]⟩] 69)) (W5.alloc (.cells #[.int .i64 (bl.length : Nat), .int .i64 1, .string ⟨#[]⟩] 69)).heap.size (some ⟨W5.heap.size, 0, none⟩) [(copyT bl.length)] := RdT.one W5 (copyT bl.length) 69
                have hB6 := hI5.below.alloc hI5.below.size (.cells #[.int .i64 (bl.length : Nat), .int .i64 1, .string ⟨#[]⟩] 69)
                have hsz6 := hB6.size
                clear hI5 HI2 HB5
                go_wp2_with (at_builtin; go_loud (refine wpList_append_toks rfl _ _ 63 rfl w1.heap.size 69 i0 Try.underlying63 hi hz0 hz1 hz2 _ _ _ rfl hO6 (some ⟨W5.heap.size, 0, none⟩) _ 1 _ [(copyT bl.length)] rfl rfl hRn (by unfold maxLen; omega) (by omega) hsz6 ?_))
                intro v7 w7 hO7 hg7
                have hB7 := hB6.grown hg7 hB6.size (fun r e => (hO6.lt r e).1)
                obtain ⟨F, g, rfl⟩ := ownsRow_slice hO7
                have hlen9 : (o ++ [(copyT bl.length)]).length = o.length + 1 := by simp
                have HO9 := hide (show TI w1 69 (.slice F (o ++ [(copyT bl.length)]).length g) (o ++ [(copyT bl.length)]) w7 from ⟨hB7, by rw [cellsT_app, hlen9]; exact hO7⟩)
                rw [hlen9] at HO9
                clear hO6 hRn hB6 hsz6 hO7 hg7 hB7
                go_wp2_with fail
                go_roundg g0
                case rel => exact ⟨F, g, e, bl.length + 1, ((bl.length + 1 : Nat) : Int), o ++ [copyT bl.length], by rw [hlen9], rfl, rfl, by omega, by omega, by rw [hlen9]; omega, by omega, hide (.inl rfl), by rw [hlen9]; exact HO9, HP9⟩
                case measure => omega
            · have hmt1 : ((m : Int) == (tl : Int)) = false := by rw [beq_eq_false_iff_ne]; omega
              have HQ9 := hide (show o ++ (byteT x :: refS bl n tl ⟨sw, sh, slo⟩ g0 (b.drop (p + 1)) 0) = R from by have h := HQ0.out; rw [if_neg (by unfold tailB; simp [hdl, hmt])] at h; exact h)
              clear HQ0 hdl
              go_upto_region 9 with fail
              refine wp_region_held (by kernel_rfl) (S := fun W => Below w2.heap.size w2 W ∧ W.cell? ⟨w.heap.size, 0, none⟩ = some (.int .i64 (n : Nat)) ∧ W.cell? ⟨w.heap.size, 1, none⟩ = some (.slice A bl.length c) ∧ W.cell? ⟨w.heap.size, 2, none⟩ = some (.int .i64 (tl : Nat)) ∧ W.cell? ⟨w.heap.size, 3, none⟩ = some (.int .u32 (sw : Nat)) ∧ W.cell? ⟨w.heap.size, 4, none⟩ = some (.int .u64 (sh : Nat)) ∧ W.cell? ⟨w.heap.size, 5, none⟩ = some (.int .u64 (slo : Nat))) ?_
              change wpAnyH _ _ _ _ _ _ _ _ (World.drew _)
              refine wpAnyH_take (i := 0) (v := .agg #[.int .i64 (n : Nat), .slice A bl.length c, .int .i64 (tl : Nat), .int .u32 (sw : Nat), .int .u64 (sh : Nat), .int .u64 (slo : Nat)]) rfl (by kernel_rfl) (by kernel_rfl) (by kernel_rfl) (fun _ _ _ h => h) (Or.inl ⟨by kernel_rfl, ?yz80⟩) hdd ?rz80
              case yz80 => intro W hS; obtain ⟨_, s0, s1, s2, s3, s4, s5⟩ := hS; go_simp; try with_reducible rfl
              try simp only [Act.put, List.getElem_toArray, List.getElem_cons_zero, List.setIfInBounds_toArray, List.set_cons_zero, List.set_cons_succ]
              refine held_one (i := 1) (by kernel_rfl) rfl (fun K hK => ?_)
              go_simp
              refine (HRi.out _).mono ?_
              rintro en W3 ⟨rfl, hbk⟩
              have hBW3 := (Below.refl w2.heap.size w2).drew.trans hbk
              have hSW3 := HSB.out _ hBW3
              refine hK _ _ hSW3 ?_
              clear hK K hbk
              try simp only [Act.put, List.getElem_toArray, List.getElem_cons_succ, List.getElem_cons_zero, List.setIfInBounds_toArray, List.set_cons_zero, List.set_cons_succ]
              refine wpAnyH_take (i := 2) (v := ?vz81) rfl (by kernel_rfl) (by kernel_rfl) (by kernel_rfl) (fun _ _ _ h => h) (Or.inl ⟨by kernel_rfl, ?yz81⟩) hSW3 ?rz81
              case yz81 => intro W hS; obtain ⟨_, s0, s1, s2, s3, s4, s5⟩ := hS; go_simp; try with_reducible rfl
              try simp only [Act.put, List.getElem_toArray, List.getElem_cons_succ, List.getElem_cons_zero, List.setIfInBounds_toArray, List.set_cons_zero, List.set_cons_succ]
              refine wpAnyH_take (i := 3) (v := ?vz82) rfl (by kernel_rfl) (by kernel_rfl) (by kernel_rfl) (fun _ _ _ h => h) (Or.inl ⟨by kernel_rfl, ?yz82⟩) hSW3 ?rz82
              case yz82 => intro W hS; obtain ⟨_, s0, s1, s2, s3, s4, s5⟩ := hS; go_simp; try with_reducible rfl
              try simp only [Act.put, List.getElem_toArray, List.getElem_cons_succ, List.getElem_cons_zero, List.setIfInBounds_toArray, List.set_cons_zero, List.set_cons_succ]
              refine wpAnyH_take (i := 4) (v := .int .i64 (tl : Nat)) rfl (by kernel_rfl) (by kernel_rfl) (by kernel_rfl) (fun _ _ _ h => h) (Or.inl ⟨by kernel_rfl, ?yz83⟩) hSW3 ?rz83
              case yz83 => intro W hS; obtain ⟨_, s0, s1, s2, s3, s4, s5⟩ := hS; go_simp; try with_reducible rfl
              try simp only [Act.put, List.getElem_toArray, List.getElem_cons_succ, List.getElem_cons_zero, List.setIfInBounds_toArray, List.set_cons_zero, List.set_cons_succ]
              refine wpAnyH_take (i := 5) (v := .bool true) rfl (by kernel_rfl) (by kernel_rfl) (by kernel_rfl) (fun _ _ _ h => h) (Or.inl ⟨by kernel_rfl, ?yz84⟩) hSW3 ?rz84
              case yz84 => intro W hS; obtain ⟨_, s0, s1, s2, s3, s4, s5⟩ := hS; go_simp; try with_reducible rfl
              try simp only [Act.put, List.getElem_toArray, List.getElem_cons_succ, List.getElem_cons_zero, List.setIfInBounds_toArray, List.set_cons_zero, List.set_cons_succ]
              refine wpAnyH_take (i := 6) (v := .bool true) rfl (by kernel_rfl) (by kernel_rfl) (by kernel_rfl) (fun _ _ _ h => h) (Or.inl ⟨by kernel_rfl, ?yz85⟩) hSW3 ?rz85
              case yz85 => intro W hS; obtain ⟨_, s0, s1, s2, s3, s4, s5⟩ := hS; go_simp; try with_reducible rfl
              try simp only [Act.put, List.getElem_toArray, List.getElem_cons_succ, List.getElem_cons_zero, List.setIfInBounds_toArray, List.set_cons_zero, List.set_cons_succ]
              refine wpAnyH_take (i := 7) (v := .bool true) rfl (by kernel_rfl) (by kernel_rfl) (by kernel_rfl) (fun _ _ _ h => h) (Or.inl ⟨by kernel_rfl, ?yz86⟩) hSW3 ?rz86
              case yz86 => intro W hS; obtain ⟨_, s0, s1, s2, s3, s4, s5⟩ := hS; go_simp; try with_reducible rfl
              try simp only [Act.put, List.getElem_toArray, List.getElem_cons_succ, List.getElem_cons_zero, List.setIfInBounds_toArray, List.set_cons_zero, List.set_cons_succ]
              refine wpAnyH_take (i := 8) (v := ?vz87) rfl (by kernel_rfl) (by kernel_rfl) (by kernel_rfl) (fun _ _ _ h => h) (Or.inl ⟨by kernel_rfl, ?yz87⟩) hSW3 ?rz87
              case yz87 => intro W hS; obtain ⟨_, s0, s1, s2, s3, s4, s5⟩ := hS; go_simp; try with_reducible rfl
              try simp only [Act.put, List.getElem_toArray, List.getElem_cons_succ, List.getElem_cons_zero, List.setIfInBounds_toArray, List.set_cons_zero, List.set_cons_succ]
              refine wpAnyH_take (i := 9) (v := ?vz88) rfl (by kernel_rfl) (by kernel_rfl) (by kernel_rfl) (fun _ _ _ h => h) (Or.inl ⟨by kernel_rfl, ?yz88⟩) hSW3 ?rz88
              case yz88 => intro W hS; obtain ⟨_, s0, s1, s2, s3, s4, s5⟩ := hS; go_simp; try with_reducible rfl
              try simp only [Act.put, List.getElem_toArray, List.getElem_cons_succ, List.getElem_cons_zero, List.setIfInBounds_toArray, List.set_cons_zero, List.set_cons_succ]
              refine wpAnyH_take (i := 10) (v := ?vz89) rfl (by kernel_rfl) (by kernel_rfl) (by kernel_rfl) (fun _ _ _ h => h) (Or.inl ⟨by kernel_rfl, ?yz89⟩) hSW3 ?rz89
              case yz89 => intro W hS; obtain ⟨_, s0, s1, s2, s3, s4, s5⟩ := hS; go_simp; try with_reducible rfl
              try simp only [Act.put, List.getElem_toArray, List.getElem_cons_succ, List.getElem_cons_zero, List.setIfInBounds_toArray, List.set_cons_zero, List.set_cons_succ]
              refine wpAnyH_take (i := 11) (v := .int .i64 (m : Nat)) rfl (by kernel_rfl) (by kernel_rfl) (by kernel_rfl) (fun _ _ _ h => h) (Or.inl ⟨by kernel_rfl, ?yz90⟩) hSW3 ?rz90
              case yz90 => intro W hS; obtain ⟨_, s0, s1, s2, s3, s4, s5⟩ := hS; go_simp; try with_reducible rfl
              try simp only [Act.put, List.getElem_toArray, List.getElem_cons_succ, List.getElem_cons_zero, List.setIfInBounds_toArray, List.set_cons_zero, List.set_cons_succ]
              refine wpAnyH_take (i := 12) (v := ?vz91) rfl (by kernel_rfl) (by kernel_rfl) (by kernel_rfl) (fun _ _ _ h => h) (Or.inl ⟨by kernel_rfl, ?yz91⟩) hSW3 ?rz91
              case yz91 => intro W hS; obtain ⟨_, s0, s1, s2, s3, s4, s5⟩ := hS; go_simp; try with_reducible rfl
              try simp only [Act.put, List.getElem_toArray, List.getElem_cons_succ, List.getElem_cons_zero, List.setIfInBounds_toArray, List.set_cons_zero, List.set_cons_succ]
              refine wpAnyH_take (i := 13) (v := .int .i64 (tl : Nat)) rfl (by kernel_rfl) (by kernel_rfl) (by kernel_rfl) (fun _ _ _ h => h) (Or.inl ⟨by kernel_rfl, ?yz92⟩) hSW3 ?rz92
              case yz92 => intro W hS; obtain ⟨_, s0, s1, s2, s3, s4, s5⟩ := hS; go_simp; try with_reducible rfl
              try simp only [Act.put, List.getElem_toArray, List.getElem_cons_succ, List.getElem_cons_zero, List.setIfInBounds_toArray, List.set_cons_zero, List.set_cons_succ]
              refine wpAnyH_take (i := 14) (v := .bool false) rfl (by kernel_rfl) (by kernel_rfl) (by kernel_rfl) (fun _ _ _ h => h) (Or.inl ⟨by kernel_rfl, ?yz93⟩) hSW3 ?rz93
              case yz93 => intro W hS; obtain ⟨_, s0, s1, s2, s3, s4, s5⟩ := hS; go_simp; try with_reducible rfl
              try simp only [Act.put, List.getElem_toArray, List.getElem_cons_succ, List.getElem_cons_zero, List.setIfInBounds_toArray, List.set_cons_zero, List.set_cons_succ]
              refine wpAnyH_take (i := 15) (v := .bool false) rfl (by kernel_rfl) (by kernel_rfl) (by kernel_rfl) (fun _ _ _ h => h) (Or.inl ⟨by kernel_rfl, ?yz94⟩) hSW3 ?rz94
              case yz94 => intro W hS; obtain ⟨_, s0, s1, s2, s3, s4, s5⟩ := hS; go_simp; try with_reducible rfl
              try simp only [Act.put, List.getElem_toArray, List.getElem_cons_succ, List.getElem_cons_zero, List.setIfInBounds_toArray, List.set_cons_zero, List.set_cons_succ]
              refine wpAnyH_take (i := 16) (v := .bool false) rfl (by kernel_rfl) (by kernel_rfl) (by kernel_rfl) (fun _ _ _ h => h) (Or.inl ⟨by kernel_rfl, ?yz95⟩) hSW3 ?rz95
              case yz95 => intro W hS; obtain ⟨_, s0, s1, s2, s3, s4, s5⟩ := hS; go_simp; try with_reducible rfl
              try simp only [Act.put, List.getElem_toArray, List.getElem_cons_succ, List.getElem_cons_zero, List.setIfInBounds_toArray, List.set_cons_zero, List.set_cons_succ]
              refine wpAnyH_take (i := 17) (v := undef) rfl (by kernel_rfl) (by kernel_rfl) (by kernel_rfl) (fun _ _ _ h => h) (Or.inr ⟨by kernel_rfl, rfl⟩) hSW3 ?_
              try simp only [Act.put, List.getElem_toArray, List.getElem_cons_succ, List.getElem_cons_zero, List.setIfInBounds_toArray, List.set_cons_zero, List.set_cons_succ]
              refine wpAnyH_take (i := 18) (v := undef) rfl (by kernel_rfl) (by kernel_rfl) (by kernel_rfl) (fun _ _ _ h => h) (Or.inr ⟨by kernel_rfl, rfl⟩) hSW3 ?_
              try simp only [Act.put, List.getElem_toArray, List.getElem_cons_succ, List.getElem_cons_zero, List.setIfInBounds_toArray, List.set_cons_zero, List.set_cons_succ]
              refine wpAnyH_take (i := 19) (v := undef) rfl (by kernel_rfl) (by kernel_rfl) (by kernel_rfl) (fun _ _ _ h => h) (Or.inr ⟨by kernel_rfl, rfl⟩) hSW3 ?_
              try simp only [Act.put, List.getElem_toArray, List.getElem_cons_succ, List.getElem_cons_zero, List.setIfInBounds_toArray, List.set_cons_zero, List.set_cons_succ]
              refine wpAnyH_take (i := 20) (v := undef) rfl (by kernel_rfl) (by kernel_rfl) (by kernel_rfl) (fun _ _ _ h => h) (Or.inr ⟨by kernel_rfl, rfl⟩) hSW3 ?_
              try simp only [Act.put, List.getElem_toArray, List.getElem_cons_succ, List.getElem_cons_zero, List.setIfInBounds_toArray, List.set_cons_zero, List.set_cons_succ]
              refine wpAnyH_take (i := 21) (v := undef) rfl (by kernel_rfl) (by kernel_rfl) (by kernel_rfl) (fun _ _ _ h => h) (Or.inr ⟨by kernel_rfl, rfl⟩) hSW3 ?_
              try simp only [Act.put, List.getElem_toArray, List.getElem_cons_succ, List.getElem_cons_zero, List.setIfInBounds_toArray, List.set_cons_zero, List.set_cons_succ]
              refine wpAnyH_take (i := 22) (v := undef) rfl (by kernel_rfl) (by kernel_rfl) (by kernel_rfl) (fun _ _ _ h => h) (Or.inr ⟨by kernel_rfl, rfl⟩) hSW3 ?_
              try simp only [Act.put, List.getElem_toArray, List.getElem_cons_succ, List.getElem_cons_zero, List.setIfInBounds_toArray, List.set_cons_zero, List.set_cons_succ]
              refine wpAnyH_take (i := 23) (v := undef) rfl (by kernel_rfl) (by kernel_rfl) (by kernel_rfl) (fun _ _ _ h => h) (Or.inr ⟨by kernel_rfl, rfl⟩) hSW3 ?_
              try simp only [Act.put, List.getElem_toArray, List.getElem_cons_succ, List.getElem_cons_zero, List.setIfInBounds_toArray, List.set_cons_zero, List.set_cons_succ]
              refine wpAnyH_take (i := 24) (v := .bool false) rfl (by kernel_rfl) (by kernel_rfl) (by kernel_rfl) (fun _ _ _ h => h) (Or.inl ⟨by kernel_rfl, ?yz103⟩) hSW3 ?rz103
              case yz103 => intro W hS; obtain ⟨_, s0, s1, s2, s3, s4, s5⟩ := hS; go_simp; try with_reducible rfl
              try simp only [Act.put, List.getElem_toArray, List.getElem_cons_succ, List.getElem_cons_zero, List.setIfInBounds_toArray, List.set_cons_zero, List.set_cons_succ]
              refine wpAnyH_done (by kernel_rfl) ?_ _
              have HB5 := hide hBW3
              clear hSW3 hBW3 hdd HSB c0 c1 c2 c3 c4 c5
              have HP9 := hide (show (o ++ [(⟨0, 0, (ofL b).extract p (p + 1)⟩ : Tk)]) ++ refS bl n tl ⟨sw, sh, slo⟩ g0 (b.drop (p + 1)) 0 = R from by rw [← HQ9.out, HX1.out]; simp [byteT])
              clear HQ9
              have hI5 := HI2.out.step HB5.out
              obtain ⟨W5, hW5⟩ : ∃ W5, W5 = W3 := ⟨_, rfl⟩
              rw [← hW5] at hI5 ⊢
              clear hW5
              have hO6 := hI5.own.alloc (.cells #[.int .i64 0, .int .i64 0, .string ((ofL b).extract p (p + 1))] 69)
              have hRn : RdT (W5.alloc (.cells #[.int .i64 0, .int .i64 0, .string ((ofL b).extract p (p + 1))] 69)) (W5.alloc (.cells #[.int .i64 0, .int .i64 0, .string ((ofL b).extract p (p + 1))] 69)).heap.size (some ⟨W5.heap.size, 0, none⟩) [(⟨0, 0, (ofL b).extract p (p + 1)⟩ : Tk)] := RdT.one W5 (⟨0, 0, (ofL b).extract p (p + 1)⟩ : Tk) 69
              have hB6 := hI5.below.alloc hI5.below.size (.cells #[.int .i64 0, .int .i64 0, .string ((ofL b).extract p (p + 1))] 69)
              have hsz6 := hB6.size
              clear hI5 HI2 HB5
              go_wp2_with (at_builtin; go_loud (refine wpList_append_toks rfl _ _ 63 rfl w1.heap.size 69 i0 Try.underlying63 hi hz0 hz1 hz2 _ _ _ rfl hO6 (some ⟨W5.heap.size, 0, none⟩) _ 1 _ [(⟨0, 0, (ofL b).extract p (p + 1)⟩ : Tk)] rfl rfl hRn (by unfold maxLen; omega) (by omega) hsz6 ?_))
              intro v7 w7 hO7 hg7
              have hB7 := hB6.grown hg7 hB6.size (fun r e => (hO6.lt r e).1)
              obtain ⟨F, g, rfl⟩ := ownsRow_slice hO7
              have hlen9 : (o ++ [(⟨0, 0, (ofL b).extract p (p + 1)⟩ : Tk)]).length = o.length + 1 := by simp
              have HO9 := hide (show TI w1 69 (.slice F (o ++ [(⟨0, 0, (ofL b).extract p (p + 1)⟩ : Tk)]).length g) (o ++ [(⟨0, 0, (ofL b).extract p (p + 1)⟩ : Tk)]) w7 from ⟨hB7, by rw [cellsT_app, hlen9]; exact hO7⟩)
              rw [hlen9] at HO9
              clear hO6 hRn hB6 hsz6 hO7 hg7 hB7
              go_wp2_with fail
              go_roundg g0
              case rel => exact ⟨F, g, p + 1, 0, -1, o ++ [(⟨0, 0, (ofL b).extract p (p + 1)⟩ : Tk)], by rw [hlen9], rfl, rfl, by omega, by omega, by rw [hlen9]; omega, by omega, hide (.inr ⟨rfl, rfl⟩), by rw [hlen9]; exact HO9, HP9⟩
              case measure => omega
end Go.Proofs.Ytobgbheodlpclaa
/-
  The law SearchDeltas: its walk.
-/
namespace Go.Proofs.Ytobgbheodlpclaa
open Go.RowKit Go.Shelf
set_option maxRecDepth 100000

set_option maxHeartbeats 32000000 in
theorem deltas_law (A : Option Addr) (l : List UInt8) (c : Nat) (C : Option Addr) (b : List UInt8) (k : Nat) (size : Int) (w : World) (hR : RdB w w.heap.size A l) (hc : Caps A l.length c) (hC : RdB w w.heap.size C b) (hk : Caps C b.length k) (_ : -9223372036854775808 ≤ size ∧ size ≤ 9223372036854775807) :
    Calls Try.prog 10 #[.slice A l.length c, .slice C b.length k, .int .i64 size] w fun e w' => e = .returned (.bool true) ∧ Below w.heap.size w w' := by
  by_cases h1 : (300 : Int) < l.length
  · clear hR hc hC hk
    go_enter Try.func10, Try.ntmps10
    go_wp2_with fail
    refine (srAwake_any w).mono ?_
    rintro e w2 ⟨rfl, hb⟩
    go_wp2_with fail
    exact bodyPost_ret (results_tmp rfl _ _ _) rfl ⟨rfl, hb⟩
  by_cases h2 : (300 : Int) < b.length
  · clear hR hc hC hk
    go_enter Try.func10, Try.ntmps10
    go_wp2_with fail
    refine (srAwake_any w).mono ?_
    rintro e w2 ⟨rfl, hb⟩
    go_wp2_with fail
    exact bodyPost_ret (results_tmp rfl _ _ _) rfl ⟨rfl, hb⟩
  have hl : l.length ≤ 300 := by omega
  have hbl : b.length ≤ 300 := by omega
  have hf := fitN_in size
  obtain ⟨h, hh⟩ : ∃ h : Nat, fitN size = h := ⟨(fitN size).toNat, by omega⟩
  have HDe := hide (delta_any A l c size h C b k w hR hc (by omega) hC hk (by omega) hh)
  obtain ⟨_, f2, f3, f4⟩ := sigOf_facts l size h hh (by omega)
  have HRO := hide (fun W => (show Calls Try.prog 22 #[.string (ofL l), .int .i64 size] W fun e w' => ∃ B d, e = .returned (.agg (sigC h B (sigOf l h).1.length d (sigOf l h).2.1 (sigOf l h).2.2)) ∧ SI W 37 (.slice B (sigOf l h).1.length d) (sigOf l h).1 w' from by
    have q := refBkOf_any (ofL l) size h W (by rw [ofL_size]; omega) hh
    rw [toL_ofL] at q
    unfold sigOf
    rw [blocksL_fit l size h hh]
    exact q))
  unfold deltaL at HDe
  obtain ⟨⟨bl, tl, s⟩, hs⟩ : ∃ q, q = sigOf l h := ⟨_, rfl⟩
  rw [← hs] at HDe HRO f2 f3 f4
  simp only at HDe HRO f2 f3 f4
  obtain ⟨b1, b2, b3, b4⟩ := found_facts bl h tl s b f2 (by omega)
  have HRS := hide (fun (W : World) (B : Option Addr) (d : Nat) (q : RdSg W W.heap.size B bl) => refSrOf_any h B bl d tl s b W f2 q (by omega))
  rw [← b1] at HRS
  generalize foundL bl h tl s b = F at HDe HRS b2
  have HCvl := hide (fun (W : World) (q : Below w.heap.size w W) => conv_any (hR.step q) c)
  have HCvb := hide (fun (W : World) (q : Below w.heap.size w W) => conv_any (hC.step q) k)
  obtain ⟨sw, sh, slo⟩ := s
  simp only [sigC] at HRO HRS
  clear hs hR hc hC hk hh b1 b3 b4 f2 f3 f4
  go_enter Try.func10, Try.ntmps10
  go_wp2_with fail
  refine HDe.out.mono ?_
  rintro e w1 ⟨v, rfl, hI⟩
  obtain ⟨D, d, rfl⟩ := ownsRow_slice hI.own
  have HFr := hide (from_any D F d w1 (RdT.own hI.own) (by omega))
  have HB1 := hide hI.below
  clear hI HDe
  go_wp2_with fail
  refine HFr.out.mono ?_
  rintro e w2 ⟨v, rfl, hI⟩
  obtain ⟨E, f, rfl⟩ := ownsRow_slice hI.own
  have HT2 := hide (RdT.own hI.own)
  have HB2 := hide (HB1.out.trans (hI.below.mono HB1.out.size))
  clear hI HFr HB1
  obtain ⟨X, hX⟩ : ∃ X, X = Value.slice A l.length c := ⟨_, rfl⟩
  obtain ⟨Y, hY⟩ : ∃ Y, Y = Value.slice C b.length k := ⟨_, rfl⟩
  have HSB := hide (fun (W : World) (q : Below w2.heap.size w2 W) => (⟨q, by rw [hX]; exact HCvl.out W (HB2.out.trans (q.mono HB2.out.size)), by rw [hY]; exact HCvb.out W (HB2.out.trans (q.mono HB2.out.size))⟩ :
    Below w2.heap.size w2 W ∧ (convert 22 9 X).run Try.prog W = .ok (.string (ofL l)) W ∧ (convert 22 9 Y).run Try.prog W = .ok (.string (ofL b)) W))
  have HTr := hide (fun (W W2 : World) (q1 : Below w2.heap.size w2 W) (q2 : Below W.heap.size W W2) => q1.trans (q2.mono q1.size))
  have HTT := hide (fun (W : World) (q : Below w2.heap.size w2 W) => HT2.out.step q)
  have hdd := HSB.out _ (Below.refl w2.heap.size w2).drew
  generalize ofL l = sl at HRO HSB hdd
  generalize ofL b = sb at HRS HSB hdd
  rw [← hX, ← hY]
  clear hX hY HCvl HCvb HT2
  go_wp2_with fail
  go_region_held (fun W => Below w2.heap.size w2 W ∧ (convert 22 9 X).run Try.prog W = .ok (.string sl) W ∧ (convert 22 9 Y).run Try.prog W = .ok (.string sb) W)
    (first
      | exact HSB.out _ hbk2
      | exact hdd)
    (first
      | (go_at_call 51; refine (srAwake_any _).mono ?_; rintro en wk ⟨rfl, hbk⟩; have hbk2 := HTr.out _ _ (And.left (by assumption)) hbk)
      | (go_at_call 22; refine (HRO.out _).mono ?_; rintro en wk ⟨B6, d6, rfl, hI6⟩; have hbk := hI6.below; have hR6 := RdSg.own hI6.own; have hbk2 := HTr.out _ _ (And.left (by assumption)) hbk)
      | (go_at_call 53; refine (HRS.out _ B6 d6 hR6).mono ?_; rintro en wk ⟨v7, rfl, hI7⟩; obtain ⟨G, g, rfl⟩ := ownsRow_slice hI7.own; have hbk := hI7.below; have hR7 := RdT.own hI7.own; have hbk2 := HTr.out _ _ (And.left (by assumption)) hbk)
      | (go_at_call 44; have HSm := hide (refTSame_any E G F F f g _ (HTT.out _ (And.left (by assumption))) hR7 (by omega)); rw [sameB_refl] at HSm; refine HSm.out.mono ?_; rintro en wk ⟨rfl, hbk⟩; have hbk2 := HTr.out _ _ (And.left (by assumption)) hbk))
  all_goals
    rename_i hSz
    have HF := hide (HB2.out.trans (hSz.1.mono HB2.out.size))
    clear hSz
    go_wp2_with fail
    exact bodyPost_ret (results_tmp rfl _ _ _) rfl ⟨rfl, HF.out⟩
end Go.Proofs.Ytobgbheodlpclaa
