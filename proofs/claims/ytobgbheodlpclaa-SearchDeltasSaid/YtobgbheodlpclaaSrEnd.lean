/-
  search's end: bytes in which there is no block but perhaps the tail.
-/
import Derived.Test.YtobgbheodlpclaaAutoHeldOp
import Derived.Deep.AppendLies
namespace Go.Proofs.Ytobgbheodlpclaa
open Go.RowKit
set_option maxRecDepth 100000

theorem endW_lit {nb tl : Nat} {ls : Sg} {b : List UInt8} (h : ¬ (tl ≤ b.length ∧ tailB tl ls (b.drop (b.length - tl)) = true)) : endW litL nb tl ls b = litL b := by unfold endW; rw [if_neg h]
theorem endW_tail {nb tl : Nat} {ls : Sg} {b : List UInt8} (h : tl ≤ b.length ∧ tailB tl ls (b.drop (b.length - tl)) = true) : endW litL nb tl ls b = litL (b.take (b.length - tl)) ++ [copyT nb] := by unfold endW; rw [if_pos h]

theorem sg_neq (x y : Sg) (w : World) : (binOp .neq 30 (.agg #[.int .u32 (x.weak : Nat), .int .u64 (x.hi : Nat), .int .u64 (x.lo : Nat)]) (.agg #[.int .u32 (y.weak : Nat), .int .u64 (y.hi : Nat), .int .u64 (y.lo : Nat)])).run Try.prog w = .ok (.bool (!sgB x y)) w := by
  have h := sg_eql x y w
  simp only [binOp, Sem.run_bind] at h ⊢
  generalize Sem.run Try.prog (Op.equal _ _ _) w = r at h ⊢
  cases r <;> simp [Result.andThen] at h ⊢
  obtain ⟨h1, h2⟩ := h
  subst h2
  simp_all

set_option maxHeartbeats 16000000 in
theorem srEnd_any (z : Int) (A : Option Addr) (nb c tl : Nat) (s : Sg) (m1 m2 : Nat) (C : Option Addr) (b : List UInt8) (k : Nat) (w : World) (hC : RdB w w.heap.size C b) (hk : Caps C b.length k) (hl : b.length ≤ 16384) (_ : nb ≤ 5000) (htl : tl ≤ 100) :
    Calls Try.prog 121 #[.agg (finC z A nb c (tl : Nat) s m1 m2), .slice C b.length k] w fun e w' => ∃ v, e = .returned v ∧ TI w 71 v (endW litL nb tl s b) w' := by
  obtain ⟨i0, hi, hz0, hz1, hz2⟩ := info_parts info_tk
  have hb1 := (Below.refl w.heap.size w).alloc (Nat.le_refl _) (Obj.cells (finC z A nb c (tl : Nat) s m1 m2) 144)
  have hr1 := World.alloc_heap_new w (Obj.cells (finC z A nb c (tl : Nat) s m1 m2) 144)
  have HLa := hide (fun (W : World) (q : Below w.heap.size w W) => literal_all C b k W (hC.step q) hk hl)
  have hbk := hk.1
  by_cases h0 : tl = 0 ∨ b.length < tl
  · rw [endW_lit (fun q => by have := q.2; unfold tailB at this; simp at this; omega)]
    have hB := hide hb1
    have c2 := cell_of_row _ _ 2 _ _ _ hr1
    simp only [finC] at *
    clear hC hk hr1 hb1
    by_cases ht : tl = 0
    · subst ht
      go_enter Try.func121, Try.ntmps121
      go_wp2_with fail
      go_quiet (fail)
      rename_i nq
      go_wp2_with fail
      refine (HLa.out _ (below_drewN hB.out nq)).mono ?_
      rintro e w2 ⟨v, rfl, hI⟩
      have hB2 := below_drewN hB.out nq
      have HI := hide (show TI w 71 v (litL b) w2 from ⟨hB2.trans (hI.below.mono hB2.size), ownsRow_lowerT hI.own hB2.size⟩)
      clear hI hB2
      go_wp2_with fail
      exact bodyPost_ret (results_tmp rfl _ _ _) rfl ⟨v, rfl, HI.out⟩
    · have E1 : ((tl : Int) == 0) = false := by rw [beq_eq_false_iff_ne]; omega
      have E2 : (b.length : Int) - tl < 0 := by omega
      go_enter Try.func121, Try.ntmps121
      go_wp2_with fail
      go_quiet (fail)
      rename_i nq
      go_wp2_with fail
      refine (HLa.out _ (below_drewN hB.out nq)).mono ?_
      rintro e w2 ⟨v, rfl, hI⟩
      have hB2 := below_drewN hB.out nq
      have HI := hide (show TI w 71 v (litL b) w2 from ⟨hB2.trans (hI.below.mono hB2.size), ownsRow_lowerT hI.own hB2.size⟩)
      clear hI hB2
      go_wp2_with fail
      exact bodyPost_ret (results_tmp rfl _ _ _) rfl ⟨v, rfl, HI.out⟩
  · have hd : (b.length - tl) + tl = b.length := by omega
    have hdl : (b.drop (b.length - tl)).length = tl := by rw [List.length_drop]; omega
    have hcd := caps_drop (k := b.length - tl) hk (by omega)
    have HSg := hide (fun (W : World) (q : Below w.heap.size w W) => signOf_any (if k = b.length - tl then C else C.map (·.add (b.length - tl))) (b.drop (b.length - tl)) (k - (b.length - tl)) W ((hC.step q).drop hbk) (by rw [hdl]; omega) (by rw [hdl]; omega))
    rw [hdl, if_neg (by omega)] at HSg
    have htb : tailB tl s (b.drop (b.length - tl)) = sgB (signL (b.drop (b.length - tl))) s := by unfold tailB; simp [hdl]; omega
    have HTk := hide (fun (W : World) (q : Below w.heap.size w W) => (show Calls Try.prog 95 #[.slice C (b.length - tl) k] W fun e w' => ∃ v, e = .returned v ∧ TI W 71 v (litL (b.take (b.length - tl))) w' from by
      have h := literal_all C (b.take (b.length - tl)) k W ((hC.step q).take _) ⟨by rw [List.length_take]; omega, hk.2⟩ (by rw [List.length_take]; omega)
      rw [List.length_take, Nat.min_eq_left (by omega)] at h
      exact h))
    have hkn : k ≠ b.length - tl := by omega
    rw [if_neg hkn] at hcd
    obtain ⟨n, hn⟩ : ∃ n, n = b.length - tl := ⟨_, rfl⟩
    rw [← hn] at hd hdl hcd HSg htb HTk hkn
    have hni : (b.length : Int) - tl = (n : Int) := by omega
    have hn1 : (0 : Int) ≤ n := by omega
    have hn2 : (n : Int) ≤ b.length := by omega
    have hn3 : (n : Int) ≤ k := by omega
    have hlk : (b.length : Int) ≤ k := by omega
    have hlt2 : b.length - n = tl := by omega
    have E1 : ((tl : Int) == 0) = false := by rw [beq_eq_false_iff_ne]; omega
    have E2 : ¬ (n : Int) < 0 := by omega
    have heq := sg_neq (signL (b.drop n)) s
    have HE : Hid (endW litL nb tl s b = if sgB (signL (b.drop n)) s = true then litL (b.take n) ++ [copyT nb] else litL b) := hide (by
      unfold endW
      rw [← hn, htb]
      by_cases hq : sgB (signL (b.drop n)) s = true
      · rw [if_pos ⟨by omega, hq⟩, if_pos hq]
      · rw [if_neg (fun q => hq q.2), if_neg hq])
    generalize signL (b.drop n) = g at HSg heq HE
    obtain ⟨gw, gh, gl⟩ := g
    obtain ⟨sw, sh, slo⟩ := s
    have c1 := cell_of_row _ _ 1 _ _ _ hr1
    have c2 := cell_of_row _ _ 2 _ _ _ hr1
    simp only [finC, Sg.cells] at *
    have HB := hide hb1
    have HR := hide hr1
    obtain ⟨V, hV⟩ : ∃ V, V = endW litL nb tl ⟨sw, sh, slo⟩ b := ⟨_, rfl⟩
    rw [← hV] at HE ⊢
    obtain ⟨W1, hW1⟩ : ∃ W1, W1 = w.alloc (Obj.cells #[.int .i64 z, .slice A nb c, .int .i64 (tl : Nat), .int .u32 (sw : Nat), .int .u64 (sh : Nat), .int .u64 (slo : Nat), .map (some m1), .map (some m2)] 144) := ⟨_, rfl⟩
    clear hV htb hC hk hr1 hb1 hcd hdl hn hbk hd h0
    go_enter Try.func121, Try.ntmps121
    go_wp2_with fail
    rw [← hW1] at HB HR c1 c2 ⊢
    clear hW1
    have HSB := hide (fun (W : World) (q : Below W1.heap.size W1 W) => (⟨q, cell_of_row _ _ 1 _ _ _ ((q.block _ (Array.getElem?_eq_some_iff.1 HR.out).1).trans HR.out), cell_of_row _ _ 2 _ _ _ ((q.block _ (Array.getElem?_eq_some_iff.1 HR.out).1).trans HR.out), cell_of_row _ _ 3 _ _ _ ((q.block _ (Array.getElem?_eq_some_iff.1 HR.out).1).trans HR.out), cell_of_row _ _ 4 _ _ _ ((q.block _ (Array.getElem?_eq_some_iff.1 HR.out).1).trans HR.out), cell_of_row _ _ 5 _ _ _ ((q.block _ (Array.getElem?_eq_some_iff.1 HR.out).1).trans HR.out)⟩ : Below W1.heap.size W1 W ∧ W.cell? ⟨w.heap.size, 1, none⟩ = some (.slice A nb c) ∧ W.cell? ⟨w.heap.size, 2, none⟩ = some (.int .i64 (tl : Nat)) ∧ W.cell? ⟨w.heap.size, 3, none⟩ = some (.int .u32 (sw : Nat)) ∧ W.cell? ⟨w.heap.size, 4, none⟩ = some (.int .u64 (sh : Nat)) ∧ W.cell? ⟨w.heap.size, 5, none⟩ = some (.int .u64 (slo : Nat))))
    have HD := hide (HSB.out _ (Below.refl W1.heap.size W1).drew)
    have HTr := hide (fun (W W2 : World) (q1 : Below W1.heap.size W1 W) (q2 : Below W.heap.size W W2) => q1.trans (q2.mono q1.size))
    have HBw := hide (fun (W : World) (q : Below W1.heap.size W1 W) => HB.out.trans (q.mono HB.out.size))
    have hdd := HD.out
    clear c1 c2 HR
    cases hb : sgB ⟨gw, gh, gl⟩ ⟨sw, sh, slo⟩ with
    | false =>
      rw [hb, if_neg (by decide)] at HE
      rw [hb] at heq
      clear hb HTk
      go_region_held (fun W => Below W1.heap.size W1 W ∧ W.cell? ⟨w.heap.size, 1, none⟩ = some (.slice A nb c) ∧ W.cell? ⟨w.heap.size, 2, none⟩ = some (.int .i64 (tl : Nat)) ∧ W.cell? ⟨w.heap.size, 3, none⟩ = some (.int .u32 (sw : Nat)) ∧ W.cell? ⟨w.heap.size, 4, none⟩ = some (.int .u64 (sh : Nat)) ∧ W.cell? ⟨w.heap.size, 5, none⟩ = some (.int .u64 (slo : Nat)))
        (first
          | exact HSB.out _ hbk2
          | exact hdd)
        (first
          | (go_at_call 18; refine (HSg.out _ (HBw.out _ (And.left (by assumption)))).mono ?_; rintro en wk ⟨rfl, hbk⟩; have hbk2 := HTr.out _ _ (And.left (by assumption)) hbk))
      all_goals
        rename_i hSz
        have HF := hide (HBw.out _ hSz.1)
        clear hSz hdd
        go_wp2_with fail
        refine (HLa.out _ HF.out).mono ?_
        rintro e w2 ⟨v, rfl, hI⟩
        have HI := hide (show TI w 71 v V w2 from by rw [HE.out]; exact ⟨HF.out.trans (hI.below.mono HF.out.size), ownsRow_lowerT hI.own HF.out.size⟩)
        clear hI
        go_wp2_with fail
        exact bodyPost_ret (results_tmp rfl _ _ _) rfl ⟨v, rfl, HI.out⟩
    | true =>
      rw [hb, if_pos rfl] at HE
      rw [hb] at heq
      clear hb HLa
      go_region_held (fun W => Below W1.heap.size W1 W ∧ W.cell? ⟨w.heap.size, 1, none⟩ = some (.slice A nb c) ∧ W.cell? ⟨w.heap.size, 2, none⟩ = some (.int .i64 (tl : Nat)) ∧ W.cell? ⟨w.heap.size, 3, none⟩ = some (.int .u32 (sw : Nat)) ∧ W.cell? ⟨w.heap.size, 4, none⟩ = some (.int .u64 (sh : Nat)) ∧ W.cell? ⟨w.heap.size, 5, none⟩ = some (.int .u64 (slo : Nat)))
        (first
          | exact HSB.out _ hbk2
          | exact hdd)
        (first
          | (go_at_call 18; refine (HSg.out _ (HBw.out _ (And.left (by assumption)))).mono ?_; rintro en w3 ⟨rfl, hbk⟩; have hbk2 := HTr.out _ _ (And.left (by assumption)) hbk))
      all_goals
        clear hdd
        rename_i hSz
        clear hbk hSz
        have HS := hide (fun (W : World) (q : Below w3.heap.size w3 W) => (HSB.out _ (HTr.out _ _ hbk2 q)).2.1)
        have HLit := hide (fun (W : World) (q : Below w3.heap.size w3 W) => HTk.out W (HBw.out _ (HTr.out _ _ hbk2 q)))
        have HCp := hide (fun W => copy_any (nb : Nat) 1 W)
        have hll := (litL_len (b.take n)).1
        generalize litL (b.take n) = lt at HE HLit hll
        have HFin := hide (fun (B : Option Addr) (_g cap : Nat) (w5 : World) (q : Below w3.heap.size w3 w5) (o : w5.ownsRow w3.heap.size 71 3 (.slice B (lt.length + 1) cap) (lt.length + 1) (cellsT lt ++ cellsT [⟨(nb : Nat), 1, ⟨#[]⟩⟩])) =>
          (⟨.slice B (lt.length + 1) cap, rfl, by
            have h1 := HBw.out _ (HTr.out _ _ hbk2 q)
            have h2 := HBw.out _ hbk2
            rw [HE.out]
            refine ⟨h1, ?_⟩
            rw [cellsT_app, List.length_append]
            exact ownsRow_lowerT o h2.size⟩ : ∃ v, Ending.returned (.slice B (lt.length + 1) cap) = .returned v ∧ TI w 71 v V w5))
        have hB0 := (Below.refl w3.heap.size w3).drew
        simp only [Tk.cells] at HCp
        clear HSB HTr HTk HBw HD HE HB hbk2 HSg heq
        go_wp2_with fail
        refine wp_region_held (by kernel_rfl) (S := fun W => W.cell? ⟨w.heap.size, 1, none⟩ = some (.slice A nb c)) ?_
        change wpAnyH _ _ _ _ _ _ _ _ (World.drew _)
        refine wpAnyH_take (i := 0) (v := ?vq1) rfl (by kernel_rfl) (by kernel_rfl) (by kernel_rfl) (fun _ _ _ h => h) (Or.inl ⟨by kernel_rfl, ?yq1⟩) (HS.out _ hB0) ?rq1
        case yq1 => intro W hS; go_simp; try with_reducible rfl
        try simp only [Act.put, List.getElem_toArray, List.getElem_cons_zero, List.setIfInBounds_toArray, List.set_cons_zero, List.set_cons_succ]
        refine wpAnyH_take (i := 1) (v := ?vq2) rfl (by kernel_rfl) (by kernel_rfl) (by kernel_rfl) (fun _ _ _ h => h) (Or.inl ⟨by kernel_rfl, ?yq2⟩) (HS.out _ hB0) ?rq2
        case yq2 => intro W hS; go_simp; try with_reducible rfl
        try simp only [Act.put, List.getElem_toArray, List.getElem_cons_succ, List.getElem_cons_zero, List.setIfInBounds_toArray, List.set_cons_zero, List.set_cons_succ]
        refine wpAnyH_take (i := 2) (v := ?vq3) rfl (by kernel_rfl) (by kernel_rfl) (by kernel_rfl) (fun _ _ _ h => h) (Or.inl ⟨by kernel_rfl, ?yq3⟩) (HS.out _ hB0) ?rq3
        case yq3 => intro W hS; go_simp; try with_reducible rfl
        try simp only [Act.put, List.getElem_toArray, List.getElem_cons_succ, List.getElem_cons_zero, List.setIfInBounds_toArray, List.set_cons_zero, List.set_cons_succ]
        refine wpAnyH_take (i := 4) (v := ?vq4) rfl (by kernel_rfl) (by kernel_rfl) (by kernel_rfl) (fun _ _ _ h => h) (Or.inl ⟨by kernel_rfl, ?yq4⟩) (HS.out _ hB0) ?rq4
        case yq4 => intro W hS; go_simp; try with_reducible rfl
        try simp only [Act.put, List.getElem_toArray, List.getElem_cons_succ, List.getElem_cons_zero, List.setIfInBounds_toArray, List.set_cons_zero, List.set_cons_succ]
        refine wpAnyH_take (i := 5) (v := ?vq5) rfl (by kernel_rfl) (by kernel_rfl) (by kernel_rfl) (fun _ _ _ h => h) (Or.inl ⟨by kernel_rfl, ?yq5⟩) (HS.out _ hB0) ?rq5
        case yq5 => intro W hS; go_simp; try with_reducible rfl
        try simp only [Act.put, List.getElem_toArray, List.getElem_cons_succ, List.getElem_cons_zero, List.setIfInBounds_toArray, List.set_cons_zero, List.set_cons_succ]
        refine wpAnyH_take (i := 6) (v := ?vq6) rfl (by kernel_rfl) (by kernel_rfl) (by kernel_rfl) (fun _ _ _ h => h) (Or.inl ⟨by kernel_rfl, ?yq6⟩) (HS.out _ hB0) ?rq6
        case yq6 => intro W hS; go_simp; try with_reducible rfl
        try simp only [Act.put, List.getElem_toArray, List.getElem_cons_succ, List.getElem_cons_zero, List.setIfInBounds_toArray, List.set_cons_zero, List.set_cons_succ]
        refine wpAnyH_take (i := 7) (v := ?vq7) rfl (by kernel_rfl) (by kernel_rfl) (by kernel_rfl) (fun _ _ _ h => h) (Or.inl ⟨by kernel_rfl, ?yq7⟩) (HS.out _ hB0) ?rq7
        case yq7 => intro W hS; go_simp; try with_reducible rfl
        try simp only [Act.put, List.getElem_toArray, List.getElem_cons_succ, List.getElem_cons_zero, List.setIfInBounds_toArray, List.set_cons_zero, List.set_cons_succ]
        generalize w3.drew = U0 at hB0 ⊢
        refine held_one (i := 3) (by kernel_rfl) rfl (fun K hK => ?_)
        go_simp
        refine (HLit.out _ hB0).mono ?_
        rintro en U1 ⟨v, rfl, hI⟩
        obtain ⟨B, d, rfl⟩ := ownsRow_slice hI.own
        have hB1 := hB0.trans (hI.below.mono hB0.size)
        have hO1 := ownsRow_lowerT hI.own hB0.size
        refine hK _ _ (HS.out _ hB1) ?_
        clear hK K hI
        try simp only [Act.put, List.getElem_toArray, List.getElem_cons_succ, List.getElem_cons_zero, List.setIfInBounds_toArray, List.set_cons_zero, List.set_cons_succ]
        refine held_one (i := 8) (by kernel_rfl) rfl (fun K hK => ?_)
        go_simp
        refine (HCp.out _).mono ?_
        rintro en U2 ⟨rfl, hb⟩
        have hB2 := hB1.trans (hb.mono hB1.size)
        have hO2 := own_below hO1 hb
        refine hK _ _ (HS.out _ hB2) ?_
        clear hK K hb
        try simp only [Act.put, List.getElem_toArray, List.getElem_cons_succ, List.getElem_cons_zero, List.setIfInBounds_toArray, List.set_cons_zero, List.set_cons_succ]
        refine held_one (i := 9) (by kernel_rfl) rfl (fun K hK => ?_)
        go_simp
        have hb := (Below.refl U2.heap.size U2).alloc (Nat.le_refl _) (Obj.cells #[.int .i64 (nb : Nat), .int .i64 1, .string ⟨#[]⟩] 71)
        have hB3 := hB2.trans (hb.mono hB2.size)
        have hN3 : RdT (U2.alloc (.cells #[.int .i64 (nb : Nat), .int .i64 1, .string ⟨#[]⟩] 71)) (U2.alloc (.cells #[.int .i64 (nb : Nat), .int .i64 1, .string ⟨#[]⟩] 71)).heap.size (some ⟨U2.heap.size, 0, none⟩) [⟨(nb : Nat), 1, ⟨#[]⟩⟩] := RdT.one U2 ⟨(nb : Nat), 1, ⟨#[]⟩⟩ 71
        have hO3 := hO2.alloc (.cells #[.int .i64 (nb : Nat), .int .i64 1, .string ⟨#[]⟩] 71)
        refine hK _ _ (HS.out _ hB3) ?_
        clear hK K hb
        try simp only [Act.put, List.getElem_toArray, List.getElem_cons_succ, List.getElem_cons_zero, List.setIfInBounds_toArray, List.set_cons_zero, List.set_cons_succ]
        generalize U2.alloc (.cells #[.int .i64 (nb : Nat), .int .i64 1, .string ⟨#[]⟩] 71) = U3 at hB3 hN3 hO3 ⊢
        refine held_one (i := 10) (by kernel_rfl) rfl (fun K hK => ?_)
        refine step_append_lies _ rfl (.tmp 35) (.tmp 41) 65 rfl w3.heap.size 71 i0 _ 3 32 Try.underlying65 hi hz0 hz1 hz2 rfl (by decide) _ _ _ rfl hO3 ⟨U2.heap.size, 0, none⟩ 1 1 (cellsT [⟨(nb : Nat), 1, ⟨#[]⟩⟩]) rfl rfl hN3.cell (cellsT_one _) (by decide) (by unfold maxLen; omega) (by omega) hB3.size _ rfl ?_
        intro g cap w5 hO5 hG5 _ _
        have hB5 := hB3.grown hG5 hB3.size (fun r e => (hO3.lt r e).1)
        refine hK _ _ (HS.out _ hB5) ?_
        clear hK K hG5
        try simp only [Act.put, List.getElem_toArray, List.getElem_cons_succ, List.getElem_cons_zero, List.setIfInBounds_toArray, List.set_cons_zero, List.set_cons_succ]
        refine wpAnyH_take (i := 11) (v := ?vq8) rfl (by kernel_rfl) (by kernel_rfl) (by kernel_rfl) (fun _ _ _ h => h) (Or.inl ⟨by kernel_rfl, ?yq8⟩) (HS.out _ hB5) ?rq8
        case yq8 => intro W hS; go_simp; try with_reducible rfl
        try simp only [Act.put, List.getElem_toArray, List.getElem_cons_succ, List.getElem_cons_zero, List.setIfInBounds_toArray, List.set_cons_zero, List.set_cons_succ]
        refine wpAnyH_done (by kernel_rfl) ?_ _
        have HF := hide (HFin.out _ g cap w5 hB5 hO5)
        clear hB5 hO5
        go_wp2_with fail
        refine bodyPost_ret (results_tmp rfl _ _ _) rfl ?_
        exact HF.out
end Go.Proofs.Ytobgbheodlpclaa
