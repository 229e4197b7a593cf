/-
  sketch.Of.
-/
import Derived.Test.YtpefcadlejcbbaaSkSeq
import Derived.Test.YtpefcadlejcbbaaSkFold
namespace Go.Proofs.Ytpefcadlejcbbaa
open Go.RowKit Go.Shelf
set_option maxRecDepth 100000
attribute [local go_sem] Oper.semAt_some

set_option maxHeartbeats 1000000 in
theorem shingles_any (A : Option Addr) (m c : Nat) (w : World) :
    Calls Try.prog 32 #[.slice A m c] w fun e w' => e = .returned (.func (.func 51) #[] #[.pointer (some ⟨w.heap.size, 0, none⟩)]) ∧ w' = w.alloc (.cells #[.slice A m c] 22) := by
  go_enter Try.func32, Try.ntmps32
  go_wp2_with fail
  go_ret
  exact ⟨rfl, rfl⟩

/-- The first k numbers of no shingles. -/
def noneTo (k : Nat) : List Nat := (List.range 8).map fun i => if i < k then 18446744073709551615 else 0
theorem noneTo_set (k : Nat) : (noneTo k).set k 18446744073709551615 = noneTo (k + 1) := by
  apply List.ext_getElem?
  intro i
  unfold noneTo
  rw [List.getElem?_set]
  by_cases h : k = i
  · subst h
    by_cases h8 : k < 8
    · simp [h8]
    · simp [h8]
  · rw [if_neg h, List.getElem?_map, List.getElem?_map]
    by_cases hi : i < 8
    · rw [List.getElem?_range hi, Option.map_some, Option.map_some]
      by_cases hik : i < k
      · rw [if_pos hik, if_pos (by omega)]
      · rw [if_neg hik, if_neg (by omega)]
    · rw [List.getElem?_eq_none (by simp; omega)]; rfl
theorem noneTo_at (k : Nat) (h : k < 8) : (noneTo k)[k]? = some 0 := by
  unfold noneTo
  rw [List.getElem?_map, List.getElem?_range h, Option.map_some, if_neg (Nat.lt_irrefl k)]
theorem noneTo_all : noneTo 8 = foldS [] := rfl

theorem store8_other (wr : World) (b m0 m1 m2 m3 m4 m5 m6 m7 j : Nat) (hj : j ≠ b) : ((((((((wr.setCell ⟨b, 0, none⟩ (.int .u64 (m0 : Nat))).setCell ⟨b, 1, none⟩ (.int .u64 (m1 : Nat))).setCell ⟨b, 2, none⟩ (.int .u64 (m2 : Nat))).setCell ⟨b, 3, none⟩ (.int .u64 (m3 : Nat))).setCell ⟨b, 4, none⟩ (.int .u64 (m4 : Nat))).setCell ⟨b, 5, none⟩ (.int .u64 (m5 : Nat))).setCell ⟨b, 6, none⟩ (.int .u64 (m6 : Nat))).setCell ⟨b, 7, none⟩ (.int .u64 (m7 : Nat))).heap[j]? = wr.heap[j]? ∧ ((((((((wr.setCell ⟨b, 0, none⟩ (.int .u64 (m0 : Nat))).setCell ⟨b, 1, none⟩ (.int .u64 (m1 : Nat))).setCell ⟨b, 2, none⟩ (.int .u64 (m2 : Nat))).setCell ⟨b, 3, none⟩ (.int .u64 (m3 : Nat))).setCell ⟨b, 4, none⟩ (.int .u64 (m4 : Nat))).setCell ⟨b, 5, none⟩ (.int .u64 (m5 : Nat))).setCell ⟨b, 6, none⟩ (.int .u64 (m6 : Nat))).setCell ⟨b, 7, none⟩ (.int .u64 (m7 : Nat))).heap.size = wr.heap.size := by
  refine ⟨?_, by simp [World.setCell]⟩
  have hn : ∀ (W : World) (k : Nat) (v : Value), (W.setCell ⟨b, k, none⟩ v).heap[j]? = W.heap[j]? := fun W k v => heap_setCell_other _ _ _ _ (by simpa using hj)
  iterate 8 rw [hn]

set_option maxHeartbeats 8000000 in
theorem of_in (A : Option Addr) (l : List UInt8) (c : Nat) (w : World) (hA : RdB w w.heap.size A l) (hc : l.length ≤ c) (hl : l.length ≤ 40000) :
    CallsIn Fence.wide 5 Try.prog 11 #[.slice A l.length c] w fun e w' => e = .returned (.agg (U (sketchL (shL l)))) ∧ Below w.heap.size w w' := by
  obtain ⟨r0, r1, hB⟩ := two_rows w #[.int .u64 0, .int .u64 0, .int .u64 0, .int .u64 0, .int .u64 0, .int .u64 0, .int .u64 0, .int .u64 0] #[.int .u64 0, .int .u64 0, .int .u64 0, .int .u64 0, .int .u64 0, .int .u64 0, .int .u64 0, .int .u64 0] 30 30
  refine callsIn_of_wp_marks Try.func11 rfl trivial ?_ rfl
  simp only [Try.ntmps11, List.size_toArray, List.length_cons, List.length_nil, Nat.reduceAdd, Nat.reduceSub, Array.replicate_succ, Array.replicate_zero, List.push_toArray, List.append_toArray, List.nil_append, List.cons_append]
  gi_wp2_with fail
  generalize ((w.alloc (.cells #[.int .u64 0, .int .u64 0, .int .u64 0, .int .u64 0, .int .u64 0, .int .u64 0, .int .u64 0, .int .u64 0] 30)).alloc (.cells #[.int .u64 0, .int .u64 0, .int .u64 0, .int .u64 0, .int .u64 0, .int .u64 0, .int .u64 0, .int .u64 0] 30)) = w2 at r0 r1 hB ⊢
  gi_loopw [4, 6] (fun _ i wr => ∃ k : Nat, k ≤ 8 ∧ i = .int .i64 k ∧ wr.heap[w.heap.size]? = some (.cells (U [0, 0, 0, 0, 0, 0, 0, 0]) 30 (0, 0)) ∧ wr.heap[w.heap.size + 1]? = some (.cells (U (noneTo k)) 30 (0, 0)) ∧ Below w.heap.size w wr) (fun _ i _ => 8 - (intOf i).toNat)
  case atStart => exact ⟨0, by decide, rfl, r0, r1, hB⟩
  case round =>
    clear r0 r1 hB
    obtain ⟨k, hk, rfl, r0, r1, hB⟩ := hrel
    by_cases hlt : (k : Int) < 8
    · have hk8 : k < 8 := by omega
      have i1 := index8 (w.heap.size + 1) k hk8
      have zx : wr.frozen? ⟨w.heap.size + 1, k, none⟩ = false := frozen_of_row _ _ _ _ _ r1
      have cx : wr.cell? ⟨w.heap.size + 1, k, none⟩ = some (.int .u64 (0 : Nat)) := (cell_of_row _ _ _ _ _ _ r1).trans (U_at _ _ _ (noneTo_at k hk8))
      have s1 := heap_setCell_same wr (w.heap.size + 1) k _ _ (.int .u64 (18446744073709551615 : Nat)) r1
      rw [U_set, noneTo_set] at s1
      have s0 : (wr.setCell ⟨w.heap.size + 1, k, none⟩ (.int .u64 (18446744073709551615 : Nat))).heap[w.heap.size]? = _ := (heap_setCell_other wr _ _ _ (by simp)).trans r0
      have hB6 := hB.setCell (p := ⟨w.heap.size + 1, k, none⟩) (by simp) (.int .u64 (18446744073709551615 : Nat))
      have HS := hide (And.intro s0 (And.intro s1 hB6))
      clear r0 r1 hB s0 s1 hB6
      gi_wp2_with fail
      go_roundw
      case rel => exact ⟨k + 1, hk8, rfl, HS.out⟩
      case measure => simp [intOf]; omega
    · obtain rfl : k = 8 := by omega
      rw [noneTo_all] at r1
      gi_wp2_with fail
      refine ⟨trivial, (callsIn_wide.2 (shingles_any _ _ _ _)).mono ?_⟩
      rintro e w3 ⟨rfl, rfl⟩
      have r4 := World.alloc_heap_new wr (.cells #[.slice A l.length c] 22)
      have hB3 : Below w.heap.size w (wr.alloc (.cells #[.slice A l.length c] 22)) := hB.alloc hB.size _
      have q0 : (wr.alloc (.cells #[.slice A l.length c] 22)).heap[w.heap.size]? = _ := (Below.heap_alloc _ _ _ (Array.getElem?_eq_some_iff.1 r0).1).trans r0
      have q1 : (wr.alloc (.cells #[.slice A l.length c] 22)).heap[w.heap.size + 1]? = _ := (Below.heap_alloc _ _ _ (Array.getElem?_eq_some_iff.1 r1).1).trans r1
      have hlt1 := (Array.getElem?_eq_some_iff.1 r1).1
      have hsz : (wr.alloc (.cells #[.slice A l.length c] 22)).heap.size = wr.heap.size + 1 := by simp
      have hA3 := (hA.below hB3 (Nat.le_refl _)).mono hB3.size
      have hg := blkR_lt hA
      obtain ⟨g, hgE⟩ : ∃ g, g = wr.heap.size := ⟨_, rfl⟩
      gi_wp2_with fail
      generalize (wr.alloc (.cells #[.slice A l.length c] 22)) = w3 at r4 hB3 q0 q1 hsz hA3 ⊢
      rw [← hgE] at r4 hlt1 hsz ⊢
      clear r0 r1 hB hgE
      refine wpIn_rangeK (α := Nat) rfl (by omega) (gf := 51) (lb := #[.pointer (some ⟨g, 0, none⟩)]) rfl trivial
        (enters_of Try.func51 (by kernel_rfl) rfl) (L := []) (K := g :: blkR A l) (by intro j hj; simp at hj)
        (by
          intro j hj
          rcases List.mem_cons.1 hj with rfl | hj
          · omega
          · have := hg j hj; omega)
        (shingles_seq 4 g A l c w3 hA3 hc hl (by omega) r4) (fun _ => rfl)
        (fun X pre W => W.heap[w.heap.size]? = some (.cells (U [0, 0, 0, 0, 0, 0, 0, 0]) 30 (0, 0)) ∧ W.heap[w.heap.size + 1]? = some (.cells (U (foldS pre)) 30 (0, 0)) ∧ Below w.heap.size w W)
        (fun X c pre W => False)
        ?hI ?hIx (fun X hX => ⟨q0, q1, hB3⟩)
        (fun x => { tmps := #[.slice A l.length c, undef, .pointer (some ⟨w.heap.size, 0, none⟩), .pointer (some ⟨w.heap.size + 1, 0, none⟩), u4, .int .u64 (x : Nat), .int .i64 8, .bool false, u8, u9, u10, u11, .slice A l.length c, .func (.func 51) #[] #[.pointer (some ⟨g, 0, none⟩)], .int .u64 (x : Nat), undef, undef, undef, undef, undef], defers := [] }) ?assign ?body ?done ?stop
      case hI =>
        rintro X hX pre A2 B2 row ⟨h1, h2, h3⟩ hgr hr
        have ne : ∀ j, row = some j → w3.heap.size ≤ j := fun j e => by
          rcases hr j e with h | h
          · simp at h
          · exact h.1
        refine ⟨(hgr.block _ (Array.getElem?_eq_some_iff.1 h1).1 (fun e => ?_)).trans h1, (hgr.block _ (Array.getElem?_eq_some_iff.1 h2).1 (fun e => ?_)).trans h2, h3.grown hgr h3.size (fun r e => ?_)⟩
        · have := ne _ e.symm; omega
        · have := ne _ e.symm; omega
        · have := ne _ e; omega
      case hIx => exact fun X c hX pre A2 B2 row h => h.elim
      case assign =>
        intro lp x W KK hK
        gi_wp2
        exact hK
      case body =>
        rintro X lp pre x W hX hXW ⟨h1, h2, h3⟩ hpre
        have hx : x < 18446744073709551616 := shL_all l x (hpre.subset (by simp))
        obtain ⟨s0, s1, s2, s3, s4, s5, s6, s7, hs⟩ := len8 (foldS pre) (foldS_len pre)
        obtain ⟨o0, o1, o2, o3, o4, o5, o6, o7, ho⟩ := len8 (oneL x) (by simp [oneL])
        obtain ⟨m0, m1, m2, m3, m4, m5, m6, m7, hm⟩ := len8 (foldS (pre ++ [x])) (foldS_len _)
        have HO := hide (fun W1 : World => one_any x W1 hx)
        have HM := hide (fun W1 : World => merge_any (foldS pre) (oneL x) W1 (foldS_len pre) (by simp [oneL]))
        rw [← foldS_snoc, hs, ho, hm] at HM
        rw [ho] at HO
        have HO2 := hide (fun W1 : World => (show Calls Try.prog 34 #[.int .u64 x] W1 fun e w' => e = .returned (.agg #[.int .u64 (o0 : Nat), .int .u64 (o1 : Nat), .int .u64 (o2 : Nat), .int .u64 (o3 : Nat), .int .u64 (o4 : Nat), .int .u64 (o5 : Nat), .int .u64 (o6 : Nat), .int .u64 (o7 : Nat)]) ∧ Below W1.heap.size W1 w' from HO.out W1))
        have HM2 := hide (fun W1 : World => (show Calls Try.prog 13 #[.agg #[.int .u64 (s0 : Nat), .int .u64 (s1 : Nat), .int .u64 (s2 : Nat), .int .u64 (s3 : Nat), .int .u64 (s4 : Nat), .int .u64 (s5 : Nat), .int .u64 (s6 : Nat), .int .u64 (s7 : Nat)], .agg #[.int .u64 (o0 : Nat), .int .u64 (o1 : Nat), .int .u64 (o2 : Nat), .int .u64 (o3 : Nat), .int .u64 (o4 : Nat), .int .u64 (o5 : Nat), .int .u64 (o6 : Nat), .int .u64 (o7 : Nat)]] W1 fun e w' => e = .returned (.agg #[.int .u64 (m0 : Nat), .int .u64 (m1 : Nat), .int .u64 (m2 : Nat), .int .u64 (m3 : Nat), .int .u64 (m4 : Nat), .int .u64 (m5 : Nat), .int .u64 (m6 : Nat), .int .u64 (m7 : Nat)]) ∧ Below W1.heap.size W1 w' from HM.out W1))
        have r := h2
        rw [hs] at r
        have HF := hide (fun (W1 W2 : World) (b1 : Below W.drew.heap.size W.drew W1) (b2 : Below W1.heap.size W1 W2) => (show Lies (ItsK [] (g :: blkR A l) w3.heap.size X) W ((((((((W2.setCell ⟨w.heap.size + 1, 0, none⟩ (.int .u64 (m0 : Nat))).setCell ⟨w.heap.size + 1, 1, none⟩ (.int .u64 (m1 : Nat))).setCell ⟨w.heap.size + 1, 2, none⟩ (.int .u64 (m2 : Nat))).setCell ⟨w.heap.size + 1, 3, none⟩ (.int .u64 (m3 : Nat))).setCell ⟨w.heap.size + 1, 4, none⟩ (.int .u64 (m4 : Nat))).setCell ⟨w.heap.size + 1, 5, none⟩ (.int .u64 (m5 : Nat))).setCell ⟨w.heap.size + 1, 6, none⟩ (.int .u64 (m6 : Nat))).setCell ⟨w.heap.size + 1, 7, none⟩ (.int .u64 (m7 : Nat))) ∧ ((((((((W2.setCell ⟨w.heap.size + 1, 0, none⟩ (.int .u64 (m0 : Nat))).setCell ⟨w.heap.size + 1, 1, none⟩ (.int .u64 (m1 : Nat))).setCell ⟨w.heap.size + 1, 2, none⟩ (.int .u64 (m2 : Nat))).setCell ⟨w.heap.size + 1, 3, none⟩ (.int .u64 (m3 : Nat))).setCell ⟨w.heap.size + 1, 4, none⟩ (.int .u64 (m4 : Nat))).setCell ⟨w.heap.size + 1, 5, none⟩ (.int .u64 (m5 : Nat))).setCell ⟨w.heap.size + 1, 6, none⟩ (.int .u64 (m6 : Nat))).setCell ⟨w.heap.size + 1, 7, none⟩ (.int .u64 (m7 : Nat))).heap[w.heap.size]? = some (.cells (U [0, 0, 0, 0, 0, 0, 0, 0]) 30 (0, 0)) ∧ ((((((((W2.setCell ⟨w.heap.size + 1, 0, none⟩ (.int .u64 (m0 : Nat))).setCell ⟨w.heap.size + 1, 1, none⟩ (.int .u64 (m1 : Nat))).setCell ⟨w.heap.size + 1, 2, none⟩ (.int .u64 (m2 : Nat))).setCell ⟨w.heap.size + 1, 3, none⟩ (.int .u64 (m3 : Nat))).setCell ⟨w.heap.size + 1, 4, none⟩ (.int .u64 (m4 : Nat))).setCell ⟨w.heap.size + 1, 5, none⟩ (.int .u64 (m5 : Nat))).setCell ⟨w.heap.size + 1, 6, none⟩ (.int .u64 (m6 : Nat))).setCell ⟨w.heap.size + 1, 7, none⟩ (.int .u64 (m7 : Nat))).heap[w.heap.size + 1]? = some (.cells (U (foldS (pre ++ [x]))) 30 (0, 0)) ∧ Below w.heap.size w ((((((((W2.setCell ⟨w.heap.size + 1, 0, none⟩ (.int .u64 (m0 : Nat))).setCell ⟨w.heap.size + 1, 1, none⟩ (.int .u64 (m1 : Nat))).setCell ⟨w.heap.size + 1, 2, none⟩ (.int .u64 (m2 : Nat))).setCell ⟨w.heap.size + 1, 3, none⟩ (.int .u64 (m3 : Nat))).setCell ⟨w.heap.size + 1, 4, none⟩ (.int .u64 (m4 : Nat))).setCell ⟨w.heap.size + 1, 5, none⟩ (.int .u64 (m5 : Nat))).setCell ⟨w.heap.size + 1, 6, none⟩ (.int .u64 (m6 : Nat))).setCell ⟨w.heap.size + 1, 7, none⟩ (.int .u64 (m7 : Nat))) from by
          have b1 : Below W.heap.size W W1 := ⟨b1.os, b1.tape, b1.output, b1.size, b1.block⟩
          have b12 := b1.trans (b2.mono b1.size)
          have r2 := (b12.block _ (Array.getElem?_eq_some_iff.1 r).1).trans r
          have hb8 := h3.trans (b12.mono h3.size)
          obtain ⟨f1, f2⟩ := store8 w W2 (w.heap.size + 1) s0 s1 s2 s3 s4 s5 s6 s7 m0 m1 m2 m3 m4 m5 m6 m7 _ (by omega) r2 hb8
          have so := fun j hj => store8_other W2 (w.heap.size + 1) m0 m1 m2 m3 m4 m5 m6 m7 j hj
          refine ⟨⟨by rw [(so w.heap.size (by omega)).2]; exact b12.size, fun j hj => ?_⟩, (so w.heap.size (by omega)).1.trans ((b12.block _ (Array.getElem?_eq_some_iff.1 h1).1).trans h1), by rw [hm]; exact f1, f2⟩
          have hj2 : j ≠ w.heap.size + 1 ∧ j < W.heap.size := by
            rcases hj with (hj | hj) | hj
            · simp at hj
            · omega
            · rcases List.mem_cons.1 hj with rfl | hj
              · omega
              · have := hg j hj; omega
          exact (so j hj2.1).1.trans (b12.block _ hj2.2)))
        have hmx : Try.prog.follows .mixedOrders = true := by kernel_rfl
        have c0 : W.cell? ⟨w.heap.size + 1, 0, none⟩ = some (.int .u64 (s0 : Nat)) := (cell_of_row _ _ _ _ _ _ r).trans (U_at _ _ _ rfl)
        have c1 : W.cell? ⟨w.heap.size + 1, 1, none⟩ = some (.int .u64 (s1 : Nat)) := (cell_of_row _ _ _ _ _ _ r).trans (U_at _ _ _ rfl)
        have c2 : W.cell? ⟨w.heap.size + 1, 2, none⟩ = some (.int .u64 (s2 : Nat)) := (cell_of_row _ _ _ _ _ _ r).trans (U_at _ _ _ rfl)
        have c3 : W.cell? ⟨w.heap.size + 1, 3, none⟩ = some (.int .u64 (s3 : Nat)) := (cell_of_row _ _ _ _ _ _ r).trans (U_at _ _ _ rfl)
        have c4 : W.cell? ⟨w.heap.size + 1, 4, none⟩ = some (.int .u64 (s4 : Nat)) := (cell_of_row _ _ _ _ _ _ r).trans (U_at _ _ _ rfl)
        have c5 : W.cell? ⟨w.heap.size + 1, 5, none⟩ = some (.int .u64 (s5 : Nat)) := (cell_of_row _ _ _ _ _ _ r).trans (U_at _ _ _ rfl)
        have c6 : W.cell? ⟨w.heap.size + 1, 6, none⟩ = some (.int .u64 (s6 : Nat)) := (cell_of_row _ _ _ _ _ _ r).trans (U_at _ _ _ rfl)
        have c7 : W.cell? ⟨w.heap.size + 1, 7, none⟩ = some (.int .u64 (s7 : Nat)) := (cell_of_row _ _ _ _ _ _ r).trans (U_at _ _ _ rfl)
        have HR := hide r
        clear h1 h2 h3 hpre hx hs ho hm HO HM r r4 hB3 q0 q1 hsz hA3 hlt1
        gi_wp2_with fail
        gi_region_with_o (first
          | (refine ⟨trivial, (CallsIn.inRound lp (callsIn_wide.2 (HO2.out _))).mono ?_⟩
             rintro e W1 ⟨rfl, hb1⟩
             have r := (hb1.block _ (Array.getElem?_eq_some_iff.1 HR.out).1).trans HR.out
             have c0 : W1.cell? ⟨w.heap.size + 1, 0, none⟩ = some (.int .u64 (s0 : Nat)) := (cell_of_row _ _ _ _ _ _ r).trans (U_at _ _ _ rfl)
             have c1 : W1.cell? ⟨w.heap.size + 1, 1, none⟩ = some (.int .u64 (s1 : Nat)) := (cell_of_row _ _ _ _ _ _ r).trans (U_at _ _ _ rfl)
             have c2 : W1.cell? ⟨w.heap.size + 1, 2, none⟩ = some (.int .u64 (s2 : Nat)) := (cell_of_row _ _ _ _ _ _ r).trans (U_at _ _ _ rfl)
             have c3 : W1.cell? ⟨w.heap.size + 1, 3, none⟩ = some (.int .u64 (s3 : Nat)) := (cell_of_row _ _ _ _ _ _ r).trans (U_at _ _ _ rfl)
             have c4 : W1.cell? ⟨w.heap.size + 1, 4, none⟩ = some (.int .u64 (s4 : Nat)) := (cell_of_row _ _ _ _ _ _ r).trans (U_at _ _ _ rfl)
             have c5 : W1.cell? ⟨w.heap.size + 1, 5, none⟩ = some (.int .u64 (s5 : Nat)) := (cell_of_row _ _ _ _ _ _ r).trans (U_at _ _ _ rfl)
             have c6 : W1.cell? ⟨w.heap.size + 1, 6, none⟩ = some (.int .u64 (s6 : Nat)) := (cell_of_row _ _ _ _ _ _ r).trans (U_at _ _ _ rfl)
             have c7 : W1.cell? ⟨w.heap.size + 1, 7, none⟩ = some (.int .u64 (s7 : Nat)) := (cell_of_row _ _ _ _ _ _ r).trans (U_at _ _ _ rfl))
          | (refine ⟨trivial, (CallsIn.inRound lp (callsIn_wide.2 (HM2.out _))).mono ?_⟩
             rintro e W2 ⟨rfl, hb2⟩
             have r := ((hb1.trans (hb2.mono hb1.size)).block _ (Array.getElem?_eq_some_iff.1 HR.out).1).trans HR.out
             have c0 : W2.cell? ⟨w.heap.size + 1, 0, none⟩ = some (.int .u64 (s0 : Nat)) := (cell_of_row _ _ _ _ _ _ r).trans (U_at _ _ _ rfl)
             have c1 : W2.cell? ⟨w.heap.size + 1, 1, none⟩ = some (.int .u64 (s1 : Nat)) := (cell_of_row _ _ _ _ _ _ r).trans (U_at _ _ _ rfl)
             have c2 : W2.cell? ⟨w.heap.size + 1, 2, none⟩ = some (.int .u64 (s2 : Nat)) := (cell_of_row _ _ _ _ _ _ r).trans (U_at _ _ _ rfl)
             have c3 : W2.cell? ⟨w.heap.size + 1, 3, none⟩ = some (.int .u64 (s3 : Nat)) := (cell_of_row _ _ _ _ _ _ r).trans (U_at _ _ _ rfl)
             have c4 : W2.cell? ⟨w.heap.size + 1, 4, none⟩ = some (.int .u64 (s4 : Nat)) := (cell_of_row _ _ _ _ _ _ r).trans (U_at _ _ _ rfl)
             have c5 : W2.cell? ⟨w.heap.size + 1, 5, none⟩ = some (.int .u64 (s5 : Nat)) := (cell_of_row _ _ _ _ _ _ r).trans (U_at _ _ _ rfl)
             have c6 : W2.cell? ⟨w.heap.size + 1, 6, none⟩ = some (.int .u64 (s6 : Nat)) := (cell_of_row _ _ _ _ _ _ r).trans (U_at _ _ _ rfl)
             have c7 : W2.cell? ⟨w.heap.size + 1, 7, none⟩ = some (.int .u64 (s7 : Nat)) := (cell_of_row _ _ _ _ _ _ r).trans (U_at _ _ _ rfl)
             have z0 : W2.frozen? ⟨w.heap.size + 1, 0, none⟩ = false := frozen_of_row _ _ _ _ _ r
             have z1 : W2.frozen? ⟨w.heap.size + 1, 1, none⟩ = false := frozen_of_row _ _ _ _ _ r
             have z2 : W2.frozen? ⟨w.heap.size + 1, 2, none⟩ = false := frozen_of_row _ _ _ _ _ r
             have z3 : W2.frozen? ⟨w.heap.size + 1, 3, none⟩ = false := frozen_of_row _ _ _ _ _ r
             have z4 : W2.frozen? ⟨w.heap.size + 1, 4, none⟩ = false := frozen_of_row _ _ _ _ _ r
             have z5 : W2.frozen? ⟨w.heap.size + 1, 5, none⟩ = false := frozen_of_row _ _ _ _ _ r
             have z6 : W2.frozen? ⟨w.heap.size + 1, 6, none⟩ = false := frozen_of_row _ _ _ _ _ r
             have z7 : W2.frozen? ⟨w.heap.size + 1, 7, none⟩ = false := frozen_of_row _ _ _ _ _ r))
        all_goals exact HF.out W1 W2 hb1 hb2
      case done =>
        rintro X D xs W hX hD hDX hS ⟨h1, h2, h3⟩ hK
        have hDw : w.heap.size + 1 < D := by
          rw [hsz] at hD
          omega
        obtain ⟨m0, m1, m2, m3, m4, m5, m6, m7, hm⟩ := len8 (foldS xs) (foldS_len xs)
        have HM := hide (show sketchL (shL l) = [m0, m1, m2, m3, m4, m5, m6, m7] by rw [← hS, ← foldS_eq]; exact hm)
        rw [hm] at h2
        have c0 : W.cell? ⟨w.heap.size + 1, 0, none⟩ = some (.int .u64 (m0 : Nat)) := (cell_of_row _ _ _ _ _ _ h2).trans (U_at _ _ _ rfl)
        have d0 : W.cell? ⟨w.heap.size, 0, none⟩ = some (.int .u64 (0 : Nat)) := (cell_of_row _ _ _ _ _ _ h1).trans (U_at _ _ _ rfl)
        have z0 : W.frozen? ⟨w.heap.size, 0, none⟩ = false := frozen_of_row _ _ _ _ _ h1
        have c1 : W.cell? ⟨w.heap.size + 1, 1, none⟩ = some (.int .u64 (m1 : Nat)) := (cell_of_row _ _ _ _ _ _ h2).trans (U_at _ _ _ rfl)
        have d1 : W.cell? ⟨w.heap.size, 1, none⟩ = some (.int .u64 (0 : Nat)) := (cell_of_row _ _ _ _ _ _ h1).trans (U_at _ _ _ rfl)
        have z1 : W.frozen? ⟨w.heap.size, 1, none⟩ = false := frozen_of_row _ _ _ _ _ h1
        have c2 : W.cell? ⟨w.heap.size + 1, 2, none⟩ = some (.int .u64 (m2 : Nat)) := (cell_of_row _ _ _ _ _ _ h2).trans (U_at _ _ _ rfl)
        have d2 : W.cell? ⟨w.heap.size, 2, none⟩ = some (.int .u64 (0 : Nat)) := (cell_of_row _ _ _ _ _ _ h1).trans (U_at _ _ _ rfl)
        have z2 : W.frozen? ⟨w.heap.size, 2, none⟩ = false := frozen_of_row _ _ _ _ _ h1
        have c3 : W.cell? ⟨w.heap.size + 1, 3, none⟩ = some (.int .u64 (m3 : Nat)) := (cell_of_row _ _ _ _ _ _ h2).trans (U_at _ _ _ rfl)
        have d3 : W.cell? ⟨w.heap.size, 3, none⟩ = some (.int .u64 (0 : Nat)) := (cell_of_row _ _ _ _ _ _ h1).trans (U_at _ _ _ rfl)
        have z3 : W.frozen? ⟨w.heap.size, 3, none⟩ = false := frozen_of_row _ _ _ _ _ h1
        have c4 : W.cell? ⟨w.heap.size + 1, 4, none⟩ = some (.int .u64 (m4 : Nat)) := (cell_of_row _ _ _ _ _ _ h2).trans (U_at _ _ _ rfl)
        have d4 : W.cell? ⟨w.heap.size, 4, none⟩ = some (.int .u64 (0 : Nat)) := (cell_of_row _ _ _ _ _ _ h1).trans (U_at _ _ _ rfl)
        have z4 : W.frozen? ⟨w.heap.size, 4, none⟩ = false := frozen_of_row _ _ _ _ _ h1
        have c5 : W.cell? ⟨w.heap.size + 1, 5, none⟩ = some (.int .u64 (m5 : Nat)) := (cell_of_row _ _ _ _ _ _ h2).trans (U_at _ _ _ rfl)
        have d5 : W.cell? ⟨w.heap.size, 5, none⟩ = some (.int .u64 (0 : Nat)) := (cell_of_row _ _ _ _ _ _ h1).trans (U_at _ _ _ rfl)
        have z5 : W.frozen? ⟨w.heap.size, 5, none⟩ = false := frozen_of_row _ _ _ _ _ h1
        have c6 : W.cell? ⟨w.heap.size + 1, 6, none⟩ = some (.int .u64 (m6 : Nat)) := (cell_of_row _ _ _ _ _ _ h2).trans (U_at _ _ _ rfl)
        have d6 : W.cell? ⟨w.heap.size, 6, none⟩ = some (.int .u64 (0 : Nat)) := (cell_of_row _ _ _ _ _ _ h1).trans (U_at _ _ _ rfl)
        have z6 : W.frozen? ⟨w.heap.size, 6, none⟩ = false := frozen_of_row _ _ _ _ _ h1
        have c7 : W.cell? ⟨w.heap.size + 1, 7, none⟩ = some (.int .u64 (m7 : Nat)) := (cell_of_row _ _ _ _ _ _ h2).trans (U_at _ _ _ rfl)
        have d7 : W.cell? ⟨w.heap.size, 7, none⟩ = some (.int .u64 (0 : Nat)) := (cell_of_row _ _ _ _ _ _ h1).trans (U_at _ _ _ rfl)
        have z7 : W.frozen? ⟨w.heap.size, 7, none⟩ = false := frozen_of_row _ _ _ _ _ h1
        have HX := hide (And.intro (store8 w W w.heap.size 0 0 0 0 0 0 0 0 m0 m1 m2 m3 m4 m5 m6 m7 _ (Nat.le_refl _) h1 h3) ((store8_other W w.heap.size m0 m1 m2 m3 m4 m5 m6 m7 D (by omega)).1.trans hK))
        clear h1 h2 h3 hK hm hS r4 hB3 q0 q1 hsz hA3
        gi_wp2_with fail
        obtain ⟨⟨hf, hBf⟩, kD⟩ := HX.out
        generalize ((((((((W.setCell ⟨w.heap.size, 0, none⟩ (.int .u64 (m0 : Nat))).setCell ⟨w.heap.size, 1, none⟩ (.int .u64 (m1 : Nat))).setCell ⟨w.heap.size, 2, none⟩ (.int .u64 (m2 : Nat))).setCell ⟨w.heap.size, 3, none⟩ (.int .u64 (m3 : Nat))).setCell ⟨w.heap.size, 4, none⟩ (.int .u64 (m4 : Nat))).setCell ⟨w.heap.size, 5, none⟩ (.int .u64 (m5 : Nat))).setCell ⟨w.heap.size, 6, none⟩ (.int .u64 (m6 : Nat))).setCell ⟨w.heap.size, 7, none⟩ (.int .u64 (m7 : Nat))) = W9 at hf hBf kD ⊢
        refine ⟨by simp, .inl ⟨_, _, rfl, run_takeDeferred kD, ?_⟩⟩
        have hp := (World.putObj_heap_other (w := W9) (o := .deferred none) (show w.heap.size ≠ D by omega)).trans hf
        have y0 : (W9.putObj D (.deferred none)).cell? ⟨w.heap.size, 0, none⟩ = some (.int .u64 (m0 : Nat)) := (cell_of_row _ _ _ _ _ _ hp).trans (U_at _ _ _ rfl)
        have y1 : (W9.putObj D (.deferred none)).cell? ⟨w.heap.size, 1, none⟩ = some (.int .u64 (m1 : Nat)) := (cell_of_row _ _ _ _ _ _ hp).trans (U_at _ _ _ rfl)
        have y2 : (W9.putObj D (.deferred none)).cell? ⟨w.heap.size, 2, none⟩ = some (.int .u64 (m2 : Nat)) := (cell_of_row _ _ _ _ _ _ hp).trans (U_at _ _ _ rfl)
        have y3 : (W9.putObj D (.deferred none)).cell? ⟨w.heap.size, 3, none⟩ = some (.int .u64 (m3 : Nat)) := (cell_of_row _ _ _ _ _ _ hp).trans (U_at _ _ _ rfl)
        have y4 : (W9.putObj D (.deferred none)).cell? ⟨w.heap.size, 4, none⟩ = some (.int .u64 (m4 : Nat)) := (cell_of_row _ _ _ _ _ _ hp).trans (U_at _ _ _ rfl)
        have y5 : (W9.putObj D (.deferred none)).cell? ⟨w.heap.size, 5, none⟩ = some (.int .u64 (m5 : Nat)) := (cell_of_row _ _ _ _ _ _ hp).trans (U_at _ _ _ rfl)
        have y6 : (W9.putObj D (.deferred none)).cell? ⟨w.heap.size, 6, none⟩ = some (.int .u64 (m6 : Nat)) := (cell_of_row _ _ _ _ _ _ hp).trans (U_at _ _ _ rfl)
        have y7 : (W9.putObj D (.deferred none)).cell? ⟨w.heap.size, 7, none⟩ = some (.int .u64 (m7 : Nat)) := (cell_of_row _ _ _ _ _ _ hp).trans (U_at _ _ _ rfl)
        refine ⟨.agg #[.int .u64 (m0 : Nat), .int .u64 (m1 : Nat), .int .u64 (m2 : Nat), .int .u64 (m3 : Nat), .int .u64 (m4 : Nat), .int .u64 (m5 : Nat), .int .u64 (m6 : Nat), .int .u64 (m7 : Nat)], by simp [results, Try.results11, go_sem, y0, y1, y2, y3, y4, y5, y6, y7], by rw [HM.out]; rfl, ?_⟩
        exact hBf.grown (grownBy_putObj' _ D (.deferred none)) hBf.size (fun r e => by cases e; omega)
      case stop => exact fun X D c pre W hX hD hDX hS h => h.elim
theorem of_any (A : Option Addr) (l : List UInt8) (c : Nat) (w : World) (hA : RdB w w.heap.size A l) (hc : l.length ≤ c) (hl : l.length ≤ 40000) :
    Calls Try.prog 11 #[.slice A l.length c] w fun e w' => e = .returned (.agg (U (sketchL (shL l)))) ∧ Below w.heap.size w w' :=
  callsIn_wide.1 (of_in A l c w hA hc hl)
end Go.Proofs.Ytpefcadlejcbbaa
