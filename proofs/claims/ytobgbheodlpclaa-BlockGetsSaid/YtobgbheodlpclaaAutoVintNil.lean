/-
  Texts that belong together: VintReadSum, VintNil.
-/
import Derived.Test.YtobgbheodlpclaaAutoVintText
import Derived.StillTailTactics
/-
  vint's reader: Sum.
-/
namespace Go.Proofs.Ytobgbheodlpclaa
open Go.RowKit
set_option maxRecDepth 100000

set_option maxHeartbeats 1000000 in
theorem sum1_short (A : Option Addr) (l : List UInt8) (c : Nat) (q : Value) (w : World) (hn : l.length < 16) :
    Calls Try.prog 147 #[.slice A l.length c, q] w fun en w' => en = .returned (.tuple #[.int .i64 ((0 : Nat) : Int), .int .i64 ((4 : Nat) : Int)]) ∧ w' = w := by
  have hn2 : (l.length : Int) < 16 := by omega
  go_enter Try.func147, Try.ntmps147
  go_wp2_with fail
  refine bodyPost_ret (results_tmp2 rfl _ _ _) rfl ⟨rfl, rfl⟩
/-- The world behind the two halves' stores. -/
def sumW (w : World) (bo hi lo : Nat) : World := (((w.drew.setCell ⟨bo, 0, none⟩ (.int .u64 0)).setCell ⟨bo, 1, none⟩ (.int .u64 0)).setCell ⟨bo, 0, none⟩ (.int .u64 hi)).setCell ⟨bo, 1, none⟩ (.int .u64 lo)
theorem sumW_facts (w : World) (bo hi lo : Nat) (ho : w.heap[bo]? = some (.cells #[.int .u64 0, .int .u64 0] 28 (0, 0))) :
    Below bo w (sumW w bo hi lo) ∧ (∀ k, k ≠ bo → (sumW w bo hi lo).heap[k]? = w.heap[k]?) ∧ (sumW w bo hi lo).heap[bo]? = some (.cells #[.int .u64 hi, .int .u64 lo] 28 (0, 0)) := by
  have ho2 : w.drew.heap[bo]? = some (.cells #[.int .u64 0, .int .u64 0] 28 (0, 0)) := ho
  have hB : Below bo w w.drew := ⟨rfl, rfl, rfl, Nat.le_refl _, fun _ _ => rfl⟩
  have hK : ∀ k : Nat, w.drew.heap[k]? = w.heap[k]? := fun _ => rfl
  unfold sumW
  generalize w.drew = wq at ho2 hB hK ⊢
  refine ⟨?_, ?_, ?_⟩
  · exact (((hB.setCell (p := ⟨bo, 0, none⟩) (Nat.le_refl _) _).setCell (p := ⟨bo, 1, none⟩) (Nat.le_refl _) _).setCell (p := ⟨bo, 0, none⟩) (Nat.le_refl _) _).setCell (p := ⟨bo, 1, none⟩) (Nat.le_refl _) _
  · intro k hk
    rw [Below.heap_setCell _ _ _ _ hk, Below.heap_setCell _ _ _ _ hk, Below.heap_setCell _ _ _ _ hk, Below.heap_setCell _ _ _ _ hk]
    exact hK k
  · exact heap_setCell_same _ bo 1 _ _ _ (heap_setCell_same _ bo 0 _ _ _ (heap_setCell_same _ bo 1 _ _ _ (heap_setCell_same wq bo 0 _ _ _ ho2)))
set_option maxHeartbeats 4000000 in
theorem sum1_ok (A : Option Addr) (l : List UInt8) (c bo : Nat) (w : World) (hR : RdB w w.heap.size A l) (hc : l.length ≤ c) (hm : l.length ≤ 1000000) (ho : w.heap[bo]? = some (.cells #[.int .u64 0, .int .u64 0] 28 (0, 0))) (hn : 16 ≤ l.length) :
    Calls Try.prog 147 #[.slice A l.length c, .pointer (some ⟨bo, 0, none⟩)] w fun en w' => en = .returned (.tuple #[.int .i64 ((16 : Nat) : Int), .int .i64 ((0 : Nat) : Int)]) ∧ w' = sumW w bo (halfN l) (halfN (l.drop 8)) := by
  have hn2 : (16 : Int) ≤ l.length := by omega
  have hn3 : (16 : Int) ≤ c := by omega
  have hlc : (l.length : Int) ≤ c := by omega
  have q0 : w.cell? ⟨bo, 0, none⟩ = some (.int .u64 0) := cell_of_row _ _ _ _ _ _ ho
  have q1 : w.cell? ⟨bo, 1, none⟩ = some (.int .u64 0) := cell_of_row _ _ _ _ _ _ ho
  have q2 : w.frozen? ⟨bo, 0, none⟩ = false := frozen_of_row _ _ _ _ _ ho
  have q3 : w.frozen? ⟨bo, 1, none⟩ = false := frozen_of_row _ _ _ _ _ ho
  have hn4 : (8 : Int) ≤ l.length := by omega
  have hn5 : ¬ c = 8 := by omega
  have hd := hR.drop (k := 8) hc
  rw [if_neg (by omega), show (fun x : Addr => x.add 8) = (fun x => ⟨x.block, x.off + 8, none⟩) from rfl] at hd
  have H1 := hide (readHalf_any A l l.length c w.heap.size w.drew (show RdB w.drew w.heap.size A l from hR) (by omega) rfl hm)
  have H2 := hide (readHalf_any (A.map (fun x => ⟨x.block, x.off + 8, none⟩)) (l.drop 8) (l.length - 8) (c - 8) w.heap.size w.drew (show RdB w.drew w.heap.size (A.map (fun x => ⟨x.block, x.off + 8, none⟩)) (l.drop 8) from hd) (by simp; omega) (by simp) (by simp; omega))
  go_enter Try.func147, Try.ntmps147
  go_wp2_with fail
  go_still_tail 5, (by kernel_rfl)
  still_call H1.out
  repeat still_step
  still_call H2.out
  try refine wpStill_nil ?_
  change wpList _ _ _ _ _ w.drew
  have ho2 : w.drew.heap[bo]? = some (.cells #[.int .u64 0, .int .u64 0] 28 (0, 0)) := ho
  have HW := hide (show sumW w bo (halfN l) (halfN (l.drop 8)) = (((w.drew.setCell ⟨bo, 0, none⟩ (.int .u64 0)).setCell ⟨bo, 1, none⟩ (.int .u64 0)).setCell ⟨bo, 0, none⟩ (.int .u64 (halfN l : Nat))).setCell ⟨bo, 1, none⟩ (.int .u64 (halfN (l.drop 8) : Nat)) from rfl)
  clear q0 q1 q2 q3 ho H1 H2 hd hR
  generalize w.drew = wq at ho2 HW ⊢
  have q0 : wq.cell? ⟨bo, 0, none⟩ = some (.int .u64 0) := cell_of_row _ _ _ _ _ _ ho2
  have q1 : wq.cell? ⟨bo, 1, none⟩ = some (.int .u64 0) := cell_of_row _ _ _ _ _ _ ho2
  have q2 : wq.frozen? ⟨bo, 0, none⟩ = false := frozen_of_row _ _ _ _ _ ho2
  have q3 : wq.frozen? ⟨bo, 1, none⟩ = false := frozen_of_row _ _ _ _ _ ho2
  go_wp2_with fail
  refine bodyPost_ret (results_tmp2 rfl _ _ _) rfl ⟨rfl, HW.out.symm⟩

/-- What a sum's reading leaves: its halves, what is left, the error. -/
def readS (l : List UInt8) (e : Nat) : (Nat × Nat) × List UInt8 × Nat :=
  if e ≠ 0 then ((0, 0), l, e) else if l.length < 16 then ((0, 0), l, 4) else ((halfN l, halfN (l.drop 8)), l.drop 16, 0)
/-- A sum, as a value. -/
def sumV (p : Nat × Nat) : Value := .agg #[.int .u64 (p.1 : Nat), .int .u64 (p.2 : Nat)]
set_option maxHeartbeats 2000000 in
theorem readSum_any (b e : Nat) (l : List UInt8) (w : World) (h : IsR w b l e) (hl : l.length ≤ 1000000) :
    Calls Try.prog 135 #[.pointer (some ⟨b, 0, none⟩)] w fun en w' =>
      en = .returned (sumV (readS l e).1) ∧ IsR w' b (readS l e).2.1 (readS l e).2.2 ∧ w.grownBy w' (some b) ∧ Below b w w' := by
  have hb1 := h.lt
  have hB : Below w.heap.size w ((w.alloc (.cells #[.int .u64 0, .int .u64 0] 28)).alloc (.cells #[.int .u64 0, .int .u64 0] 28)) := ((Below.refl _ w).alloc (Nat.le_refl _) _).alloc (by simp) _
  have r0 : ((w.alloc (.cells #[.int .u64 0, .int .u64 0] 28)).alloc (.cells #[.int .u64 0, .int .u64 0] 28)).heap[w.heap.size]? = some (.cells #[.int .u64 0, .int .u64 0] 28 (0, 0)) := by
    rw [Below.heap_alloc _ _ _ (by simp)]
    exact World.alloc_heap_new _ _
  have r1 : ((w.alloc (.cells #[.int .u64 0, .int .u64 0] 28)).alloc (.cells #[.int .u64 0, .int .u64 0] 28)).heap[w.heap.size + 1]? = some (.cells #[.int .u64 0, .int .u64 0] 28 (0, 0)) := by
    have h := World.alloc_heap_new (w.alloc (.cells #[.int .u64 0, .int .u64 0] 28)) (Obj.cells #[.int .u64 0, .int .u64 0] 28)
    simp only [World.size_alloc] at h
    exact h
  have hz : ((w.alloc (.cells #[.int .u64 0, .int .u64 0] 28)).alloc (.cells #[.int .u64 0, .int .u64 0] 28)).heap.size = w.heap.size + 2 := by simp
  go_enter Try.func135, Try.ntmps135
  go_wp2_with fail
  generalize ((w.alloc (.cells #[.int .u64 0, .int .u64 0] 28)).alloc (.cells #[.int .u64 0, .int .u64 0] 28)) = w2 at hB r0 r1 hz ⊢
  have hR1 := h.keep (hB.mono (show b + 1 ≤ w.heap.size by omega))
  have hB0 := hB.mono (show b ≤ w.heap.size by omega)
  have hG0 : w.grownBy w (some b) := World.grownBy.refl w _
  have hF : ∃ w4, Below w.heap.size w2 w4 ∧ Calls Try.prog 136 #[.pointer (some ⟨b, 0, none⟩), .func (.func 147) #[] #[.pointer (some ⟨w.heap.size + 1, 0, none⟩)]] w2 fun en w' =>
      (∃ v, en = .returned v) ∧ IsR w' b (readS l e).2.1 (readS l e).2.2 ∧ Below b w4 w' ∧ (∀ k, k ≠ b → w'.heap[k]? = w4.heap[k]?) ∧
        w4.heap[w.heap.size]? = some (.cells #[.int .u64 0, .int .u64 0] 28 (0, 0)) ∧ w4.heap[w.heap.size + 1]? = some (.cells #[.int .u64 ((readS l e).1.1 : Nat), .int .u64 ((readS l e).1.2 : Nat)] 28 (0, 0)) := by
    by_cases he : e = 0
    · subst he
      by_cases hs : l.length < 16
      · have HN : readS l 0 = ((0, 0), l, 4) := by unfold readS; rw [if_neg (by simp), if_pos hs]
        refine ⟨w2, Below.refl _ _, (doSum_ok b 0 4 l w2 w2 _ hR1 (Nat.zero_le _) rfl (Below.refl _ _) (fun A c _ _ => sum1_short A l c _ w2 hs)).mono ?_⟩
        rintro en w3 ⟨g0, g1, g2, g3⟩
        rw [HN]
        exact ⟨g0, g1, g2, g3, r0, r1⟩
      · have HN : readS l 0 = ((halfN l, halfN (l.drop 8)), l.drop 16, 0) := by unfold readS; rw [if_neg (by simp), if_neg hs]
        obtain ⟨f1, f2, f3⟩ := sumW_facts w2 (w.heap.size + 1) (halfN l) (halfN (l.drop 8)) r1
        refine ⟨sumW w2 (w.heap.size + 1) (halfN l) (halfN (l.drop 8)), f1.mono (by omega), (doSum_ok b 16 0 l w2 _ _ hR1 (by omega) (f2 b (by omega)) (f1.mono (by omega)) (fun A c hc hR => sum1_ok A l c (w.heap.size + 1) w2 (hR.mono (by omega)) hc hl r1 (by omega))).mono ?_⟩
        rintro en w3 ⟨g0, g1, g2, g3⟩
        rw [HN]
        exact ⟨g0, g1, g2, g3, (f2 _ (by omega)).trans r0, f3⟩
    · have HN : readS l e = ((0, 0), l, e) := by unfold readS; rw [if_pos he]
      refine ⟨w2, Below.refl _ _, (do_err b e l w2 _ hR1 he).mono ?_⟩
      rintro en w3 ⟨g0, rfl⟩
      rw [HN]
      exact ⟨g0, hR1, Below.refl _ _, fun _ _ => rfl, r0, r1⟩
  obtain ⟨w4, hB4, hcall⟩ := hF
  refine hcall.mono ?_
  clear hcall
  rintro en w3 ⟨⟨v, rfl⟩, g1, g2, g3, g4, g5⟩
  have HG := hide (grown_do hG0 (hB.trans hB4) g2 g3)
  have hBB := hide ((hB0.trans (hB4.mono (by omega))).trans g2)
  have i0 := (g3 w.heap.size (by omega)).trans g4
  have i1 := (g3 (w.heap.size + 1) (by omega)).trans g5
  have c0 : w3.cell? ⟨w.heap.size + 1, 0, none⟩ = some (.int .u64 ((readS l e).1.1 : Nat)) := cell_of_row _ _ _ _ _ _ i1
  have c1 : w3.cell? ⟨w.heap.size + 1, 1, none⟩ = some (.int .u64 ((readS l e).1.2 : Nat)) := cell_of_row _ _ _ _ _ _ i1
  have d0 : w3.cell? ⟨w.heap.size, 0, none⟩ = some (.int .u64 0) := cell_of_row _ _ _ _ _ _ i0
  have d1 : w3.cell? ⟨w.heap.size, 1, none⟩ = some (.int .u64 0) := cell_of_row _ _ _ _ _ _ i0
  have z0 : w3.frozen? ⟨w.heap.size, 0, none⟩ = false := frozen_of_row _ _ _ _ _ i0
  have z1 : w3.frozen? ⟨w.heap.size, 1, none⟩ = false := frozen_of_row _ _ _ _ _ i0
  have I0 := hide i0
  clear i0 i1 g2 g3 g4 g5 hB hB4 r0 r1 hR1 hB0 hG0
  go_wp2_with fail
  have hBw : Below w.heap.size w3 ((w3.setCell ⟨w.heap.size, 0, none⟩ (.int .u64 ((readS l e).1.1 : Nat))).setCell ⟨w.heap.size, 1, none⟩ (.int .u64 ((readS l e).1.2 : Nat))) := ((Below.refl _ w3).setCell (p := ⟨w.heap.size, 0, none⟩) (Nat.le_refl _) _).setCell (p := ⟨w.heap.size, 1, none⟩) (Nat.le_refl _) _
  have hfin := heap_setCell_same _ w.heap.size 1 _ _ (.int .u64 ((readS l e).1.2 : Nat)) (heap_setCell_same w3 w.heap.size 0 _ _ (.int .u64 ((readS l e).1.1 : Nat)) I0.out)
  generalize ((w3.setCell ⟨w.heap.size, 0, none⟩ (.int .u64 ((readS l e).1.1 : Nat))).setCell ⟨w.heap.size, 1, none⟩ (.int .u64 ((readS l e).1.2 : Nat))) = w5 at hBw hfin ⊢
  have y0 : w5.cell? ⟨w.heap.size, 0, none⟩ = some (.int .u64 ((readS l e).1.1 : Nat)) := cell_of_row _ _ _ _ _ _ hfin
  have y1 : w5.cell? ⟨w.heap.size, 1, none⟩ = some (.int .u64 ((readS l e).1.2 : Nat)) := cell_of_row _ _ _ _ _ _ hfin
  refine bodyPost_ret (v := sumV (readS l e).1) (by simp [results, Try.results135, go_sem, y0, y1, sumV]) rfl ⟨rfl, g1.keep (hBw.mono (by omega)), ?_, hBB.out.trans (hBw.mono (by omega))⟩
  exact ⟨hBw.os.trans HG.out.os, hBw.tape.trans HG.out.tape, hBw.output.trans HG.out.output, Nat.le_trans HG.out.size hBw.size, fun k hk hkb => (hBw.block k hk).trans (HG.out.block k hk hkb)⟩
end Go.Proofs.Ytobgbheodlpclaa
/-
  vint's reader that nobody made.
-/
namespace Go.Proofs.Ytobgbheodlpclaa
open Go.RowKit
set_option maxRecDepth 100000

theorem nil_state (w : World) : Calls Try.prog 112 #[.pointer none] w fun en w' => en = .returned (.int .i64 1) ∧ w' = w := by
  go_enter Try.func112, Try.ntmps112
  go_wp2_with fail
  refine bodyPost_ret (results_tmp rfl _ _ _) rfl ⟨rfl, rfl⟩
theorem nil_do (w : World) (fv : Value) : Calls Try.prog 136 #[.pointer none, fv] w fun en w' => (∃ v, en = .returned v) ∧ w' = w := by
  go_enter Try.func136, Try.ntmps136
  go_wp2_with fail
  refine (nil_state w).mono ?_
  rintro en w1 ⟨rfl, rfl⟩
  go_wp2_with fail
  refine bodyPost_ret (v := .tuple #[]) (by simp [results, Try.results136, go_sem]) rfl ⟨⟨_, rfl⟩, rfl⟩
theorem nil_left (w : World) : Calls Try.prog 87 #[.pointer none] w fun en w' => en = .returned (.int .i64 0) ∧ Below w.heap.size w w' := by
  go_enter Try.func87, Try.ntmps87
  go_wp2_with fail
  refine (nil_state w).mono ?_
  rintro en w1 ⟨rfl, rfl⟩
  go_wp2_with fail
  refine bodyPost_ret (results_tmp rfl _ _ _) rfl ⟨rfl, Below.refl _ _⟩
theorem nil_end (w : World) : Calls Try.prog 80 #[.pointer none] w fun en w' => en = .returned (.int .i64 1) ∧ Below w.heap.size w w' := by
  go_enter Try.func80, Try.ntmps80
  go_wp2_with fail
  refine (nil_state w).mono ?_
  rintro en w1 ⟨rfl, rfl⟩
  go_wp2_with fail
  refine bodyPost_ret (results_tmp rfl _ _ _) rfl ⟨rfl, Below.refl _ _⟩
set_option maxHeartbeats 1000000 in
theorem nil_num (w : World) (m : Int) : Calls Try.prog 134 #[.pointer none, .int .u64 m] w fun en w' => en = .returned (.int .u64 0) ∧ Below w.heap.size w w' := by
  have hB : Below w.heap.size w ((w.alloc (.cells #[.int .u64 m] 26)).alloc (.cells #[.int .u64 0] 26)) := ((Below.refl _ w).alloc (Nat.le_refl _) _).alloc (by simp) _
  have r1 : ((w.alloc (.cells #[.int .u64 m] 26)).alloc (.cells #[.int .u64 0] 26)).heap[w.heap.size + 1]? = some (.cells #[.int .u64 0] 26 (0, 0)) := by
    have h := World.alloc_heap_new (w.alloc (.cells #[.int .u64 m] 26)) (Obj.cells #[.int .u64 0] 26)
    simp only [World.size_alloc] at h
    exact h
  go_enter Try.func134, Try.ntmps134
  go_wp2_with fail
  generalize ((w.alloc (.cells #[.int .u64 m] 26)).alloc (.cells #[.int .u64 0] 26)) = w2 at hB r1 ⊢
  refine (nil_do w2 _).mono ?_
  rintro en w1 ⟨⟨v, rfl⟩, rfl⟩
  have c2 : w1.cell? ⟨w.heap.size + 1, 0, none⟩ = some (.int .u64 0) := cell_of_row _ _ _ _ _ _ r1
  go_wp2_with fail
  refine bodyPost_ret (results_tmp rfl _ _ _) rfl ⟨rfl, hB⟩
theorem nil_int (w : World) (m : Int) (hm : 0 ≤ m) (hm2 : m ≤ 9223372036854775807) : Calls Try.prog 110 #[.pointer none, .int .i64 m] w fun en w' => en = .returned (.int .i64 0) ∧ Below w.heap.size w w' := by
  go_enter Try.func110, Try.ntmps110
  go_wp2_with fail
  refine (nil_num w _).mono ?_
  rintro en w1 ⟨rfl, hB⟩
  go_wp2_with fail
  refine bodyPost_ret (results_tmp rfl _ _ _) rfl ⟨rfl, hB⟩
set_option maxHeartbeats 1000000 in
theorem nil_text (w : World) (m : Int) (hm : 0 ≤ m) (hm2 : m ≤ 9223372036854775807) : Calls Try.prog 115 #[.pointer none, .int .i64 m] w fun en w' => en = .returned (.string ⟨#[]⟩) ∧ Below w.heap.size w w' := by
  go_enter Try.func115, Try.ntmps115
  go_wp2_with fail
  refine (nil_int w m hm hm2).mono ?_
  rintro en w1 ⟨rfl, hB1⟩
  go_wp2_with fail
  have hB : Below w1.heap.size w1 ((w1.alloc (.cells #[.int .i64 0] 3)).alloc (.cells #[.string ⟨#[]⟩] 9)) := ((Below.refl _ w1).alloc (Nat.le_refl _) _).alloc (by simp) _
  have r1 : ((w1.alloc (.cells #[.int .i64 0] 3)).alloc (.cells #[.string ⟨#[]⟩] 9)).heap[w1.heap.size + 1]? = some (.cells #[.string ⟨#[]⟩] 9 (0, 0)) := by
    have h := World.alloc_heap_new (w1.alloc (.cells #[.int .i64 0] 3)) (Obj.cells #[.string ⟨#[]⟩] 9)
    simp only [World.size_alloc] at h
    exact h
  generalize ((w1.alloc (.cells #[.int .i64 0] 3)).alloc (.cells #[.string ⟨#[]⟩] 9)) = w2 at hB r1 ⊢
  refine (nil_do w2 _).mono ?_
  rintro en w3 ⟨⟨v, rfl⟩, rfl⟩
  have c2 : w3.cell? ⟨w1.heap.size + 1, 0, none⟩ = some (.string ⟨#[]⟩) := cell_of_row _ _ _ _ _ _ r1
  go_wp2_with fail
  refine bodyPost_ret (results_tmp rfl _ _ _) rfl ⟨rfl, hB1.trans (hB.mono hB1.size)⟩
set_option maxHeartbeats 1000000 in
theorem nil_sum (w : World) : Calls Try.prog 135 #[.pointer none] w fun en w' => en = .returned (.agg #[.int .u64 0, .int .u64 0]) ∧ Below w.heap.size w w' := by
  have hB : Below w.heap.size w ((w.alloc (.cells #[.int .u64 0, .int .u64 0] 28)).alloc (.cells #[.int .u64 0, .int .u64 0] 28)) := ((Below.refl _ w).alloc (Nat.le_refl _) _).alloc (by simp) _
  have r0 : ((w.alloc (.cells #[.int .u64 0, .int .u64 0] 28)).alloc (.cells #[.int .u64 0, .int .u64 0] 28)).heap[w.heap.size]? = some (.cells #[.int .u64 0, .int .u64 0] 28 (0, 0)) := by
    rw [Below.heap_alloc _ _ _ (by simp)]
    exact World.alloc_heap_new _ _
  have r1 : ((w.alloc (.cells #[.int .u64 0, .int .u64 0] 28)).alloc (.cells #[.int .u64 0, .int .u64 0] 28)).heap[w.heap.size + 1]? = some (.cells #[.int .u64 0, .int .u64 0] 28 (0, 0)) := by
    have h := World.alloc_heap_new (w.alloc (.cells #[.int .u64 0, .int .u64 0] 28)) (Obj.cells #[.int .u64 0, .int .u64 0] 28)
    simp only [World.size_alloc] at h
    exact h
  go_enter Try.func135, Try.ntmps135
  go_wp2_with fail
  generalize ((w.alloc (.cells #[.int .u64 0, .int .u64 0] 28)).alloc (.cells #[.int .u64 0, .int .u64 0] 28)) = w2 at hB r0 r1 ⊢
  refine (nil_do w2 _).mono ?_
  rintro en w3 ⟨⟨v, rfl⟩, rfl⟩
  have c0 : w3.cell? ⟨w.heap.size + 1, 0, none⟩ = some (.int .u64 0) := cell_of_row _ _ _ _ _ _ r1
  have c1 : w3.cell? ⟨w.heap.size + 1, 1, none⟩ = some (.int .u64 0) := cell_of_row _ _ _ _ _ _ r1
  have d0 : w3.cell? ⟨w.heap.size, 0, none⟩ = some (.int .u64 0) := cell_of_row _ _ _ _ _ _ r0
  have d1 : w3.cell? ⟨w.heap.size, 1, none⟩ = some (.int .u64 0) := cell_of_row _ _ _ _ _ _ r0
  have z0 : w3.frozen? ⟨w.heap.size, 0, none⟩ = false := frozen_of_row _ _ _ _ _ r0
  have z1 : w3.frozen? ⟨w.heap.size, 1, none⟩ = false := frozen_of_row _ _ _ _ _ r0
  have I0 := hide r0
  clear r0 r1
  go_wp2_with fail
  have hBw : Below w.heap.size w3 ((w3.setCell ⟨w.heap.size, 0, none⟩ (.int .u64 0)).setCell ⟨w.heap.size, 1, none⟩ (.int .u64 0)) := ((Below.refl _ w3).setCell (p := ⟨w.heap.size, 0, none⟩) (Nat.le_refl _) _).setCell (p := ⟨w.heap.size, 1, none⟩) (Nat.le_refl _) _
  have hfin := heap_setCell_same _ w.heap.size 1 _ _ (.int .u64 0) (heap_setCell_same w3 w.heap.size 0 _ _ (.int .u64 0) I0.out)
  generalize ((w3.setCell ⟨w.heap.size, 0, none⟩ (.int .u64 0)).setCell ⟨w.heap.size, 1, none⟩ (.int .u64 0)) = w5 at hBw hfin ⊢
  have y0 : w5.cell? ⟨w.heap.size, 0, none⟩ = some (.int .u64 0) := cell_of_row _ _ _ _ _ _ hfin
  have y1 : w5.cell? ⟨w.heap.size, 1, none⟩ = some (.int .u64 0) := cell_of_row _ _ _ _ _ _ hfin
  refine bodyPost_ret (v := .agg #[.int .u64 0, .int .u64 0]) (by simp [results, Try.results135, go_sem, y0, y1]) rfl ⟨rfl, hB.trans hBw⟩
end Go.Proofs.Ytobgbheodlpclaa
