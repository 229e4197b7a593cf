/-
  vint's reader: Read, state, Num.
-/
import Derived.Test.YtlbhgebjmekclaaDoorVintNumber
namespace Go.Proofs.YtlbhgebjmekclaaDoor
open Go.RowKit
set_option maxRecDepth 100000

/-- A reader in block b: what is left, which lies below it, and the first error. -/
def IsR (w : World) (b : Nat) (l : List UInt8) (e : Nat) : Prop :=
  ∃ A c, w.heap[b]? = some (.cells #[.bool true, .slice A l.length c, .int .i64 e] 78 (0, 0)) ∧ l.length ≤ c ∧ RdB w b A l
theorem IsR.keep {w w' : World} {b e : Nat} {l : List UInt8} (h : IsR w b l e) (hb : Below (b + 1) w w') : IsR w' b l e := by
  obtain ⟨A, c, h1, h2, h3⟩ := h
  exact ⟨A, c, (hb.block b (by omega)).trans h1, h2, h3.below hb (by omega)⟩
theorem IsR.lt {w : World} {b e : Nat} {l : List UInt8} (h : IsR w b l e) : b < w.heap.size := by
  obtain ⟨A, c, h1, _⟩ := h
  exact (Array.getElem?_eq_some_iff.1 h1).1

theorem state_any (b e : Nat) (l : List UInt8) (w : World) (h : IsR w b l e) :
    Calls Tryd.prog 46 #[.pointer (some ⟨b, 0, none⟩)] w fun en w' => en = .returned (.int .i64 e) ∧ w' = w := by
  obtain ⟨A, c, h1, h2, h3⟩ := h
  have c0 : w.cell? ⟨b, 0, none⟩ = some (.bool true) := cell_of_row _ _ _ _ _ _ h1
  have c2 : w.cell? ⟨b, 2, none⟩ = some (.int .i64 e) := cell_of_row _ _ _ _ _ _ h1
  clear h1
  go_enter Tryd.func46, Tryd.ntmps46
  go_wp2_with fail
  refine bodyPost_ret (results_tmp rfl _ _ _) rfl ⟨rfl, rfl⟩

set_option maxHeartbeats 1000000 in
theorem read_any (A : Option Addr) (l : List UInt8) (c : Nat) (w : World) (hR : RdB w w.heap.size A l) (hc : Caps A l.length c) (hl : l.length ≤ 1000000) :
    Calls Tryd.prog 26 #[.slice A l.length c] w fun en w' => (∃ b, en = .returned (.pointer (some ⟨b, 0, none⟩)) ∧ IsR w' b l 0 ∧ w.heap.size ≤ b) ∧ Below w.heap.size w w' := by
  go_enter Tryd.func26, Tryd.ntmps26
  go_wp2_with fail
  refine (clone_any A l c w hR hc hl).mono ?_
  rintro e w1 ⟨D, d, rfl, hd, hR1, hB1⟩
  go_wp2_with fail
  refine bodyPost_ret (results_tmp rfl _ _ _) rfl ⟨⟨w1.heap.size, rfl, ⟨D, d, World.alloc_heap_new w1 _, hd.1, ?_⟩, hB1.size⟩, hB1.alloc hB1.size _⟩
  exact hR1.below ((Below.refl _ w1).alloc (Nat.le_refl _) _) (Nat.le_refl _)

/-- What a number's reading leaves: the number, what is left, the error. -/
def readN (l : List UInt8) (e most : Nat) : Nat × List UInt8 × Nat :=
  if e ≠ 0 then (0, l, e) else if (numL l).2.2 ≠ 0 then (0, l, (numL l).2.2) else if most < (numL l).1 then (0, l, 5) else ((numL l).1, l.drop (numL l).2.1, 0)

theorem numF_facts : ∀ (i a : Nat) (l : List UInt8), i ≤ 9 → a < 128 ^ i → (numF i a l).1 < 18446744073709551616 ∧ (numF i a l).2.1 ≤ i + l.length ∧ (numF i a l).2.2 ≤ 4
  | i, a, [], _, _ => by simp [numF]
  | i, a, c :: r, hi, ha => by
    by_cases hb : (i = 9 ∧ 1 < c.toNat) ∨ (0 < i ∧ c.toNat = 0)
    · rw [numF_bad _ _ _ _ hb]; simp
    · rw [numF_good _ _ _ _ hb]
      have hx := c.toNat_lt
      split
      · refine ⟨?_, by simp, by simp⟩
        show a + c.toNat % 128 * 128 ^ i < _
        have halt : a < 128 ^ 9 := Nat.lt_of_lt_of_le ha (Nat.pow_le_pow_right (by decide) hi)
        by_cases h9 : i = 9
        · subst h9
          have : c.toNat % 128 ≤ 1 := by omega
          have := Nat.mul_le_mul_right (128 ^ 9) this
          omega
        · have h1 : 128 ^ i ≤ 128 ^ 8 := Nat.pow_le_pow_right (by decide) (by omega)
          have h2 : c.toNat % 128 * 128 ^ i ≤ 127 * 128 ^ 8 := Nat.mul_le_mul (by omega) h1
          omega
      · by_cases h9 : i = 9
        · omega
        · have ih := numF_facts (i + 1) (a + c.toNat % 128 * 128 ^ i) r (by omega) (lt_next ha)
          refine ⟨ih.1, ?_, ih.2.2⟩
          have := ih.2.1
          simp; omega
theorem numL_facts (l : List UInt8) : (numL l).1 < 18446744073709551616 ∧ (numL l).2.1 ≤ l.length ∧ (numL l).2.2 ≤ 4 := by
  have := numF_facts 0 0 l (by decide) (by decide)
  simpa [numL] using this

/-- What the closure leaves. -/
def Num1 (l : List UInt8) (most bo : Nat) (w : World) (en : Ending) (w' : World) : Prop :=
  if (numL l).2.2 ≠ 0 then en = .returned (.tuple #[.int .i64 0, .int .i64 ((numL l).2.2 : Nat)]) ∧ w' = w
  else if most < (numL l).1 then en = .returned (.tuple #[.int .i64 0, .int .i64 5]) ∧ w' = w
  else en = .returned (.tuple #[.int .i64 ((numL l).2.1 : Nat), .int .i64 0]) ∧ w' = w.setCell ⟨bo, 0, none⟩ (.int .u64 ((numL l).1 : Nat))

set_option maxHeartbeats 2000000 in
theorem num1_any (A : Option Addr) (l : List UInt8) (c bm bo most : Nat) (w : World) (hR : RdB w w.heap.size A l) (hl : l.length ≤ 1000000)
    (hm : w.cell? ⟨bm, 0, none⟩ = some (.int .u64 most)) (ho : w.cell? ⟨bo, 0, none⟩ = some (.int .u64 0)) (hf : w.frozen? ⟨bo, 0, none⟩ = false) :
    Calls Tryd.prog 53 #[.slice A l.length c, .pointer (some ⟨bm, 0, none⟩), .pointer (some ⟨bo, 0, none⟩)] w (Num1 l most bo w) := by
  obtain ⟨f1, f2, f3⟩ := numL_facts l
  go_enter Tryd.func53, Tryd.ntmps53
  go_wp2_with fail
  refine (number_any A l c w hR hl).mono ?_
  obtain ⟨r, hr⟩ : ∃ r, numL l = r := ⟨_, rfl⟩
  rw [hr] at f1 f2 f3 ⊢
  have HQ := hide hr
  clear hr
  obtain ⟨n, z, er⟩ := r
  simp only at f1 f2 f3
  rintro e w1 ⟨rfl, rfl⟩
  unfold numV
  by_cases h0 : er = 0
  · have E0 : ((er : Int) == 0) = true := by rw [h0]; rfl
    have E1 : ((er : Int) != 0) = false := by rw [h0]; rfl
    have HI := hide h0
    clear h0
    by_cases hmost : (most : Int) < n
    · go_wp2_with fail
      refine bodyPost_ret (results_tmp2 rfl _ _ _) rfl ?_
      unfold Num1
      rw [HQ.out, if_neg (by rw [HI.out]; simp), if_pos (by show most < n; omega)]
      exact ⟨rfl, rfl⟩
    · go_wp2_with fail
      refine bodyPost_ret (results_tmp2 rfl _ _ _) rfl ?_
      unfold Num1
      rw [HQ.out, if_neg (by rw [HI.out]; simp), if_neg (by show ¬ most < n; omega)]
      exact ⟨rfl, rfl⟩
  · have E0 : ((er : Int) == 0) = false := by rw [beq_eq_false_iff_ne]; omega
    have E1 : ((er : Int) != 0) = true := by rw [bne_iff_ne]; omega
    have HI := hide h0
    clear h0
    go_wp2_with fail
    refine bodyPost_ret (results_tmp2 rfl _ _ _) rfl ?_
    unfold Num1
    rw [HQ.out, if_pos (by show er ≠ 0; exact HI.out)]
    exact ⟨rfl, rfl⟩

theorem isR_set (w : World) (b er : Nat) (A : Option Addr) (c : Nat) (l : List UInt8) (old : Value) (h1 : w.heap[b]? = some (.cells #[.bool true, old, .int .i64 0] 78 (0, 0))) (hc : l.length ≤ c) (hR : RdB w b A l) :
    IsR ((w.setCell ⟨b, 1, none⟩ (.slice A l.length c)).setCell ⟨b, 2, none⟩ (.int .i64 er)) b l er ∧ Below b w ((w.setCell ⟨b, 1, none⟩ (.slice A l.length c)).setCell ⟨b, 2, none⟩ (.int .i64 er)) ∧
    (∀ k, k ≠ b → ((w.setCell ⟨b, 1, none⟩ (.slice A l.length c)).setCell ⟨b, 2, none⟩ (.int .i64 er)).heap[k]? = w.heap[k]?) := by
  have hB : Below b w ((w.setCell ⟨b, 1, none⟩ (.slice A l.length c)).setCell ⟨b, 2, none⟩ (.int .i64 er)) := ((Below.refl b w).setCell (p := ⟨b, 1, none⟩) (Nat.le_refl _) _).setCell (p := ⟨b, 2, none⟩) (Nat.le_refl _) _
  refine ⟨⟨A, c, ?_, hc, hR.below hB (Nat.le_refl _)⟩, hB, fun k hk => ?_⟩
  · have e1 := heap_setCell_same w b 1 _ _ (.slice A l.length c) h1
    exact heap_setCell_same _ b 2 _ _ (.int .i64 er) e1
  · rw [Below.heap_setCell _ _ _ _ hk, Below.heap_setCell _ _ _ _ hk]

set_option maxHeartbeats 4000000 in
/-- A number read, by the closure that keeps it. -/
theorem doNum_any (b bm bo most e : Nat) (l : List UInt8) (w : World) (h : IsR w b l e) (hl : l.length ≤ 1000000)
    (hm : w.heap[bm]? = some (.cells #[.int .u64 most] 22 (0, 0))) (ho : w.heap[bo]? = some (.cells #[.int .u64 0] 22 (0, 0))) (hbm : b < bm) (hbo : bm < bo) :
    Calls Tryd.prog 52 #[.pointer (some ⟨b, 0, none⟩), .func (.func 53) #[] #[.pointer (some ⟨bm, 0, none⟩), .pointer (some ⟨bo, 0, none⟩)]] w fun en w' =>
      (∃ v, en = .returned v) ∧ w'.heap[bo]? = some (.cells #[.int .u64 ((readN l e most).1 : Nat)] 22 (0, 0)) ∧ IsR w' b (readN l e most).2.1 (readN l e most).2.2 ∧ Below b w w' ∧ (∀ k, k ≠ b → k ≠ bo → k < w.heap.size → w'.heap[k]? = w.heap[k]?) := by
  go_enter Tryd.func52, Tryd.ntmps52
  go_wp2_with fail
  refine (state_any b e l w h).mono ?_
  rintro en w1 ⟨rfl, rfl⟩
  by_cases he : e = 0
  · subst he
    obtain ⟨A, c, h1, h2, h3⟩ := h
    have hbl : b < w1.heap.size := (Array.getElem?_eq_some_iff.1 h1).1
    have c1 : w1.cell? ⟨b, 1, none⟩ = some (.slice A l.length c) := cell_of_row _ _ _ _ _ _ h1
    have cm : w1.cell? ⟨bm, 0, none⟩ = some (.int .u64 most) := cell_of_row _ _ _ _ _ _ hm
    have co : w1.cell? ⟨bo, 0, none⟩ = some (.int .u64 0) := cell_of_row _ _ _ _ _ _ ho
    have fo : w1.frozen? ⟨bo, 0, none⟩ = false := frozen_of_row _ _ _ _ _ ho
    go_wp2_with fail
    refine (num1_any A l c bm bo most w1 (h3.mono (by omega)) hl cm co fo).mono ?_
    rintro en w2 hN1
    unfold Num1 at hN1
    have c2 : w1.cell? ⟨b, 2, none⟩ = some (.int .i64 0) := cell_of_row _ _ _ _ _ _ h1
    have z1 : w1.frozen? ⟨b, 1, none⟩ = false := frozen_of_row _ _ _ _ _ h1
    have z2 : w1.frozen? ⟨b, 2, none⟩ = false := frozen_of_row _ _ _ _ _ h1
    by_cases g1 : (numL l).2.2 ≠ 0
    · rw [if_pos g1] at hN1
      obtain ⟨rfl, rfl⟩ := hN1
      have HN := hide (show readN l 0 most = (0, l, (numL l).2.2) by unfold readN; rw [if_neg (by simp), if_pos g1])
      clear g1
      generalize (numL l).2.2 = er at HN ⊢
      have HS2 := hide (isR_set _ b er A c l _ h1 h2 h3)
      by_cases hc0 : c = 0
      · subst hc0
        obtain rfl : l = [] := List.eq_nil_of_length_eq_zero (by omega)
        go_wp2_with fail
        refine bodyPost_end (v := .tuple #[]) (by simp [results, Tryd.results52, go_sem]) rfl ⟨⟨_, rfl⟩, by rw [HN.out]; exact (HS2.out.2.2 bo (by omega)).trans ho, by rw [HN.out]; exact HS2.out.1, HS2.out.2.1, fun k hk _ _ => HS2.out.2.2 k hk⟩
      · skip
        go_wp2_with fail
        refine bodyPost_end (v := .tuple #[]) (by simp [results, Tryd.results52, go_sem]) rfl ⟨⟨_, rfl⟩, by rw [HN.out]; exact (HS2.out.2.2 bo (by omega)).trans ho, by rw [HN.out]; exact HS2.out.1, HS2.out.2.1, fun k hk _ _ => HS2.out.2.2 k hk⟩
    · rw [if_neg g1] at hN1
      by_cases g2 : most < (numL l).1
      · rw [if_pos g2] at hN1
        obtain ⟨rfl, rfl⟩ := hN1
        have HN := hide (show readN l 0 most = (0, l, 5) by unfold readN; rw [if_neg (by simp), if_neg g1, if_pos g2])
        clear g1 g2
        have HS2 := hide (isR_set _ b 5 A c l _ h1 h2 h3)
        by_cases hc0 : c = 0
        · subst hc0
          obtain rfl : l = [] := List.eq_nil_of_length_eq_zero (by omega)
          go_wp2_with fail
          refine bodyPost_end (v := .tuple #[]) (by simp [results, Tryd.results52, go_sem]) rfl ⟨⟨_, rfl⟩, by rw [HN.out]; exact (HS2.out.2.2 bo (by omega)).trans ho, by rw [HN.out]; exact HS2.out.1, HS2.out.2.1, fun k hk _ _ => HS2.out.2.2 k hk⟩
        · skip
          go_wp2_with fail
          refine bodyPost_end (v := .tuple #[]) (by simp [results, Tryd.results52, go_sem]) rfl ⟨⟨_, rfl⟩, by rw [HN.out]; exact (HS2.out.2.2 bo (by omega)).trans ho, by rw [HN.out]; exact HS2.out.1, HS2.out.2.1, fun k hk _ _ => HS2.out.2.2 k hk⟩
      · rw [if_neg g2] at hN1
        obtain ⟨rfl, hw2⟩ := hN1
        have HN := hide (show readN l 0 most = ((numL l).1, l.drop (numL l).2.1, 0) by unfold readN; rw [if_neg (by simp), if_neg g1, if_neg g2])
        obtain ⟨_, f2, _⟩ := numL_facts l
        have i1 : w2.heap[b]? = some (.cells #[.bool true, .slice A l.length c, .int .i64 0] 78 (0, 0)) := by rw [hw2, Below.heap_setCell _ _ _ _ (by show b ≠ bo; omega)]; exact h1
        have i2 : w2.heap[bo]? = some (.cells #[.int .u64 ((numL l).1 : Nat)] 22 (0, 0)) := by rw [hw2]; exact heap_setCell_same _ bo 0 _ _ _ ho
        have hBw : Below b w1 w2 := by rw [hw2]; exact (Below.refl b w1).setCell (p := ⟨bo, 0, none⟩) (by show b ≤ bo; omega) _
        have i3 : ∀ k, k ≠ bo → w2.heap[k]? = w1.heap[k]? := fun k hk => by rw [hw2]; exact Below.heap_setCell _ _ _ _ hk
        have I3 := hide i3
        have hd := (h3.below hBw (Nat.le_refl _)).drop (k := (numL l).2.1) h2
        clear g1 g2 hw2 hm ho h1 cm co fo c1 c2 z1 z2 i3
        generalize (numL l).1 = n at HN i2 hd ⊢
        generalize (numL l).2.1 = z at HN f2 hd ⊢
        have c1 : w2.cell? ⟨b, 1, none⟩ = some (.slice A l.length c) := cell_of_row _ _ _ _ _ _ i1
        have c2 : w2.cell? ⟨b, 2, none⟩ = some (.int .i64 0) := cell_of_row _ _ _ _ _ _ i1
        have z1 : w2.frozen? ⟨b, 1, none⟩ = false := frozen_of_row _ _ _ _ _ i1
        have z2 : w2.frozen? ⟨b, 2, none⟩ = false := frozen_of_row _ _ _ _ _ i1
        have fi1 : (z : Int) ≤ l.length := by omega
        have fi2 : (l.length : Int) ≤ c := by omega
        have ln : (l.drop z).length = l.length - z := by simp
        have lc : (l.drop z).length ≤ c - z := by omega
        by_cases hcz : c = z
        · rw [if_pos hcz] at hd
          have HS := isR_set w2 b 0 A (c - z) (l.drop z) _ i1 lc hd
          rw [ln, show c - z = 0 by omega] at HS
          have HS2 := hide HS
          clear HS ln lc
          go_wp2_with fail
          refine bodyPost_end (v := .tuple #[]) (by simp [results, Tryd.results52, go_sem]) rfl ⟨⟨_, rfl⟩, by rw [HN.out]; exact (HS2.out.2.2 bo (by omega)).trans i2, by rw [HN.out]; exact HS2.out.1, hBw.trans HS2.out.2.1, fun k hk hk2 _ => (HS2.out.2.2 k hk).trans (I3.out k hk2)⟩
        · rw [if_neg hcz] at hd
          have HS := isR_set w2 b 0 (A.map (·.add z)) (c - z) (l.drop z) _ i1 lc hd
          rw [ln] at HS
          have HS2 := hide HS
          clear HS ln lc
          go_wp2_with fail
          refine bodyPost_end (v := .tuple #[]) (by simp [results, Tryd.results52, go_sem]) rfl ⟨⟨_, rfl⟩, by rw [HN.out]; exact (HS2.out.2.2 bo (by omega)).trans i2, by rw [HN.out]; exact HS2.out.1, hBw.trans HS2.out.2.1, fun k hk hk2 _ => (HS2.out.2.2 k hk).trans (I3.out k hk2)⟩
  · have E1 : ((e : Int) != 0) = true := by rw [bne_iff_ne]; omega
    have HN := hide (show readN l e most = (0, l, e) by unfold readN; rw [if_pos he])
    clear he
    go_wp2_with fail
    refine bodyPost_ret (v := .tuple #[]) (by simp [results, Tryd.results52, go_sem]) rfl ⟨⟨_, rfl⟩, by rw [HN.out]; exact ho, by rw [HN.out]; exact h, Below.refl _ _, fun k _ _ _ => rfl⟩

set_option maxHeartbeats 1000000 in
theorem readNum_any (b most e : Nat) (l : List UInt8) (w : World) (h : IsR w b l e) (hl : l.length ≤ 1000000) :
    Calls Tryd.prog 44 #[.pointer (some ⟨b, 0, none⟩), .int .u64 most] w fun en w' =>
      en = .returned (.int .u64 ((readN l e most).1 : Nat)) ∧ IsR w' b (readN l e most).2.1 (readN l e most).2.2 ∧ w.grownBy w' (some b) ∧ Below b w w' := by
  have hb := h.lt
  obtain ⟨w1, hw1⟩ : ∃ w1, w1 = (w.alloc (.cells #[.int .u64 most] 22)).alloc (.cells #[.int .u64 0] 22) := ⟨_, rfl⟩
  have hz : w1.heap.size = w.heap.size + 2 := by rw [hw1]; simp
  have hB : Below w.heap.size w w1 := by rw [hw1]; exact ((Below.refl _ w).alloc (Nat.le_refl _) _).alloc (by simp) _
  have r0 : w1.heap[w.heap.size]? = some (.cells #[.int .u64 most] 22 (0, 0)) := by
    rw [hw1, Below.heap_alloc _ _ _ (by simp)]
    exact World.alloc_heap_new _ _
  have r1 : w1.heap[w.heap.size + 1]? = some (.cells #[.int .u64 0] 22 (0, 0)) := by
    rw [hw1]
    have h := World.alloc_heap_new (w.alloc (.cells #[.int .u64 most] 22)) (Obj.cells #[.int .u64 0] 22)
    simp only [World.size_alloc] at h
    exact h
  have hR1 := h.keep (hB.mono (show b + 1 ≤ w.heap.size by omega))
  go_enter Tryd.func44, Tryd.ntmps44
  go_wp2_with fail
  rw [← hw1]
  have hd := doNum_any b w.heap.size (w.heap.size + 1) most e l w1 hR1 hl r0 r1 hb (by omega)
  have HZ := hide hz
  clear hw1 hz r0 r1
  refine hd.mono ?_
  rintro en w2 ⟨⟨v, rfl⟩, h2, h3, h4, h5⟩
  have c2 : w2.cell? ⟨w.heap.size + 1, 0, none⟩ = some (.int .u64 ((readN l e most).1 : Nat)) := cell_of_row _ _ _ _ _ _ h2
  go_wp2_with fail
  refine bodyPost_ret (results_tmp rfl _ _ _) rfl ⟨rfl, h3, ⟨h4.os.trans hB.os, h4.tape.trans hB.tape, h4.output.trans hB.output, Nat.le_trans hB.size h4.size, fun k hk hkb => ?_⟩, (hB.mono (by omega)).trans h4⟩
  exact (h5 k (fun e => hkb (by rw [e])) (by omega) (by rw [HZ.out]; omega)).trans (hB.block k hk)
/-- The first error, else whether bytes are left. -/
def endN (e : Nat) (l : List UInt8) : Nat := if e ≠ 0 then e else if l.length = 0 then 0 else 5
theorem end_any (b e : Nat) (l : List UInt8) (w : World) (h : IsR w b l e) (hl : l.length ≤ 1000000) :
    Calls Tryd.prog 28 #[.pointer (some ⟨b, 0, none⟩)] w fun en w' => en = .returned (.int .i64 ((endN e l : Nat) : Int)) ∧ w' = w := by
  have h0 := h
  obtain ⟨A, c, h1, h2, h3⟩ := h
  have c1 : w.cell? ⟨b, 1, none⟩ = some (.slice A l.length c) := cell_of_row _ _ _ _ _ _ h1
  clear h1
  have hli : (l.length : Int) ≤ 1000000 := by omega
  go_enter Tryd.func28, Tryd.ntmps28
  go_wp2_with fail
  refine (state_any b e l w h0).mono ?_
  rintro en w1 ⟨rfl, rfl⟩
  by_cases he : e = 0
  · have E1 : ((e : Int) != 0) = false := by rw [he]; rfl
    have HE := hide he
    clear he
    by_cases hl0 : (0 : Int) < l.length
    · go_wp2_with fail
      refine bodyPost_ret (results_tmp rfl _ _ _) rfl ⟨by unfold endN; rw [if_neg (by rw [HE.out]; simp), if_neg (by omega)]; rfl, rfl⟩
    · go_wp2_with fail
      refine bodyPost_ret (results_tmp rfl _ _ _) rfl ⟨by unfold endN; rw [if_neg (by rw [HE.out]; simp), if_pos (by omega)]; rfl, rfl⟩
  · have E1 : ((e : Int) != 0) = true := by rw [bne_iff_ne]; omega
    have HE := hide he
    clear he
    go_wp2_with fail
    refine bodyPost_ret (results_tmp rfl _ _ _) rfl ⟨by unfold endN; rw [if_pos HE.out]; rfl, rfl⟩
end Go.Proofs.YtlbhgebjmekclaaDoor
