/-
  MixRounds's law.
-/
import Derived.Test.YtffhkdbdcpobbaaMixPub
import Derived.Test.YtffhkdbdcpobbaaMixRef
import Derived.Deep.RegionHeld3
import Derived.Lib.SliceRun
namespace Go.Proofs.Ytffhkdbdcpobbaa
open Go.RowKit
set_option maxRecDepth 100000

theorem cells_keep {W w1 w2 : World} {a b g : Nat} {x0 x1 y0 y1 z0 z1 : Value}
    (h : w1.cell? ⟨a, 0, none⟩ = some x0 ∧ w1.cell? ⟨a, 1, none⟩ = some x1 ∧ w1.cell? ⟨b, 0, none⟩ = some y0 ∧ w1.cell? ⟨b, 1, none⟩ = some y1 ∧ w1.cell? ⟨g, 0, none⟩ = some z0 ∧ w1.cell? ⟨g, 1, none⟩ = some z1 ∧ Below W.heap.size W w1)
    (hb : Below w1.heap.size w1 w2) :
    w2.cell? ⟨a, 0, none⟩ = some x0 ∧ w2.cell? ⟨a, 1, none⟩ = some x1 ∧ w2.cell? ⟨b, 0, none⟩ = some y0 ∧ w2.cell? ⟨b, 1, none⟩ = some y1 ∧ w2.cell? ⟨g, 0, none⟩ = some z0 ∧ w2.cell? ⟨g, 1, none⟩ = some z1 ∧ Below W.heap.size W w2 := by
  obtain ⟨h1, h2, h3, h4, h5, h6, h7⟩ := h
  exact ⟨(hb.cell (cell_lt h1)).trans h1, (hb.cell (cell_lt h2)).trans h2, (hb.cell (cell_lt h3)).trans h3, (hb.cell (cell_lt h4)).trans h4, (hb.cell (cell_lt h5)).trans h5, (hb.cell (cell_lt h6)).trans h6, h7.trans (hb.mono h7.size)⟩
theorem stV_eq (p : Nat × Nat) : stV p = .agg #[.int .u64 (p.1 : Nat), .int .u64 (p.2 : Nat)] := rfl

set_option maxHeartbeats 4000000 in
theorem rounds_law (hA : ∀ w, Calls Try.prog 21 #[] w fun e w' => e = .returned (.bool true) ∧ Below w.heap.size w w') (p t : Nat × Nat) (v u : Nat) (w : World) (hp : Two p) (ht : Two t) (hv : v < 18446744073709551616) (hu : u < 18446744073709551616) :
    Calls Try.prog 6 #[stV p, stV t, .agg #[.int .u64 v, .int .u64 u]] w fun e w' => e = .returned (.bool true) ∧ Below w.heap.size w w' := by
  obtain ⟨q, hq⟩ : ∃ q, q = roundN p u := ⟨_, rfl⟩
  obtain ⟨t2, ht2⟩ : ∃ t2, t2 = backN t u := ⟨_, rfl⟩
  obtain ⟨pv, hpv⟩ : ∃ pv, pv = roundN p v := ⟨_, rfl⟩
  obtain ⟨tu, htu⟩ : ∃ tu, tu = roundN t u := ⟨_, rfl⟩
  have q1 : backN q u = p := by rw [hq]; exact back_round p u hp hu
  have q2 : roundN t2 u = t := by rw [ht2]; exact round_back t u ht hu
  have hq2 : Two q := by rw [hq]; exact roundN_two _ _
  have ht22 : Two t2 := by rw [ht2]; exact backN_two _ _ hu
  have C1 := fun W => mixRound_any p u W hp hu
  have C2 := fun W => refRound_any p u W hp hu
  have C3 := fun W => mixBack_any q u W hq2 hu
  have C4 := fun W => mixBack_any t u W ht hu
  have C5 := fun W => mixRound_any t2 u W ht22 hu
  have C6 := fun W => mixStart_any W
  have C7 := fun W => refStart_any W
  have C8 := fun W => mixRound_any p v W hp hv
  have C9 := fun W => mixRound_any t u W ht hu
  rw [← hq] at C1 C2
  rw [q1] at C3
  rw [← ht2] at C4
  rw [q2] at C5
  rw [← hpv] at C8
  rw [← htu] at C9
  generalize startN = st at C6 C7
  simp only [stV_eq] at C1 C2 C3 C4 C5 C6 C7 C8 C9 ⊢
  -- what the law compares
  have HV : (pv = q ↔ v = u) := by
    rw [hpv, hq]
    exact ⟨fun h => round_word_inj p v u hv hu h, fun h => by rw [h]⟩
  have HT : (tu = q ↔ p = t) := by
    rw [htu, hq]
    exact ⟨fun h => (round_inj t p u ht hp hu h).symm, fun h => by rw [h]⟩
  obtain ⟨r0, r1, hB1⟩ := two_rows w #[.int .u64 (p.1 : Nat), .int .u64 (p.2 : Nat)] #[.int .u64 (t.1 : Nat), .int .u64 (t.2 : Nat)] 43 43
  have r2 := World.alloc_heap_new ((w.alloc (.cells #[.int .u64 (p.1 : Nat), .int .u64 (p.2 : Nat)] 43)).alloc (.cells #[.int .u64 (t.1 : Nat), .int .u64 (t.2 : Nat)] 43)) (Obj.cells #[.int .u64 (v : Nat), .int .u64 (u : Nat)] 66)
  have s0 : (((w.alloc (.cells #[.int .u64 (p.1 : Nat), .int .u64 (p.2 : Nat)] 43)).alloc (.cells #[.int .u64 (t.1 : Nat), .int .u64 (t.2 : Nat)] 43)).alloc (.cells #[.int .u64 (v : Nat), .int .u64 (u : Nat)] 66)).heap[w.heap.size]? = some (.cells #[.int .u64 (p.1 : Nat), .int .u64 (p.2 : Nat)] 43 (0, 0)) := by rw [Below.heap_alloc _ _ _ (by simp only [World.size_alloc]; omega)]; exact r0
  have s1 : (((w.alloc (.cells #[.int .u64 (p.1 : Nat), .int .u64 (p.2 : Nat)] 43)).alloc (.cells #[.int .u64 (t.1 : Nat), .int .u64 (t.2 : Nat)] 43)).alloc (.cells #[.int .u64 (v : Nat), .int .u64 (u : Nat)] 66)).heap[w.heap.size + 1]? = some (.cells #[.int .u64 (t.1 : Nat), .int .u64 (t.2 : Nat)] 43 (0, 0)) := by rw [Below.heap_alloc _ _ _ (by simp only [World.size_alloc]; omega)]; exact r1
  have hB := hB1.alloc hB1.size (.cells #[.int .u64 (v : Nat), .int .u64 (u : Nat)] 66)
  simp only [World.size_alloc] at r2
  clear r0 r1 hB1 hq ht2 hpv htu q1 q2 hq2 ht22
  have D := hide (And.intro C1 (And.intro C2 (And.intro C3 (And.intro C4 (And.intro C5 (And.intro C6 (And.intro C7 (And.intro C8 C9))))))))
  clear C1 C2 C3 C4 C5 C6 C7 C8 C9
  go_enter Try.func6, Try.ntmps6
  go_wp2_with fail
  generalize (((w.alloc (.cells #[.int .u64 (p.1 : Nat), .int .u64 (p.2 : Nat)] 43)).alloc (.cells #[.int .u64 (t.1 : Nat), .int .u64 (t.2 : Nat)] 43)).alloc (.cells #[.int .u64 (v : Nat), .int .u64 (u : Nat)] 66)) = w3 at s0 s1 r2 hB ⊢
  have c0 : w3.cell? ⟨w.heap.size, 0, none⟩ = some (.int .u64 (p.1 : Nat)) := cell_of_row _ _ _ _ _ _ s0
  have c1 : w3.cell? ⟨w.heap.size, 1, none⟩ = some (.int .u64 (p.2 : Nat)) := cell_of_row _ _ _ _ _ _ s0
  have c4 : w3.cell? ⟨w.heap.size + 1 + 1, 0, none⟩ = some (.int .u64 (v : Nat)) := cell_of_row _ _ _ _ _ _ r2
  have c5 : w3.cell? ⟨w.heap.size + 1 + 1, 1, none⟩ = some (.int .u64 (u : Nat)) := cell_of_row _ _ _ _ _ _ r2
  go_quiet (fail)
  clear c4 c5 r2
  have e0 : (w3.drewN nq).cell? ⟨w.heap.size, 0, none⟩ = some (.int .u64 (p.1 : Nat)) := c0
  have e1 : (w3.drewN nq).cell? ⟨w.heap.size, 1, none⟩ = some (.int .u64 (p.2 : Nat)) := c1
  have e2 : (w3.drewN nq).cell? ⟨w.heap.size + 1, 0, none⟩ = some (.int .u64 (t.1 : Nat)) := cell_of_row _ _ _ _ _ _ s1
  have e3 : (w3.drewN nq).cell? ⟨w.heap.size + 1, 1, none⟩ = some (.int .u64 (t.2 : Nat)) := cell_of_row _ _ _ _ _ _ s1
  have hB2 := below_drewN hB nq
  clear c0 c1 s0 s1 hB
  generalize w3.drewN nq = w4 at e0 e1 e2 e3 hB2 ⊢
  go_wp2_with fail
  refine (D.out.1 _).mono ?_
  rintro e w5 ⟨rfl, hB5⟩
  have f0 := (hB5.cell (p := ⟨w.heap.size, 0, none⟩) (cell_lt e0)).trans e0
  have f1 := (hB5.cell (p := ⟨w.heap.size, 1, none⟩) (cell_lt e1)).trans e1
  have f2 := (hB5.cell (p := ⟨w.heap.size + 1, 0, none⟩) (cell_lt e2)).trans e2
  have f3 := (hB5.cell (p := ⟨w.heap.size + 1, 1, none⟩) (cell_lt e3)).trans e3
  have hB6 := hB2.trans (hB5.mono hB2.size)
  clear e0 e1 e2 e3 hB2 hB5
  go_wp2_with fail
  have r9 := World.alloc_heap_new w5 (Obj.cells #[.int .u64 (q.1 : Nat), .int .u64 (q.2 : Nat)] 43)
  have g0 := Lib.cell?_alloc_some (.cells #[.int .u64 (q.1 : Nat), .int .u64 (q.2 : Nat)] 43) f0
  have g1 := Lib.cell?_alloc_some (.cells #[.int .u64 (q.1 : Nat), .int .u64 (q.2 : Nat)] 43) f1
  have g2 := Lib.cell?_alloc_some (.cells #[.int .u64 (q.1 : Nat), .int .u64 (q.2 : Nat)] 43) f2
  have g3 := Lib.cell?_alloc_some (.cells #[.int .u64 (q.1 : Nat), .int .u64 (q.2 : Nat)] 43) f3
  have hB7 := hB6.alloc hB6.size (.cells #[.int .u64 (q.1 : Nat), .int .u64 (q.2 : Nat)] 43)
  generalize w5.heap.size = g at r9 ⊢
  generalize (w5.alloc (.cells #[.int .u64 (q.1 : Nat), .int .u64 (q.2 : Nat)] 43)) = w6 at r9 g0 g1 g2 g3 hB7 ⊢
  clear f0 f1 f2 f3 hB6
  have g4 : w6.cell? ⟨g, 0, none⟩ = some (.int .u64 (q.1 : Nat)) := cell_of_row _ _ _ _ _ _ r9
  have g5 : w6.cell? ⟨g, 1, none⟩ = some (.int .u64 (q.2 : Nat)) := cell_of_row _ _ _ _ _ _ r9
  clear r9
  have hB8 : Below w.heap.size w w6.drew := ⟨hB7.os, hB7.tape, hB7.output, hB7.size, hB7.block⟩
  go_region_held3 (fun w' => w'.cell? ⟨w.heap.size, 0, none⟩ = some (.int .u64 (p.1 : Nat)) ∧ w'.cell? ⟨w.heap.size, 1, none⟩ = some (.int .u64 (p.2 : Nat)) ∧ w'.cell? ⟨w.heap.size + 1, 0, none⟩ = some (.int .u64 (t.1 : Nat)) ∧ w'.cell? ⟨w.heap.size + 1, 1, none⟩ = some (.int .u64 (t.2 : Nat)) ∧ w'.cell? ⟨g, 0, none⟩ = some (.int .u64 (q.1 : Nat)) ∧ w'.cell? ⟨g, 1, none⟩ = some (.int .u64 (q.2 : Nat)) ∧ Below w.heap.size w w')
    (first
      | exact ⟨g0, g1, g2, g3, g4, g5, hB8⟩
      | exact cells_keep (by assumption) hbk)
    (first
      | (go_at_call 30; refine (D.out.2.1 _).mono ?_; rintro e wk ⟨rfl, hbk⟩)
      | (go_at_call 31; (first | refine (D.out.2.2.1 _).mono ?_ | refine (D.out.2.2.2.1 _).mono ?_); rintro e wk ⟨rfl, hbk⟩)
      | (go_at_call 29; refine (D.out.2.2.2.2.1 _).mono ?_; rintro e wk ⟨rfl, hbk⟩)
      | (go_at_call 32; refine (D.out.2.2.2.2.2.1 _).mono ?_; rintro e wk ⟨rfl, hbk⟩)
      | (go_at_call 33; refine (D.out.2.2.2.2.2.2.1 _).mono ?_; rintro e wk ⟨rfl, hbk⟩))
  rename_i hh
  obtain ⟨i0, i1, i2, i3, i4, i5, iB⟩ := hh
  clear g0 g1 g2 g3 g4 g5 hB7 hB8 hbk
  go_wp2_with fail
  have hv3 : (v = u ∧ pv = q) ∨ (¬ v = u ∧ ¬ pv.1 = q.1) ∨ (¬ v = u ∧ pv.1 = q.1 ∧ ¬ pv.2 = q.2) := by
    by_cases h : v = u
    · exact .inl ⟨h, HV.2 h⟩
    · by_cases h1 : pv.1 = q.1
      · exact .inr (.inr ⟨h, h1, fun h2 => h (HV.1 (Prod.ext h1 h2))⟩)
      · exact .inr (.inl ⟨h, h1⟩)
  have ht3 : (p = t ∧ tu = q) ∨ (¬ p.1 = t.1 ∨ p.1 = t.1 ∧ ¬ p.2 = t.2) ∧ (¬ tu.1 = q.1 ∨ tu.1 = q.1 ∧ ¬ tu.2 = q.2) := by
    by_cases h : p = t
    · exact .inl ⟨h, HT.2 h⟩
    · refine .inr ⟨?_, ?_⟩
      · by_cases h1 : p.1 = t.1
        · exact .inr ⟨h1, fun h2 => h (Prod.ext h1 h2)⟩
        · exact .inl h1
      · by_cases h1 : tu.1 = q.1
        · exact .inr ⟨h1, fun h2 => h (HT.1 (Prod.ext h1 h2))⟩
        · exact .inl h1
  clear HV HT hp ht hv hu
  obtain ⟨p1, p2⟩ := p
  obtain ⟨t1, t2'⟩ := t
  obtain ⟨q1, q2⟩ := q
  obtain ⟨pv1, pv2⟩ := pv
  obtain ⟨tu1, tu2⟩ := tu
  simp only [Prod.mk.injEq] at hv3 ht3 D i0 i1 i2 i3 i4 i5 ⊢
  have J := hide (And.intro i0 (And.intro i1 (And.intro i2 (And.intro i3 (And.intro i4 i5)))))
  clear J
  have HT3 := hide ht3
  clear ht3
  rcases hv3 with ⟨hv, h1, h2⟩ | ⟨hv, h1⟩ | ⟨hv, h1, h2⟩
  · subst hv
    have h1' := h1.symm
    subst h1'
    have h2' := h2.symm
    subst h2'
    rcases HT3.out with ⟨⟨h3, h4⟩, h5, h6⟩ | ⟨h3 | ⟨h3, h4⟩, h5 | ⟨h5, h6⟩⟩
    · clear HT3
      subst h3
      subst h4
      have h5' := h5.symm
      subst h5'
      have h6' := h6.symm
      subst h6'
      have jB : Below w.heap.size w wk.drew := ⟨iB.os, iB.tape, iB.output, iB.size, iB.block⟩
      go_region_held3 (fun w' => w'.cell? ⟨w.heap.size, 0, none⟩ = some (.int .u64 (p1 : Nat)) ∧ w'.cell? ⟨w.heap.size, 1, none⟩ = some (.int .u64 (p2 : Nat)) ∧ w'.cell? ⟨w.heap.size + 1, 0, none⟩ = some (.int .u64 (p1 : Nat)) ∧ w'.cell? ⟨w.heap.size + 1, 1, none⟩ = some (.int .u64 (p2 : Nat)) ∧ w'.cell? ⟨g, 0, none⟩ = some (.int .u64 (q1 : Nat)) ∧ w'.cell? ⟨g, 1, none⟩ = some (.int .u64 (q2 : Nat)) ∧ Below w.heap.size w w')
        (first
          | exact ⟨i0, i1, i2, i3, i4, i5, jB⟩
          | exact cells_keep (by assumption) hbk)
        (first
          | (go_at_call 21; refine (hA _).mono ?_; rintro e wk ⟨rfl, hbk⟩)
          | (go_at_call 29; (first | refine (D.out.2.2.2.2.2.2.2.1 _).mono ?_ | refine (D.out.2.2.2.2.2.2.2.2 _).mono ?_); rintro e wk ⟨rfl, hbk⟩))
      go_wp2_with fail
      rename_i hh
      exact bodyPost_ret (results_tmp rfl _ _ _) rfl ⟨rfl, hh.2.2.2.2.2.2⟩
    · clear HT3
      have E2a : ((p1 : Int) == (t1 : Int)) = false := by rw [beq_eq_false_iff_ne]; omega
      have E2b : ¬ ((p1 : Int) = (t1 : Int)) := by omega
      have E3a : ((tu1 : Int) == (q1 : Int)) = false := by rw [beq_eq_false_iff_ne]; omega
      have E3b : ¬ ((tu1 : Int) = (q1 : Int)) := by omega
      clear h3 h5
      have jB : Below w.heap.size w wk.drew := ⟨iB.os, iB.tape, iB.output, iB.size, iB.block⟩
      go_region_held3 (fun w' => w'.cell? ⟨w.heap.size, 0, none⟩ = some (.int .u64 (p1 : Nat)) ∧ w'.cell? ⟨w.heap.size, 1, none⟩ = some (.int .u64 (p2 : Nat)) ∧ w'.cell? ⟨w.heap.size + 1, 0, none⟩ = some (.int .u64 (t1 : Nat)) ∧ w'.cell? ⟨w.heap.size + 1, 1, none⟩ = some (.int .u64 (t2' : Nat)) ∧ w'.cell? ⟨g, 0, none⟩ = some (.int .u64 (q1 : Nat)) ∧ w'.cell? ⟨g, 1, none⟩ = some (.int .u64 (q2 : Nat)) ∧ Below w.heap.size w w')
        (first
          | exact ⟨i0, i1, i2, i3, i4, i5, jB⟩
          | exact cells_keep (by assumption) hbk)
        (first
          | (go_at_call 21; refine (hA _).mono ?_; rintro e wk ⟨rfl, hbk⟩)
          | (go_at_call 29; (first | refine (D.out.2.2.2.2.2.2.2.1 _).mono ?_ | refine (D.out.2.2.2.2.2.2.2.2 _).mono ?_); rintro e wk ⟨rfl, hbk⟩))
      go_wp2_with fail
      rename_i hh
      exact bodyPost_ret (results_tmp rfl _ _ _) rfl ⟨rfl, hh.2.2.2.2.2.2⟩
    · clear HT3
      have h5' := h5.symm
      subst h5'
      have E2a : ((p1 : Int) == (t1 : Int)) = false := by rw [beq_eq_false_iff_ne]; omega
      have E2b : ¬ ((p1 : Int) = (t1 : Int)) := by omega
      have E3a : ((tu2 : Int) == (q2 : Int)) = false := by rw [beq_eq_false_iff_ne]; omega
      have E3b : ¬ ((tu2 : Int) = (q2 : Int)) := by omega
      clear h3 h6
      have jB : Below w.heap.size w wk.drew := ⟨iB.os, iB.tape, iB.output, iB.size, iB.block⟩
      go_region_held3 (fun w' => w'.cell? ⟨w.heap.size, 0, none⟩ = some (.int .u64 (p1 : Nat)) ∧ w'.cell? ⟨w.heap.size, 1, none⟩ = some (.int .u64 (p2 : Nat)) ∧ w'.cell? ⟨w.heap.size + 1, 0, none⟩ = some (.int .u64 (t1 : Nat)) ∧ w'.cell? ⟨w.heap.size + 1, 1, none⟩ = some (.int .u64 (t2' : Nat)) ∧ w'.cell? ⟨g, 0, none⟩ = some (.int .u64 (q1 : Nat)) ∧ w'.cell? ⟨g, 1, none⟩ = some (.int .u64 (q2 : Nat)) ∧ Below w.heap.size w w')
        (first
          | exact ⟨i0, i1, i2, i3, i4, i5, jB⟩
          | exact cells_keep (by assumption) hbk)
        (first
          | (go_at_call 21; refine (hA _).mono ?_; rintro e wk ⟨rfl, hbk⟩)
          | (go_at_call 29; (first | refine (D.out.2.2.2.2.2.2.2.1 _).mono ?_ | refine (D.out.2.2.2.2.2.2.2.2 _).mono ?_); rintro e wk ⟨rfl, hbk⟩))
      go_wp2_with fail
      rename_i hh
      exact bodyPost_ret (results_tmp rfl _ _ _) rfl ⟨rfl, hh.2.2.2.2.2.2⟩
    · clear HT3
      subst h3
      have E2a : ((p2 : Int) == (t2' : Int)) = false := by rw [beq_eq_false_iff_ne]; omega
      have E2b : ¬ ((p2 : Int) = (t2' : Int)) := by omega
      have E3a : ((tu1 : Int) == (q1 : Int)) = false := by rw [beq_eq_false_iff_ne]; omega
      have E3b : ¬ ((tu1 : Int) = (q1 : Int)) := by omega
      clear h4 h5
      have jB : Below w.heap.size w wk.drew := ⟨iB.os, iB.tape, iB.output, iB.size, iB.block⟩
      go_region_held3 (fun w' => w'.cell? ⟨w.heap.size, 0, none⟩ = some (.int .u64 (p1 : Nat)) ∧ w'.cell? ⟨w.heap.size, 1, none⟩ = some (.int .u64 (p2 : Nat)) ∧ w'.cell? ⟨w.heap.size + 1, 0, none⟩ = some (.int .u64 (p1 : Nat)) ∧ w'.cell? ⟨w.heap.size + 1, 1, none⟩ = some (.int .u64 (t2' : Nat)) ∧ w'.cell? ⟨g, 0, none⟩ = some (.int .u64 (q1 : Nat)) ∧ w'.cell? ⟨g, 1, none⟩ = some (.int .u64 (q2 : Nat)) ∧ Below w.heap.size w w')
        (first
          | exact ⟨i0, i1, i2, i3, i4, i5, jB⟩
          | exact cells_keep (by assumption) hbk)
        (first
          | (go_at_call 21; refine (hA _).mono ?_; rintro e wk ⟨rfl, hbk⟩)
          | (go_at_call 29; (first | refine (D.out.2.2.2.2.2.2.2.1 _).mono ?_ | refine (D.out.2.2.2.2.2.2.2.2 _).mono ?_); rintro e wk ⟨rfl, hbk⟩))
      go_wp2_with fail
      rename_i hh
      exact bodyPost_ret (results_tmp rfl _ _ _) rfl ⟨rfl, hh.2.2.2.2.2.2⟩
    · clear HT3
      subst h3
      have h5' := h5.symm
      subst h5'
      have E2a : ((p2 : Int) == (t2' : Int)) = false := by rw [beq_eq_false_iff_ne]; omega
      have E2b : ¬ ((p2 : Int) = (t2' : Int)) := by omega
      have E3a : ((tu2 : Int) == (q2 : Int)) = false := by rw [beq_eq_false_iff_ne]; omega
      have E3b : ¬ ((tu2 : Int) = (q2 : Int)) := by omega
      clear h4 h6
      have jB : Below w.heap.size w wk.drew := ⟨iB.os, iB.tape, iB.output, iB.size, iB.block⟩
      go_region_held3 (fun w' => w'.cell? ⟨w.heap.size, 0, none⟩ = some (.int .u64 (p1 : Nat)) ∧ w'.cell? ⟨w.heap.size, 1, none⟩ = some (.int .u64 (p2 : Nat)) ∧ w'.cell? ⟨w.heap.size + 1, 0, none⟩ = some (.int .u64 (p1 : Nat)) ∧ w'.cell? ⟨w.heap.size + 1, 1, none⟩ = some (.int .u64 (t2' : Nat)) ∧ w'.cell? ⟨g, 0, none⟩ = some (.int .u64 (q1 : Nat)) ∧ w'.cell? ⟨g, 1, none⟩ = some (.int .u64 (q2 : Nat)) ∧ Below w.heap.size w w')
        (first
          | exact ⟨i0, i1, i2, i3, i4, i5, jB⟩
          | exact cells_keep (by assumption) hbk)
        (first
          | (go_at_call 21; refine (hA _).mono ?_; rintro e wk ⟨rfl, hbk⟩)
          | (go_at_call 29; (first | refine (D.out.2.2.2.2.2.2.2.1 _).mono ?_ | refine (D.out.2.2.2.2.2.2.2.2 _).mono ?_); rintro e wk ⟨rfl, hbk⟩))
      go_wp2_with fail
      rename_i hh
      exact bodyPost_ret (results_tmp rfl _ _ _) rfl ⟨rfl, hh.2.2.2.2.2.2⟩
  · have E0a : ((v : Int) == (u : Int)) = false := by rw [beq_eq_false_iff_ne]; omega
    have E0b : ¬ ((v : Int) = (u : Int)) := by omega
    have E1a : ((pv1 : Int) == (q1 : Int)) = false := by rw [beq_eq_false_iff_ne]; omega
    have E1b : ¬ ((pv1 : Int) = (q1 : Int)) := by omega
    clear hv h1
    rcases HT3.out with ⟨⟨h3, h4⟩, h5, h6⟩ | ⟨h3 | ⟨h3, h4⟩, h5 | ⟨h5, h6⟩⟩
    · clear HT3
      subst h3
      subst h4
      have h5' := h5.symm
      subst h5'
      have h6' := h6.symm
      subst h6'
      have jB : Below w.heap.size w wk.drew := ⟨iB.os, iB.tape, iB.output, iB.size, iB.block⟩
      go_region_held3 (fun w' => w'.cell? ⟨w.heap.size, 0, none⟩ = some (.int .u64 (p1 : Nat)) ∧ w'.cell? ⟨w.heap.size, 1, none⟩ = some (.int .u64 (p2 : Nat)) ∧ w'.cell? ⟨w.heap.size + 1, 0, none⟩ = some (.int .u64 (p1 : Nat)) ∧ w'.cell? ⟨w.heap.size + 1, 1, none⟩ = some (.int .u64 (p2 : Nat)) ∧ w'.cell? ⟨g, 0, none⟩ = some (.int .u64 (q1 : Nat)) ∧ w'.cell? ⟨g, 1, none⟩ = some (.int .u64 (q2 : Nat)) ∧ Below w.heap.size w w')
        (first
          | exact ⟨i0, i1, i2, i3, i4, i5, jB⟩
          | exact cells_keep (by assumption) hbk)
        (first
          | (go_at_call 21; refine (hA _).mono ?_; rintro e wk ⟨rfl, hbk⟩)
          | (go_at_call 29; (first | refine (D.out.2.2.2.2.2.2.2.1 _).mono ?_ | refine (D.out.2.2.2.2.2.2.2.2 _).mono ?_); rintro e wk ⟨rfl, hbk⟩))
      go_wp2_with fail
      rename_i hh
      exact bodyPost_ret (results_tmp rfl _ _ _) rfl ⟨rfl, hh.2.2.2.2.2.2⟩
    · clear HT3
      have E2a : ((p1 : Int) == (t1 : Int)) = false := by rw [beq_eq_false_iff_ne]; omega
      have E2b : ¬ ((p1 : Int) = (t1 : Int)) := by omega
      have E3a : ((tu1 : Int) == (q1 : Int)) = false := by rw [beq_eq_false_iff_ne]; omega
      have E3b : ¬ ((tu1 : Int) = (q1 : Int)) := by omega
      clear h3 h5
      have jB : Below w.heap.size w wk.drew := ⟨iB.os, iB.tape, iB.output, iB.size, iB.block⟩
      go_region_held3 (fun w' => w'.cell? ⟨w.heap.size, 0, none⟩ = some (.int .u64 (p1 : Nat)) ∧ w'.cell? ⟨w.heap.size, 1, none⟩ = some (.int .u64 (p2 : Nat)) ∧ w'.cell? ⟨w.heap.size + 1, 0, none⟩ = some (.int .u64 (t1 : Nat)) ∧ w'.cell? ⟨w.heap.size + 1, 1, none⟩ = some (.int .u64 (t2' : Nat)) ∧ w'.cell? ⟨g, 0, none⟩ = some (.int .u64 (q1 : Nat)) ∧ w'.cell? ⟨g, 1, none⟩ = some (.int .u64 (q2 : Nat)) ∧ Below w.heap.size w w')
        (first
          | exact ⟨i0, i1, i2, i3, i4, i5, jB⟩
          | exact cells_keep (by assumption) hbk)
        (first
          | (go_at_call 21; refine (hA _).mono ?_; rintro e wk ⟨rfl, hbk⟩)
          | (go_at_call 29; (first | refine (D.out.2.2.2.2.2.2.2.1 _).mono ?_ | refine (D.out.2.2.2.2.2.2.2.2 _).mono ?_); rintro e wk ⟨rfl, hbk⟩))
      go_wp2_with fail
      rename_i hh
      exact bodyPost_ret (results_tmp rfl _ _ _) rfl ⟨rfl, hh.2.2.2.2.2.2⟩
    · clear HT3
      have h5' := h5.symm
      subst h5'
      have E2a : ((p1 : Int) == (t1 : Int)) = false := by rw [beq_eq_false_iff_ne]; omega
      have E2b : ¬ ((p1 : Int) = (t1 : Int)) := by omega
      have E3a : ((tu2 : Int) == (q2 : Int)) = false := by rw [beq_eq_false_iff_ne]; omega
      have E3b : ¬ ((tu2 : Int) = (q2 : Int)) := by omega
      clear h3 h6
      have jB : Below w.heap.size w wk.drew := ⟨iB.os, iB.tape, iB.output, iB.size, iB.block⟩
      go_region_held3 (fun w' => w'.cell? ⟨w.heap.size, 0, none⟩ = some (.int .u64 (p1 : Nat)) ∧ w'.cell? ⟨w.heap.size, 1, none⟩ = some (.int .u64 (p2 : Nat)) ∧ w'.cell? ⟨w.heap.size + 1, 0, none⟩ = some (.int .u64 (t1 : Nat)) ∧ w'.cell? ⟨w.heap.size + 1, 1, none⟩ = some (.int .u64 (t2' : Nat)) ∧ w'.cell? ⟨g, 0, none⟩ = some (.int .u64 (q1 : Nat)) ∧ w'.cell? ⟨g, 1, none⟩ = some (.int .u64 (q2 : Nat)) ∧ Below w.heap.size w w')
        (first
          | exact ⟨i0, i1, i2, i3, i4, i5, jB⟩
          | exact cells_keep (by assumption) hbk)
        (first
          | (go_at_call 21; refine (hA _).mono ?_; rintro e wk ⟨rfl, hbk⟩)
          | (go_at_call 29; (first | refine (D.out.2.2.2.2.2.2.2.1 _).mono ?_ | refine (D.out.2.2.2.2.2.2.2.2 _).mono ?_); rintro e wk ⟨rfl, hbk⟩))
      go_wp2_with fail
      rename_i hh
      exact bodyPost_ret (results_tmp rfl _ _ _) rfl ⟨rfl, hh.2.2.2.2.2.2⟩
    · clear HT3
      subst h3
      have E2a : ((p2 : Int) == (t2' : Int)) = false := by rw [beq_eq_false_iff_ne]; omega
      have E2b : ¬ ((p2 : Int) = (t2' : Int)) := by omega
      have E3a : ((tu1 : Int) == (q1 : Int)) = false := by rw [beq_eq_false_iff_ne]; omega
      have E3b : ¬ ((tu1 : Int) = (q1 : Int)) := by omega
      clear h4 h5
      have jB : Below w.heap.size w wk.drew := ⟨iB.os, iB.tape, iB.output, iB.size, iB.block⟩
      go_region_held3 (fun w' => w'.cell? ⟨w.heap.size, 0, none⟩ = some (.int .u64 (p1 : Nat)) ∧ w'.cell? ⟨w.heap.size, 1, none⟩ = some (.int .u64 (p2 : Nat)) ∧ w'.cell? ⟨w.heap.size + 1, 0, none⟩ = some (.int .u64 (p1 : Nat)) ∧ w'.cell? ⟨w.heap.size + 1, 1, none⟩ = some (.int .u64 (t2' : Nat)) ∧ w'.cell? ⟨g, 0, none⟩ = some (.int .u64 (q1 : Nat)) ∧ w'.cell? ⟨g, 1, none⟩ = some (.int .u64 (q2 : Nat)) ∧ Below w.heap.size w w')
        (first
          | exact ⟨i0, i1, i2, i3, i4, i5, jB⟩
          | exact cells_keep (by assumption) hbk)
        (first
          | (go_at_call 21; refine (hA _).mono ?_; rintro e wk ⟨rfl, hbk⟩)
          | (go_at_call 29; (first | refine (D.out.2.2.2.2.2.2.2.1 _).mono ?_ | refine (D.out.2.2.2.2.2.2.2.2 _).mono ?_); rintro e wk ⟨rfl, hbk⟩))
      go_wp2_with fail
      rename_i hh
      exact bodyPost_ret (results_tmp rfl _ _ _) rfl ⟨rfl, hh.2.2.2.2.2.2⟩
    · clear HT3
      subst h3
      have h5' := h5.symm
      subst h5'
      have E2a : ((p2 : Int) == (t2' : Int)) = false := by rw [beq_eq_false_iff_ne]; omega
      have E2b : ¬ ((p2 : Int) = (t2' : Int)) := by omega
      have E3a : ((tu2 : Int) == (q2 : Int)) = false := by rw [beq_eq_false_iff_ne]; omega
      have E3b : ¬ ((tu2 : Int) = (q2 : Int)) := by omega
      clear h4 h6
      have jB : Below w.heap.size w wk.drew := ⟨iB.os, iB.tape, iB.output, iB.size, iB.block⟩
      go_region_held3 (fun w' => w'.cell? ⟨w.heap.size, 0, none⟩ = some (.int .u64 (p1 : Nat)) ∧ w'.cell? ⟨w.heap.size, 1, none⟩ = some (.int .u64 (p2 : Nat)) ∧ w'.cell? ⟨w.heap.size + 1, 0, none⟩ = some (.int .u64 (p1 : Nat)) ∧ w'.cell? ⟨w.heap.size + 1, 1, none⟩ = some (.int .u64 (t2' : Nat)) ∧ w'.cell? ⟨g, 0, none⟩ = some (.int .u64 (q1 : Nat)) ∧ w'.cell? ⟨g, 1, none⟩ = some (.int .u64 (q2 : Nat)) ∧ Below w.heap.size w w')
        (first
          | exact ⟨i0, i1, i2, i3, i4, i5, jB⟩
          | exact cells_keep (by assumption) hbk)
        (first
          | (go_at_call 21; refine (hA _).mono ?_; rintro e wk ⟨rfl, hbk⟩)
          | (go_at_call 29; (first | refine (D.out.2.2.2.2.2.2.2.1 _).mono ?_ | refine (D.out.2.2.2.2.2.2.2.2 _).mono ?_); rintro e wk ⟨rfl, hbk⟩))
      go_wp2_with fail
      rename_i hh
      exact bodyPost_ret (results_tmp rfl _ _ _) rfl ⟨rfl, hh.2.2.2.2.2.2⟩
  · have h1' := h1.symm
    subst h1'
    have E0a : ((v : Int) == (u : Int)) = false := by rw [beq_eq_false_iff_ne]; omega
    have E0b : ¬ ((v : Int) = (u : Int)) := by omega
    have E1a : ((pv2 : Int) == (q2 : Int)) = false := by rw [beq_eq_false_iff_ne]; omega
    have E1b : ¬ ((pv2 : Int) = (q2 : Int)) := by omega
    clear hv h2
    rcases HT3.out with ⟨⟨h3, h4⟩, h5, h6⟩ | ⟨h3 | ⟨h3, h4⟩, h5 | ⟨h5, h6⟩⟩
    · clear HT3
      subst h3
      subst h4
      have h5' := h5.symm
      subst h5'
      have h6' := h6.symm
      subst h6'
      have jB : Below w.heap.size w wk.drew := ⟨iB.os, iB.tape, iB.output, iB.size, iB.block⟩
      go_region_held3 (fun w' => w'.cell? ⟨w.heap.size, 0, none⟩ = some (.int .u64 (p1 : Nat)) ∧ w'.cell? ⟨w.heap.size, 1, none⟩ = some (.int .u64 (p2 : Nat)) ∧ w'.cell? ⟨w.heap.size + 1, 0, none⟩ = some (.int .u64 (p1 : Nat)) ∧ w'.cell? ⟨w.heap.size + 1, 1, none⟩ = some (.int .u64 (p2 : Nat)) ∧ w'.cell? ⟨g, 0, none⟩ = some (.int .u64 (q1 : Nat)) ∧ w'.cell? ⟨g, 1, none⟩ = some (.int .u64 (q2 : Nat)) ∧ Below w.heap.size w w')
        (first
          | exact ⟨i0, i1, i2, i3, i4, i5, jB⟩
          | exact cells_keep (by assumption) hbk)
        (first
          | (go_at_call 21; refine (hA _).mono ?_; rintro e wk ⟨rfl, hbk⟩)
          | (go_at_call 29; (first | refine (D.out.2.2.2.2.2.2.2.1 _).mono ?_ | refine (D.out.2.2.2.2.2.2.2.2 _).mono ?_); rintro e wk ⟨rfl, hbk⟩))
      go_wp2_with fail
      rename_i hh
      exact bodyPost_ret (results_tmp rfl _ _ _) rfl ⟨rfl, hh.2.2.2.2.2.2⟩
    · clear HT3
      have E2a : ((p1 : Int) == (t1 : Int)) = false := by rw [beq_eq_false_iff_ne]; omega
      have E2b : ¬ ((p1 : Int) = (t1 : Int)) := by omega
      have E3a : ((tu1 : Int) == (q1 : Int)) = false := by rw [beq_eq_false_iff_ne]; omega
      have E3b : ¬ ((tu1 : Int) = (q1 : Int)) := by omega
      clear h3 h5
      have jB : Below w.heap.size w wk.drew := ⟨iB.os, iB.tape, iB.output, iB.size, iB.block⟩
      go_region_held3 (fun w' => w'.cell? ⟨w.heap.size, 0, none⟩ = some (.int .u64 (p1 : Nat)) ∧ w'.cell? ⟨w.heap.size, 1, none⟩ = some (.int .u64 (p2 : Nat)) ∧ w'.cell? ⟨w.heap.size + 1, 0, none⟩ = some (.int .u64 (t1 : Nat)) ∧ w'.cell? ⟨w.heap.size + 1, 1, none⟩ = some (.int .u64 (t2' : Nat)) ∧ w'.cell? ⟨g, 0, none⟩ = some (.int .u64 (q1 : Nat)) ∧ w'.cell? ⟨g, 1, none⟩ = some (.int .u64 (q2 : Nat)) ∧ Below w.heap.size w w')
        (first
          | exact ⟨i0, i1, i2, i3, i4, i5, jB⟩
          | exact cells_keep (by assumption) hbk)
        (first
          | (go_at_call 21; refine (hA _).mono ?_; rintro e wk ⟨rfl, hbk⟩)
          | (go_at_call 29; (first | refine (D.out.2.2.2.2.2.2.2.1 _).mono ?_ | refine (D.out.2.2.2.2.2.2.2.2 _).mono ?_); rintro e wk ⟨rfl, hbk⟩))
      go_wp2_with fail
      rename_i hh
      exact bodyPost_ret (results_tmp rfl _ _ _) rfl ⟨rfl, hh.2.2.2.2.2.2⟩
    · clear HT3
      have h5' := h5.symm
      subst h5'
      have E2a : ((p1 : Int) == (t1 : Int)) = false := by rw [beq_eq_false_iff_ne]; omega
      have E2b : ¬ ((p1 : Int) = (t1 : Int)) := by omega
      have E3a : ((tu2 : Int) == (q2 : Int)) = false := by rw [beq_eq_false_iff_ne]; omega
      have E3b : ¬ ((tu2 : Int) = (q2 : Int)) := by omega
      clear h3 h6
      have jB : Below w.heap.size w wk.drew := ⟨iB.os, iB.tape, iB.output, iB.size, iB.block⟩
      go_region_held3 (fun w' => w'.cell? ⟨w.heap.size, 0, none⟩ = some (.int .u64 (p1 : Nat)) ∧ w'.cell? ⟨w.heap.size, 1, none⟩ = some (.int .u64 (p2 : Nat)) ∧ w'.cell? ⟨w.heap.size + 1, 0, none⟩ = some (.int .u64 (t1 : Nat)) ∧ w'.cell? ⟨w.heap.size + 1, 1, none⟩ = some (.int .u64 (t2' : Nat)) ∧ w'.cell? ⟨g, 0, none⟩ = some (.int .u64 (q1 : Nat)) ∧ w'.cell? ⟨g, 1, none⟩ = some (.int .u64 (q2 : Nat)) ∧ Below w.heap.size w w')
        (first
          | exact ⟨i0, i1, i2, i3, i4, i5, jB⟩
          | exact cells_keep (by assumption) hbk)
        (first
          | (go_at_call 21; refine (hA _).mono ?_; rintro e wk ⟨rfl, hbk⟩)
          | (go_at_call 29; (first | refine (D.out.2.2.2.2.2.2.2.1 _).mono ?_ | refine (D.out.2.2.2.2.2.2.2.2 _).mono ?_); rintro e wk ⟨rfl, hbk⟩))
      go_wp2_with fail
      rename_i hh
      exact bodyPost_ret (results_tmp rfl _ _ _) rfl ⟨rfl, hh.2.2.2.2.2.2⟩
    · clear HT3
      subst h3
      have E2a : ((p2 : Int) == (t2' : Int)) = false := by rw [beq_eq_false_iff_ne]; omega
      have E2b : ¬ ((p2 : Int) = (t2' : Int)) := by omega
      have E3a : ((tu1 : Int) == (q1 : Int)) = false := by rw [beq_eq_false_iff_ne]; omega
      have E3b : ¬ ((tu1 : Int) = (q1 : Int)) := by omega
      clear h4 h5
      have jB : Below w.heap.size w wk.drew := ⟨iB.os, iB.tape, iB.output, iB.size, iB.block⟩
      go_region_held3 (fun w' => w'.cell? ⟨w.heap.size, 0, none⟩ = some (.int .u64 (p1 : Nat)) ∧ w'.cell? ⟨w.heap.size, 1, none⟩ = some (.int .u64 (p2 : Nat)) ∧ w'.cell? ⟨w.heap.size + 1, 0, none⟩ = some (.int .u64 (p1 : Nat)) ∧ w'.cell? ⟨w.heap.size + 1, 1, none⟩ = some (.int .u64 (t2' : Nat)) ∧ w'.cell? ⟨g, 0, none⟩ = some (.int .u64 (q1 : Nat)) ∧ w'.cell? ⟨g, 1, none⟩ = some (.int .u64 (q2 : Nat)) ∧ Below w.heap.size w w')
        (first
          | exact ⟨i0, i1, i2, i3, i4, i5, jB⟩
          | exact cells_keep (by assumption) hbk)
        (first
          | (go_at_call 21; refine (hA _).mono ?_; rintro e wk ⟨rfl, hbk⟩)
          | (go_at_call 29; (first | refine (D.out.2.2.2.2.2.2.2.1 _).mono ?_ | refine (D.out.2.2.2.2.2.2.2.2 _).mono ?_); rintro e wk ⟨rfl, hbk⟩))
      go_wp2_with fail
      rename_i hh
      exact bodyPost_ret (results_tmp rfl _ _ _) rfl ⟨rfl, hh.2.2.2.2.2.2⟩
    · clear HT3
      subst h3
      have h5' := h5.symm
      subst h5'
      have E2a : ((p2 : Int) == (t2' : Int)) = false := by rw [beq_eq_false_iff_ne]; omega
      have E2b : ¬ ((p2 : Int) = (t2' : Int)) := by omega
      have E3a : ((tu2 : Int) == (q2 : Int)) = false := by rw [beq_eq_false_iff_ne]; omega
      have E3b : ¬ ((tu2 : Int) = (q2 : Int)) := by omega
      clear h4 h6
      have jB : Below w.heap.size w wk.drew := ⟨iB.os, iB.tape, iB.output, iB.size, iB.block⟩
      go_region_held3 (fun w' => w'.cell? ⟨w.heap.size, 0, none⟩ = some (.int .u64 (p1 : Nat)) ∧ w'.cell? ⟨w.heap.size, 1, none⟩ = some (.int .u64 (p2 : Nat)) ∧ w'.cell? ⟨w.heap.size + 1, 0, none⟩ = some (.int .u64 (p1 : Nat)) ∧ w'.cell? ⟨w.heap.size + 1, 1, none⟩ = some (.int .u64 (t2' : Nat)) ∧ w'.cell? ⟨g, 0, none⟩ = some (.int .u64 (q1 : Nat)) ∧ w'.cell? ⟨g, 1, none⟩ = some (.int .u64 (q2 : Nat)) ∧ Below w.heap.size w w')
        (first
          | exact ⟨i0, i1, i2, i3, i4, i5, jB⟩
          | exact cells_keep (by assumption) hbk)
        (first
          | (go_at_call 21; refine (hA _).mono ?_; rintro e wk ⟨rfl, hbk⟩)
          | (go_at_call 29; (first | refine (D.out.2.2.2.2.2.2.2.1 _).mono ?_ | refine (D.out.2.2.2.2.2.2.2.2 _).mono ?_); rintro e wk ⟨rfl, hbk⟩))
      go_wp2_with fail
      rename_i hh
      exact bodyPost_ret (results_tmp rfl _ _ _) rfl ⟨rfl, hh.2.2.2.2.2.2⟩
end Go.Proofs.Ytffhkdbdcpobbaa
