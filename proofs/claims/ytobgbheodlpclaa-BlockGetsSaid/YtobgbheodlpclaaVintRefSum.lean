/-
  The reference's reader: GetSum.
-/
import Derived.Test.YtobgbheodlpclaaAutoVintRefGetText
namespace Go.Proofs.Ytobgbheodlpclaa
open Go.RowKit
set_option maxRecDepth 100000

theorem three_new (w : World) (X Y Z : Array Value) (t u v : TypeId) : (((w.alloc (.cells X t)).alloc (.cells Y u)).alloc (.cells Z v)).heap[w.heap.size]? = some (.cells X t (0, 0)) ∧ (((w.alloc (.cells X t)).alloc (.cells Y u)).alloc (.cells Z v)).heap[w.heap.size + 1]? = some (.cells Y u (0, 0)) ∧ (((w.alloc (.cells X t)).alloc (.cells Y u)).alloc (.cells Z v)).heap[w.heap.size + 2]? = some (.cells Z v (0, 0)) ∧ Below w.heap.size w (((w.alloc (.cells X t)).alloc (.cells Y u)).alloc (.cells Z v)) := by
  obtain ⟨r0, r1, hB⟩ := new_rows w X Y t u
  refine ⟨?_, ?_, ?_, hB.alloc hB.size _⟩
  · rw [Below.heap_alloc _ _ _ (by simp; omega)]; exact r0
  · rw [Below.heap_alloc _ _ _ (by simp)]; exact r1
  · have h := World.alloc_heap_new ((w.alloc (.cells X t)).alloc (.cells Y u)) (Obj.cells Z v)
    simp only [World.size_alloc] at h
    exact h

set_option maxHeartbeats 4000000 in
theorem getSum_err (l : List UInt8) (e : Nat) (w : World) (h : e ≠ 0) :
    Calls Try.prog 83 #[refR l e] w fun en w' => en = .returned (.tuple #[refR l e, .agg #[.int .u64 0, .int .u64 0]]) ∧ Below w.heap.size w w' := by
  rw [refR_err l e h]
  have E1 : ((e : Int) != 0) = true := by rw [bne_iff_ne]; omega
  clear h
  obtain ⟨_, r1, r2, hB⟩ := three_new w #[.string ⟨#[]⟩, .int .i64 (e : Nat)] #[.string ⟨#[]⟩, .int .i64 (e : Nat)] #[.int .u64 0, .int .u64 0] 122 122 28
  go_enter Try.func83, Try.ntmps83
  go_wp2_with fail
  generalize (((w.alloc (.cells #[.string ⟨#[]⟩, .int .i64 (e : Nat)] 122)).alloc (.cells #[.string ⟨#[]⟩, .int .i64 (e : Nat)] 122)).alloc (.cells #[.int .u64 0, .int .u64 0] 28)) = w2 at r1 r2 hB ⊢
  have y0 : w2.cell? ⟨w.heap.size + 1, 0, none⟩ = some (.string ⟨#[]⟩) := cell_of_row _ _ _ _ _ _ r1
  have y1 : w2.cell? ⟨w.heap.size + 1, 1, none⟩ = some (.int .i64 (e : Nat)) := cell_of_row _ _ _ _ _ _ r1
  have y2 : w2.cell? ⟨w.heap.size + 2, 0, none⟩ = some (.int .u64 0) := cell_of_row _ _ _ _ _ _ r2
  have y3 : w2.cell? ⟨w.heap.size + 2, 1, none⟩ = some (.int .u64 0) := cell_of_row _ _ _ _ _ _ r2
  refine bodyPost_ret (v := .tuple #[.agg #[.string ⟨#[]⟩, .int .i64 (e : Nat)], .agg #[.int .u64 0, .int .u64 0]]) (by simp [results, Try.results83, go_sem, y0, y1, y2, y3]) rfl ⟨rfl, hB⟩

/-- The world behind the answers' stores, and what it reads. -/
theorem four_end (w w3 : World) (n m : Nat) (a b x y c d u v : Value) (t t2 : TypeId) (h : w3.heap[n]? = some (.cells #[a, b] t (0, 0))) (h2 : w3.heap[m]? = some (.cells #[c, d] t2 (0, 0))) (hn : w.heap.size ≤ n) (hm : w.heap.size ≤ m) (hne : m ≠ n) (hB : Below w.heap.size w w3) :
    ((((w3.setCell ⟨n, 0, none⟩ x).setCell ⟨n, 1, none⟩ y).setCell ⟨m, 0, none⟩ u).setCell ⟨m, 1, none⟩ v).cell? ⟨n, 0, none⟩ = some x ∧ ((((w3.setCell ⟨n, 0, none⟩ x).setCell ⟨n, 1, none⟩ y).setCell ⟨m, 0, none⟩ u).setCell ⟨m, 1, none⟩ v).cell? ⟨n, 1, none⟩ = some y ∧
    ((((w3.setCell ⟨n, 0, none⟩ x).setCell ⟨n, 1, none⟩ y).setCell ⟨m, 0, none⟩ u).setCell ⟨m, 1, none⟩ v).cell? ⟨m, 0, none⟩ = some u ∧ ((((w3.setCell ⟨n, 0, none⟩ x).setCell ⟨n, 1, none⟩ y).setCell ⟨m, 0, none⟩ u).setCell ⟨m, 1, none⟩ v).cell? ⟨m, 1, none⟩ = some v ∧
    Below w.heap.size w ((((w3.setCell ⟨n, 0, none⟩ x).setCell ⟨n, 1, none⟩ y).setCell ⟨m, 0, none⟩ u).setCell ⟨m, 1, none⟩ v) := by
  have e1 := heap_setCell_same _ n 1 _ _ y (heap_setCell_same w3 n 0 _ _ x h)
  have hB2 := (hB.setCell (p := ⟨n, 0, none⟩) hn x).setCell (p := ⟨n, 1, none⟩) hn y
  have e2 : ((w3.setCell ⟨n, 0, none⟩ x).setCell ⟨n, 1, none⟩ y).heap[m]? = _ := (heap_setCell_other _ _ _ _ (by simpa using hne)).trans ((heap_setCell_other _ _ _ _ (by simpa using hne)).trans h2)
  generalize (w3.setCell ⟨n, 0, none⟩ x).setCell ⟨n, 1, none⟩ y = w4 at e1 e2 hB2 ⊢
  have f1 := heap_setCell_same _ m 1 _ _ v (heap_setCell_same w4 m 0 _ _ u e2)
  have f2 : ((w4.setCell ⟨m, 0, none⟩ u).setCell ⟨m, 1, none⟩ v).heap[n]? = _ := (heap_setCell_other _ _ _ _ (by simpa using fun e => hne e.symm)).trans ((heap_setCell_other _ _ _ _ (by simpa using fun e => hne e.symm)).trans e1)
  exact ⟨cell_of_row _ _ _ _ _ _ f2, cell_of_row _ _ _ _ _ _ f2, cell_of_row _ _ _ _ _ _ f1, cell_of_row _ _ _ _ _ _ f1, (hB2.setCell (p := ⟨m, 0, none⟩) hm _).setCell (p := ⟨m, 1, none⟩) hm _⟩

set_option maxHeartbeats 4000000 in
theorem getSum_short (l : List UInt8) (w : World) (h : l.length < 16) :
    Calls Try.prog 83 #[refR l 0] w fun en w' => en = .returned (.tuple #[refR l 4, .agg #[.int .u64 0, .int .u64 0]]) ∧ Below w.heap.size w w' := by
  rw [refR_ok]
  have hsz := ofL_size l
  have hs16 : ((ofL l).size : Int) < 16 := by omega
  obtain ⟨r0, r1, r2, hB⟩ := three_new w #[.string (ofL l), .int .i64 0] #[.string ⟨#[]⟩, .int .i64 0] #[.int .u64 0, .int .u64 0] 122 122 28
  clear hsz h
  go_enter Try.func83, Try.ntmps83
  go_wp2_with fail
  generalize (((w.alloc (.cells #[.string (ofL l), .int .i64 0] 122)).alloc (.cells #[.string ⟨#[]⟩, .int .i64 0] 122)).alloc (.cells #[.int .u64 0, .int .u64 0] 28)) = w2 at r0 r1 r2 hB ⊢
  refine (fail_any _ _ _ _).mono ?_
  rintro en w3 ⟨rfl, hB3⟩
  have q1 := (hB3.block _ (Array.getElem?_eq_some_iff.1 r1).1).trans r1
  have q2 := (hB3.block _ (Array.getElem?_eq_some_iff.1 r2).1).trans r2
  have hB4 := hB.trans (hB3.mono hB.size)
  have d0 : w3.cell? ⟨w.heap.size + 1, 0, none⟩ = some (.string ⟨#[]⟩) := cell_of_row _ _ _ _ _ _ q1
  have d1 : w3.cell? ⟨w.heap.size + 1, 1, none⟩ = some (.int .i64 0) := cell_of_row _ _ _ _ _ _ q1
  have d2 : w3.cell? ⟨w.heap.size + 1 + 1, 0, none⟩ = some (.int .u64 0) := cell_of_row _ _ _ _ _ _ q2
  have d3 : w3.cell? ⟨w.heap.size + 1 + 1, 1, none⟩ = some (.int .u64 0) := cell_of_row _ _ _ _ _ _ q2
  have z0 : w3.frozen? ⟨w.heap.size + 1, 0, none⟩ = false := frozen_of_row _ _ _ _ _ q1
  have z1 : w3.frozen? ⟨w.heap.size + 1, 1, none⟩ = false := frozen_of_row _ _ _ _ _ q1
  have z2 : w3.frozen? ⟨w.heap.size + 1 + 1, 0, none⟩ = false := frozen_of_row _ _ _ _ _ q2
  have z3 : w3.frozen? ⟨w.heap.size + 1 + 1, 1, none⟩ = false := frozen_of_row _ _ _ _ _ q2
  have HX := hide (four_end w w3 (w.heap.size + 1) (w.heap.size + 1 + 1) _ _ (.string ⟨#[]⟩) (.int .i64 4) _ _ (.int .u64 0) (.int .u64 0) _ _ q1 q2 (by omega) (by omega) (by omega) hB4)
  clear r0 r1 r2 hB hB3 q1 q2 hB4
  go_wp2_with fail
  obtain ⟨y0, y1, y2, y3, hBf⟩ := HX.out
  refine bodyPost_ret (v := .tuple #[.agg #[.string ⟨#[]⟩, .int .i64 4], .agg #[.int .u64 0, .int .u64 0]]) (by simp [results, Try.results83, go_sem, y0, y1, y2, y3]) rfl ⟨rfl, hBf⟩

theorem halfF_hi (l : List UInt8) (k : Nat) (h : k < l.length) : halfF l (k + 1) = halfF l k * 256 + (l[k]).toNat := by
  show halfF l k * 256 + (l.getD k 0).toNat = _
  simp [List.getD, List.getElem?_eq_getElem h]
theorem halfF_le (l : List UInt8) (k : Nat) (h : k ≤ 7) : halfF l k < 72057594037927936 := by
  have h1 := halfF_lt l k
  have h2 : 256 ^ k ≤ 256 ^ 7 := Nat.pow_le_pow_right (by decide) h
  omega

set_option maxHeartbeats 8000000 in
theorem getSum_ok (l : List UInt8) (w : World) (h : 16 ≤ l.length) (hl : l.length ≤ 1000000) :
    Calls Try.prog 83 #[refR l 0] w fun en w' => en = .returned (.tuple #[refR (l.drop 16) 0, .agg #[.int .u64 (halfN l : Nat), .int .u64 (halfN (l.drop 8) : Nat)]]) ∧ Below w.heap.size w w' := by
  rw [refR_ok, refR_ok]
  have hsz := ofL_size l
  have hs16 : ¬ ((ofL l).size : Int) < 16 := by omega
  have HD := hide (show (ofL l).extract 16 l.length = ofL (l.drop 16) from ofL_extract l 16)
  obtain ⟨s, hs⟩ : ∃ s, s = ofL l := ⟨_, rfl⟩
  have hget : ∀ (i : Nat) (h : i < s.size) (h2 : i < l.length), s[i] = l[i] := by subst hs; exact fun i h h2 => rfl
  rw [← hs] at hsz hs16 HD
  have hss : s.size = l.length := hsz
  rw [← hs]
  obtain ⟨r0, r1, r2, hB⟩ := three_new w #[.string s, .int .i64 0] #[.string ⟨#[]⟩, .int .i64 0] #[.int .u64 0, .int .u64 0] 122 122 28
  have hz : (((w.alloc (.cells #[.string s, .int .i64 0] 122)).alloc (.cells #[.string ⟨#[]⟩, .int .i64 0] 122)).alloc (.cells #[.int .u64 0, .int .u64 0] 28)).heap.size = w.heap.size + 3 := by simp
  have HG := hide hget
  have HSZ := hide hss
  clear hs hsz hget hss
  go_enter Try.func83, Try.ntmps83
  go_wp2_with fail
  generalize (((w.alloc (.cells #[.string s, .int .i64 0] 122)).alloc (.cells #[.string ⟨#[]⟩, .int .i64 0] 122)).alloc (.cells #[.int .u64 0, .int .u64 0] 28)) = w2 at r0 r1 r2 hB hz ⊢
  have r3 := World.alloc_heap_new w2 (Obj.cells #[.int .u64 0, .int .u64 0] 28)
  have p0 : (w2.alloc (.cells #[.int .u64 0, .int .u64 0] 28)).heap[w.heap.size]? = _ := (Below.heap_alloc _ _ _ (by omega)).trans r0
  have p1 : (w2.alloc (.cells #[.int .u64 0, .int .u64 0] 28)).heap[w.heap.size + 1]? = _ := (Below.heap_alloc _ _ _ (by omega)).trans r1
  have p2 : (w2.alloc (.cells #[.int .u64 0, .int .u64 0] 28)).heap[w.heap.size + 2]? = _ := (Below.heap_alloc _ _ _ (by omega)).trans r2
  have hB3 := hB.alloc hB.size (.cells #[.int .u64 0, .int .u64 0] 28)
  obtain ⟨b4, hb4⟩ : ∃ b4, b4 = w.heap.size + 1 + 1 + 1 := ⟨_, rfl⟩
  have hz2 : w2.heap.size = b4 := by omega
  have hb43 : b4 = w.heap.size + 3 := by omega
  rw [hz2] at r3
  rw [← hb4]
  have HR := hide (show (w2.alloc (.cells #[.int .u64 0, .int .u64 0] 28)).heap[w.heap.size]? = some (.cells #[.string s, .int .i64 0] 122 (0, 0)) ∧ (w2.alloc (.cells #[.int .u64 0, .int .u64 0] 28)).heap[w.heap.size + 1]? = some (.cells #[.string ⟨#[]⟩, .int .i64 0] 122 (0, 0)) ∧ (w2.alloc (.cells #[.int .u64 0, .int .u64 0] 28)).heap[w.heap.size + 2]? = some (.cells #[.int .u64 0, .int .u64 0] 28 (0, 0)) ∧ (w2.alloc (.cells #[.int .u64 0, .int .u64 0] 28)).heap[b4]? = some (.cells #[.int .u64 (halfF l 0 : Nat), .int .u64 (halfF (l.drop 8) 0 : Nat)] 28 (0, 0)) ∧ Below w.heap.size w (w2.alloc (.cells #[.int .u64 0, .int .u64 0] 28)) from ⟨p0, p1, p2, r3, hB3⟩)
  generalize (w2.alloc (.cells #[.int .u64 0, .int .u64 0] 28)) = w3 at HR ⊢
  have HB4 := hide hb43
  clear r0 r1 r2 hB hz hz2 p0 p1 p2 r3 hB3 hb4 hb43
  go_wp2_with fail
  go_loopw [5] (fun i wr => ∃ k : Nat, k ≤ 8 ∧ i = .int .i64 k ∧ Hid (wr.heap[w.heap.size]? = some (.cells #[.string s, .int .i64 0] 122 (0, 0)) ∧ wr.heap[w.heap.size + 1]? = some (.cells #[.string ⟨#[]⟩, .int .i64 0] 122 (0, 0)) ∧ wr.heap[w.heap.size + 2]? = some (.cells #[.int .u64 0, .int .u64 0] 28 (0, 0)) ∧ wr.heap[b4]? = some (.cells #[.int .u64 (halfF l k : Nat), .int .u64 (halfF (l.drop 8) k : Nat)] 28 (0, 0)) ∧ Below w.heap.size w wr)) (fun i _ => 8 - (intOf i).toNat)
  case atStart => exact ⟨0, by decide, rfl, HR⟩
  case round =>
    clear HR
    obtain ⟨k, hk, rfl, HT⟩ := hrel
    have hb43 := HB4.out
    have hl16 : (16 : Int) ≤ s.size := by have := HSZ.out; omega
    by_cases hlt : (k : Int) < 8
    · have hk8 : k < 8 := by omega
      have hsl := HSZ.out
      obtain ⟨q, hq⟩ : ∃ q, q = 8 + k := ⟨_, rfl⟩
      have hqi : (8 : Int) + (k : Int) = (q : Int) := by omega
      have hqw : IntKind.i64.wrap (q : Int) = (q : Int) := IntWalk.i64_in _ (by omega)
      have hks : k < s.size := by omega
      have hqs : q < s.size := by omega
      have hki : (k : Int) < s.size := by omega
      have hqsi : (q : Int) < s.size := by omega
      have g1 := HG.out k hks (by omega)
      have g2 := HG.out q hqs (by omega)
      have e1 := halfF_hi l k (by omega)
      have e2 := halfF_hi (l.drop 8) k (by rw [List.length_drop]; omega)
      rw [List.getElem_drop] at e2
      simp only [← hq] at e2
      rw [← g1] at e1
      rw [← g2] at e2
      obtain ⟨x, hx⟩ : ∃ x, x = s[k] := ⟨_, rfl⟩
      obtain ⟨y, hy⟩ : ∃ y, y = s[q] := ⟨_, rfl⟩
      have hxk : s[k]'hks = x := hx.symm
      have hyq : s[q]'hqs = y := hy.symm
      rw [hxk] at e1
      rw [hyq] at e2
      have hx256 := x.toNat_lt
      have hy256 := y.toNat_lt
      have b1 := halfF_le l k (by omega)
      have b2 := halfF_le (l.drop 8) k (by omega)
      have HE := hide (And.intro e1 e2)
      have HT' := HT.out
      obtain ⟨H, hH⟩ : ∃ H, H = halfF l k := ⟨_, rfl⟩
      obtain ⟨J, hJ⟩ : ∃ J, J = halfF (l.drop 8) k := ⟨_, rfl⟩
      rw [← hH] at e1 b1 HT'
      rw [← hJ] at e2 b2 HT'
      obtain ⟨H2, hH2⟩ : ∃ H2, H2 = halfF l (k + 1) := ⟨_, rfl⟩
      obtain ⟨J2, hJ2⟩ : ∃ J2, J2 = halfF (l.drop 8) (k + 1) := ⟨_, rfl⟩
      rw [← hH2] at e1
      rw [← hJ2] at e2
      have v1 : IntKind.u64.wrap ((H : Int) * 256) = (H : Int) * 256 := by rw [IntKind.wrap_u64]; omega
      have v2 : IntKind.u64.wrap ((H : Int) * 256 + (x.toNat : Int)) = (H2 : Int) := by rw [IntKind.wrap_u64]; omega
      have v3 : IntKind.u64.wrap ((J : Int) * 256) = (J : Int) * 256 := by rw [IntKind.wrap_u64]; omega
      have v4 : IntKind.u64.wrap ((J : Int) * 256 + (y.toNat : Int)) = (J2 : Int) := by rw [IntKind.wrap_u64]; omega
      have v5 : IntKind.u64.wrap (x.toNat : Int) = (x.toNat : Int) := by rw [IntKind.wrap_u64]; omega
      have v6 : IntKind.u64.wrap (y.toNat : Int) = (y.toNat : Int) := by rw [IntKind.wrap_u64]; omega
      obtain ⟨t0, t1, t2, t4, tB⟩ := HT'
      have c0 : wr.cell? ⟨w.heap.size, 0, none⟩ = some (.string s) := cell_of_row _ _ _ _ _ _ t0
      have c4 : wr.cell? ⟨b4, 0, none⟩ = some (.int .u64 (H : Nat)) := cell_of_row _ _ _ _ _ _ t4
      have HQ := hide (And.intro hH2 hJ2)
      clear hx hy hH hJ hH2 hJ2 e1 e2 g1 g2 hsl hb43 hq HT
      go_wp2_with fail
      go_still_tail 10, (by kernel_rfl)
      change wpList _ _ _ _ _ wr.drew
      have u0 : wr.drew.heap[w.heap.size]? = _ := t0
      have u1 : wr.drew.heap[w.heap.size + 1]? = _ := t1
      have u2 : wr.drew.heap[w.heap.size + 2]? = _ := t2
      have u4 : wr.drew.heap[b4]? = _ := t4
      have uB : Below w.heap.size w wr.drew := ⟨tB.os, tB.tape, tB.output, tB.size, tB.block⟩
      clear t0 t1 t2 t4 tB c0 c4
      generalize wr.drew = wq at u0 u1 u2 u4 uB ⊢
      have hb43 := HB4.out
      have d4 : wq.cell? ⟨b4, 0, none⟩ = some (.int .u64 (H : Nat)) := cell_of_row _ _ _ _ _ _ u4
      have z4 : wq.frozen? ⟨b4, 0, none⟩ = false := frozen_of_row _ _ _ _ _ u4
      have s4 := heap_setCell_same wq b4 0 _ _ (.int .u64 (H2 : Nat)) u4
      have s0 : (wq.setCell ⟨b4, 0, none⟩ (.int .u64 (H2 : Nat))).heap[w.heap.size]? = _ := (heap_setCell_other _ _ _ _ (by simp; omega)).trans u0
      have s1 : (wq.setCell ⟨b4, 0, none⟩ (.int .u64 (H2 : Nat))).heap[w.heap.size + 1]? = _ := (heap_setCell_other _ _ _ _ (by simp; omega)).trans u1
      have s2 : (wq.setCell ⟨b4, 0, none⟩ (.int .u64 (H2 : Nat))).heap[w.heap.size + 2]? = _ := (heap_setCell_other _ _ _ _ (by simp; omega)).trans u2
      have sB := uB.setCell (p := ⟨b4, 0, none⟩) (by simp only; omega) (.int .u64 (H2 : Nat))
      clear u0 u1 u2 u4 uB hb43
      go_wp2_with fail
      have s4 : (wq.setCell ⟨b4, 0, none⟩ (.int .u64 (H2 : Nat))).heap[b4]? = some (.cells #[.int .u64 (H2 : Nat), .int .u64 (J : Nat)] 28 (0, 0)) := s4
      generalize (wq.setCell ⟨b4, 0, none⟩ (.int .u64 (H2 : Nat))) = w5 at s0 s1 s2 s4 sB ⊢
      have c0 : w5.cell? ⟨w.heap.size, 0, none⟩ = some (.string s) := cell_of_row _ _ _ _ _ _ s0
      have c5 : w5.cell? ⟨b4, 1, none⟩ = some (.int .u64 (J : Nat)) := cell_of_row _ _ _ _ _ _ s4
      clear d4 z4
      go_still_tail 11, (by kernel_rfl)
      change wpList _ _ _ _ _ w5.drew
      have u0 : w5.drew.heap[w.heap.size]? = _ := s0
      have u1 : w5.drew.heap[w.heap.size + 1]? = _ := s1
      have u2 : w5.drew.heap[w.heap.size + 2]? = _ := s2
      have u4 : w5.drew.heap[b4]? = _ := s4
      have uB : Below w.heap.size w w5.drew := ⟨sB.os, sB.tape, sB.output, sB.size, sB.block⟩
      clear s0 s1 s2 s4 sB c0 c5
      generalize w5.drew = wz at u0 u1 u2 u4 uB ⊢
      have hb43 := HB4.out
      have d4 : wz.cell? ⟨b4, 1, none⟩ = some (.int .u64 (J : Nat)) := cell_of_row _ _ _ _ _ _ u4
      have z4 : wz.frozen? ⟨b4, 1, none⟩ = false := frozen_of_row _ _ _ _ _ u4
      have s4 : (wz.setCell ⟨b4, 1, none⟩ (.int .u64 (J2 : Nat))).heap[b4]? = some (.cells #[.int .u64 (H2 : Nat), .int .u64 (J2 : Nat)] 28 (0, 0)) := heap_setCell_same wz b4 1 _ _ (.int .u64 (J2 : Nat)) u4
      have s0 : (wz.setCell ⟨b4, 1, none⟩ (.int .u64 (J2 : Nat))).heap[w.heap.size]? = _ := (heap_setCell_other _ _ _ _ (by simp; omega)).trans u0
      have s1 : (wz.setCell ⟨b4, 1, none⟩ (.int .u64 (J2 : Nat))).heap[w.heap.size + 1]? = _ := (heap_setCell_other _ _ _ _ (by simp; omega)).trans u1
      have s2 : (wz.setCell ⟨b4, 1, none⟩ (.int .u64 (J2 : Nat))).heap[w.heap.size + 2]? = _ := (heap_setCell_other _ _ _ _ (by simp; omega)).trans u2
      have sB := uB.setCell (p := ⟨b4, 1, none⟩) (by simp only; omega) (.int .u64 (J2 : Nat))
      have HS := hide (And.intro s0 (And.intro s1 (And.intro s2 (And.intro s4 sB))))
      have HK := hide hk8
      clear u0 u1 u2 u4 uB hb43 s0 s1 s2 s4 sB
      go_wp2_with fail
      go_roundw
      case rel => exact ⟨k + 1, hk8, rfl, hide ⟨HS.out.1, HS.out.2.1, HS.out.2.2.1, HS.out.2.2.2.1.trans (by rw [← HQ.out.1, ← HQ.out.2]), HS.out.2.2.2.2⟩⟩
      case measure => simp [intOf]; omega
    · obtain rfl : k = 8 := by omega
      obtain ⟨t0, t1, t2, t4, tB⟩ := HT.out
      have c0 : wr.cell? ⟨w.heap.size, 0, none⟩ = some (.string s) := cell_of_row _ _ _ _ _ _ t0
      have c4 : wr.cell? ⟨b4, 0, none⟩ = some (.int .u64 (halfN l : Nat)) := cell_of_row _ _ _ _ _ _ t4
      have c5 : wr.cell? ⟨b4, 1, none⟩ = some (.int .u64 (halfN (l.drop 8) : Nat)) := cell_of_row _ _ _ _ _ _ t4
      obtain ⟨H, hH⟩ : ∃ H, H = halfN l := ⟨_, rfl⟩
      obtain ⟨J, hJ⟩ : ∃ J, J = halfN (l.drop 8) := ⟨_, rfl⟩
      rw [← hH] at c4
      rw [← hJ] at c5
      have HQ := hide (And.intro hH hJ)
      have ne1 : ¬ b4 = w.heap.size + 1 := by omega
      have ne2 : ¬ b4 = w.heap.size + 1 + 1 := by omega
      have ne3 : ¬ w.heap.size + 1 = b4 := by omega
      have ne4 : ¬ w.heap.size + 1 + 1 = b4 := by omega
      clear hb43 t4 hH hJ HT
      have t2 : wr.heap[w.heap.size + 1 + 1]? = some (.cells #[.int .u64 0, .int .u64 0] 28 (0, 0)) := t2
      have d0 : wr.cell? ⟨w.heap.size + 1, 0, none⟩ = some (.string ⟨#[]⟩) := cell_of_row _ _ _ _ _ _ t1
      have d1 : wr.cell? ⟨w.heap.size + 1, 1, none⟩ = some (.int .i64 0) := cell_of_row _ _ _ _ _ _ t1
      have d2 : wr.cell? ⟨w.heap.size + 1 + 1, 0, none⟩ = some (.int .u64 0) := cell_of_row _ _ _ _ _ _ t2
      have d3 : wr.cell? ⟨w.heap.size + 1 + 1, 1, none⟩ = some (.int .u64 0) := cell_of_row _ _ _ _ _ _ t2
      have z0 : wr.frozen? ⟨w.heap.size + 1, 0, none⟩ = false := frozen_of_row _ _ _ _ _ t1
      have z1 : wr.frozen? ⟨w.heap.size + 1, 1, none⟩ = false := frozen_of_row _ _ _ _ _ t1
      have z2 : wr.frozen? ⟨w.heap.size + 1 + 1, 0, none⟩ = false := frozen_of_row _ _ _ _ _ t2
      have z3 : wr.frozen? ⟨w.heap.size + 1 + 1, 1, none⟩ = false := frozen_of_row _ _ _ _ _ t2
      have u1 : wr.drew.heap[w.heap.size + 1]? = _ := t1
      have u2 : wr.drew.heap[w.heap.size + 1 + 1]? = some (.cells #[.int .u64 0, .int .u64 0] 28 (0, 0)) := t2
      have uB : Below w.heap.size w wr.drew := ⟨tB.os, tB.tape, tB.output, tB.size, tB.block⟩
      have HX := hide (four_end w wr.drew (w.heap.size + 1) (w.heap.size + 1 + 1) _ _ (.string (s.extract 16 s.size)) (.int .i64 0) _ _ (.int .u64 (H : Nat)) (.int .u64 (J : Nat)) _ _ u1 u2 (by omega) (by omega) (by omega) uB)
      have HY := hide (four_end w wr (w.heap.size + 1) (w.heap.size + 1 + 1) _ _ (.string (s.extract 16 s.size)) (.int .i64 0) _ _ (.int .u64 (H : Nat)) (.int .u64 (J : Nat)) _ _ t1 t2 (by omega) (by omega) (by omega) tB)
      clear t0 t1 t2 tB u1 u2 uB
      go_wp2_with fail
      go_region_with (fail)
      all_goals
        go_wp2_with fail
        obtain ⟨y0, y1, y2, y3, _⟩ := HY.out
        obtain ⟨_, _, _, _, hBf⟩ := HX.out
        refine bodyPost_ret (v := .tuple #[.agg #[.string (s.extract 16 s.size), .int .i64 0], .agg #[.int .u64 (H : Nat), .int .u64 (J : Nat)]]) (by simp [results, Try.results83, go_sem, y0, y1, y2, y3]) rfl ⟨by rw [HSZ.out, HD.out, HQ.out.1, HQ.out.2], hBf⟩
theorem getSum_any (l : List UInt8) (e : Nat) (w : World) (hl : l.length ≤ 1000000) :
    Calls Try.prog 83 #[refR l e] w fun en w' => en = .returned (.tuple #[refR (readS l e).2.1 (readS l e).2.2, sumV (readS l e).1]) ∧ Below w.heap.size w w' := by
  unfold readS
  by_cases he : e = 0
  · subst he
    rw [if_neg (by simp)]
    by_cases h : l.length < 16
    · rw [if_pos h]; exact getSum_short l w h
    · rw [if_neg h]; exact getSum_ok l w (by omega) hl
  · rw [if_pos he]; exact getSum_err l e w he
end Go.Proofs.Ytobgbheodlpclaa
