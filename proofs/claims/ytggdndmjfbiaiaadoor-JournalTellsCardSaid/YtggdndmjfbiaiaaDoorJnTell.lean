/-
  journal.Tell: what records come to.
-/
import Derived.Test.YtggdndmjfbiaiaaDoorJnRecs
import Derived.Laws.Rows
namespace Go.Proofs.YtggdndmjfbiaiaaDoor
open Go.RowKit
set_option maxRecDepth 100000

/-- What records come to. -/
structure Sm where
  st : Int
  pl : Int
  dd : Int
  en : Bool
def stepS (s : Sm) (r : Int × Int) : Sm := ⟨if r.1 = 1 then s.st + 1 else s.st, if r.1 = 2 then r.2 else s.pl, if r.1 = 2 then 0 else if r.1 = 3 then s.dd + 1 else s.dd, decide (r.1 = 4)⟩
def tellS (l : List (Int × Int)) : Sm := l.foldl stepS ⟨0, 0, 0, false⟩
def Sm.cells (s : Sm) : Array Value := #[.int .i64 s.st, .int .i64 s.pl, .int .i64 s.dd, .bool s.en]
theorem tell_snoc (l : List (Int × Int)) (r : Int × Int) : tellS (l ++ [r]) = stepS (tellS l) r := by simp [tellS]
theorem tell_bound (l : List (Int × Int)) : (0 ≤ (tellS l).st ∧ (tellS l).st ≤ l.length) ∧ (0 ≤ (tellS l).dd ∧ (tellS l).dd ≤ l.length) := by
  have key : ∀ n, ∀ l : List (Int × Int), l.length = n → (0 ≤ (tellS l).st ∧ (tellS l).st ≤ l.length) ∧ (0 ≤ (tellS l).dd ∧ (tellS l).dd ≤ l.length) := by
    intro n
    induction n with
    | zero =>
      intro l hl
      have : l = [] := List.length_eq_zero_iff.1 hl
      subst this
      simp [tellS]
    | succ n ih =>
      intro l hl
      have hne : l ≠ [] := fun e => by rw [e] at hl; simp at hl
      obtain ⟨m, r, rfl⟩ : ∃ m r, l = m ++ [r] := ⟨_, _, (List.dropLast_concat_getLast hne).symm⟩
      obtain ⟨⟨a1, a2⟩, a3, a4⟩ := ih m (by simpa using hl)
      rw [tell_snoc]
      simp only [stepS, List.length_append, List.length_singleton]
      refine ⟨⟨?_, ?_⟩, ?_, ?_⟩
      · split <;> omega
      · split <;> omega
      · split
        · omega
        · split <;> omega
      · split
        · omega
        · split <;> omega
  exact key _ l rfl
theorem four_sets (W : World) (n : Nat) (z0 z1 z2 z3 v0 v1 v2 v3 : Value) (t : TypeId) (h : W.heap[n]? = some (.cells #[z0, z1, z2, z3] t (0, 0))) :
    Below n W ((((W.setCell ⟨n, 0, none⟩ v0).setCell ⟨n, 1, none⟩ v1).setCell ⟨n, 2, none⟩ v2).setCell ⟨n, 3, none⟩ v3) ∧ ((((W.setCell ⟨n, 0, none⟩ v0).setCell ⟨n, 1, none⟩ v1).setCell ⟨n, 2, none⟩ v2).setCell ⟨n, 3, none⟩ v3).heap[n]? = some (.cells #[v0, v1, v2, v3] t (0, 0)) := by
  have r0 := heap_setCell_same _ _ 0 _ _ v0 h
  have r1 := heap_setCell_same _ _ 1 _ _ v1 r0
  have r2 := heap_setCell_same _ _ 2 _ _ v2 r1
  have r3 := heap_setCell_same _ _ 3 _ _ v3 r2
  have b0 := (Below.refl n W).setCell (p := ⟨n, 0, none⟩) (Nat.le_refl _) v0
  have b1 := b0.setCell (p := ⟨n, 1, none⟩) (Nat.le_refl _) v1
  have b2 := b1.setCell (p := ⟨n, 2, none⟩) (Nat.le_refl _) v2
  have b3 := b2.setCell (p := ⟨n, 3, none⟩) (Nat.le_refl _) v3
  exact ⟨b3, r3⟩
/-- What Tell holds: its answer's block, and its own. -/
structure TS (w : World) (s : Sm) (W : World) : Prop where
  below : Below w.heap.size w W
  b0 : W.heap[w.heap.size]? = some (.cells #[.int .i64 0, .int .i64 0, .int .i64 0, .bool false] 38 (0, 0))
  b1 : W.heap[w.heap.size + 1]? = some (.cells s.cells 38 (0, 0))
theorem TS.alloc {w W : World} {s : Sm} (h : TS w s W) (o : Obj) : TS w s (W.alloc o) :=
  ⟨h.below.alloc h.below.size _, (Below.heap_alloc _ _ _ (Array.getElem?_eq_some_iff.1 h.b0).1).trans h.b0, (Below.heap_alloc _ _ _ (Array.getElem?_eq_some_iff.1 h.b1).1).trans h.b1⟩
theorem TS.c0 {w W : World} {s : Sm} (h : TS w s W) : W.cell? ⟨w.heap.size + 1, 0, none⟩ = some (.int .i64 s.st) ∧ W.frozen? ⟨w.heap.size + 1, 0, none⟩ = false := ⟨cell_of_row _ _ _ _ _ _ h.b1, frozen_of_row _ _ _ _ _ h.b1⟩
theorem TS.c1 {w W : World} {s : Sm} (h : TS w s W) : W.cell? ⟨w.heap.size + 1, 1, none⟩ = some (.int .i64 s.pl) ∧ W.frozen? ⟨w.heap.size + 1, 1, none⟩ = false := ⟨cell_of_row _ _ _ _ _ _ h.b1, frozen_of_row _ _ _ _ _ h.b1⟩
theorem TS.c2 {w W : World} {s : Sm} (h : TS w s W) : W.cell? ⟨w.heap.size + 1, 2, none⟩ = some (.int .i64 s.dd) ∧ W.frozen? ⟨w.heap.size + 1, 2, none⟩ = false := ⟨cell_of_row _ _ _ _ _ _ h.b1, frozen_of_row _ _ _ _ _ h.b1⟩
theorem TS.c3 {w W : World} {s : Sm} (h : TS w s W) : W.cell? ⟨w.heap.size + 1, 3, none⟩ = some (.bool s.en) ∧ W.frozen? ⟨w.heap.size + 1, 3, none⟩ = false := ⟨cell_of_row _ _ _ _ _ _ h.b1, frozen_of_row _ _ _ _ _ h.b1⟩
theorem TS.set {w W : World} {s s' : Sm} (h : TS w s W) (j : Nat) (v : Value) (hs : s.cells.setIfInBounds j v = s'.cells) : TS w s' (W.setCell ⟨w.heap.size + 1, j, none⟩ v) :=
  ⟨h.below.setCell (p := ⟨w.heap.size + 1, j, none⟩) (by simp) _, (heap_setCell_other _ _ _ _ (by simp)).trans h.b0, by rw [heap_setCell_same _ _ _ _ _ _ h.b1, hs]⟩

set_option maxHeartbeats 16000000 in
theorem tell_any (A : Option Addr) (l : List (Int × Int)) (c : Nat) (w : World) (hA : RdR w w.heap.size A l) (hl : (l.length : Int) ≤ 1000000) :
    Calls Tryd.prog 13 #[.slice A l.length c] w fun e w' => e = .returned (.agg (tellS l).cells) ∧ Below w.heap.size w w' := by
  obtain ⟨w1, hw1⟩ : ∃ w1, w1 = (w.alloc (.cells #[.int .i64 0, .int .i64 0, .int .i64 0, .bool false] 38)).alloc (.cells #[.int .i64 0, .int .i64 0, .int .i64 0, .bool false] 38) := ⟨_, rfl⟩
  have HTS := hide (show TS w (tellS (l.take 0)) w1 by
    rw [hw1]
    have r1 := World.alloc_heap_new (w.alloc (.cells #[.int .i64 0, .int .i64 0, .int .i64 0, .bool false] 38)) (Obj.cells #[.int .i64 0, .int .i64 0, .int .i64 0, .bool false] 38)
    rw [World.size_alloc] at r1
    exact ⟨((Below.refl w.heap.size w).alloc (Nat.le_refl _) _).alloc (by simp) _, (Below.heap_alloc _ _ _ (by simp)).trans (World.alloc_heap_new _ _), r1⟩)
  have Hw1 := hide hw1
  have HA := hide hA
  clear hw1 hA
  go_enter Tryd.func13, Tryd.ntmps13
  go_wp2_with fail
  rw [← Hw1.out]
  go_loopg [8] l.length (fun gk iv wr => ∃ i : Nat, iv = .int .i64 i ∧ i + gk = l.length ∧ Hid (TS w (tellS (l.take i)) wr))
  case atStart => exact ⟨0, rfl, by omega, HTS⟩
  case round =>
    obtain ⟨i, rfl, hig, HT⟩ := hrel
    cases gk with
    | zero =>
      obtain rfl : i = l.length := by omega
      have HF := hide (show TS w (tellS l) wr by have h := HT.out; rwa [List.take_length] at h)
      obtain ⟨y0, z0⟩ := HF.out.c0
      obtain ⟨y1, z1⟩ := HF.out.c1
      obtain ⟨y2, z2⟩ := HF.out.c2
      obtain ⟨y3, z3⟩ := HF.out.c3
      obtain ⟨s, hs⟩ : ∃ s, s = tellS l := ⟨_, rfl⟩
      rw [← hs] at HF y0 y1 y2 y3
      have Hs := hide hs
      obtain ⟨st, pl, dd, en⟩ := s
      simp only at y0 y1 y2 y3
      have HP := hide (four_sets wr w.heap.size _ _ _ _ (.int .i64 st) (.int .i64 pl) (.int .i64 dd) (.bool en) _ HF.out.b0)
      have HB := hide (HF.out.below.trans HP.out.1)
      have f0 : wr.frozen? ⟨w.heap.size, 0, none⟩ = false := frozen_of_row _ _ _ _ _ HF.out.b0
      have f1 : wr.frozen? ⟨w.heap.size, 1, none⟩ = false := frozen_of_row _ _ _ _ _ HF.out.b0
      have f2 : wr.frozen? ⟨w.heap.size, 2, none⟩ = false := frozen_of_row _ _ _ _ _ HF.out.b0
      have f3 : wr.frozen? ⟨w.heap.size, 3, none⟩ = false := frozen_of_row _ _ _ _ _ HF.out.b0
      have g0 : wr.cell? ⟨w.heap.size, 0, none⟩ = some (.int .i64 0) := cell_of_row _ _ _ _ _ _ HF.out.b0
      have g1 : wr.cell? ⟨w.heap.size, 1, none⟩ = some (.int .i64 0) := cell_of_row _ _ _ _ _ _ HF.out.b0
      have g2 : wr.cell? ⟨w.heap.size, 2, none⟩ = some (.int .i64 0) := cell_of_row _ _ _ _ _ _ HF.out.b0
      have g3 : wr.cell? ⟨w.heap.size, 3, none⟩ = some (.bool false) := cell_of_row _ _ _ _ _ _ HF.out.b0
      clear HT hs
      go_wp2_with fail
      refine bodyPost_ret (results_cell_row (P := Tryd.prog) rfl _ _ w.heap.size _ _ _ _ rfl HP.out.2 Tryd.underlying38 rfl (by kernel_rfl)) rfl ⟨by rw [← Hs.out]; rfl, HB.out⟩
    | succ g0 =>
      have hii : (i : Int) < l.length := by omega
      have hi0 : (0 : Int) ≤ (i : Int) := by omega
      have hiw : IntKind.i64.wrap ((i : Int) + 1) = ((i + 1 : Nat) : Int) := by rw [IntWalk.i64_in _ (by omega)]; rfl
      obtain ⟨t, ht⟩ : ∃ t, l[i]? = some t := ⟨_, List.getElem?_eq_getElem (by omega)⟩
      obtain ⟨ad, rfl, hlt, hnd⟩ := (HA.out.below HT.out.below (Nat.le_refl _)) i t ht
      have hT := hide (show tellS (l.take (i + 1)) = stepS (tellS (l.take i)) t by
        obtain ⟨h1, e1⟩ := List.getElem?_eq_some_iff.1 ht
        rw [← List.take_append_getElem h1, e1, tell_snoc])
      obtain ⟨⟨b1, b2⟩, b3, b4⟩ := tell_bound (l.take i)
      rw [List.length_take, Nat.min_eq_left (by omega)] at b2 b4
      obtain ⟨c0, c1⟩ := hnd
      obtain ⟨rk, rn⟩ := t
      simp only at c0 c1
      obtain ⟨s, hs⟩ : ∃ s, s = tellS (l.take i) := ⟨_, rfl⟩
      rw [← hs] at HT hT b1 b2 b3 b4
      obtain ⟨st, pl, dd, en⟩ := s
      simp only at b1 b2 b3 b4
      have hw1 : IntKind.i64.wrap (st + 1) = st + 1 := IntWalk.i64_in _ (by omega)
      have hw2 : IntKind.i64.wrap (dd + 1) = dd + 1 := IntWalk.i64_in _ (by omega)
      have HT2 := hide HT.out
      have hlt2 : w.heap.size + 1 < wr.heap.size := (Array.getElem?_eq_some_iff.1 HT.out.b1).1
      obtain ⟨y0, z0⟩ := HT.out.c0
      obtain ⟨y1, z1⟩ := HT.out.c1
      obtain ⟨y2, z2⟩ := HT.out.c2
      obtain ⟨y3, z3⟩ := HT.out.c3
      simp only at y0 y1 y2 y3
      clear ht hs HT
      have hcases : rk = 1 ∨ rk = 2 ∨ rk = 3 ∨ rk = 4 ∨ ((rk == 1) = false ∧ (rk == 2) = false ∧ (rk == 3) = false ∧ (rk == 4) = false) := by
        simp only [beq_eq_false_iff_ne]
        omega
      rcases hcases with rfl | rfl | rfl | rfl | ⟨k1, k2, k3, k4⟩
      · have HN := hide (show TS w (tellS (l.take (i + 1))) _ from by
          rw [hT.out]
          exact ((HT2.out.set 0 (.int .i64 (st + 1)) (s' := ⟨st + 1, pl, dd, en⟩) rfl).set 3 (.bool false) (s' := stepS ⟨st, pl, dd, en⟩ (1, rn)) rfl).alloc (.cells #[.int .i64 1, .int .i64 rn] 34))
        go_wp2_with fail
        go_roundg g0
        case rel => exact ⟨i + 1, rfl, by omega, HN⟩
        case measure => omega
      · have HN := hide (show TS w (tellS (l.take (i + 1))) _ from by
          rw [hT.out]
          exact (((HT2.out.set 1 (.int .i64 rn) (s' := ⟨st, rn, dd, en⟩) rfl).set 2 (.int .i64 0) (s' := ⟨st, rn, 0, en⟩) rfl).set 3 (.bool false) (s' := stepS ⟨st, pl, dd, en⟩ (2, rn)) rfl).alloc (.cells #[.int .i64 2, .int .i64 rn] 34))
        go_wp2_with fail
        go_roundg g0
        case rel => exact ⟨i + 1, rfl, by omega, HN⟩
        case measure => omega
      · have HN := hide (show TS w (tellS (l.take (i + 1))) _ from by
          rw [hT.out]
          exact ((HT2.out.set 2 (.int .i64 (dd + 1)) (s' := ⟨st, pl, dd + 1, en⟩) rfl).set 3 (.bool false) (s' := stepS ⟨st, pl, dd, en⟩ (3, rn)) rfl).alloc (.cells #[.int .i64 3, .int .i64 rn] 34))
        go_wp2_with fail
        go_roundg g0
        case rel => exact ⟨i + 1, rfl, by omega, HN⟩
        case measure => omega
      · have HN := hide (show TS w (tellS (l.take (i + 1))) _ from by
          rw [hT.out]
          exact (HT2.out.set 3 (.bool true) (s' := stepS ⟨st, pl, dd, en⟩ (4, rn)) rfl).alloc (.cells #[.int .i64 4, .int .i64 rn] 34))
        go_wp2_with fail
        go_roundg g0
        case rel => exact ⟨i + 1, rfl, by omega, HN⟩
        case measure => omega
      · have HN := hide (show TS w (tellS (l.take (i + 1))) _ from by
          rw [hT.out]
          exact (HT2.out.set 3 (.bool false) (s' := stepS ⟨st, pl, dd, en⟩ (rk, rn)) (by
            simp only [beq_eq_false_iff_ne] at k1 k2 k3 k4
            simp [stepS, Sm.cells, k1, k2, k3, k4])).alloc (.cells #[.int .i64 rk, .int .i64 rn] 34))
        go_wp2_with fail
        go_roundg g0
        case rel => exact ⟨i + 1, rfl, by omega, HN⟩
        case measure => omega
end Go.Proofs.YtggdndmjfbiaiaaDoor
