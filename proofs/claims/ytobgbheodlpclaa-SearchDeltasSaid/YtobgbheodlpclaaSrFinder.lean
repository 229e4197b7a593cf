/-
  search.newFinder: the maps of weak sums and of signs.
-/
import Derived.Test.YtobgbheodlpclaaAutoMapG
import Derived.Test.YtobgbheodlpclaaSrMath
import Derived.Test.YtobgbheodlpclaaBkRight
import Derived.StillTailTactics
namespace Go.Proofs.Ytobgbheodlpclaa
open Go.RowKit
set_option maxRecDepth 100000

/-- How many signs have a weak sum. -/
def cntW (q : Nat) : List Sg → Nat
  | [] => 0
  | x :: r => (if x.weak = q then 1 else 0) + cntW q r
theorem cntW_le (q : Nat) : ∀ l : List Sg, cntW q l ≤ l.length
  | [] => Nat.le_refl _
  | x :: r => by have := cntW_le q r; unfold cntW; simp only [List.length_cons]; split <;> omega
theorem cntW_mem {q : Nat} : ∀ {l : List Sg} {x : Sg}, x ∈ l → x.weak = q → cntW q l ≠ 0
  | y :: r, x, h, e => by
    unfold cntW
    rcases List.mem_cons.1 h with rfl | h
    · rw [if_pos e]; omega
    · have := cntW_mem h e; omega
def weakF (l : List Sg) (q : Nat) : Option Value := if cntW q l = 0 then none else some (.int .i64 (cntW q l : Nat))
def leastF (l : List Sg) (j : Nat) (g : Sg) : Option Value := (idxF g l j).map fun k => .int .i64 (k : Nat)
theorem weakF_getD (l : List Sg) (q : Nat) : (weakF l q).getD (.int .i64 0) = .int .i64 (cntW q l : Nat) := by
  unfold weakF
  split
  · rename_i h; rw [h]; rfl
  · rfl
theorem weakF_same (x : Sg) (r : List Sg) : weakF (x :: r) x.weak = some (.int .i64 ((cntW x.weak r + 1 : Nat) : Int)) := by
  have e : cntW x.weak (x :: r) = cntW x.weak r + 1 := by rw [cntW, if_pos rfl, Nat.add_comm]
  unfold weakF
  rw [e, if_neg (by omega)]
theorem weakF_other (x : Sg) (r : List Sg) (q : Nat) (h : q ≠ x.weak) : weakF (x :: r) q = weakF r q := by
  have e : cntW q (x :: r) = cntW q r := by rw [cntW, if_neg (fun e => h e.symm), Nat.zero_add]
  unfold weakF
  rw [e]
theorem leastF_same (x : Sg) (r : List Sg) (j : Nat) : leastF (x :: r) j x = some (.int .i64 (j : Nat)) := by
  unfold leastF idxF
  rw [if_pos ((sgB_iff x x).2 rfl)]; rfl
theorem leastF_other (x : Sg) (r : List Sg) (j : Nat) (g : Sg) (h : g ≠ x) : leastF (x :: r) j g = leastF r (j + 1) g := by
  unfold leastF
  rw [idxF, if_neg (fun e => h ((sgB_iff x g).1 e).symm)]
/-- A finder's cells. -/
def finC (z : Int) (A : Option Addr) (n c : Nat) (tl : Int) (s : Sg) (a b : Nat) : Array Value :=
  #[.int .i64 z, .slice A n c, .int .i64 tl, .int .u32 (s.weak : Nat), .int .u64 (s.hi : Nat), .int .u64 (s.lo : Nat), .map (some a), .map (some b)]
def eightS (W : World) (n : Nat) (a0 a1 a2 a3 a4 a5 a6 a7 : Value) : World := ((((((((W.setCell ⟨n, 0, none⟩ a0).setCell ⟨n, 1, none⟩ a1).setCell ⟨n, 2, none⟩ a2).setCell ⟨n, 3, none⟩ a3).setCell ⟨n, 4, none⟩ a4).setCell ⟨n, 5, none⟩ a5).setCell ⟨n, 6, none⟩ a6).setCell ⟨n, 7, none⟩ a7)
theorem eightS_row {W : World} {n : Nat} {z : Array Value} {t : TypeId} (b0 b1 b2 b3 b4 b5 b6 b7 a0 a1 a2 a3 a4 a5 a6 a7 : Value) (hz : z = #[b0, b1, b2, b3, b4, b5, b6, b7]) (h : W.heap[n]? = some (.cells z t (0, 0))) : (eightS W n a0 a1 a2 a3 a4 a5 a6 a7).heap[n]? = some (.cells #[a0, a1, a2, a3, a4, a5, a6, a7] t (0, 0)) := by
  subst hz
  have h0 : (W.setCell ⟨n, 0, none⟩ a0).heap[n]? = some (.cells #[a0, b1, b2, b3, b4, b5, b6, b7] t (0, 0)) := heap_setCell_same _ n 0 _ _ a0 h
  have h1 : ((W.setCell ⟨n, 0, none⟩ a0).setCell ⟨n, 1, none⟩ a1).heap[n]? = some (.cells #[a0, a1, b2, b3, b4, b5, b6, b7] t (0, 0)) := heap_setCell_same _ n 1 _ _ a1 h0
  have h2 : (((W.setCell ⟨n, 0, none⟩ a0).setCell ⟨n, 1, none⟩ a1).setCell ⟨n, 2, none⟩ a2).heap[n]? = some (.cells #[a0, a1, a2, b3, b4, b5, b6, b7] t (0, 0)) := heap_setCell_same _ n 2 _ _ a2 h1
  have h3 : ((((W.setCell ⟨n, 0, none⟩ a0).setCell ⟨n, 1, none⟩ a1).setCell ⟨n, 2, none⟩ a2).setCell ⟨n, 3, none⟩ a3).heap[n]? = some (.cells #[a0, a1, a2, a3, b4, b5, b6, b7] t (0, 0)) := heap_setCell_same _ n 3 _ _ a3 h2
  have h4 : (((((W.setCell ⟨n, 0, none⟩ a0).setCell ⟨n, 1, none⟩ a1).setCell ⟨n, 2, none⟩ a2).setCell ⟨n, 3, none⟩ a3).setCell ⟨n, 4, none⟩ a4).heap[n]? = some (.cells #[a0, a1, a2, a3, a4, b5, b6, b7] t (0, 0)) := heap_setCell_same _ n 4 _ _ a4 h3
  have h5 : ((((((W.setCell ⟨n, 0, none⟩ a0).setCell ⟨n, 1, none⟩ a1).setCell ⟨n, 2, none⟩ a2).setCell ⟨n, 3, none⟩ a3).setCell ⟨n, 4, none⟩ a4).setCell ⟨n, 5, none⟩ a5).heap[n]? = some (.cells #[a0, a1, a2, a3, a4, a5, b6, b7] t (0, 0)) := heap_setCell_same _ n 5 _ _ a5 h4
  have h6 : (((((((W.setCell ⟨n, 0, none⟩ a0).setCell ⟨n, 1, none⟩ a1).setCell ⟨n, 2, none⟩ a2).setCell ⟨n, 3, none⟩ a3).setCell ⟨n, 4, none⟩ a4).setCell ⟨n, 5, none⟩ a5).setCell ⟨n, 6, none⟩ a6).heap[n]? = some (.cells #[a0, a1, a2, a3, a4, a5, a6, b7] t (0, 0)) := heap_setCell_same _ n 6 _ _ a6 h5
  have h7 : ((((((((W.setCell ⟨n, 0, none⟩ a0).setCell ⟨n, 1, none⟩ a1).setCell ⟨n, 2, none⟩ a2).setCell ⟨n, 3, none⟩ a3).setCell ⟨n, 4, none⟩ a4).setCell ⟨n, 5, none⟩ a5).setCell ⟨n, 6, none⟩ a6).setCell ⟨n, 7, none⟩ a7).heap[n]? = some (.cells #[a0, a1, a2, a3, a4, a5, a6, a7] t (0, 0)) := heap_setCell_same _ n 7 _ _ a7 h6
  exact h7
theorem eightS_below {W w2 : World} {B n : Nat} (a0 a1 a2 a3 a4 a5 a6 a7 : Value) (h : Below B w2 W) (hn : B ≤ n) : Below B w2 (eightS W n a0 a1 a2 a3 a4 a5 a6 a7) :=
  (((((((h.setCell (p := ⟨n, 0, none⟩) hn a0).setCell (p := ⟨n, 1, none⟩) hn a1).setCell (p := ⟨n, 2, none⟩) hn a2).setCell (p := ⟨n, 3, none⟩) hn a3).setCell (p := ⟨n, 4, none⟩) hn a4).setCell (p := ⟨n, 5, none⟩) hn a5).setCell (p := ⟨n, 6, none⟩) hn a6).setCell (p := ⟨n, 7, none⟩) hn a7
theorem eightS_other (W : World) (n k : Nat) (a0 a1 a2 a3 a4 a5 a6 a7 : Value) (hk : k ≠ n) : (eightS W n a0 a1 a2 a3 a4 a5 a6 a7).heap[k]? = W.heap[k]? := by
  have e : ∀ (V : World) (j : Nat) (v : Value), (V.setCell ⟨n, j, none⟩ v).heap[k]? = V.heap[k]? := fun V j v => Below.heap_setCell V ⟨n, j, none⟩ v k hk
  unfold eightS
  rw [e, e, e, e, e, e, e, e]
/-- The maps from sign j on. -/
structure NFI (w : World) (z : Int) (A : Option Addr) (bl : List Sg) (c : Nat) (tl : Int) (s : Sg) (i j : Nat) (W : World) : Prop where
  below : Below w.heap.size w W
  row0 : W.heap[w.heap.size]? = some (.cells #[.int .i64 z, .slice A bl.length c, .int .i64 tl, .int .u32 (s.weak : Nat), .int .u64 (s.hi : Nat), .int .u64 (s.lo : Nat)] 32 (0, 0))
  row1 : W.heap[w.heap.size + 1]? = some (.cells #[.int .i64 0, .slice none 0 0, .int .i64 0, .int .u32 0, .int .u64 0, .int .u64 0, .map none, .map none] 144 (0, 0))
  row4 : W.heap[w.heap.size + 1 + 1 + 1 + 1]? = some (.cells #[.int .i64 z, .slice A bl.length c, .int .i64 tl, .int .u32 (s.weak : Nat), .int .u64 (s.hi : Nat), .int .u64 (s.lo : Nat), .map (some (w.heap.size + 1 + 1)), .map (some (w.heap.size + 1 + 1 + 1))] 144 (0, 0))
  weak : MapG weakK W (w.heap.size + 1 + 1) (bl.length - i) (weakF (bl.drop i))
  least : MapG signK W (w.heap.size + 1 + 1 + 1) (bl.length - j) (leastF (bl.drop j) j)

theorem NFI.start (z : Int) (A : Option Addr) (bl : List Sg) (c : Nat) (tl : Int) (s : Sg) (w : World) : NFI w z A bl c tl s bl.length bl.length
    (((((w.alloc (.cells #[.int .i64 z, .slice A bl.length c, .int .i64 tl, .int .u32 (s.weak : Nat), .int .u64 (s.hi : Nat), .int .u64 (s.lo : Nat)] 32)).alloc
      (.cells #[.int .i64 0, .slice none 0 0, .int .i64 0, .int .u32 0, .int .u64 0, .int .u64 0, .map none, .map none] 144)).alloc (.map #[] 0)).alloc (.map #[] 0)).alloc
      (.cells #[.int .i64 z, .slice A bl.length c, .int .i64 tl, .int .u32 (s.weak : Nat), .int .u64 (s.hi : Nat), .int .u64 (s.lo : Nat), .map (some (w.heap.size + 1 + 1)), .map (some (w.heap.size + 1 + 1 + 1))] 144)) := by
  obtain ⟨o0, h0⟩ : ∃ o, o = (Obj.cells #[.int .i64 z, .slice A bl.length c, .int .i64 tl, .int .u32 (s.weak : Nat), .int .u64 (s.hi : Nat), .int .u64 (s.lo : Nat)] 32) := ⟨_, rfl⟩
  obtain ⟨o1, h1⟩ : ∃ o, o = (Obj.cells #[.int .i64 0, .slice none 0 0, .int .i64 0, .int .u32 0, .int .u64 0, .int .u64 0, .map none, .map none] 144) := ⟨_, rfl⟩
  obtain ⟨o4, h4⟩ : ∃ o, o = (Obj.cells #[.int .i64 z, .slice A bl.length c, .int .i64 tl, .int .u32 (s.weak : Nat), .int .u64 (s.hi : Nat), .int .u64 (s.lo : Nat), .map (some (w.heap.size + 1 + 1)), .map (some (w.heap.size + 1 + 1 + 1))] 144) := ⟨_, rfl⟩
  rw [← h0, ← h1, ← h4]
  have B0 := (Below.refl w.heap.size w).alloc (Nat.le_refl _) o0
  have r0 := World.alloc_heap_new w o0
  obtain ⟨w0, hw0⟩ : ∃ v, v = w.alloc o0 := ⟨_, rfl⟩
  have s0 : w0.heap.size = w.heap.size + 1 := by rw [hw0]; simp
  rw [← hw0] at B0 r0 ⊢
  have B1 := (Below.refl w0.heap.size w0).alloc (Nat.le_refl _) o1
  have r1 := World.alloc_heap_new w0 o1
  obtain ⟨w1, hw1⟩ : ∃ v, v = w0.alloc o1 := ⟨_, rfl⟩
  have s1 : w1.heap.size = w.heap.size + 1 + 1 := by rw [hw1]; simp [s0]
  rw [← hw1] at B1 r1 ⊢
  have m2 := MapG.made weakK w1
  have B2 := (Below.refl w1.heap.size w1).alloc (Nat.le_refl _) (.map #[] 0)
  obtain ⟨w2, hw2⟩ : ∃ v, v = w1.alloc (.map #[] 0) := ⟨_, rfl⟩
  have s2 : w2.heap.size = w.heap.size + 1 + 1 + 1 := by rw [hw2]; simp [s1]
  rw [← hw2] at B2 m2 ⊢
  have m3 := MapG.made signK w2
  have B3 := (Below.refl w2.heap.size w2).alloc (Nat.le_refl _) (.map #[] 0)
  obtain ⟨w3, hw3⟩ : ∃ v, v = w2.alloc (.map #[] 0) := ⟨_, rfl⟩
  have s3 : w3.heap.size = w.heap.size + 1 + 1 + 1 + 1 := by rw [hw3]; simp [s2]
  rw [← hw3] at B3 m3 ⊢
  have B4 := (Below.refl w3.heap.size w3).alloc (Nat.le_refl _) o4
  have r4 := World.alloc_heap_new w3 o4
  obtain ⟨w4, hw4⟩ : ∃ v, v = w3.alloc o4 := ⟨_, rfl⟩
  rw [← hw4] at B4 r4 ⊢
  rw [s0] at r1 B1
  rw [s1] at m2 B2
  rw [s2] at m3 B3
  rw [s3] at r4 B4
  refine ⟨B0.trans ((B1.trans ((B2.trans ((B3.trans (B4.mono (by omega))).mono (by omega))).mono (by omega))).mono (by omega)), ?_, ?_, ?_, ?_, ?_⟩
  · rw [← h0]; exact (B4.block _ (by omega)).trans ((B3.block _ (by omega)).trans ((B2.block _ (by omega)).trans ((B1.block _ (by omega)).trans r0)))
  · rw [← h1]; exact (B4.block _ (by omega)).trans ((B3.block _ (by omega)).trans ((B2.block _ (by omega)).trans r1))
  · rw [← h4]; exact r4
  · rw [Nat.sub_self, List.drop_length]
    exact (m2.below B3 (by omega)).below B4 (by omega)
  · rw [Nat.sub_self, List.drop_length]
    exact m3.below B4 (by omega)
theorem NFI.done {w : World} {z : Int} {A : Option Addr} {bl : List Sg} {c : Nat} {tl : Int} {s : Sg} {W : World} (h : NFI w z A bl c tl s 0 0 W) :
    ∀ a0 a1 a2 a3 a4 a5 a6 a7, Below w.heap.size w (eightS W (w.heap.size + 1) a0 a1 a2 a3 a4 a5 a6 a7) ∧ MapG weakK (eightS W (w.heap.size + 1) a0 a1 a2 a3 a4 a5 a6 a7) (w.heap.size + 1 + 1) bl.length (weakF bl) ∧ MapG signK (eightS W (w.heap.size + 1) a0 a1 a2 a3 a4 a5 a6 a7) (w.heap.size + 1 + 1 + 1) bl.length (leastF bl 0) ∧
      (eightS W (w.heap.size + 1) a0 a1 a2 a3 a4 a5 a6 a7).heap[w.heap.size + 1]? = some (.cells #[a0, a1, a2, a3, a4, a5, a6, a7] 144 (0, 0)) := fun a0 a1 a2 a3 a4 a5 a6 a7 =>
  ⟨eightS_below _ _ _ _ _ _ _ _ h.below (by omega), h.weak.stay (eightS_other _ _ _ _ _ _ _ _ _ _ _ (by omega)), h.least.stay (eightS_other _ _ _ _ _ _ _ _ _ _ _ (by omega)), eightS_row _ _ _ _ _ _ _ _ _ _ _ _ _ _ _ _ rfl h.row1⟩

theorem NFI.drew {w : World} {z : Int} {A : Option Addr} {bl : List Sg} {c : Nat} {tl : Int} {s : Sg} {i j : Nat} {W : World} (h : NFI w z A bl c tl s i j W) : NFI w z A bl c tl s i j W.drew :=
  ⟨h.below.drew, h.row0, h.row1, h.row4, h.weak.stay rfl, h.least.stay rfl⟩
theorem NFI.turn {w : World} {z : Int} {A : Option Addr} {bl : List Sg} {c : Nat} {tl : Int} {s : Sg} {i j : Nat} {W W' : World} (h : NFI w z A bl c tl s i j W) {b : Nat} (hg : W.grownBy W' (some b)) (hb : b = w.heap.size + 1 + 1 ∨ b = w.heap.size + 1 + 1 + 1) :
    Below w.heap.size w W' ∧ W'.heap[w.heap.size]? = W.heap[w.heap.size]? ∧ W'.heap[w.heap.size + 1]? = W.heap[w.heap.size + 1]? ∧ W'.heap[w.heap.size + 1 + 1 + 1 + 1]? = W.heap[w.heap.size + 1 + 1 + 1 + 1]? := by
  have h4 := (Array.getElem?_eq_some_iff.1 h.row4).1
  refine ⟨h.below.grown hg (by omega) (fun r e => by cases e; omega), hg.block _ (by omega) (fun e => by cases e; omega), hg.block _ (by omega) (fun e => by cases e; omega), hg.block _ h4 (fun e => by cases e; omega)⟩
theorem NFI.stepW {w : World} {z : Int} {A : Option Addr} {bl : List Sg} {c : Nat} {tl : Int} {s : Sg} {i j : Nat} {W : World} (h : NFI w z A bl c tl s (i + 1) j W) {x : Sg} (hx : bl[i]? = some x) (hf : x.fits) (hl : bl.length ≤ 4096) :
    (Instr.lookup 141 (.map (some (w.heap.size + 1 + 1))) (.int .u32 (x.weak : Nat)) false).run Try.prog W = .ok (.int .i64 (cntW x.weak (bl.drop (i + 1)) : Nat)) W ∧
    ∃ W', (Instr.mapUpdate 141 (.map (some (w.heap.size + 1 + 1))) (.int .u32 (x.weak : Nat)) (.int .i64 ((cntW x.weak (bl.drop (i + 1)) + 1 : Nat) : Int))).run Try.prog W = .ok () W' ∧ NFI w z A bl c tl s i j W' := by
  obtain ⟨hlt, he⟩ := List.getElem?_eq_some_iff.1 hx
  have hd : bl.drop i = x :: bl.drop (i + 1) := by rw [List.drop_eq_getElem_cons hlt, he]
  refine ⟨?_, ?_⟩
  · have q := h.weak.look Try.underlying141 (z := .int .i64 0) (by kernel_rfl) x.weak hf.1
    rw [weakF_getD] at q
    exact q
  · obtain ⟨W', h1, h2, h3⟩ := h.weak.put Try.underlying141 x.weak hf.1 (by unfold maxLen; omega) (.int .i64 ((cntW x.weak (bl.drop (i + 1)) + 1 : Nat) : Int)) (weakF (bl.drop i)) (by rw [hd]; exact weakF_same x _) (fun y hy => by rw [hd]; exact weakF_other x _ y hy)
    obtain ⟨t1, t2, t3, t4⟩ := h.turn h3 (.inl rfl)
    refine ⟨W', h1, t1, t2.trans h.row0, t3.trans h.row1, t4.trans h.row4, ?_, h.least.kept h3 (fun e => by injection e with e; omega)⟩
    rw [show bl.length - i = bl.length - (i + 1) + 1 by omega]
    exact h2
theorem NFI.stepL {w : World} {z : Int} {A : Option Addr} {bl : List Sg} {c : Nat} {tl : Int} {s : Sg} {i j : Nat} {W : World} (h : NFI w z A bl c tl s i (j + 1) W) {x : Sg} (hx : bl[j]? = some x) (hf : x.fits) (hl : bl.length ≤ 4096) :
    ∃ W', (Instr.mapUpdate 142 (.map (some (w.heap.size + 1 + 1 + 1))) (.agg x.cells) (.int .i64 (j : Nat))).run Try.prog W = .ok () W' ∧ NFI w z A bl c tl s i j W' := by
  obtain ⟨hlt, he⟩ := List.getElem?_eq_some_iff.1 hx
  have hd : bl.drop j = x :: bl.drop (j + 1) := by rw [List.drop_eq_getElem_cons hlt, he]
  obtain ⟨W', h1, h2, h3⟩ := h.least.put Try.underlying142 x hf (by unfold maxLen; omega) (.int .i64 (j : Nat)) (leastF (bl.drop j) j) (by rw [hd]; exact leastF_same x _ _) (fun y hy => by rw [hd]; exact leastF_other x _ _ y hy)
  obtain ⟨t1, t2, t3, t4⟩ := h.turn h3 (.inr rfl)
  refine ⟨W', h1, t1, t2.trans h.row0, t3.trans h.row1, t4.trans h.row4, h.weak.kept h3 (fun e => by injection e with e; omega), ?_⟩
  rw [show bl.length - j = bl.length - (j + 1) + 1 by omega]
  exact h2

set_option maxHeartbeats 16000000 in
theorem newFinder_any (z : Int) (A : Option Addr) (bl : List Sg) (c : Nat) (tl : Int) (s : Sg) (w : World) (hA : RdSg w w.heap.size A bl) (hf : ∀ x ∈ bl, x.fits) (hl : bl.length ≤ 4096) :
    Calls Try.prog 96 #[.agg (sigC z A bl.length c tl s)] w fun e w' => e = .returned (.agg (finC z A bl.length c tl s (w.heap.size + 1 + 1) (w.heap.size + 1 + 1 + 1))) ∧ Below w.heap.size w w' ∧
      MapG weakK w' (w.heap.size + 1 + 1) bl.length (weakF bl) ∧ MapG signK w' (w.heap.size + 1 + 1 + 1) bl.length (leastF bl 0) := by
  have hmm := @run_makeMap Try.prog
  obtain ⟨sw, sh, slo⟩ := s
  have H0 := hide (NFI.start z A bl c tl ⟨sw, sh, slo⟩ w)
  have HA := hide hA
  have HF := hide hf
  simp only [sigC, finC]
  clear hA hf
  go_enter Try.func96, Try.ntmps96
  go_wp2_with fail
  clear hmm
  go_loopg [4] bl.length (fun gk kv wr => kv = .int .i64 (((gk : Nat) : Int) - 1) ∧ gk ≤ bl.length ∧ Hid (NFI w z A bl c tl ⟨sw, sh, slo⟩ gk gk wr))
  case atStart => exact ⟨rfl, Nat.le_refl _, H0⟩
  case round =>
    obtain ⟨rfl, hgl, HI⟩ := hrel
    clear H0
    cases gk with
    | zero =>
      have r1 := HI.out.row1
      have r4 := HI.out.row4
      have f0 : wr.frozen? ⟨w.heap.size + 1, 0, none⟩ = false := frozen_of_row _ _ _ _ _ r1
      have f1 : wr.frozen? ⟨w.heap.size + 1, 1, none⟩ = false := frozen_of_row _ _ _ _ _ r1
      have f2 : wr.frozen? ⟨w.heap.size + 1, 2, none⟩ = false := frozen_of_row _ _ _ _ _ r1
      have f3 : wr.frozen? ⟨w.heap.size + 1, 3, none⟩ = false := frozen_of_row _ _ _ _ _ r1
      have f4 : wr.frozen? ⟨w.heap.size + 1, 4, none⟩ = false := frozen_of_row _ _ _ _ _ r1
      have f5 : wr.frozen? ⟨w.heap.size + 1, 5, none⟩ = false := frozen_of_row _ _ _ _ _ r1
      have f6 : wr.frozen? ⟨w.heap.size + 1, 6, none⟩ = false := frozen_of_row _ _ _ _ _ r1
      have f7 : wr.frozen? ⟨w.heap.size + 1, 7, none⟩ = false := frozen_of_row _ _ _ _ _ r1
      have x0 : wr.cell? ⟨w.heap.size + 1, 0, none⟩ = some (.int .i64 0) := cell_of_row _ _ _ _ _ _ r1
      have x1 : wr.cell? ⟨w.heap.size + 1, 1, none⟩ = some (.slice none 0 0) := cell_of_row _ _ _ _ _ _ r1
      have x2 : wr.cell? ⟨w.heap.size + 1, 2, none⟩ = some (.int .i64 0) := cell_of_row _ _ _ _ _ _ r1
      have x3 : wr.cell? ⟨w.heap.size + 1, 3, none⟩ = some (.int .u32 0) := cell_of_row _ _ _ _ _ _ r1
      have x4 : wr.cell? ⟨w.heap.size + 1, 4, none⟩ = some (.int .u64 0) := cell_of_row _ _ _ _ _ _ r1
      have x5 : wr.cell? ⟨w.heap.size + 1, 5, none⟩ = some (.int .u64 0) := cell_of_row _ _ _ _ _ _ r1
      have x6 : wr.cell? ⟨w.heap.size + 1, 6, none⟩ = some (.map none) := cell_of_row _ _ _ _ _ _ r1
      have x7 : wr.cell? ⟨w.heap.size + 1, 7, none⟩ = some (.map none) := cell_of_row _ _ _ _ _ _ r1
      have c0 : wr.cell? ⟨w.heap.size + 1 + 1 + 1 + 1, 0, none⟩ = some (.int .i64 z) := cell_of_row _ _ _ _ _ _ r4
      have c1 : wr.cell? ⟨w.heap.size + 1 + 1 + 1 + 1, 1, none⟩ = some (.slice A bl.length c) := cell_of_row _ _ _ _ _ _ r4
      have c2 : wr.cell? ⟨w.heap.size + 1 + 1 + 1 + 1, 2, none⟩ = some (.int .i64 tl) := cell_of_row _ _ _ _ _ _ r4
      have c3 : wr.cell? ⟨w.heap.size + 1 + 1 + 1 + 1, 3, none⟩ = some (.int .u32 (sw : Nat)) := cell_of_row _ _ _ _ _ _ r4
      have c4 : wr.cell? ⟨w.heap.size + 1 + 1 + 1 + 1, 4, none⟩ = some (.int .u64 (sh : Nat)) := cell_of_row _ _ _ _ _ _ r4
      have c5 : wr.cell? ⟨w.heap.size + 1 + 1 + 1 + 1, 5, none⟩ = some (.int .u64 (slo : Nat)) := cell_of_row _ _ _ _ _ _ r4
      have c6 : wr.cell? ⟨w.heap.size + 1 + 1 + 1 + 1, 6, none⟩ = some (.map (some (w.heap.size + 1 + 1))) := cell_of_row _ _ _ _ _ _ r4
      have c7 : wr.cell? ⟨w.heap.size + 1 + 1 + 1 + 1, 7, none⟩ = some (.map (some (w.heap.size + 1 + 1 + 1))) := cell_of_row _ _ _ _ _ _ r4
      have HE := hide (HI.out.done)
      clear r1 r4 HI
      go_wp2_with fail
      obtain ⟨e1, e2, e3, e4⟩ := HE.out (.int .i64 z) (.slice A bl.length c) (.int .i64 tl) (.int .u32 (sw : Nat)) (.int .u64 (sh : Nat)) (.int .u64 (slo : Nat)) (.map (some (w.heap.size + 1 + 1))) (.map (some (w.heap.size + 1 + 1 + 1)))
      unfold eightS at e1 e2 e3 e4
      have y0 := cell_of_row _ _ 0 _ _ _ e4
      have y1 := cell_of_row _ _ 1 _ _ _ e4
      have y2 := cell_of_row _ _ 2 _ _ _ e4
      have y3 := cell_of_row _ _ 3 _ _ _ e4
      have y4 := cell_of_row _ _ 4 _ _ _ e4
      have y5 := cell_of_row _ _ 5 _ _ _ e4
      have y6 := cell_of_row _ _ 6 _ _ _ e4
      have y7 := cell_of_row _ _ 7 _ _ _ e4
      refine bodyPost_ret (v := .agg #[.int .i64 z, .slice A bl.length c, .int .i64 tl, .int .u32 (sw : Nat), .int .u64 (sh : Nat), .int .u64 (slo : Nat), .map (some (w.heap.size + 1 + 1)), .map (some (w.heap.size + 1 + 1 + 1))]) (by simp [results, Try.results96, go_sem, y0, y1, y2, y3, y4, y5, y6, y7]) rfl ⟨rfl, e1, e2, e3⟩
    | succ g0 =>
      have hk0 : (0 : Int) ≤ ((g0 + 1 : Nat) : Int) - 1 := by omega
      have hk1 : ((g0 + 1 : Nat) : Int) - 1 < bl.length := by omega
      have hkN : (((g0 + 1 : Nat) : Int) - 1) = (g0 : Nat) := by omega
      rw [hkN] at hk0 hk1 ⊢
      obtain ⟨x, hx⟩ : ∃ x, bl[g0]? = some x := ⟨_, List.getElem?_eq_getElem (by omega)⟩
      have hfx := HF.out x (List.mem_of_getElem? hx)
      obtain ⟨hlk, w5, hup, HI5⟩ := HI.out.drew.stepW hx hfx hl
      obtain ⟨w6, hup6, HI6⟩ := HI5.drew.stepL hx hfx hl
      obtain ⟨ad, rfl, hlt, hs⟩ := HA.out g0 x hx
      obtain ⟨wk, hi, lo⟩ := x
      have s0 := (hs.below HI.out.below (by rw [add_block]; exact hlt)).weak
      have hs5 := hs.below HI5.below (by rw [add_block]; exact hlt)
      have t0 := hs5.weak
      have t1 := hs5.hi
      have t2 := hs5.lo
      have c0 : wr.cell? ⟨w.heap.size + 1 + 1 + 1 + 1, 6, none⟩ = some (.map (some (w.heap.size + 1 + 1))) := cell_of_row _ _ _ _ _ _ HI.out.row4
      have c1 : wr.cell? ⟨w.heap.size, 1, none⟩ = some (.slice (some ad) bl.length c) := cell_of_row _ _ _ _ _ _ HI.out.row0
      have d0 : w5.cell? ⟨w.heap.size + 1 + 1 + 1 + 1, 7, none⟩ = some (.map (some (w.heap.size + 1 + 1 + 1))) := cell_of_row _ _ _ _ _ _ HI5.row4
      have d1 : w5.cell? ⟨w.heap.size, 1, none⟩ = some (.slice (some ad) bl.length c) := cell_of_row _ _ _ _ _ _ HI5.row0
      have hcl := cntW_le wk (bl.drop (g0 + 1))
      rw [List.length_drop] at hcl
      generalize cntW wk (bl.drop (g0 + 1)) = q at hlk hup hcl
      have hqw : IntKind.i64.wrap ((q : Int) + 1) = ((q + 1 : Nat) : Int) := by rw [IntWalk.i64_in _ (by omega)]; rfl
      have hgw : IntKind.i64.wrap ((g0 : Int) - 1) = (g0 : Int) - 1 := IntWalk.i64_in _ (by omega)
      have HI6' := hide HI6
      simp only [Sg.cells] at hlk hup hup6 s0 t0 t1 t2
      clear HI HI5 HI6 hs hs5 hx hfx hcl
      rw [show ((q + 1 : Nat) : Int) = (q : Int) + 1 from rfl] at hup hqw
      go_wp2_with fail
      go_still_tail 10, (by kernel_rfl)
      go_wp2_with fail
      go_still_tail 8, (by kernel_rfl)
      go_wp2_with fail
      go_roundg g0
      case rel => exact ⟨rfl, by omega, HI6'⟩
      case measure => omega
end Go.Proofs.Ytobgbheodlpclaa
