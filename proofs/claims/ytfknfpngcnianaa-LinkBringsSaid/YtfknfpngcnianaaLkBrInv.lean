/-
  LinkBrings's memory: what was sent on each way, which turns were tried.
-/
import Derived.Test.YtfknfpngcnianaaLkBrMath
import Derived.Deep.AppendLies
import Derived.Maps.AppendAt
namespace Go.Proofs.Ytfknfpngcnianaa
open Go.RowKit
set_option maxRecDepth 100000

def strsL (L : List (List UInt8)) : List Value := L.map fun x => .string (ofL x)
def cellsA (T : List LA) : List Value := T.flatMap fun t => t.cells.toList
theorem cellsA_len : ∀ l : List LA, (cellsA l).length = l.length * 6
  | [] => rfl
  | n :: l => by
    show (n.cells.toList ++ cellsA l).length = _
    rw [List.length_append, cellsA_len l, List.length_cons]
    show 6 + _ = _
    omega
theorem cellsA_snoc (l : List LA) (n : LA) : cellsA (l ++ [n]) = cellsA l ++ n.cells.toList := by simp [cellsA]
theorem cellsA_get : ∀ (l : List LA) (k : Nat) (n : LA), l[k]? = some n → ∀ j v, n.cells[j]? = some v → (cellsA l)[k * 6 + j]? = some v
  | [], k, n, h, _, _, _ => by simp at h
  | u :: l, 0, n, h, j, v, hv => by
    simp at h
    subst h
    show (u.cells.toList ++ cellsA l)[0 * 6 + j]? = _
    have hj : j < u.cells.toList.length := by simpa using (Array.getElem?_eq_some_iff.1 hv).1
    rw [Nat.zero_mul, Nat.zero_add, List.getElem?_append_left hj]
    simpa using hv
  | u :: l, k + 1, n, h, j, v, hv => by
    have h1 := cellsA_get l k n (by simpa using h) j v hv
    show (u.cells.toList ++ cellsA l)[(k + 1) * 6 + j]? = _
    have e6 : u.cells.toList.length = 6 := rfl
    rw [List.getElem?_append_right (by rw [e6]; omega), e6, ← h1]
    congr 1
    omega
theorem info_str : (Try.prog.info? 9).map (fun i => (i.zero, i.size, i.bytes)) = some (some (.string ⟨#[]⟩), 1, 16) := by kernel_rfl
theorem info_act : (Try.prog.info? 34).map (fun i => (i.zero, i.size, i.bytes)) = some (some (.agg #[.int .i64 0, .int .i64 0, .int .i64 0, .int .i64 0, .int .u32 0, .string ⟨#[]⟩]), 6, 56) := by kernel_rfl
/-- Rows of two types don't share a block. -/
theorem own_apart {w : World} {b1 b2 s1 s2 n1 n2 : Nat} {e1 e2 : TypeId} {v1 v2 : Value} {x1 x2 : List Value} (h1 : w.ownsRow b1 e1 s1 v1 n1 x1) (h2 : w.ownsRow b2 e2 s2 v2 n2 x2) (he : e1 ≠ e2) : v1.ownBlock = none ∨ v1.ownBlock ≠ v2.ownBlock := by
  rcases h1.2 with ⟨rfl, _⟩ | ⟨g, cap, cur, rfl, _, hg, _⟩
  · exact .inl rfl
  · right
    intro e
    rcases h2.2 with ⟨rfl, _⟩ | ⟨g2, cap2, cur2, rfl, _, hg2, _⟩
    · simp [Value.ownBlock] at e
    · simp [Value.ownBlock] at e
      subst e
      rw [hg] at hg2
      injection hg2 with hg2
      injection hg2 with _ h3
      exact he h3

/-- What was sent, and the turns, lie in rows of the law's own. -/
structure BM (W : World) (S : Nat → List (List UInt8)) (T : List LA) (X : Array Value) (tv : Value) (wr : World) : Prop where
  row : wr.heap[W.heap.size + 1]? = some (.cells X 47 (0, 0))
  two : X.size = 2
  own : ∀ k, k < 2 → ∃ v, X[k]? = some v ∧ wr.ownsRow (W.heap.size + 2) 9 1 v (S k).length (strsL (S k))
  sep : ∀ k j v u, k < 2 → j < 2 → k ≠ j → X[k]? = some v → X[j]? = some u → v.ownBlock = none ∨ v.ownBlock ≠ u.ownBlock
  turns : wr.ownsRow (W.heap.size + 2) 34 6 tv T.length (cellsA T)
  below : Below W.heap.size W wr
theorem BM.lt {W wr : World} {S : Nat → List (List UInt8)} {T : List LA} {X : Array Value} {tv : Value} (h : BM W S T X tv wr) : W.heap.size + 1 < wr.heap.size := (Array.getElem?_eq_some_iff.1 h.row).1
theorem BM.step {W wr w' : World} {S : Nat → List (List UInt8)} {T : List LA} {X : Array Value} {tv : Value} (h : BM W S T X tv wr) (hB : Below wr.heap.size wr w') : BM W S T X tv w' :=
  ⟨(hB.block _ h.lt).trans h.row, h.two, fun k hk => by obtain ⟨v, e, ho⟩ := h.own k hk; exact ⟨v, e, own_below ho hB⟩, h.sep, own_below h.turns hB, h.below.trans (hB.mono h.below.size)⟩
theorem own_high2 {w : World} {base size n : Nat} {e : TypeId} {v : Value} {xs : List Value} (h : w.ownsRow base e size v n xs) (b : Nat) (hb : b < base) : v.ownBlock = none ∨ v.ownBlock ≠ some b := by
  rcases hv : v.ownBlock with _ | x
  · exact .inl rfl
  · right
    intro e
    injection e with e
    have := (h.lt x hv).1
    omega
/-- Behind a call of the link's. -/
theorem BM.called {W wr w' : World} {S : Nat → List (List UInt8)} {T : List LA} {X : Array Value} {tv : Value} (h : BM W S T X tv wr) (hg : wr.grownBy w' (some W.heap.size)) : BM W S T X tv w' :=
  ⟨(hg.block _ h.lt (fun e => by injection e with e; omega)).trans h.row, h.two, fun k hk => by
    obtain ⟨v, e, ho⟩ := h.own k hk
    exact ⟨v, e, ho.kept hg (own_high2 ho _ (by omega))⟩, h.sep, h.turns.kept hg (own_high2 h.turns _ (by omega)), h.below.grown hg h.below.size (fun r e => by cases e; exact Nat.le_refl _)⟩
theorem cell_row {w : World} {g j : Nat} {X : Array Value} {t : TypeId} {v : Value} (h : w.heap[g]? = some (.cells X t (0, 0))) (hv : X[j]? = some v) : w.cell? ⟨g, j, none⟩ = some v := (cell_of_row _ _ _ _ _ _ h).trans hv
/-- One more was sent. -/
theorem BM.sent {W w3 w4 w5 : World} {S : Nat → List (List UInt8)} {T : List LA} {X : Array Value} {tv v : Value} (h : BM W S T X tv w3) {k : Nat} (hk : k < 2) (hv : X[k]? = some v) (b : List UInt8)
    (hB : Below w3.heap.size w3 w4) {g cap : Nat} (hO : w5.ownsRow (W.heap.size + 2) 9 1 (.slice (some ⟨g, 0, none⟩) ((S k).length + 1) cap) ((S k).length + 1) (strsL (S k) ++ [.string (ofL b)]))
    (hg : w4.grownBy w5 v.ownBlock) (hfr : v.ownBlock = some g ∨ g = w4.heap.size) :
    BM W (sentS S k b) T (X.setIfInBounds k (.slice (some ⟨g, 0, none⟩) ((S k).length + 1) cap)) tv (w5.setCell ⟨W.heap.size + 1, k, none⟩ (.slice (some ⟨g, 0, none⟩) ((S k).length + 1) cap)) := by
  have h4 := h.step hB
  obtain ⟨v', hv', ho⟩ := h4.own k hk
  rw [hv] at hv'
  injection hv' with hv'
  subst hv'
  have hx := own_high2 ho (W.heap.size + 1) (by omega)
  have hrow : w5.heap[W.heap.size + 1]? = some (.cells X 47 (0, 0)) := (hg.block _ h4.lt (fun e => by
    rcases hx with hx | hx
    · rw [hx] at e; cases e
    · exact hx e.symm)).trans h4.row
  refine ⟨?_, by rw [Array.size_setIfInBounds]; exact h.two, fun j hj => ?_, ?_, ?_, ?_⟩
  · rw [setCell_eq_setRow w5 _ k X _ _ _ hrow]
    exact setRow_heap w5 _ X _ _ _ hrow
  · by_cases e : j = k
    · subst e
      refine ⟨_, get_eq (by rw [h.two]; exact hj), ?_⟩
      rw [sentS_same, List.length_append]
      have := own_off hO (W.heap.size + 1) (by omega) j (.slice (some ⟨g, 0, none⟩) ((S j).length + 1) cap)
      unfold strsL at this ⊢
      rw [List.map_append]
      exact this
    · obtain ⟨u, hu, hou⟩ := h4.own j hj
      refine ⟨u, by rw [get_ne e]; exact hu, ?_⟩
      rw [sentS_other _ _ _ _ e]
      exact own_off (hou.kept hg (h.sep j k u v hj hk e hu hv)) (W.heap.size + 1) (by omega) k _
  · intro p q x y hp hq hpq hx1 hy1
    have key : ∀ j u, j < 2 → j ≠ k → X[j]? = some u → u.ownBlock = none ∨ u.ownBlock ≠ some g := fun j u hj hjk hu => by
      rcases hfr with hfr | hfr
      · rw [← hfr]; exact h.sep j k u v hj hk hjk hu hv
      · obtain ⟨u2, hu2, hou⟩ := h4.own j hj
        rw [hu] at hu2
        injection hu2 with hu2
        subst hu2
        rcases hb : u.ownBlock with _ | z
        · exact .inl rfl
        · right
          intro e
          injection e with e
          have := (hou.lt z hb).2
          omega
    by_cases ep : p = k
    · subst ep
      rw [get_eq (by rw [h.two]; exact hp)] at hx1
      injection hx1 with hx1
      subst hx1
      rw [get_ne (Ne.symm hpq)] at hy1
      right
      rcases key q y hq (Ne.symm hpq) hy1 with h0 | h0
      · rw [h0]; simp [Value.ownBlock]
      · exact fun e => h0 e.symm
    · rw [get_ne ep] at hx1
      by_cases eq : q = k
      · subst eq
        rw [get_eq (by rw [h.two]; exact hq)] at hy1
        injection hy1 with hy1
        subst hy1
        exact key p x hp ep hx1
      · rw [get_ne eq] at hy1
        exact h.sep p q x y hp hq hpq hx1 hy1
  · exact own_off (h4.turns.kept hg (own_apart h4.turns ho (by decide))) (W.heap.size + 1) (by omega) k _
  · have hb5 := h4.below.grown hg h4.below.size (fun r e => by have := (ho.lt r e).1; omega)
    rw [setCell_eq_setRow w5 _ k X _ _ _ hrow]
    exact below_row hb5 (by omega) _
/-- One more turn was tried. -/
theorem BM.turned {W w3 w4 w5 : World} {S : Nat → List (List UInt8)} {T : List LA} {X : Array Value} {tv tv' : Value} (h : BM W S T X tv w3) (a : LA)
    (hB : Below w3.heap.size w3 w4) (hO : w5.ownsRow (W.heap.size + 2) 34 6 tv' (T.length + 1) (cellsA T ++ a.cells.toList)) (hg : w4.grownBy w5 tv.ownBlock) : BM W S (T ++ [a]) X tv' w5 := by
  have h4 := h.step hB
  have hx := own_high2 h4.turns (W.heap.size + 1) (by omega)
  refine ⟨(hg.block _ h4.lt (fun e => by
    rcases hx with hx | hx
    · rw [hx] at e; cases e
    · exact hx e.symm)).trans h4.row, h.two, fun k hk => ?_, h.sep, ?_, h4.below.grown hg h4.below.size (fun r e => by have := (h4.turns.lt r e).1; omega)⟩
  · obtain ⟨v, hv, ho⟩ := h4.own k hk
    exact ⟨v, hv, ho.kept hg (own_apart ho h4.turns (by decide))⟩
  · rw [cellsA_snoc, List.length_append]
    exact hO
/-- A text that was sent, where it lies. -/
theorem BM.text {W wr : World} {S : Nat → List (List UInt8)} {T : List LA} {X : Array Value} {tv : Value} (h : BM W S T X tv wr) {k : Nat} (hk : k < 2) : ∃ A c, X[k]? = some (.slice A (S k).length c) ∧ ∀ j x, (S k)[j]? = some x → ∃ g o, A = some ⟨g, o, none⟩ ∧ g < wr.heap.size ∧ wr.cell? ⟨g, o + j, none⟩ = some (.string (ofL x)) := by
  obtain ⟨v, hv, ho⟩ := h.own k hk
  rcases ho.2 with ⟨rfl, h0⟩ | ⟨g, cap, cur, rfl, _, hg, _⟩
  · refine ⟨none, 0, by rw [hv, h0], fun j x hx => ?_⟩
    rw [List.length_eq_zero_iff.1 h0] at hx
    simp at hx
  · refine ⟨some ⟨g, 0, none⟩, cap, hv, fun j x hx => ⟨g, 0, rfl, (Array.getElem?_eq_some_iff.1 hg).1, ?_⟩⟩
    have := ho.cells (g := g) rfl j (.string (ofL x)) (by unfold strsL; rw [List.getElem?_map, hx]; rfl)
    rwa [addr_add] at this
/-- A turn that was tried, where it lies. -/
theorem BM.turn {W wr : World} {S : Nat → List (List UInt8)} {T : List LA} {X : Array Value} {tv : Value} (h : BM W S T X tv wr) : ∃ A c, tv = .slice A T.length c ∧ ∀ j t, T[j]? = some t → ∃ g o, A = some ⟨g, o, none⟩ ∧ g < wr.heap.size ∧ wr.cell? ⟨g, o + j * 6 + 3, none⟩ = some (.int .i64 t.at_) ∧ wr.cell? ⟨g, o + j * 6 + 4, none⟩ = some (.int .u32 t.mask) := by
  have ho := h.turns
  rcases ho.2 with ⟨rfl, h0⟩ | ⟨g, cap, cur, rfl, _, hg, _⟩
  · refine ⟨none, 0, by rw [h0], fun j x hx => ?_⟩
    rw [List.length_eq_zero_iff.1 h0] at hx
    simp at hx
  · refine ⟨some ⟨g, 0, none⟩, cap, rfl, fun j t ht => ⟨g, 0, rfl, (Array.getElem?_eq_some_iff.1 hg).1, ?_, ?_⟩⟩
    · have := ho.cells (g := g) rfl (j * 6 + 3) _ (cellsA_get T j t ht 3 _ rfl)
      rw [addr_add, ← Nat.add_assoc] at this
      exact this
    · have := ho.cells (g := g) rfl (j * 6 + 4) _ (cellsA_get T j t ht 4 _ rfl)
      rw [addr_add, ← Nat.add_assoc] at this
      exact this
/-- What is plain. -/
structure BP (i : Nat) (s : Nat → Way) (S : Nat → List (List UInt8)) (T : List LA) : Prop where
  good : Good s i
  br : Brings s S T
  fits : ∀ t ∈ T, t.fits
  short : ∀ k, ∀ x ∈ S k, x.length ≤ 100
  lenS : ∀ k, (S k).length ≤ i
  lenT : T.length ≤ i
theorem start_bm (W : World) (C : Array Value) : BM W (fun _ => []) [] #[.slice none 0 0, .slice none 0 0] (.slice none 0 0) ((W.alloc (.cells C 56)).alloc (.cells #[.slice none 0 0, .slice none 0 0] 47)) := by
  obtain ⟨_, h1, h2⟩ := rows2 W C #[.slice none 0 0, .slice none 0 0] 56 47
  refine ⟨h1, rfl, fun k hk => ⟨.slice none 0 0, ?_, World.ownsRow_nil _ _ _ _⟩, fun k j v u hk hj _ hv _ => .inl ?_, World.ownsRow_nil _ _ _ _, h2⟩
  · have : k = 0 ∨ k = 1 := by omega
    rcases this with rfl | rfl <;> rfl
  · have : k = 0 ∨ k = 1 := by omega
    rcases this with rfl | rfl <;> (injection hv with hv; subst hv; rfl)
end Go.Proofs.Ytfknfpngcnianaa
