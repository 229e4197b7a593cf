/-
  A path's names; what SplitSeq leaves.
-/
import Derived.Test.YtlohoamhgioheaaDoorPathRight
namespace Go.Proofs.YtlohoamhgioheaaDoor
open Go.RowKit Go.Shelf
set_option maxRecDepth 100000

theorem roundIn_wide {n m k : Nat} {P : Program} {l : Nat} {f : FuncId} {tmps : Array Value} {assign body : Code} {w : World} {R : Ending → World → Prop}
    (h : RoundIn Fence.wide n P l f tmps assign body w R) : RoundIn (Fence.wide.inRound k) m P l f tmps assign body w R := ⟨trivial, fun c cs _ => h.2 c cs (room_wide _)⟩
theorem roundIn_any {n m : Nat} {P : Program} {l : Nat} {f : FuncId} {tmps : Array Value} {assign body : Code} {w : World} {R : Ending → World → Prop}
    (h : RoundIn Fence.wide n P l f tmps assign body w R) : RoundIn Fence.wide m P l f tmps assign body w R := ⟨trivial, fun c cs _ => h.2 c cs (room_wide _)⟩

theorem seqT_any {α : Type} {n m : Nat} {P : Program} {g : Nat} {lb : Array Value} {encs : α → Array Value} {L : List Nat} {S Sp : List α → Prop} {w : World}
    (h : SeqT Fence.wide n P g lb encs L S Sp w) : SeqT Fence.wide m P g lb encs L S Sp w := by
  intro l J Jx W hW hJ hJx hY h0
  refine callsIn_wide.2 (callsIn_wide.1 (h l J Jx W hW hJ hJx ?_ h0))
  intro X pre x W1 hX hX1 hj hl
  obtain ⟨fn, tmps, assign, body, hy, hR⟩ := hY X pre x W1 hX hX1 hj hl
  exact ⟨fn, tmps, assign, body, hy, roundIn_any hR⟩

/-- A path's names. -/
def namesL (p : List UInt8) : List (List UInt8) := if p.isEmpty || !rightL p then [] else splitL p

/-- What SplitSeq leaves: its three blocks. -/
theorem split_made (s : ByteArray) (w : World) (Q : Ending → World → Prop)
    (h : ∀ w1 : World, w1.heap.size = w.heap.size + 3 → Below w.heap.size w w1 → w1.heap[w.heap.size]? = some (.cells #[.string s] 9 (0, 0)) → w1.heap[w.heap.size + 1]? = some (.cells #[.string ⟨#[47]⟩] 9 (0, 0)) →
      w1.heap[w.heap.size + 2]? = some (.cells #[.int .i64 0] 3 (0, 0)) →
      Q (.returned (.func (.func 84) #[] #[.pointer (some ⟨w.heap.size + 1, 0, none⟩), .pointer (some ⟨w.heap.size, 0, none⟩), .pointer (some ⟨w.heap.size + 2, 0, none⟩)])) w1) :
    Calls Tryd.prog 55 #[.string s, .string ⟨#[47]⟩] w Q := by
  refine (splitSeq_any s w).mono ?_
  rintro e w1 ⟨rfl, hw1⟩
  refine h w1 (by rw [hw1]; simp) (by rw [hw1]; exact (((Below.refl _ w).alloc (Nat.le_refl _) _).alloc (by simp) _).alloc (by simp; omega) _) ?_ ?_ ?_
  · rw [hw1]
    rw [Below.heap_alloc _ _ _ (by simp <;> omega), Below.heap_alloc _ _ _ (by simp <;> omega)]
    exact World.alloc_heap_new _ _
  · rw [hw1]
    rw [Below.heap_alloc _ _ _ (by simp <;> omega)]
    have h := World.alloc_heap_new (w.alloc (.cells #[.string s] 9)) (Obj.cells #[.string ⟨#[47]⟩] 9)
    simp only [World.size_alloc] at h
    exact h
  · rw [hw1]
    have h := World.alloc_heap_new ((w.alloc (.cells #[.string s] 9)).alloc (.cells #[.string ⟨#[47]⟩] 9)) (Obj.cells #[.int .i64 0] 3)
    simp only [World.size_alloc] at h
    exact h

theorem namesL_len (p : List UInt8) : (namesL p).length ≤ 16 := by
  unfold namesL
  split
  · simp
  · rename_i h
    simp only [Bool.or_eq_true, Bool.not_eq_true', not_or, Bool.not_eq_true, Bool.not_eq_false] at h
    have h2 := h.2
    unfold rightL at h2
    rw [h.1, Bool.false_or, Bool.and_eq_true] at h2
    exact of_decide_eq_true h2.2
end Go.Proofs.YtlohoamhgioheaaDoor
