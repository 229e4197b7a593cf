/-
  FramePuts's own rows.
-/
import Derived.Test.YtlbhgebjmekclaaDoorFrAlike
import Derived.Test.YtlbhgebjmekclaaDoorFrTurnedLaw
namespace Go.Proofs.YtlbhgebjmekclaaDoor
open Go.RowKit
set_option maxRecDepth 100000

/-- The law's own rows: the two frames that came in. -/
structure PW (w W : World) (c d : Array Value) : Prop where
  below : Below w.heap.size w W
  row : W.heap[w.heap.size]? = some (.cells c 24 (0, 0))
  row2 : W.heap[w.heap.size + 1]? = some (.cells d 24 (0, 0))
theorem PW.start (w : World) (c d : Array Value) : PW w ((w.alloc (.cells c 24)).alloc (.cells d 24)) c d := by
  obtain ⟨h0, h1, h2⟩ := two_rows w c d 24 24
  exact ⟨h2, h0, h1⟩
theorem PW.lt {w W : World} {c d : Array Value} (h : PW w W c d) : w.heap.size + 1 < W.heap.size := (Array.getElem?_eq_some_iff.1 h.row2).1
theorem PW.step {w W W' : World} {c d : Array Value} (h : PW w W c d) (hB : Below W.heap.size W W') : PW w W' c d := by
  have hl := h.lt
  exact ⟨h.below.trans (hB.mono h.below.size), (hB.block _ (by omega)).trans h.row, (hB.block _ hl).trans h.row2⟩
/-- And the two as the program's. -/
structure QW (w W : World) (n : Nat) (c d : Array Value) : Prop where
  pw : PW w W c d
  row : W.heap[n]? = some (.cells c 26 (0, 0))
  row2 : W.heap[n + 1]? = some (.cells d 26 (0, 0))
theorem QW.start {w W : World} {c d : Array Value} (h : PW w W c d) : QW w ((W.alloc (.cells c 26)).alloc (.cells d 26)) W.heap.size c d := by
  obtain ⟨h0, h1, h2⟩ := two_rows W c d 26 26
  exact ⟨h.step h2, h0, h1⟩
theorem QW.step {w W W' : World} {n : Nat} {c d : Array Value} (h : QW w W n c d) (hB : Below W.heap.size W W') : QW w W' n c d := by
  have hl := (Array.getElem?_eq_some_iff.1 h.row2).1
  exact ⟨h.pw.step hB, (hB.block _ (by omega)).trans h.row, (hB.block _ hl).trans h.row2⟩
end Go.Proofs.YtlbhgebjmekclaaDoor
