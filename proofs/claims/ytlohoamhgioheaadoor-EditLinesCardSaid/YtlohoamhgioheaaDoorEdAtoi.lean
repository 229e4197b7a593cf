/-
  strconv.Atoi at every text: a number, and an error or none.
-/
import Derived.Test.YtlohoamhgioheaaDoorEdLaysC
import Derived.Test.YtlohoamhgioheaaDoorEdTab
namespace Go.Proofs.YtlohoamhgioheaaDoor
open Go.RowKit Go.Shelf
set_option maxRecDepth 100000

/-- The library's two errors lie in their blocks. -/
structure Errs (w : World) : Prop where
  es : ∃ ev, w.cell? ⟨4, 0, none⟩ = some ev ∧ (ev = .nilIface ∨ ∃ te pe, ev = .iface te pe)
  er : ∃ ev, w.cell? ⟨5, 0, none⟩ = some ev ∧ (ev = .nilIface ∨ ∃ te pe, ev = .iface te pe)
theorem Errs.lt {w : World} (h : Errs w) : 5 < w.heap.size := by
  obtain ⟨ev, h1, _⟩ := h.er
  exact cell_lt h1
theorem Errs.below {w w' : World} (h : Errs w) (hb : Below w.heap.size w w') : Errs w' := by
  have := h.lt
  obtain ⟨e1, h1, k1⟩ := h.es
  obtain ⟨e2, h2, k2⟩ := h.er
  exact ⟨⟨e1, (hb.cell (p := ⟨4, 0, none⟩) (by show 4 < w.heap.size; omega)).trans h1, k1⟩, ⟨e2, (hb.cell (p := ⟨5, 0, none⟩) (by show 5 < w.heap.size; omega)).trans h2, k2⟩⟩

theorem atoi_any (s : ByteArray) (w : World) (hs : (s.size : Int) ≤ 1000000) (hE : Errs w) :
    Calls Tryd.prog 47 #[.string s] w fun e w' => (∃ ev, e = .returned (.tuple #[.int .i64 (atoiN (toL s)), ev])) ∧ Below w.heap.size w w' := by
  obtain ⟨e1, h1, k1⟩ := hE.es
  obtain ⟨e2, h2, k2⟩ := hE.er
  have hN : ∀ x, Lib.atoiAll s.data.toList = x → atoiN (toL s) = match x with | .ok v => v | .range => Lib.atoiSat s.data.toList | _ => 0 := by
    intro x hx
    unfold atoiN toL
    rw [hx]
    cases x <;> rfl
  cases h : Lib.atoiAll s.data.toList
  · rename_i v
    refine (Any.strconv_Atoi_ok laysC172 s (by omega) v h w).mono ?_
    rintro e w' ⟨rfl, hw⟩
    rw [hN _ h]
    refine ⟨⟨_, rfl⟩, ?_⟩
    rcases hw with rfl | ⟨t, rfl⟩
    · exact Below.refl _ _
    · exact Lib.bytesWorld_below _ _ _
  · refine (Any.strconv_Atoi_syntax laysC172 s (by omega) h e1 w h1 k1).mono ?_
    rintro e w' ⟨N, rfl, _, _, hb⟩
    rw [hN _ h]
    exact ⟨⟨_, rfl⟩, hb⟩
  · refine (Any.strconv_Atoi_range laysC172 s (by omega) h e2 w h2 k2).mono ?_
    rintro e w' ⟨N, rfl, _, _, hb⟩
    rw [hN _ h]
    exact ⟨⟨_, rfl⟩, hb⟩
end Go.Proofs.YtlohoamhgioheaaDoor
