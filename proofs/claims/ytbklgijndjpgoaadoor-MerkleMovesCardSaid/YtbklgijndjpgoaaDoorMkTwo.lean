/-
  Two texts in an array, as a call finds them.
-/
import Derived.Test.YtbklgijndjpgoaaDoorMkOpen
import Derived.OpenShut
namespace Go.Proofs.YtbklgijndjpgoaaDoor
open Go.RowKit Go.ChangeShapes Go.WideShapes
set_option maxRecDepth 100000

theorem agg_of_two {v a b : Value} (h : v.cells.toList = [a, b]) : v = .agg #[a, b] := by
  cases v with
  | agg xs =>
    have h' : xs.toList = [a, b] := h
    rw [show xs = #[a, b] from Array.toList_inj.1 (by simpa using h')]
  | _ => simp [Value.cells] at h
theorem open_two {H : Type} {enc : TypeId × Value → H} {W : World} {v : Value} {d : DataW H} {ps : List MemPlace} (h : DataW.Trod enc Tryd.prog W 0 (fun _ => true) true 38 v d ps) :
    ∃ a b : ByteArray, v = .agg #[.string a, .string b] := by
  obtain ⟨fuel, hf⟩ := h
  obtain ⟨xs, n, _, _, hc, hlen, hff⟩ := DataW.trod_array Tryd.underlying38 hf
  have hC : Tryd.prog.cellsOf 38 = 2 := by kernel_rfl
  have u1 : Tryd.prog.cellsOf 9 = 1 := by kernel_rfl
  rw [hC] at hc
  rw [u1] at hff
  obtain ⟨cs, hcs⟩ : ∃ cs, cs = v.cells.toList := ⟨_, rfl⟩
  rw [← hcs] at hc hff
  match cs, hc, xs, hlen with
  | [c0, c1], _, [y0, y1], _ =>
    have h0 : DataW.trod enc Tryd.prog W 0 (fun _ => true) true n 9 [c0] = some y0 := hff 0 (by decide)
    have h1 : DataW.trod enc Tryd.prog W 0 (fun _ => true) true n 9 [c1] = some y1 := hff 1 (by decide)
    obtain ⟨a, e0, _⟩ := DataW.trod_string Tryd.underlying9 h0
    obtain ⟨b, e1, _⟩ := DataW.trod_string Tryd.underlying9 h1
    cases e0; cases e1
    exact ⟨a, b, agg_of_two hcs.symm⟩
end Go.Proofs.YtbklgijndjpgoaaDoor
