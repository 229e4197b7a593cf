/-
  Two whole numbers in an array, as a call finds them.
-/
import Derived.Test.YtdkdnfcmlnfkcaaBytes
import Derived.OpenShut
namespace Go.Proofs.Ytdkdnfcmlnfkcaa
open Go.RowKit Go.ChangeShapes Go.WideShapes
set_option maxRecDepth 100000

theorem agg_of_pair {v a b : Value} (h : v.cells.toList = [a, b]) : v = .agg #[a, b] := by
  cases v with
  | agg xs =>
    have h' : xs.toList = [a, b] := h
    rw [show xs = #[a, b] from Array.toList_inj.1 (by simpa using h')]
  | _ => simp [Value.cells] at h
theorem open_ints2 {H : Type} {enc : TypeId × Value → H} {W : World} {v : Value} {d : DataW H} {ps : List MemPlace} (h : DataW.Trod enc Try.prog W 0 (fun _ => true) true 100 v d ps) :
    ∃ a b : Int, v = .agg #[.int .i64 a, .int .i64 b] ∧ (-9223372036854775808 ≤ a ∧ a ≤ 9223372036854775807) ∧ (-9223372036854775808 ≤ b ∧ b ≤ 9223372036854775807) := by
  obtain ⟨fuel, hf⟩ := h
  obtain ⟨xs, n, _, _, hc, hlen, hff⟩ := DataW.trod_array Try.underlying100 hf
  have hC : Try.prog.cellsOf 100 = 2 := by kernel_rfl
  have u1 : Try.prog.cellsOf 3 = 1 := by kernel_rfl
  rw [hC] at hc
  rw [u1] at hff
  obtain ⟨cs, hcs⟩ : ∃ cs, cs = v.cells.toList := ⟨_, rfl⟩
  rw [← hcs] at hc hff
  match cs, hc, xs, hlen with
  | [c0, c1], _, [y0, y1], _ =>
    have h0 : DataW.trod enc Try.prog W 0 (fun _ => true) true n 3 [c0] = some y0 := hff 0 (by decide)
    have h1 : DataW.trod enc Try.prog W 0 (fun _ => true) true n 3 [c1] = some y1 := hff 1 (by decide)
    obtain ⟨a, e0, _, b0⟩ := DataW.trod_int Try.underlying3 h0
    obtain ⟨b, e1, _, b1⟩ := DataW.trod_int Try.underlying3 h1
    cases e0; cases e1
    exact ⟨a, b, agg_of_pair hcs.symm, by simpa [Lit.wf, IntKind.min, IntKind.max, IntKind.signed, IntKind.bits] using b0, by simpa [Lit.wf, IntKind.min, IntKind.max, IntKind.signed, IntKind.bits] using b1⟩
end Go.Proofs.Ytdkdnfcmlnfkcaa
