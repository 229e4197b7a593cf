/-
  Sums and two words, as a call finds them.
-/
import Derived.Test.YtffhkdbdcpobbabMixAlong
import Derived.Deep.Fields
import Derived.ChangeSame
import Derived.OpenShut
namespace Go.Proofs.Ytffhkdbdcpobbab
open Go.RowKit Go.ChangeShapes Go.WideShapes
set_option maxRecDepth 100000

theorem agg_of_two {v a b : Value} (h : v.cells.toList = [a, b]) : v = .agg #[a, b] := by
  cases v with
  | agg xs =>
    have h' : xs.toList = [a, b] := h
    rw [show xs = #[a, b] from Array.toList_inj.1 (by simpa using h')]
  | _ => simp [Value.cells] at h

theorem open_sum {H : Type} {enc : TypeId × Value → H} {W : World} {v : Value} {d : DataW H} {ps : List MemPlace} (h : DataW.Trod enc Try.prog W 0 (fun _ => true) true 26 v d ps) :
    ∃ p : Nat × Nat, Two p ∧ v = stV p := by
  obtain ⟨fuel, hf⟩ := h
  obtain ⟨xs, n, _, _, hc, hlen, hff⟩ := DataW.trod_struct Try.underlying26 hf
  have hC : Try.prog.cellsOf 26 = 2 := by kernel_rfl
  have u1 : Try.prog.cellsOf 24 = 1 := by kernel_rfl
  rw [hC] at hc
  obtain ⟨cs, hcs⟩ : ∃ cs, cs = v.cells.toList := ⟨_, rfl⟩
  rw [← hcs] at hc hff
  match cs, hc, xs, hlen with
  | [c0, c1], _, [y0, y1], _ =>
    have h0 : DataW.trod enc Try.prog W 0 (fun _ => true) true n 24 (([c0, c1].drop 0).take (Try.prog.cellsOf 24)) = [y0, y1][0]? := hff 0 _ rfl
    rw [u1] at h0
    have h1 : DataW.trod enc Try.prog W 0 (fun _ => true) true n 24 (([c0, c1].drop 1).take (Try.prog.cellsOf 24)) = [y0, y1][1]? := hff 1 _ rfl
    rw [u1] at h1
    obtain ⟨n0, e0, _, w0⟩ := DataW.trod_int Try.underlying24 h0
    obtain ⟨n1, e1, _, w1⟩ := DataW.trod_int Try.underlying24 h1
    obtain ⟨N, rfl, hN⟩ := u64_nat w0
    obtain ⟨M, rfl, hM⟩ := u64_nat w1
    cases e0; cases e1
    exact ⟨(N, M), ⟨hN, hM⟩, agg_of_two hcs.symm⟩
end Go.Proofs.Ytffhkdbdcpobbab
