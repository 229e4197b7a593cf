/-
  A frame of the reference's, as a call finds it.
-/
import Derived.Test.YtlbhgebjmekclaaDoorFrRight
import Derived.OpenShut
namespace Go.Proofs.YtlbhgebjmekclaaDoor
open Go.RowKit Go.ChangeShapes Go.WideShapes
set_option maxRecDepth 100000

theorem agg_of_four {v a b c d : Value} (h : v.cells.toList = [a, b, c, d]) : v = .agg #[a, b, c, d] := by
  cases v with
  | agg xs =>
    have h' : xs.toList = [a, b, c, d] := h
    rw [show xs = #[a, b, c, d] from Array.toList_inj.1 (by simpa using h')]
  | _ => simp [Value.cells] at h
theorem open_fr {H : Type} {enc : TypeId × Value → H} {W : World} {v : Value} {d : DataW H} {ps : List MemPlace} (h : DataW.Trod enc Tryd.prog W 0 (fun _ => true) true 24 v d ps) :
    ∃ f : Fr, v = .agg f.cells ∧ f.fits := by
  obtain ⟨fuel, hf⟩ := h
  obtain ⟨xs, n, _, _, hc, hlen, hff⟩ := DataW.trod_struct Tryd.underlying24 hf
  have hC : Tryd.prog.cellsOf 24 = 4 := by kernel_rfl
  have u0 : Tryd.prog.cellsOf 3 = 1 := by kernel_rfl
  have u1 : Tryd.prog.cellsOf 22 = 1 := by kernel_rfl
  have u3 : Tryd.prog.cellsOf 9 = 1 := by kernel_rfl
  rw [hC] at hc
  obtain ⟨cs, hcs⟩ : ∃ cs, cs = v.cells.toList := ⟨_, rfl⟩
  rw [← hcs] at hc hff
  match cs, hc, xs, hlen with
  | [c0, c1, c2, c3], _, [y0, y1, y2, y3], _ =>
    have h0 : DataW.trod enc Tryd.prog W 0 (fun _ => true) true n 3 (([c0, c1, c2, c3].drop 0).take (Tryd.prog.cellsOf 3)) = [y0, y1, y2, y3][0]? := hff 0 _ rfl
    rw [u0] at h0
    have h1 : DataW.trod enc Tryd.prog W 0 (fun _ => true) true n 22 (([c0, c1, c2, c3].drop 1).take (Tryd.prog.cellsOf 22)) = [y0, y1, y2, y3][1]? := hff 1 _ rfl
    rw [u1] at h1
    have h2 : DataW.trod enc Tryd.prog W 0 (fun _ => true) true n 22 (([c0, c1, c2, c3].drop 2).take (Tryd.prog.cellsOf 22)) = [y0, y1, y2, y3][2]? := hff 2 _ rfl
    rw [u1] at h2
    have h3 : DataW.trod enc Tryd.prog W 0 (fun _ => true) true n 9 (([c0, c1, c2, c3].drop 3).take (Tryd.prog.cellsOf 9)) = [y0, y1, y2, y3][3]? := hff 3 _ rfl
    rw [u3] at h3
    obtain ⟨k, e0, _, _⟩ := DataW.trod_int Tryd.underlying3 h0
    obtain ⟨n1, e1, _, w1⟩ := DataW.trod_int Tryd.underlying22 h1
    obtain ⟨n2, e2, _, w2⟩ := DataW.trod_int Tryd.underlying22 h2
    obtain ⟨s, e3, _⟩ := DataW.trod_string Tryd.underlying9 h3
    have b1 : 0 ≤ n1 ∧ n1 ≤ 18446744073709551615 := by simpa [Lit.wf, IntKind.min, IntKind.max, IntKind.signed, IntKind.bits] using w1
    have b2 : 0 ≤ n2 ∧ n2 ≤ 18446744073709551615 := by simpa [Lit.wf, IntKind.min, IntKind.max, IntKind.signed, IntKind.bits] using w2
    obtain ⟨N, rfl⟩ : ∃ N : Nat, n1 = N := ⟨n1.toNat, by omega⟩
    obtain ⟨M, rfl⟩ : ∃ M : Nat, n2 = M := ⟨n2.toNat, by omega⟩
    cases e0; cases e1; cases e2; cases e3
    exact ⟨⟨k, N, M, s⟩, agg_of_four hcs.symm, by show N < _; omega, by show M < _; omega⟩
end Go.Proofs.YtlbhgebjmekclaaDoor
