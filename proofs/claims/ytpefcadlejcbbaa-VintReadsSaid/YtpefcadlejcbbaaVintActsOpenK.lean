/-
  A slice of acts, as a call finds it: their limits fit an int, too.
-/
import Derived.Test.YtpefcadlejcbbaaVintActsOpen
namespace Go.Proofs.Ytpefcadlejcbbaa
open Go.RowKit Go.ChangeShapes Go.WideShapes
set_option maxRecDepth 100000

theorem open_actK {H : Type} {enc : TypeId × Value → H} {W : World} {fuel : Nat} {cs : List Value} {x : DataW H × List MemPlace} (h : DataW.trod enc Try.prog W 0 (fun _ => true) true fuel 43 cs = some x) :
    ∃ a : Ac, (a.fits ∧ a.K ≤ 9223372036854775807) ∧ cs = a.cells.toList := by
  obtain ⟨xs, n, _, _, hc, hlen, hf⟩ := DataW.trod_struct Try.underlying43 h
  have hC : Try.prog.cellsOf 43 = 5 := by kernel_rfl
  have i1 : Try.prog.cellsOf 3 = 1 := by kernel_rfl
  have u1 : Try.prog.cellsOf 29 = 1 := by kernel_rfl
  have s1 : Try.prog.cellsOf 9 = 1 := by kernel_rfl
  rw [hC] at hc
  match cs, hc, xs, hlen with
  | [c0, c1, c2, c3, c4], _, [y0, y1, y2, y3, y4], _ =>
    have h0 : DataW.trod enc Try.prog W 0 (fun _ => true) true n 3 (([c0, c1, c2, c3, c4].drop 0).take (Try.prog.cellsOf 3)) = [y0, y1, y2, y3, y4][0]? := hf 0 _ rfl
    rw [i1] at h0
    have h1 : DataW.trod enc Try.prog W 0 (fun _ => true) true n 29 (([c0, c1, c2, c3, c4].drop 1).take (Try.prog.cellsOf 29)) = [y0, y1, y2, y3, y4][1]? := hf 1 _ rfl
    rw [u1] at h1
    have h2 : DataW.trod enc Try.prog W 0 (fun _ => true) true n 29 (([c0, c1, c2, c3, c4].drop 2).take (Try.prog.cellsOf 29)) = [y0, y1, y2, y3, y4][2]? := hf 2 _ rfl
    rw [u1] at h2
    have h3 : DataW.trod enc Try.prog W 0 (fun _ => true) true n 3 (([c0, c1, c2, c3, c4].drop 3).take (Try.prog.cellsOf 3)) = [y0, y1, y2, y3, y4][3]? := hf 3 _ rfl
    rw [i1] at h3
    have h4 : DataW.trod enc Try.prog W 0 (fun _ => true) true n 9 (([c0, c1, c2, c3, c4].drop 4).take (Try.prog.cellsOf 9)) = [y0, y1, y2, y3, y4][4]? := hf 4 _ rfl
    rw [s1] at h4
    obtain ⟨n0, e0, _, w0⟩ := DataW.trod_int Try.underlying3 h0
    obtain ⟨n1, e1, _, w1⟩ := DataW.trod_int Try.underlying29 h1
    obtain ⟨n2, e2, _, w2⟩ := DataW.trod_int Try.underlying29 h2
    obtain ⟨n3, e3, _, w3⟩ := DataW.trod_int Try.underlying3 h3
    obtain ⟨s4, e4, _, w4⟩ := DataW.trod_string Try.underlying9 h4
    obtain ⟨N, rfl, hN⟩ := u64_nat w1
    obtain ⟨M, rfl, hM⟩ := u64_nat w2
    refine ⟨⟨n0, N, M, n3, s4⟩, ⟨⟨hN, hM⟩, ?_⟩, ?_⟩
    · have h3 : -9223372036854775808 ≤ n3 ∧ n3 ≤ 9223372036854775807 := by simpa [Lit.wf, IntKind.min, IntKind.max, IntKind.signed, IntKind.bits] using w3
      exact h3.2
    cases e0; cases e1; cases e2; cases e3; cases e4
    rfl

theorem open_actsK {H : Type} {enc : TypeId × Value → H} {W : World} {v : Value} {d : DataW H} {ps : List MemPlace} {base : Nat} (hv : Value.okWide Try.prog W .any base 39 v) (h : DataW.Trod enc Try.prog W 0 (fun _ => true) true 39 v d ps) :
    ∃ (A : Option Addr) (l : List Ac) (c : Nat), v = .slice A l.length c ∧ (∀ a ∈ l, a.fits ∧ a.K ≤ 9223372036854775807) ∧ RdA W W.heap.size A l := by
  obtain ⟨a0, len0, cap0, rfl⟩ := okWide_slice Try.underlying39 hv
  obtain ⟨fuel, hf⟩ := h
  have hC : Try.prog.cellsOf 43 = 5 := by kernel_rfl
  rcases Go.Deep.open_slice Try.underlying39 hf with ⟨hcs, _⟩ | ⟨a, len, cap, m, n, D, Pl, hcs, _, hl, _, hm, _, hi⟩
  · have e : [Value.slice a0 len0 cap0] = [Value.slice none 0 0] := hcs
    cases e
    exact ⟨none, [], 0, rfl, fun a ha => (List.not_mem_nil ha).elim, fun k a h => by simp at h⟩
  · have e : [Value.slice a0 len0 cap0] = [Value.slice (some a) len cap] := hcs
    cases e
    obtain ⟨l, hll, hp⟩ := list_of (fun i (b : Ac) => (b.fits ∧ b.K ≤ 9223372036854775807) ∧ ∀ j v, b.cells[j]? = some v → W.cell? ((a.add (i * 5)).add j) = some v) len0 (fun i hlt => by
      obtain ⟨cs', hc, ht⟩ := hi i (by rw [hm]; split <;> omega)
      obtain ⟨b, hb, rfl⟩ := open_actK ht
      rw [hC] at hc
      obtain ⟨_, _, hat⟩ := World.cells?_some hc
      refine ⟨b, hb, fun j v hv => ?_⟩
      have hj : j < 5 := (Array.getElem?_eq_some_iff.1 hv).1
      rw [hat j hj, Array.getElem?_toList]
      exact hv)
    refine ⟨some a, l, cap0, by rw [hll], fun b hb => ?_, fun k b hb => ?_⟩
    · obtain ⟨k, hk⟩ := List.getElem?_of_mem hb
      exact (hp k b hk).1
    · refine ⟨a, rfl, ?_, (hp k b hb).2⟩
      have := cell_lt ((hp k b hb).2 0 _ rfl)
      rwa [add_block, add_block] at this
end Go.Proofs.Ytpefcadlejcbbaa
