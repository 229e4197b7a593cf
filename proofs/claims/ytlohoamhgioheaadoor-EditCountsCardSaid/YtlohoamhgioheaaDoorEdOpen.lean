/-
  An edit, a slice of edits, and a slice of numbers, as a call finds them.
-/
import Derived.Test.YtlohoamhgioheaaDoorListOf
import Derived.Test.YtlohoamhgioheaaDoorEdCount
import Derived.Deep.Slices
import Derived.Deep.Fields
import Derived.ChangeSame
import Derived.ProofKit
import Derived.ShutString
namespace Go.Proofs.YtlohoamhgioheaaDoor
open Go.RowKit Go.ChangeShapes Go.WideShapes
set_option maxRecDepth 100000

theorem trod_edit {H : Type} {enc : TypeId × Value → H} {W : World} {fuel : Nat} {cs : List Value} {x : DataW H × List MemPlace} (h : DataW.trod enc Tryd.prog W 0 (fun _ => true) true fuel 23 cs = some x) :
    ∃ e : Et, cs = [.int .i64 e.k, .string e.f, .string e.t, .int .i64 e.n] := by
  obtain ⟨xs, n, _, _, hc, hlen, hf⟩ := DataW.trod_struct Tryd.underlying23 h
  have hC : Tryd.prog.cellsOf 23 = 4 := by kernel_rfl
  have b1 : Tryd.prog.cellsOf 3 = 1 := by kernel_rfl
  have s1 : Tryd.prog.cellsOf 9 = 1 := by kernel_rfl
  rw [hC] at hc
  match cs, hc, xs, hlen with
  | [c0, c1, c2, c3], _, [y0, y1, y2, y3], _ =>
    have h0 : DataW.trod enc Tryd.prog W 0 (fun _ => true) true n 3 (([c0, c1, c2, c3].drop 0).take (Tryd.prog.cellsOf 3)) = [y0, y1, y2, y3][0]? := hf 0 _ rfl
    have h1 : DataW.trod enc Tryd.prog W 0 (fun _ => true) true n 9 (([c0, c1, c2, c3].drop 1).take (Tryd.prog.cellsOf 9)) = [y0, y1, y2, y3][1]? := hf 1 _ rfl
    have h2 : DataW.trod enc Tryd.prog W 0 (fun _ => true) true n 9 (([c0, c1, c2, c3].drop 2).take (Tryd.prog.cellsOf 9)) = [y0, y1, y2, y3][2]? := hf 2 _ rfl
    have h3 : DataW.trod enc Tryd.prog W 0 (fun _ => true) true n 3 (([c0, c1, c2, c3].drop 3).take (Tryd.prog.cellsOf 3)) = [y0, y1, y2, y3][3]? := hf 3 _ rfl
    rw [s1] at h1 h2
    rw [b1] at h0 h3
    obtain ⟨a, e0, _⟩ := DataW.trod_int Tryd.underlying3 h0
    obtain ⟨b, e1, _⟩ := DataW.trod_string Tryd.underlying9 h1
    obtain ⟨c, e2, _⟩ := DataW.trod_string Tryd.underlying9 h2
    obtain ⟨d, e3, _⟩ := DataW.trod_int Tryd.underlying3 h3
    refine ⟨⟨a, b, c, d⟩, ?_⟩
    cases e0; cases e1; cases e2; cases e3
    rfl

theorem open_edits {H : Type} {enc : TypeId × Value → H} {W : World} {v : Value} {d : DataW H} {ps : List MemPlace} {base : Nat} (hv : Value.okWide Tryd.prog W .any base 25 v) (h : DataW.Trod enc Tryd.prog W 0 (fun _ => true) true 25 v d ps) :
    ∃ (A : Option Addr) (l : List Et) (c : Nat), v = .slice A l.length c ∧ RdE W W.heap.size A l := by
  obtain ⟨a0, len0, cap0, rfl⟩ := okWide_slice Tryd.underlying25 hv
  obtain ⟨fuel, hf⟩ := h
  have hC : Tryd.prog.cellsOf 23 = 4 := by kernel_rfl
  rcases Go.Deep.open_slice Tryd.underlying25 hf with ⟨hcs, _⟩ | ⟨a, len, cap, m, n, D, Pl, hcs, _, _, _, hm, _, hi⟩
  · have e : [Value.slice a0 len0 cap0] = [Value.slice none 0 0] := hcs
    cases e
    exact ⟨none, [], 0, rfl, RdE.nil _ _ _⟩
  · have e : [Value.slice a0 len0 cap0] = [Value.slice (some a) len cap] := hcs
    cases e
    obtain ⟨l, hll, hp⟩ := list_of (fun i (b : Et) => W.cell? ((a.add (i * 4)).add 0) = some (.int .i64 b.k) ∧ W.cell? ((a.add (i * 4)).add 1) = some (.string b.f) ∧ W.cell? ((a.add (i * 4)).add 2) = some (.string b.t) ∧ W.cell? ((a.add (i * 4)).add 3) = some (.int .i64 b.n)) len0 (fun i hlt => by
      obtain ⟨cs', hc, ht⟩ := hi i (by rw [hm]; split <;> omega)
      obtain ⟨b, rfl⟩ := trod_edit ht
      rw [hC] at hc
      obtain ⟨_, _, hat⟩ := World.cells?_some hc
      exact ⟨b, hat 0 (by decide), hat 1 (by decide), hat 2 (by decide), hat 3 (by decide)⟩)
    refine ⟨some a, l, cap0, by rw [hll], fun k r hr => ?_⟩
    obtain ⟨h0, h1, h2, h3⟩ := hp k r hr
    have e0 : (a.add (k * 4)).add 0 = a.add (k * 4) := by unfold Addr.add; simp
    rw [e0] at h0
    have ei : ∀ i, i ≠ 0 → (a.add (k * 4)).add i = ⟨(a.add (k * 4)).block, (a.add (k * 4)).off + i, none⟩ := fun i hi => by
      unfold Addr.add
      split <;> simp_all
    rw [ei 1 (by decide)] at h1
    rw [ei 2 (by decide)] at h2
    rw [ei 3 (by decide)] at h3
    refine ⟨a, rfl, ?_, h0, h1, h2, h3⟩
    have := cell_lt h0
    rwa [add_block] at this

theorem open_nums {H : Type} {enc : TypeId × Value → H} {W : World} {v : Value} {d : DataW H} {ps : List MemPlace} {base : Nat} (hv : Value.okWide Tryd.prog W .any base 43 v) (h : DataW.Trod enc Tryd.prog W 0 (fun _ => true) true 43 v d ps) :
    ∃ (A : Option Addr) (l : List Int) (c : Nat), v = .slice A l.length c ∧ RdI W W.heap.size A l := by
  obtain ⟨a0, len0, cap0, rfl⟩ := okWide_slice Tryd.underlying43 hv
  obtain ⟨fuel, hf⟩ := h
  rcases open_ints Tryd.underlying43 Tryd.underlying3 (by kernel_rfl) hf with ⟨hcs, _⟩ | ⟨a, len, cap, zs, hcs, _, hl, _, hz, _, hcell, _⟩
  · have e : [Value.slice a0 len0 cap0] = [Value.slice none 0 0] := hcs
    cases e
    exact ⟨none, [], 0, rfl, RdI.nil _ _ _⟩
  · have e : [Value.slice a0 len0 cap0] = [Value.slice (some a) len cap] := hcs
    cases e
    have hlen : len0 ≤ zs.length := by rw [hz]; split <;> omega
    refine ⟨some a, zs.take len0, cap0, by rw [List.length_take, Nat.min_eq_left hlen], fun k x hx => ?_⟩
    rw [List.getElem?_take] at hx
    split at hx
    · have hk : k < zs.length := (List.getElem?_eq_some_iff.1 hx).1
      have hc := hcell k hk
      rw [show zs.getD k 0 = x by rw [List.getD_eq_getElem?_getD, hx]; rfl] at hc
      exact ⟨a, rfl, by have := cell_lt hc; rwa [add_block] at this, hc⟩
    · cases hx
/-- A lone edit. -/
theorem agg_of_four {v a b c d : Value} (h : v.cells.toList = [a, b, c, d]) : v = .agg #[a, b, c, d] := by
  cases v with
  | agg xs =>
    have h' : xs.toList = [a, b, c, d] := h
    rw [show xs = #[a, b, c, d] from Array.toList_inj.1 (by simpa using h')]
  | _ => simp [Value.cells] at h
theorem open_edit {H : Type} {enc : TypeId × Value → H} {W : World} {v : Value} {d : DataW H} {ps : List MemPlace} (h : DataW.Trod enc Tryd.prog W 0 (fun _ => true) true 23 v d ps) :
    ∃ e : Et, v = .agg e.cells := by
  obtain ⟨fuel, hf⟩ := h
  obtain ⟨e, he⟩ := trod_edit hf
  exact ⟨e, agg_of_four he⟩
end Go.Proofs.YtlohoamhgioheaaDoor
