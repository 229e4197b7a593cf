/-
  A slice of records, and a number of sixteen bits, as a call finds them.
-/
import Derived.Test.YtggdndmjfbiaiaaDoorListOf
import Derived.Test.YtggdndmjfbiaiaaDoorJnRecs
import Derived.Deep.Slices
import Derived.Deep.Fields
import Derived.ChangeSame
import Derived.ProofKit
import Derived.ShutString
namespace Go.Proofs.YtggdndmjfbiaiaaDoor
open Go.RowKit Go.ChangeShapes Go.WideShapes
set_option maxRecDepth 100000

theorem trod_rec {H : Type} {enc : TypeId × Value → H} {W : World} {fuel : Nat} {cs : List Value} {x : DataW H × List MemPlace} (h : DataW.trod enc Tryd.prog W 0 (fun _ => true) true fuel 33 cs = some x) :
    ∃ e : Int × Int, cs = [.int .i64 e.1, .int .i64 e.2] := by
  obtain ⟨xs, n, _, _, hc, hlen, hf⟩ := DataW.trod_struct Tryd.underlying33 h
  have hC : Tryd.prog.cellsOf 33 = 2 := by kernel_rfl
  have b1 : Tryd.prog.cellsOf 3 = 1 := by kernel_rfl
  rw [hC] at hc
  match cs, hc, xs, hlen with
  | [c0, c1], _, [y0, y1], _ =>
    have h0 : DataW.trod enc Tryd.prog W 0 (fun _ => true) true n 3 (([c0, c1].drop 0).take (Tryd.prog.cellsOf 3)) = [y0, y1][0]? := hf 0 _ rfl
    have h1 : DataW.trod enc Tryd.prog W 0 (fun _ => true) true n 3 (([c0, c1].drop 1).take (Tryd.prog.cellsOf 3)) = [y0, y1][1]? := hf 1 _ rfl
    rw [b1] at h0 h1
    obtain ⟨a, e0, _⟩ := DataW.trod_int Tryd.underlying3 h0
    obtain ⟨b, e1, _⟩ := DataW.trod_int Tryd.underlying3 h1
    refine ⟨(a, b), ?_⟩
    cases e0; cases e1
    rfl

theorem open_recs {H : Type} {enc : TypeId × Value → H} {W : World} {v : Value} {d : DataW H} {ps : List MemPlace} {base : Nat} (hv : Value.okWide Tryd.prog W .any base 24 v) (h : DataW.Trod enc Tryd.prog W 0 (fun _ => true) true 24 v d ps) :
    ∃ (A : Option Addr) (l : List (Int × Int)) (c : Nat), v = .slice A l.length c ∧ RdR W W.heap.size A l := by
  obtain ⟨a0, len0, cap0, rfl⟩ := okWide_slice Tryd.underlying24 hv
  obtain ⟨fuel, hf⟩ := h
  have hC : Tryd.prog.cellsOf 33 = 2 := by kernel_rfl
  rcases Go.Deep.open_slice Tryd.underlying24 hf with ⟨hcs, _⟩ | ⟨a, len, cap, m, n, D, Pl, hcs, _, _, _, hm, _, hi⟩
  · have e : [Value.slice a0 len0 cap0] = [Value.slice none 0 0] := hcs
    cases e
    exact ⟨none, [], 0, rfl, RdR.nil _ _ _⟩
  · have e : [Value.slice a0 len0 cap0] = [Value.slice (some a) len cap] := hcs
    cases e
    obtain ⟨l, hll, hp⟩ := list_of (fun i (b : Int × Int) => W.cell? ((a.add (i * 2)).add 0) = some (.int .i64 b.1) ∧ W.cell? ((a.add (i * 2)).add 1) = some (.int .i64 b.2)) len0 (fun i hlt => by
      obtain ⟨cs', hc, ht⟩ := hi i (by rw [hm]; split <;> omega)
      obtain ⟨b, rfl⟩ := trod_rec ht
      rw [hC] at hc
      obtain ⟨_, _, hat⟩ := World.cells?_some hc
      exact ⟨b, hat 0 (by decide), hat 1 (by decide)⟩)
    refine ⟨some a, l, cap0, by rw [hll], fun k r hr => ?_⟩
    obtain ⟨h0, h1⟩ := hp k r hr
    have e0 : (a.add (k * 2)).add 0 = a.add (k * 2) := by unfold Addr.add; simp
    rw [e0] at h0
    have ei : ∀ i, i ≠ 0 → (a.add (k * 2)).add i = ⟨(a.add (k * 2)).block, (a.add (k * 2)).off + i, none⟩ := fun i hi => by
      unfold Addr.add
      split <;> simp_all
    rw [ei 1 (by decide)] at h1
    refine ⟨a, rfl, ?_, h0, h1⟩
    have := cell_lt h0
    rwa [add_block] at this
theorem u16_in {z : Int} (h : (Lit.int .u16 z).wf = true) : 0 ≤ z ∧ z ≤ 65535 := by
  simpa [Lit.wf, IntKind.min, IntKind.max, IntKind.signed, IntKind.bits] using h
end Go.Proofs.YtggdndmjfbiaiaaDoor
