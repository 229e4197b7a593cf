/-
  Texts that belong together: ListOf, MkOpen, RuleOpen.
-/
import Derived.Test.YteoafohebgfjdaaGreatDoorAutoBytes
import Derived.Test.YteoafohebgfjdaaGreatDoorAutoNodesOwn
import Derived.Deep.Slices
import Derived.Deep.Fields
import Derived.ChangeSame
import Derived.ProofKit
import Derived.ShutString
import Derived.Test.YteoafohebgfjdaaGreatDoorAutoRefShut
/-
  A list out of what holds of each of its places.
-/
namespace Go.Proofs.YteoafohebgfjdaaGreatDoor

theorem list_of {α : Type} (p : Nat → α → Prop) : ∀ n : Nat, (∀ i, i < n → ∃ a, p i a) → ∃ l : List α, l.length = n ∧ ∀ k a, l[k]? = some a → p k a
  | 0, _ => ⟨[], rfl, fun k a h => by simp at h⟩
  | n + 1, h => by
    obtain ⟨l, hl, hp⟩ := list_of p n (fun i hi => h i (by omega))
    obtain ⟨a, ha⟩ := h n (by omega)
    refine ⟨l ++ [a], by simp [hl], fun k b hb => ?_⟩
    rw [List.getElem?_append] at hb
    split at hb
    · exact hp k b hb
    · rename_i hk
      have hk0 : k - l.length = 0 := by
        rcases Nat.eq_zero_or_pos (k - l.length) with h0 | h0
        · exact h0
        · rw [List.getElem?_eq_none (by simp; omega)] at hb; cases hb
      rw [hk0] at hb
      simp at hb
      subst hb
      rwa [show k = n by omega]
end Go.Proofs.YteoafohebgfjdaaGreatDoor
/-
  A slice of nodes, as a call finds it; two texts in an array.
-/
namespace Go.Proofs.YteoafohebgfjdaaGreatDoor
open Go.RowKit Go.ChangeShapes Go.WideShapes
set_option maxRecDepth 100000

theorem open_node {H : Type} {enc : TypeId × Value → H} {W : World} {fuel : Nat} {cs : List Value} {x : DataW H × List MemPlace} (h : DataW.trod enc Tryz.prog W 0 (fun _ => true) true fuel 36 cs = some x) :
    ∃ n : Nd, cs = [.string n.path, .int .i64 n.kind, .int .i64 n.mode, .int .i64 n.time, .string n.data] := by
  obtain ⟨xs, n, _, _, hc, hlen, hf⟩ := DataW.trod_struct Tryz.underlying36 h
  have hC : Tryz.prog.cellsOf 36 = 5 := by kernel_rfl
  have b1 : Tryz.prog.cellsOf 3 = 1 := by kernel_rfl
  have s1 : Tryz.prog.cellsOf 9 = 1 := by kernel_rfl
  rw [hC] at hc
  match cs, hc, xs, hlen with
  | [c0, c1, c2, c3, c4], _, [y0, y1, y2, y3, y4], _ =>
    have h0 : DataW.trod enc Tryz.prog W 0 (fun _ => true) true n 9 (([c0, c1, c2, c3, c4].drop 0).take (Tryz.prog.cellsOf 9)) = [y0, y1, y2, y3, y4][0]? := hf 0 _ rfl
    have h1 : DataW.trod enc Tryz.prog W 0 (fun _ => true) true n 3 (([c0, c1, c2, c3, c4].drop 1).take (Tryz.prog.cellsOf 3)) = [y0, y1, y2, y3, y4][1]? := hf 1 _ rfl
    have h2 : DataW.trod enc Tryz.prog W 0 (fun _ => true) true n 3 (([c0, c1, c2, c3, c4].drop 2).take (Tryz.prog.cellsOf 3)) = [y0, y1, y2, y3, y4][2]? := hf 2 _ rfl
    have h3 : DataW.trod enc Tryz.prog W 0 (fun _ => true) true n 3 (([c0, c1, c2, c3, c4].drop 3).take (Tryz.prog.cellsOf 3)) = [y0, y1, y2, y3, y4][3]? := hf 3 _ rfl
    have h4 : DataW.trod enc Tryz.prog W 0 (fun _ => true) true n 9 (([c0, c1, c2, c3, c4].drop 4).take (Tryz.prog.cellsOf 9)) = [y0, y1, y2, y3, y4][4]? := hf 4 _ rfl
    rw [s1] at h0 h4
    rw [b1] at h1 h2 h3
    obtain ⟨a, e0, _⟩ := DataW.trod_string Tryz.underlying9 h0
    obtain ⟨b, e1, _⟩ := DataW.trod_int Tryz.underlying3 h1
    obtain ⟨c, e2, _⟩ := DataW.trod_int Tryz.underlying3 h2
    obtain ⟨d, e3, _⟩ := DataW.trod_int Tryz.underlying3 h3
    obtain ⟨e, e4, _⟩ := DataW.trod_string Tryz.underlying9 h4
    refine ⟨⟨a, b, c, d, e⟩, ?_⟩
    cases e0; cases e1; cases e2; cases e3; cases e4
    rfl

theorem open_nodes {H : Type} {enc : TypeId × Value → H} {W : World} {v : Value} {d : DataW H} {ps : List MemPlace} {base : Nat} (hv : Value.okWide Tryz.prog W .any base 22 v) (h : DataW.Trod enc Tryz.prog W 0 (fun _ => true) true 22 v d ps) :
    ∃ (A : Option Addr) (l : List Nd) (c : Nat), v = .slice A l.length c ∧ RdN W W.heap.size A l := by
  obtain ⟨a0, len0, cap0, rfl⟩ := okWide_slice Tryz.underlying22 hv
  obtain ⟨fuel, hf⟩ := h
  have hC : Tryz.prog.cellsOf 36 = 5 := by kernel_rfl
  rcases Go.Deep.open_slice Tryz.underlying22 hf with ⟨hcs, _⟩ | ⟨a, len, cap, m, n, D, Pl, hcs, _, _, _, hm, _, hi⟩
  · have e : [Value.slice a0 len0 cap0] = [Value.slice none 0 0] := hcs
    cases e
    exact ⟨none, [], 0, rfl, RdN.nil _ _ _⟩
  · have e : [Value.slice a0 len0 cap0] = [Value.slice (some a) len cap] := hcs
    cases e
    obtain ⟨l, hll, hp⟩ := list_of (fun i (b : Nd) => W.cell? ((a.add (i * 5)).add 0) = some (.string b.path) ∧ W.cell? ((a.add (i * 5)).add 1) = some (.int .i64 b.kind) ∧ W.cell? ((a.add (i * 5)).add 2) = some (.int .i64 b.mode) ∧ W.cell? ((a.add (i * 5)).add 3) = some (.int .i64 b.time) ∧ W.cell? ((a.add (i * 5)).add 4) = some (.string b.data)) len0 (fun i hlt => by
      obtain ⟨cs', hc, ht⟩ := hi i (by rw [hm]; split <;> omega)
      obtain ⟨b, rfl⟩ := open_node ht
      rw [hC] at hc
      obtain ⟨_, _, hat⟩ := World.cells?_some hc
      exact ⟨b, hat 0 (by decide), hat 1 (by decide), hat 2 (by decide), hat 3 (by decide), hat 4 (by decide)⟩)
    refine ⟨some a, l, cap0, by rw [hll], fun k r hr => ?_⟩
    obtain ⟨h0, h1, h2, h3, h4⟩ := hp k r hr
    have e0 : (a.add (k * 5)).add 0 = a.add (k * 5) := by unfold Addr.add; simp
    rw [e0] at h0
    have ei : ∀ i, i ≠ 0 → (a.add (k * 5)).add i = ⟨(a.add (k * 5)).block, (a.add (k * 5)).off + i, none⟩ := fun i hi => by
      unfold Addr.add
      split <;> simp_all
    rw [ei 1 (by decide)] at h1
    rw [ei 2 (by decide)] at h2
    rw [ei 3 (by decide)] at h3
    rw [ei 4 (by decide)] at h4
    refine ⟨a, rfl, ?_, h0, h1, h2, h3, h4⟩
    have := cell_lt h0
    rwa [add_block] at this
end Go.Proofs.YteoafohebgfjdaaGreatDoor
/-
  A slice of rules, as a call finds it.
-/
namespace Go.Proofs.YteoafohebgfjdaaGreatDoor
open Go.RowKit Go.ChangeShapes Go.WideShapes
set_option maxRecDepth 100000

theorem open_rule {H : Type} {enc : TypeId × Value → H} {W : World} {fuel : Nat} {cs : List Value} {x : DataW H × List MemPlace} (h : DataW.trod enc Tryz.prog W 0 (fun _ => true) true fuel 57 cs = some x) :
    ∃ r : Bool × ByteArray, cs = [.bool r.1, .string r.2] := by
  obtain ⟨xs, n, _, _, hc, hlen, hf⟩ := DataW.trod_struct Tryz.underlying57 h
  have hC : Tryz.prog.cellsOf 57 = 2 := by kernel_rfl
  have b1 : Tryz.prog.cellsOf 4 = 1 := by kernel_rfl
  have s1 : Tryz.prog.cellsOf 9 = 1 := by kernel_rfl
  rw [hC] at hc
  match cs, hc, xs, hlen with
  | [c0, c1], _, [y0, y1], _ =>
    have h0 : DataW.trod enc Tryz.prog W 0 (fun _ => true) true n 4 (([c0, c1].drop 0).take (Tryz.prog.cellsOf 4)) = [y0, y1][0]? := hf 0 _ rfl
    rw [b1] at h0
    have h1 : DataW.trod enc Tryz.prog W 0 (fun _ => true) true n 9 (([c0, c1].drop 1).take (Tryz.prog.cellsOf 9)) = [y0, y1][1]? := hf 1 _ rfl
    rw [s1] at h1
    obtain ⟨b, e0, _⟩ := DataW.trod_bool Tryz.underlying4 h0
    obtain ⟨s, e1, _⟩ := DataW.trod_string Tryz.underlying9 h1
    refine ⟨(b, s), ?_⟩
    cases e0; cases e1
    rfl

theorem open_rules {H : Type} {enc : TypeId × Value → H} {W : World} {v : Value} {d : DataW H} {ps : List MemPlace} {base : Nat} (hv : Value.okWide Tryz.prog W .any base 23 v) (h : DataW.Trod enc Tryz.prog W 0 (fun _ => true) true 23 v d ps) :
    ∃ (A : Option Addr) (l : List (Bool × ByteArray)) (c : Nat), v = .slice A l.length c ∧ RdR W W.heap.size A l ∧ (A = none → c = 0) := by
  obtain ⟨a0, len0, cap0, rfl⟩ := okWide_slice Tryz.underlying23 hv
  obtain ⟨fuel, hf⟩ := h
  have hC : Tryz.prog.cellsOf 57 = 2 := by kernel_rfl
  rcases Go.Deep.open_slice Tryz.underlying23 hf with ⟨hcs, _⟩ | ⟨a, len, cap, m, n, D, Pl, hcs, _, _, _, hm, _, hi⟩
  · have e : [Value.slice a0 len0 cap0] = [Value.slice none 0 0] := hcs
    cases e
    exact ⟨none, [], 0, rfl, RdR.nil _ _ _, fun _ => rfl⟩
  · have e : [Value.slice a0 len0 cap0] = [Value.slice (some a) len cap] := hcs
    cases e
    obtain ⟨l, hll, hp⟩ := list_of (fun i (b : Bool × ByteArray) => W.cell? ((a.add (i * 2)).add 0) = some (.bool b.1) ∧ W.cell? ((a.add (i * 2)).add 1) = some (.string b.2)) len0 (fun i hlt => by
      obtain ⟨cs', hc, ht⟩ := hi i (by rw [hm]; split <;> omega)
      obtain ⟨b, rfl⟩ := open_rule ht
      rw [hC] at hc
      obtain ⟨_, _, hat⟩ := World.cells?_some hc
      exact ⟨b, hat 0 (by decide), hat 1 (by decide)⟩)
    refine ⟨some a, l, cap0, by rw [hll], fun k r hr => ?_, fun h => by cases h⟩
    obtain ⟨h0, h1⟩ := hp k r hr
    have e0 : (a.add (k * 2)).add 0 = a.add (k * 2) := by unfold Addr.add; simp
    rw [e0] at h0
    refine ⟨a, rfl, ?_, h0, ?_⟩
    · have := cell_lt h0
      rwa [add_block] at this
    · have e1 : (a.add (k * 2)).add 1 = ⟨(a.add (k * 2)).block, (a.add (k * 2)).off + 1, none⟩ := by
        unfold Addr.add
        split <;> simp_all
      rw [← e1]; exact h1
end Go.Proofs.YteoafohebgfjdaaGreatDoor
