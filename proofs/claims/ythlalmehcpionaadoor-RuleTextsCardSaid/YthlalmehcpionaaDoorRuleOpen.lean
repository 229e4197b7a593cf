/-
  A slice of rules, as a call finds it.
-/
import Derived.Test.YthlalmehcpionaaDoorRefList
import Derived.Test.YthlalmehcpionaaDoorBytes
import Derived.Deep.Slices
import Derived.Deep.Fields
import Derived.ChangeSame
import Derived.ProofKit
import Derived.ShutString
namespace Go.Proofs.YthlalmehcpionaaDoor
open Go.RowKit Go.ChangeShapes Go.WideShapes
set_option maxRecDepth 100000

theorem list_of {α : Type} (p : Nat → α → Prop) : ∀ n : Nat, (∀ i, i < n → ∃ a, p i a) → ∃ l : List α, l.length = n ∧ ∀ k a, l[k]? = some a → p k a
  | 0, _ => ⟨[], rfl, fun k a h => by simp at h⟩
  | n + 1, h => by
    obtain ⟨l, hl, hp⟩ := list_of p n (fun i hi => h i (by omega))
    obtain ⟨a, ha⟩ := h n (by omega)
    refine ⟨l ++ [a], by simp [hl], fun k b hb => ?_⟩
    rw [List.getElem?_append] at hb
    split at hb
    · exact hp k b hb
    · rename_i hk
      have hk0 : k - l.length = 0 := by
        rcases Nat.eq_zero_or_pos (k - l.length) with h0 | h0
        · exact h0
        · rw [List.getElem?_eq_none (by simp; omega)] at hb; cases hb
      rw [hk0] at hb
      simp at hb
      subst hb
      rwa [show k = n by omega]

theorem open_rule {H : Type} {enc : TypeId × Value → H} {W : World} {fuel : Nat} {cs : List Value} {x : DataW H × List MemPlace} (h : DataW.trod enc Tryd.prog W 0 (fun _ => true) true fuel 28 cs = some x) :
    ∃ r : Bool × ByteArray, cs = [.bool r.1, .string r.2] := by
  obtain ⟨xs, n, _, _, hc, hlen, hf⟩ := DataW.trod_struct Tryd.underlying28 h
  have hC : Tryd.prog.cellsOf 28 = 2 := by kernel_rfl
  have b1 : Tryd.prog.cellsOf 4 = 1 := by kernel_rfl
  have s1 : Tryd.prog.cellsOf 9 = 1 := by kernel_rfl
  rw [hC] at hc
  match cs, hc, xs, hlen with
  | [c0, c1], _, [y0, y1], _ =>
    have h0 : DataW.trod enc Tryd.prog W 0 (fun _ => true) true n 4 (([c0, c1].drop 0).take (Tryd.prog.cellsOf 4)) = [y0, y1][0]? := hf 0 _ rfl
    rw [b1] at h0
    have h1 : DataW.trod enc Tryd.prog W 0 (fun _ => true) true n 9 (([c0, c1].drop 1).take (Tryd.prog.cellsOf 9)) = [y0, y1][1]? := hf 1 _ rfl
    rw [s1] at h1
    obtain ⟨b, e0, _⟩ := DataW.trod_bool Tryd.underlying4 h0
    obtain ⟨s, e1, _⟩ := DataW.trod_string Tryd.underlying9 h1
    refine ⟨(b, s), ?_⟩
    cases e0; cases e1
    rfl

theorem open_rules {H : Type} {enc : TypeId × Value → H} {W : World} {v : Value} {d : DataW H} {ps : List MemPlace} {base : Nat} (hv : Value.okWide Tryd.prog W .any base 22 v) (h : DataW.Trod enc Tryd.prog W 0 (fun _ => true) true 22 v d ps) :
    ∃ (A : Option Addr) (l : List (Bool × ByteArray)) (c : Nat), v = .slice A l.length c ∧ RdR W W.heap.size A l ∧ (A = none → c = 0) := by
  obtain ⟨a0, len0, cap0, rfl⟩ := okWide_slice Tryd.underlying22 hv
  obtain ⟨fuel, hf⟩ := h
  have hC : Tryd.prog.cellsOf 28 = 2 := by kernel_rfl
  rcases Go.Deep.open_slice Tryd.underlying22 hf with ⟨hcs, _⟩ | ⟨a, len, cap, m, n, D, Pl, hcs, _, _, _, hm, _, hi⟩
  · have e : [Value.slice a0 len0 cap0] = [Value.slice none 0 0] := hcs
    cases e
    exact ⟨none, [], 0, rfl, RdR.nil _ _ _, fun _ => rfl⟩
  · have e : [Value.slice a0 len0 cap0] = [Value.slice (some a) len cap] := hcs
    cases e
    obtain ⟨l, hll, hp⟩ := list_of (fun i (b : Bool × ByteArray) => W.cell? ((a.add (i * 2)).add 0) = some (.bool b.1) ∧ W.cell? ((a.add (i * 2)).add 1) = some (.string b.2)) len0 (fun i hlt => by
      obtain ⟨cs', hc, ht⟩ := hi i (by rw [hm]; split <;> omega)
      obtain ⟨b, rfl⟩ := open_rule ht
      rw [hC] at hc
      obtain ⟨_, _, hat⟩ := World.cells?_some hc
      exact ⟨b, hat 0 (by decide), hat 1 (by decide)⟩)
    refine ⟨some a, l, cap0, by rw [hll], fun k r hr => ?_, fun h => by cases h⟩
    obtain ⟨h0, h1⟩ := hp k r hr
    have e0 : (a.add (k * 2)).add 0 = a.add (k * 2) := by unfold Addr.add; simp
    rw [e0] at h0
    refine ⟨a, rfl, ?_, h0, ?_⟩
    · have := cell_lt h0
      rwa [add_block] at this
    · have e1 : (a.add (k * 2)).add 1 = ⟨(a.add (k * 2)).block, (a.add (k * 2)).off + 1, none⟩ := by
        unfold Addr.add
        split <;> simp_all
      rw [← e1]; exact h1
end Go.Proofs.YthlalmehcpionaaDoor
