/-
  A slice of tokens, as a call finds it.
-/
import Derived.Test.YtdkdnfcmlnfkcaaToks
import Derived.Deep.Slices
import Derived.Deep.Fields
import Derived.ChangeSame
import Derived.ProofKit
import Derived.ShutString
namespace Go.Proofs.Ytdkdnfcmlnfkcaa
open Go.RowKit Go.ChangeShapes Go.WideShapes
set_option maxRecDepth 100000

theorem list_of {α : Type} (p : Nat → α → Prop) : ∀ n : Nat, (∀ i, i < n → ∃ a, p i a) → ∃ l : List α, l.length = n ∧ ∀ k a, l[k]? = some a → p k a
  | 0, _ => ⟨[], rfl, fun k a h => by simp at h⟩
  | n + 1, h => by
    obtain ⟨l, hl, hp⟩ := list_of p n (fun i hi => h i (by omega))
    obtain ⟨a, ha⟩ := h n (by omega)
    refine ⟨l ++ [a], by simp [hl], fun k b hb => ?_⟩
    rw [List.getElem?_append] at hb
    split at hb
    · exact hp k b hb
    · rename_i hk
      have hk0 : k - l.length = 0 := by
        rcases Nat.eq_zero_or_pos (k - l.length) with h0 | h0
        · exact h0
        · rw [List.getElem?_eq_none (by simp; omega)] at hb; cases hb
      rw [hk0] at hb
      simp at hb
      subst hb
      rwa [show k = n by omega]
theorem open_tok {H : Type} {enc : TypeId × Value → H} {W : World} {fuel : Nat} {cs : List Value} {x : DataW H × List MemPlace} (h : DataW.trod enc Try.prog W 0 (fun _ => true) true fuel 69 cs = some x) :
    ∃ n : Tk, cs = [.int .i64 n.from_, .int .i64 n.many, .string n.data] := by
  obtain ⟨xs, n, _, _, hc, hlen, hf⟩ := DataW.trod_struct Try.underlying69 h
  have hC : Try.prog.cellsOf 69 = 3 := by kernel_rfl
  have b1 : Try.prog.cellsOf 3 = 1 := by kernel_rfl
  have s1 : Try.prog.cellsOf 9 = 1 := by kernel_rfl
  rw [hC] at hc
  match cs, hc, xs, hlen with
  | [c0, c1, c2], _, [y0, y1, y2], _ =>
    have h0 : DataW.trod enc Try.prog W 0 (fun _ => true) true n 3 (([c0, c1, c2].drop 0).take (Try.prog.cellsOf 3)) = [y0, y1, y2][0]? := hf 0 _ rfl
    have h1 : DataW.trod enc Try.prog W 0 (fun _ => true) true n 3 (([c0, c1, c2].drop 1).take (Try.prog.cellsOf 3)) = [y0, y1, y2][1]? := hf 1 _ rfl
    have h2 : DataW.trod enc Try.prog W 0 (fun _ => true) true n 9 (([c0, c1, c2].drop 2).take (Try.prog.cellsOf 9)) = [y0, y1, y2][2]? := hf 2 _ rfl
    rw [s1] at h2
    rw [b1] at h0 h1
    obtain ⟨a, e0, _⟩ := DataW.trod_int Try.underlying3 h0
    obtain ⟨b, e1, _⟩ := DataW.trod_int Try.underlying3 h1
    obtain ⟨c, e2, _⟩ := DataW.trod_string Try.underlying9 h2
    refine ⟨⟨a, b, c⟩, ?_⟩
    cases e0; cases e1; cases e2
    rfl
theorem open_toks {H : Type} {enc : TypeId × Value → H} {W : World} {v : Value} {d : DataW H} {ps : List MemPlace} {base : Nat} (hv : Value.okWide Try.prog W .any base 63 v) (h : DataW.Trod enc Try.prog W 0 (fun _ => true) true 63 v d ps) :
    ∃ (A : Option Addr) (l : List Tk) (c : Nat), v = .slice A l.length c ∧ l.length ≤ c ∧ RdT W W.heap.size A l := by
  obtain ⟨a0, len0, cap0, rfl⟩ := okWide_slice Try.underlying63 hv
  obtain ⟨fuel, hf⟩ := h
  have hC : Try.prog.cellsOf 69 = 3 := by kernel_rfl
  rcases Go.Deep.open_slice Try.underlying63 hf with ⟨hcs, _⟩ | ⟨a, len, cap, m, n, D, Pl, hcs, _, hl, _, hm, _, hi⟩
  · have e : [Value.slice a0 len0 cap0] = [Value.slice none 0 0] := hcs
    cases e
    exact ⟨none, [], 0, rfl, Nat.le_refl _, RdT.nil _ _ _⟩
  · have e : [Value.slice a0 len0 cap0] = [Value.slice (some a) len cap] := hcs
    cases e
    obtain ⟨l, hll, hp⟩ := list_of (fun i (b : Tk) => W.cell? ((a.add (i * 3)).add 0) = some (.int .i64 b.from_) ∧ W.cell? ((a.add (i * 3)).add 1) = some (.int .i64 b.many) ∧ W.cell? ((a.add (i * 3)).add 2) = some (.string b.data)) len0 (fun i hlt => by
      obtain ⟨cs', hc, ht⟩ := hi i (by rw [hm]; split <;> omega)
      obtain ⟨b, rfl⟩ := open_tok ht
      rw [hC] at hc
      obtain ⟨_, _, hat⟩ := World.cells?_some hc
      exact ⟨b, hat 0 (by decide), hat 1 (by decide), hat 2 (by decide)⟩)
    refine ⟨some a, l, cap0, by rw [hll], by rw [hll]; exact hl, fun k r hr => ?_⟩
    obtain ⟨h0, h1, h2⟩ := hp k r hr
    have e0 : (a.add (k * 3)).add 0 = a.add (k * 3) := by unfold Addr.add; simp
    rw [e0] at h0
    have ei : ∀ i, i ≠ 0 → (a.add (k * 3)).add i = ⟨(a.add (k * 3)).block, (a.add (k * 3)).off + i, none⟩ := fun i hi => by
      unfold Addr.add
      split <;> simp_all
    rw [ei 1 (by decide)] at h1
    rw [ei 2 (by decide)] at h2
    refine ⟨a, rfl, ?_, h0, h1, h2⟩
    have := cell_lt h0
    rwa [add_block] at this
end Go.Proofs.Ytdkdnfcmlnfkcaa
