/-
  Texts that belong together: TkOpen, BkOpen.
-/
import Derived.Test.YtdkdnfcmlnfkcaaToks
import Derived.Deep.Slices
import Derived.Deep.Fields
import Derived.ChangeSame
import Derived.ProofKit
import Derived.ShutString
import Derived.Test.YtdkdnfcmlnfkcaaBkRight
import Derived.OpenShut
/-
  A slice of tokens, as a call finds it.
-/
namespace Go.Proofs.Ytdkdnfcmlnfkcaa
open Go.RowKit Go.ChangeShapes Go.WideShapes
set_option maxRecDepth 100000

theorem list_of {α : Type} (p : Nat → α → Prop) : ∀ n : Nat, (∀ i, i < n → ∃ a, p i a) → ∃ l : List α, l.length = n ∧ ∀ k a, l[k]? = some a → p k a
  | 0, _ => ⟨[], rfl, fun k a h => by simp at h⟩
  | n + 1, h => by
    obtain ⟨l, hl, hp⟩ := list_of p n (fun i hi => h i (by omega))
    obtain ⟨a, ha⟩ := h n (by omega)
    refine ⟨l ++ [a], by simp [hl], fun k b hb => ?_⟩
    rw [List.getElem?_append] at hb
    split at hb
    · exact hp k b hb
    · rename_i hk
      have hk0 : k - l.length = 0 := by
        rcases Nat.eq_zero_or_pos (k - l.length) with h0 | h0
        · exact h0
        · rw [List.getElem?_eq_none (by simp; omega)] at hb; cases hb
      rw [hk0] at hb
      simp at hb
      subst hb
      rwa [show k = n by omega]
theorem open_tok {H : Type} {enc : TypeId × Value → H} {W : World} {fuel : Nat} {cs : List Value} {x : DataW H × List MemPlace} (h : DataW.trod enc Try.prog W 0 (fun _ => true) true fuel 69 cs = some x) :
    ∃ n : Tk, cs = [.int .i64 n.from_, .int .i64 n.many, .string n.data] := by
  obtain ⟨xs, n, _, _, hc, hlen, hf⟩ := DataW.trod_struct Try.underlying69 h
  have hC : Try.prog.cellsOf 69 = 3 := by kernel_rfl
  have b1 : Try.prog.cellsOf 3 = 1 := by kernel_rfl
  have s1 : Try.prog.cellsOf 9 = 1 := by kernel_rfl
  rw [hC] at hc
  match cs, hc, xs, hlen with
  | [c0, c1, c2], _, [y0, y1, y2], _ =>
    have h0 : DataW.trod enc Try.prog W 0 (fun _ => true) true n 3 (([c0, c1, c2].drop 0).take (Try.prog.cellsOf 3)) = [y0, y1, y2][0]? := hf 0 _ rfl
    have h1 : DataW.trod enc Try.prog W 0 (fun _ => true) true n 3 (([c0, c1, c2].drop 1).take (Try.prog.cellsOf 3)) = [y0, y1, y2][1]? := hf 1 _ rfl
    have h2 : DataW.trod enc Try.prog W 0 (fun _ => true) true n 9 (([c0, c1, c2].drop 2).take (Try.prog.cellsOf 9)) = [y0, y1, y2][2]? := hf 2 _ rfl
    rw [s1] at h2
    rw [b1] at h0 h1
    obtain ⟨a, e0, _⟩ := DataW.trod_int Try.underlying3 h0
    obtain ⟨b, e1, _⟩ := DataW.trod_int Try.underlying3 h1
    obtain ⟨c, e2, _⟩ := DataW.trod_string Try.underlying9 h2
    refine ⟨⟨a, b, c⟩, ?_⟩
    cases e0; cases e1; cases e2
    rfl
theorem open_toks {H : Type} {enc : TypeId × Value → H} {W : World} {v : Value} {d : DataW H} {ps : List MemPlace} {base : Nat} (hv : Value.okWide Try.prog W .any base 63 v) (h : DataW.Trod enc Try.prog W 0 (fun _ => true) true 63 v d ps) :
    ∃ (A : Option Addr) (l : List Tk) (c : Nat), v = .slice A l.length c ∧ l.length ≤ c ∧ RdT W W.heap.size A l := by
  obtain ⟨a0, len0, cap0, rfl⟩ := okWide_slice Try.underlying63 hv
  obtain ⟨fuel, hf⟩ := h
  have hC : Try.prog.cellsOf 69 = 3 := by kernel_rfl
  rcases Go.Deep.open_slice Try.underlying63 hf with ⟨hcs, _⟩ | ⟨a, len, cap, m, n, D, Pl, hcs, _, hl, _, hm, _, hi⟩
  · have e : [Value.slice a0 len0 cap0] = [Value.slice none 0 0] := hcs
    cases e
    exact ⟨none, [], 0, rfl, Nat.le_refl _, RdT.nil _ _ _⟩
  · have e : [Value.slice a0 len0 cap0] = [Value.slice (some a) len cap] := hcs
    cases e
    obtain ⟨l, hll, hp⟩ := list_of (fun i (b : Tk) => W.cell? ((a.add (i * 3)).add 0) = some (.int .i64 b.from_) ∧ W.cell? ((a.add (i * 3)).add 1) = some (.int .i64 b.many) ∧ W.cell? ((a.add (i * 3)).add 2) = some (.string b.data)) len0 (fun i hlt => by
      obtain ⟨cs', hc, ht⟩ := hi i (by rw [hm]; split <;> omega)
      obtain ⟨b, rfl⟩ := open_tok ht
      rw [hC] at hc
      obtain ⟨_, _, hat⟩ := World.cells?_some hc
      exact ⟨b, hat 0 (by decide), hat 1 (by decide), hat 2 (by decide)⟩)
    refine ⟨some a, l, cap0, by rw [hll], by rw [hll]; exact hl, fun k r hr => ?_⟩
    obtain ⟨h0, h1, h2⟩ := hp k r hr
    have e0 : (a.add (k * 3)).add 0 = a.add (k * 3) := by unfold Addr.add; simp
    rw [e0] at h0
    have ei : ∀ i, i ≠ 0 → (a.add (k * 3)).add i = ⟨(a.add (k * 3)).block, (a.add (k * 3)).off + i, none⟩ := fun i hi => by
      unfold Addr.add
      split <;> simp_all
    rw [ei 1 (by decide)] at h1
    rw [ei 2 (by decide)] at h2
    refine ⟨a, rfl, ?_, h0, h1, h2⟩
    have := cell_lt h0
    rwa [add_block] at this
end Go.Proofs.Ytdkdnfcmlnfkcaa
/-
  A signature, as a call finds it.
-/
namespace Go.Proofs.Ytdkdnfcmlnfkcaa
open Go.RowKit Go.ChangeShapes Go.WideShapes
set_option maxRecDepth 100000

theorem agg_of_six {v a b c d e f : Value} (h : v.cells.toList = [a, b, c, d, e, f]) : v = .agg #[a, b, c, d, e, f] := by
  cases v with
  | agg xs =>
    have h' : xs.toList = [a, b, c, d, e, f] := h
    rw [show xs = #[a, b, c, d, e, f] from Array.toList_inj.1 (by simpa using h')]
  | _ => simp [Value.cells] at h
theorem open_sumF {H : Type} {enc : TypeId × Value → H} {W : World} {fuel : Nat} {cs : List Value} {x : DataW H × List MemPlace} (h : DataW.trod enc Try.prog W 0 (fun _ => true) true fuel 28 cs = some x) :
    ∃ a b : Nat, a < 18446744073709551616 ∧ b < 18446744073709551616 ∧ cs = [.int .u64 a, .int .u64 b] := by
  obtain ⟨xs, n, _, _, hc, hlen, hff⟩ := DataW.trod_struct Try.underlying28 h
  have hC : Try.prog.cellsOf 28 = 2 := by kernel_rfl
  have u1 : Try.prog.cellsOf 26 = 1 := by kernel_rfl
  rw [hC] at hc
  match cs, hc, xs, hlen with
  | [c0, c1], _, [y0, y1], _ =>
    have h0 : DataW.trod enc Try.prog W 0 (fun _ => true) true n 26 (([c0, c1].drop 0).take (Try.prog.cellsOf 26)) = [y0, y1][0]? := hff 0 _ rfl
    rw [u1] at h0
    have h1 : DataW.trod enc Try.prog W 0 (fun _ => true) true n 26 (([c0, c1].drop 1).take (Try.prog.cellsOf 26)) = [y0, y1][1]? := hff 1 _ rfl
    rw [u1] at h1
    obtain ⟨n0, e0, _, w0⟩ := DataW.trod_int Try.underlying26 h0
    obtain ⟨n1, e1, _, w1⟩ := DataW.trod_int Try.underlying26 h1
    have b0 : 0 ≤ n0 ∧ n0 ≤ 18446744073709551615 := by simpa [Lit.wf, IntKind.min, IntKind.max, IntKind.signed, IntKind.bits] using w0
    have b1 : 0 ≤ n1 ∧ n1 ≤ 18446744073709551615 := by simpa [Lit.wf, IntKind.min, IntKind.max, IntKind.signed, IntKind.bits] using w1
    obtain ⟨N, rfl⟩ : ∃ N : Nat, n0 = N := ⟨n0.toNat, by omega⟩
    obtain ⟨M, rfl⟩ : ∃ M : Nat, n1 = M := ⟨n1.toNat, by omega⟩
    cases e0; cases e1
    exact ⟨N, M, by omega, by omega, rfl⟩
theorem open_sgF {H : Type} {enc : TypeId × Value → H} {W : World} {fuel : Nat} {cs : List Value} {x : DataW H × List MemPlace} (h : DataW.trod enc Try.prog W 0 (fun _ => true) true fuel 37 cs = some x) :
    ∃ s : Sg, s.fits ∧ cs = [.int .u32 (s.weak : Nat), .int .u64 (s.hi : Nat), .int .u64 (s.lo : Nat)] := by
  obtain ⟨xs, n, _, _, hc, hlen, hff⟩ := DataW.trod_struct Try.underlying37 h
  have hC : Try.prog.cellsOf 37 = 3 := by kernel_rfl
  have u1 : Try.prog.cellsOf 25 = 1 := by kernel_rfl
  have u2 : Try.prog.cellsOf 28 = 2 := by kernel_rfl
  rw [hC] at hc
  match cs, hc, xs, hlen with
  | [c0, c1, c2], _, [y0, y1], _ =>
    have h0 : DataW.trod enc Try.prog W 0 (fun _ => true) true n 25 (([c0, c1, c2].drop 0).take (Try.prog.cellsOf 25)) = [y0, y1][0]? := hff 0 _ rfl
    rw [u1] at h0
    have h1 : DataW.trod enc Try.prog W 0 (fun _ => true) true n 28 (([c0, c1, c2].drop 1).take (Try.prog.cellsOf 28)) = [y0, y1][1]? := hff 1 _ rfl
    rw [u2] at h1
    obtain ⟨n0, e0, _, w0⟩ := DataW.trod_int Try.underlying25 h0
    obtain ⟨a, b, ha, hb, e1⟩ := open_sumF h1
    have b0 : 0 ≤ n0 ∧ n0 ≤ 4294967295 := by simpa [Lit.wf, IntKind.min, IntKind.max, IntKind.signed, IntKind.bits] using w0
    obtain ⟨N, rfl⟩ : ∃ N : Nat, n0 = N := ⟨n0.toNat, by omega⟩
    cases e0; cases e1
    exact ⟨⟨N, a, b⟩, ⟨by show N < _; omega, ha, hb⟩, rfl⟩
theorem open_sgsF {H : Type} {enc : TypeId × Value → H} {W : World} {fuel : Nat} {cs : List Value} {x : DataW H × List MemPlace} (h : DataW.trod enc Try.prog W 0 (fun _ => true) true fuel 40 cs = some x) :
    ∃ (A : Option Addr) (l : List Sg) (c : Nat), cs = [.slice A l.length c] ∧ l.length ≤ c ∧ RdSg W W.heap.size A l ∧ ∀ s ∈ l, s.fits := by
  have hC : Try.prog.cellsOf 37 = 3 := by kernel_rfl
  rcases Go.Deep.open_slice Try.underlying40 h with ⟨hcs, _⟩ | ⟨a, len, cap, m, n, D, Pl, hcs, _, hl, _, hm, _, hi⟩
  · exact ⟨none, [], 0, hcs, Nat.le_refl _, RdSg.nil _ _ _, fun s hs => by cases hs⟩
  · obtain ⟨l, hll, hp⟩ := list_of (fun i (b : Sg) => b.fits ∧ W.cell? ((a.add (i * 3)).add 0) = some (.int .u32 (b.weak : Nat)) ∧ W.cell? ((a.add (i * 3)).add 1) = some (.int .u64 (b.hi : Nat)) ∧ W.cell? ((a.add (i * 3)).add 2) = some (.int .u64 (b.lo : Nat))) len (fun i hlt => by
      obtain ⟨cs', hc, ht⟩ := hi i (by rw [hm]; split <;> omega)
      obtain ⟨b, hf, rfl⟩ := open_sgF ht
      rw [hC] at hc
      obtain ⟨_, _, hat⟩ := World.cells?_some hc
      exact ⟨b, hf, hat 0 (by decide), hat 1 (by decide), hat 2 (by decide)⟩)
    refine ⟨some a, l, cap, by rw [hll]; exact hcs, by rw [hll]; exact hl, fun k r hr => ?_, fun s hs => ?_⟩
    · obtain ⟨_, h0, h1, h2⟩ := hp k r hr
      have e0 : (a.add (k * 3)).add 0 = a.add (k * 3) := by unfold Addr.add; simp
      rw [e0] at h0
      have ei : ∀ i, i ≠ 0 → (a.add (k * 3)).add i = ⟨(a.add (k * 3)).block, (a.add (k * 3)).off + i, none⟩ := fun i hi => by
        unfold Addr.add
        split <;> simp_all
      rw [ei 1 (by decide)] at h1
      rw [ei 2 (by decide)] at h2
      refine ⟨a, rfl, ?_, h0, h1, h2⟩
      have := cell_lt h0
      rwa [add_block] at this
    · obtain ⟨k, hk, rfl⟩ := List.getElem_of_mem hs
      exact (hp k _ (List.getElem?_eq_getElem hk)).1
/-- A signature that a call is given. -/
theorem open_sig {H : Type} {enc : TypeId × Value → H} {W : World} {v : Value} {d : DataW H} {ps : List MemPlace} (h : DataW.Trod enc Try.prog W 0 (fun _ => true) true 42 v d ps) :
    ∃ (z tl : Int) (A : Option Addr) (l : List Sg) (c : Nat) (s : Sg), v = .agg (sigC z A l.length c tl s) ∧ RdSg W W.heap.size A l ∧ (∀ x ∈ l, x.fits) ∧ s.fits ∧ (-9223372036854775808 ≤ z ∧ z ≤ 9223372036854775807) ∧ (-9223372036854775808 ≤ tl ∧ tl ≤ 9223372036854775807) := by
  obtain ⟨fuel, hf⟩ := h
  obtain ⟨xs, n, _, _, hc, hlen, hff⟩ := DataW.trod_struct Try.underlying42 hf
  have hC : Try.prog.cellsOf 42 = 6 := by kernel_rfl
  have u1 : Try.prog.cellsOf 3 = 1 := by kernel_rfl
  have u2 : Try.prog.cellsOf 40 = 1 := by kernel_rfl
  have u3 : Try.prog.cellsOf 37 = 3 := by kernel_rfl
  rw [hC] at hc
  obtain ⟨cs, hcs⟩ : ∃ cs, cs = v.cells.toList := ⟨_, rfl⟩
  rw [← hcs] at hc hff
  match cs, hc, xs, hlen with
  | [c0, c1, c2, c3, c4, c5], _, [y0, y1, y2, y3], _ =>
    have h0 : DataW.trod enc Try.prog W 0 (fun _ => true) true n 3 (([c0, c1, c2, c3, c4, c5].drop 0).take (Try.prog.cellsOf 3)) = [y0, y1, y2, y3][0]? := hff 0 _ rfl
    rw [u1] at h0
    have h1 : DataW.trod enc Try.prog W 0 (fun _ => true) true n 40 (([c0, c1, c2, c3, c4, c5].drop 1).take (Try.prog.cellsOf 40)) = [y0, y1, y2, y3][1]? := hff 1 _ rfl
    rw [u2] at h1
    have h2 : DataW.trod enc Try.prog W 0 (fun _ => true) true n 3 (([c0, c1, c2, c3, c4, c5].drop 2).take (Try.prog.cellsOf 3)) = [y0, y1, y2, y3][2]? := hff 2 _ rfl
    rw [u1] at h2
    have h3 : DataW.trod enc Try.prog W 0 (fun _ => true) true n 37 (([c0, c1, c2, c3, c4, c5].drop 3).take (Try.prog.cellsOf 37)) = [y0, y1, y2, y3][3]? := hff 3 _ rfl
    rw [u3] at h3
    obtain ⟨z, e0, _, w0⟩ := DataW.trod_int Try.underlying3 h0
    obtain ⟨tl, e2, _, w2⟩ := DataW.trod_int Try.underlying3 h2
    obtain ⟨A, l, c, e1, _, hR, hfl⟩ := open_sgsF h1
    obtain ⟨s, hs, e3⟩ := open_sgF h3
    have b0 : -9223372036854775808 ≤ z ∧ z ≤ 9223372036854775807 := by simpa [Lit.wf, IntKind.min, IntKind.max, IntKind.signed, IntKind.bits] using w0
    have b2 : -9223372036854775808 ≤ tl ∧ tl ≤ 9223372036854775807 := by simpa [Lit.wf, IntKind.min, IntKind.max, IntKind.signed, IntKind.bits] using w2
    cases e0; cases e1; cases e2; cases e3
    exact ⟨z, tl, A, l, c, s, agg_of_six hcs.symm, hR, hfl, hs, b0, b2⟩
end Go.Proofs.Ytdkdnfcmlnfkcaa
