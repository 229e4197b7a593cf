/-
  THE LAW SketchAlike HOLDS: whatever two sketches come in, the law answers true, and all read afterwards as they did. No condition.
-/
import Derived.Test.YtpefcadlejcbbaaRows
import Derived.Test.YtpefcadlejcbbaaSkAlikeLaw
import Derived.Deep.Fields
import Derived.ChangeSame
import Derived.WalkKit
import Derived.ProofKit
import Derived.OpenShut
namespace Go.Proofs.Ytpefcadlejcbbaa.sketchAlike
open Go.ChangeShapes Go.WideShapes Go.ChangeAt Go.RowKit

theorem own : ownKnob Try.prog.godebug = none := by kernel_rfl
theorem u64_nat' {z : Int} (h : (Lit.int .u64 z).wf = true) : ∃ n : Nat, z = n ∧ n < 18446744073709551616 := by
  have : 0 ≤ z ∧ z ≤ 18446744073709551615 := by simpa [Lit.wf, IntKind.min, IntKind.max, IntKind.signed, IntKind.bits] using h
  exact ⟨z.toNat, by omega, by omega⟩
theorem agg_of_list {v : Value} {l : List Value} (h : v.cells.toList = l) (h2 : 2 ≤ l.length) : v = .agg l.toArray := by
  cases v with
  | agg xs =>
    have h' : xs.toList = l := h
    rw [show xs = l.toArray from Array.toList_inj.1 (by simpa using h')]
  | _ => subst h; simp [Value.cells] at h2
theorem open_eight {H : Type} {enc : TypeId × Value → H} {W : World} {v : Value} {d : DataW H} {ps : List MemPlace} (h : DataW.Trod enc Try.prog W 0 (fun _ => true) true 30 v d ps) :
    ∃ l : List Nat, l.length = 8 ∧ v = .agg (U l) := by
  obtain ⟨fuel, hf⟩ := h
  obtain ⟨xs, n, _, _, hc, hlen, hff⟩ := DataW.trod_array Try.underlying30 hf
  have hC : Try.prog.cellsOf 30 = 8 := by kernel_rfl
  have u1 : Try.prog.cellsOf 29 = 1 := by kernel_rfl
  rw [hC] at hc
  rw [u1] at hff
  obtain ⟨cs, hcs⟩ : ∃ cs, cs = v.cells.toList := ⟨_, rfl⟩
  rw [← hcs] at hc hff
  match cs, hc, xs, hlen with
  | [c0, c1, c2, c3, c4, c5, c6, c7], _, [y0, y1, y2, y3, y4, y5, y6, y7], _ =>
    have h0 : DataW.trod enc Try.prog W 0 (fun _ => true) true n 29 [c0] = some y0 := hff 0 (by decide)
    have h1 : DataW.trod enc Try.prog W 0 (fun _ => true) true n 29 [c1] = some y1 := hff 1 (by decide)
    have h2 : DataW.trod enc Try.prog W 0 (fun _ => true) true n 29 [c2] = some y2 := hff 2 (by decide)
    have h3 : DataW.trod enc Try.prog W 0 (fun _ => true) true n 29 [c3] = some y3 := hff 3 (by decide)
    have h4 : DataW.trod enc Try.prog W 0 (fun _ => true) true n 29 [c4] = some y4 := hff 4 (by decide)
    have h5 : DataW.trod enc Try.prog W 0 (fun _ => true) true n 29 [c5] = some y5 := hff 5 (by decide)
    have h6 : DataW.trod enc Try.prog W 0 (fun _ => true) true n 29 [c6] = some y6 := hff 6 (by decide)
    have h7 : DataW.trod enc Try.prog W 0 (fun _ => true) true n 29 [c7] = some y7 := hff 7 (by decide)
    obtain ⟨n0, e0, _, w0⟩ := DataW.trod_int Try.underlying29 h0
    obtain ⟨N0, rfl, _⟩ := u64_nat' w0
    obtain ⟨n1, e1, _, w1⟩ := DataW.trod_int Try.underlying29 h1
    obtain ⟨N1, rfl, _⟩ := u64_nat' w1
    obtain ⟨n2, e2, _, w2⟩ := DataW.trod_int Try.underlying29 h2
    obtain ⟨N2, rfl, _⟩ := u64_nat' w2
    obtain ⟨n3, e3, _, w3⟩ := DataW.trod_int Try.underlying29 h3
    obtain ⟨N3, rfl, _⟩ := u64_nat' w3
    obtain ⟨n4, e4, _, w4⟩ := DataW.trod_int Try.underlying29 h4
    obtain ⟨N4, rfl, _⟩ := u64_nat' w4
    obtain ⟨n5, e5, _, w5⟩ := DataW.trod_int Try.underlying29 h5
    obtain ⟨N5, rfl, _⟩ := u64_nat' w5
    obtain ⟨n6, e6, _, w6⟩ := DataW.trod_int Try.underlying29 h6
    obtain ⟨N6, rfl, _⟩ := u64_nat' w6
    obtain ⟨n7, e7, _, w7⟩ := DataW.trod_int Try.underlying29 h7
    obtain ⟨N7, rfl, _⟩ := u64_nat' w7
    cases e0; cases e1; cases e2; cases e3; cases e4; cases e5; cases e6; cases e7
    exact ⟨[N0, N1, N2, N3, N4, N5, N6, N7], rfl, agg_of_list hcs.symm (by simp)⟩

set_option maxRecDepth 100000 in
theorem lifted (os : Os) (started : os.Started) (H : Type) (enc : TypeId × Value → H) :
    ReturnsInHanded {} Try.checked os 4 .any (Rows.sketchAlikeSpec.pre6 enc Try.prog Try.f4 Rows.sketchAlikeRow.domain false) (Rows.sketchAlikeSpec.post enc Try.prog Try.f4 false true false false) := by
  refine returnsInHanded_of_change (C := Try.checked) own started (by kernel_rfl) Try.func4
    (ChangeSpec.witness6 (enc := enc) (C := Try.checked) false ⟨#[], #[.agg #[.int .u64 0, .int .u64 0, .int .u64 0, .int .u64 0, .int .u64 0, .int .u64 0, .int .u64 0, .int .u64 0], .agg #[.int .u64 0, .int .u64 0, .int .u64 0, .int .u64 0, .int .u64 0, .int .u64 0, .int .u64 0, .int .u64 0]], []⟩ 8 (by kernel_rfl) (by kernel_rfl) (by kernel_rfl) (by kernel_rfl)) ?_
  intro W base args ds gs before hval0 hW hcnd _
  have hval : ∀ (j : Nat) t v, Try.f4.params[j]? = some t → args[j]? = some v → Value.okWide Try.prog W .any base t v := hval0
  have hW' := hW
  obtain ⟨p, q, hA0, hV, rfl, hfz, hnd⟩ := hW
  have hA : DataW.TrodAll enc Try.prog W 0 (fun _ => true) true Try.f4.params.toList args.toList ds p := hA0
  rw [Try.params4] at hA hval
  obtain ⟨v0, vs0, d0, ds0, p0, q0, hargs, rfl, rfl, h0, r0⟩ := trodAll_cons hA
  obtain ⟨v1, vs1, d1, ds1, p1, q1, rfl, rfl, rfl, h1, r1⟩ := trodAll_cons r0
  obtain ⟨rfl, rfl, rfl⟩ := trodAll_nil r1
  obtain rfl : args = #[v0, v1] := by cases args; simp_all
  obtain ⟨rfl, rfl⟩ := trodVars_none hV
  obtain ⟨a, ha, rfl⟩ := open_eight h0
  obtain ⟨b, hb, rfl⟩ := open_eight h1
  clear hA0 hval0
  simp only [List.append_nil] at hW'
  have hlt : ∀ x ∈ p0 ++ p1, x.block < W.heap.size := fun x hx => by simpa using hW'.lt x (by simpa using hx)
  refine (sketchAlike_law a b W ha hb).mono fun e W' ⟨he, hb⟩ => ?_
  subst he
  have hT := trodAll_cons_mk (Below.trod laidOut (by kernel_rfl) (of_decide_eq_true (by kernel_rfl)) h0 hb (fun x hx => hlt x (List.mem_append_left _ hx))) (trodAll_cons_mk (Below.trod laidOut (by kernel_rfl) (of_decide_eq_true (by kernel_rfl)) h1 hb (fun x hx => hlt x (List.mem_append_right _ hx))) trodAll_mk0)
  simp only [List.append_nil] at hT
  exact ⟨_, rfl, _, _, _, [], p0 ++ p1, [], hW', trodAll_mk1 (shut_bool Try.underlying4 _), hT, rfl, hb.frame _, fun h => by cases h⟩

/-- The statement. -/
theorem proved : Rows.SketchAlikeSaid :=
  OpenClaim.holds_of_wide 4 Try.f4 rfl rfl rfl rfl rfl rfl rfl ⟨rfl, rfl, rfl, rfl, rfl⟩ rfl rfl rfl rfl rfl (by kernel_rfl) Try.func4 (by kernel_rfl)
    (of_decide_eq_true (by kernel_rfl)) (by unfold Func.isWrapper; first | (rw [if_pos (by decide +kernel)]; kernel_rfl) | (rw [if_neg (by decide +kernel)]; exact ⟨rfl, rfl⟩))
    (fun os started H enc _ => lifted os started H enc)
end Go.Proofs.Ytpefcadlejcbbaa.sketchAlike
