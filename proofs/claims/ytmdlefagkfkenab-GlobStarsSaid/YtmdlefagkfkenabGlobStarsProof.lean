/-
  THE LAW GlobStars HOLDS: whatever two patterns and three texts come in, the law answers true, and all read afterwards as they did. No condition.
-/
import Derived.Test.YtmdlefagkfkenabRows
import Derived.Test.YtmdlefagkfkenabGlobStarsLaw
import Derived.WalkKit
import Derived.ProofKit
import Derived.OpenShut
import Derived.ShutString
namespace Go.Proofs.Ytmdlefagkfkenab.globStars
open Go.ChangeShapes Go.WideShapes Go.ChangeAt Go.RowKit
open Go.ChangeMaps (open_string shut_string)

theorem own : ownKnob Try.prog.godebug = none := by kernel_rfl
theorem laidOut : laidOutB Try.prog = true := by kernel_rfl

theorem isEmpty_iff (t : ByteArray) : t.toList.isEmpty = true ∨ t.toList.isEmpty = false ∧ 0 < t.size := by
  by_cases h : t.toList.isEmpty = true
  · exact .inl h
  · exact .inr ⟨by simpa using h, size_pos h⟩

theorem walk (a b p m q : ByteArray) (w : World) :
    Calls Try.prog 3 #[.agg #[.string a, .string b], .agg #[.string p, .string m, .string q]] w fun e w' => e = .returned (.bool true) ∧ Below w.heap.size w w' := by
  by_cases h1 : (30 : Int) < a.size
  · exact stars_e1 a b p m q w h1
  by_cases h2 : (30 : Int) < b.size
  · exact stars_e2 a b p m q w h1 h2
  by_cases h3 : (60 : Int) < p.size
  · exact stars_e3 a b p m q w h1 h2 h3
  by_cases h4 : (60 : Int) < m.size
  · exact stars_e4 a b p m q w h1 h2 h3 h4
  by_cases h5 : (60 : Int) < q.size
  · exact stars_e5 a b p m q w h1 h2 h3 h4 h5
  have lastA : ∀ h : 0 < a.size, (a[a.size - 1].toNat : Int) ≠ 42 → noStar a.data.toList := by
    intro h hne he
    rw [List.getLast?_eq_getElem?] at he
    have hl : a.data.toList.length = a.size := by simp
    rw [hl, List.getElem?_eq_getElem (by omega)] at he
    have e : a.data.toList[a.size - 1] = a[a.size - 1] := rfl
    rw [e] at he
    cases he' : a[a.size - 1] with
    | _ =>
      rw [Option.some.injEq] at he
      rw [he] at hne
      exact hne rfl
  have noA : a.toList.isEmpty = true → noStar a.data.toList := by
    intro h
    rw [isEmpty_of h]
    unfold noStar
    simp
  have headB : ∀ h : 0 < b.size, (b[0].toNat : Int) ≠ 42 → b.data.toList.head? ≠ some 42 := by
    intro h hne he
    rw [first_of b h] at he
    simp only [List.head?_cons, Option.some.injEq] at he
    rw [he] at hne
    exact hne rfl
  have noB : b.toList.isEmpty = true → b.data.toList.head? ≠ some 42 := by
    intro h
    rw [isEmpty_of h]
    simp
  rcases isEmpty_iff a with hA | ⟨hA, hpa⟩
  · rcases isEmpty_iff b with hB | ⟨hB, hpb⟩
    · exact stars_main a b p m q w h1 h2 h3 h4 h5 (.inl hA) (.inl hB) (noA hA) (noB hB)
    · by_cases hl : (b[0].toNat : Int) = 42
      · exact stars_e7a a b p m q w h1 h2 h3 h4 h5 hA hB hpb hl
      · exact stars_main a b p m q w h1 h2 h3 h4 h5 (.inl hA) (.inr ⟨hB, hpb, beq_eq_false_iff_ne.2 hl⟩) (noA hA) (headB hpb hl)
  · by_cases hla : (a[a.size - 1].toNat : Int) = 42
    · exact stars_e6 a b p m q w h1 h2 h3 h4 h5 hA hpa hla
    · rcases isEmpty_iff b with hB | ⟨hB, hpb⟩
      · exact stars_main a b p m q w h1 h2 h3 h4 h5 (.inr ⟨hA, hpa, beq_eq_false_iff_ne.2 hla⟩) (.inl hB) (lastA hpa hla) (noB hB)
      · by_cases hl : (b[0].toNat : Int) = 42
        · exact stars_e7b a b p m q w h1 h2 h3 h4 h5 hA hpa (beq_eq_false_iff_ne.2 hla) hB hpb hl
        · exact stars_main a b p m q w h1 h2 h3 h4 h5 (.inr ⟨hA, hpa, beq_eq_false_iff_ne.2 hla⟩) (.inr ⟨hB, hpb, beq_eq_false_iff_ne.2 hl⟩) (lastA hpa hla) (headB hpb hl)

/-! ### The arguments: arrays of texts -/
section
variable {H : Type} {enc : TypeId × Value → H} {W : World} {base : Nat} {v : Value} {d : DataW H} {ps : List MemPlace}
theorem cells1 : Try.prog.cellsOf 9 = 1 := by kernel_rfl
theorem open_two (hv : Value.okWide Try.prog W .any base 22 v) (h : DataW.Trod enc Try.prog W 0 (fun _ => true) true 22 v d ps) : ∃ a b : ByteArray, v = .agg #[.string a, .string b] := by
  simp only [Value.okWide, Try.underlying22] at hv
  obtain ⟨cs, rfl, hsz, _⟩ := hv
  obtain ⟨fuel, hf⟩ := h
  obtain ⟨xs, n, rfl, hx, hl, hxl, hget⟩ := DataW.trod_array Try.underlying22 hf
  have hsz' : cs.size = 2 := hsz.trans (by kernel_rfl)
  obtain ⟨c0, c1, rfl⟩ : ∃ c0 c1, cs = #[c0, c1] := by
    match cs, hsz' with
    | ⟨[c0, c1]⟩, _ => exact ⟨c0, c1, rfl⟩
  have g0 := hget 0 (by omega)
  have g1 := hget 1 (by omega)
  rw [cells1] at g0 g1
  rw [List.getElem?_eq_getElem (by omega)] at g0 g1
  obtain ⟨a, e0, _, _⟩ := DataW.trod_string Try.underlying9 g0
  obtain ⟨b, e1, _, _⟩ := DataW.trod_string Try.underlying9 g1
  have e0' : [c0] = [Value.string a] := e0
  have e1' : [c1] = [Value.string b] := e1
  cases e0'
  cases e1'
  exact ⟨a, b, rfl⟩
theorem open_three (hv : Value.okWide Try.prog W .any base 23 v) (h : DataW.Trod enc Try.prog W 0 (fun _ => true) true 23 v d ps) : ∃ a b c : ByteArray, v = .agg #[.string a, .string b, .string c] := by
  simp only [Value.okWide, Try.underlying23] at hv
  obtain ⟨cs, rfl, hsz, _⟩ := hv
  obtain ⟨fuel, hf⟩ := h
  obtain ⟨xs, n, rfl, hx, hl, hxl, hget⟩ := DataW.trod_array Try.underlying23 hf
  have hsz' : cs.size = 3 := hsz.trans (by kernel_rfl)
  obtain ⟨c0, c1, c2, rfl⟩ : ∃ c0 c1 c2, cs = #[c0, c1, c2] := by
    match cs, hsz' with
    | ⟨[c0, c1, c2]⟩, _ => exact ⟨c0, c1, c2, rfl⟩
  have g0 := hget 0 (by omega)
  have g1 := hget 1 (by omega)
  have g2 := hget 2 (by omega)
  rw [cells1] at g0 g1 g2
  rw [List.getElem?_eq_getElem (by omega)] at g0 g1 g2
  obtain ⟨a, e0, _, _⟩ := DataW.trod_string Try.underlying9 g0
  obtain ⟨b, e1, _, _⟩ := DataW.trod_string Try.underlying9 g1
  obtain ⟨c, e2, _, _⟩ := DataW.trod_string Try.underlying9 g2
  have e0' : [c0] = [Value.string a] := e0
  have e1' : [c1] = [Value.string b] := e1
  have e2' : [c2] = [Value.string c] := e2
  cases e0'
  cases e1'
  cases e2'
  exact ⟨a, b, c, rfl⟩
end

set_option maxRecDepth 100000 in
theorem lifted (os : Os) (started : os.Started) (H : Type) (enc : TypeId × Value → H) :
    ReturnsInHanded {} Try.checked os 3 .any (Rows.globStarsSpec.pre6 enc Try.prog Try.f3 Rows.globStarsRow.domain false) (Rows.globStarsSpec.post enc Try.prog Try.f3 false true false false) := by
  refine returnsInHanded_of_change (C := Try.checked) own started (by kernel_rfl) Try.func3
    (ChangeSpec.witness6 (enc := enc) (C := Try.checked) false ⟨#[], #[.agg #[.string ByteArray.empty, .string ByteArray.empty], .agg #[.string ByteArray.empty, .string ByteArray.empty, .string ByteArray.empty]], []⟩ 8 (by kernel_rfl) (by kernel_rfl) (by kernel_rfl) (by kernel_rfl)) ?_
  intro W base args ds gs before hval0 hW hcnd _
  have hval : ∀ (j : Nat) t v, Try.f3.params[j]? = some t → args[j]? = some v → Value.okWide Try.prog W .any base t v := hval0
  have hW' := hW
  obtain ⟨p, q, hA0, hV, rfl, hfz, hnd⟩ := hW
  have hA : DataW.TrodAll enc Try.prog W 0 (fun _ => true) true Try.f3.params.toList args.toList ds p := hA0
  rw [Try.params3] at hA hval
  obtain ⟨v0, v1, d0, d1, p0, p1, rfl, rfl, rfl, h0, h1⟩ := trodAll_two hA
  obtain ⟨rfl, rfl⟩ := trodVars_none hV
  obtain ⟨x0, x1, rfl⟩ := open_two (hval 0 22 v0 rfl rfl) h0
  obtain ⟨y0, y1, y2, rfl⟩ := open_three (hval 1 23 v1 rfl rfl) h1
  clear hA0 hval0
  simp only [List.append_nil] at hW'
  have hlt : ∀ x ∈ p0 ++ p1, x.block < W.heap.size := fun x hx => by simpa using hW'.lt x hx
  refine (walk x0 x1 y0 y1 y2 W).mono fun e W' ⟨he, hb⟩ => ?_
  subst he
  exact ⟨_, rfl, _, _, _, [], p0 ++ p1, [], hW', trodAll_mk1 (shut_bool Try.underlying4 _),
    trodAll_mk2 (Below.trod laidOut (by kernel_rfl) (of_decide_eq_true (by kernel_rfl)) h0 hb (fun x hx => hlt x (List.mem_append.2 (.inl hx)))) (Below.trod laidOut (by kernel_rfl) (of_decide_eq_true (by kernel_rfl)) h1 hb (fun x hx => hlt x (List.mem_append.2 (.inr hx)))), rfl, hb.frame _, fun h => by cases h⟩

/-- The statement. -/
theorem proved : Rows.GlobStarsSaid :=
  OpenClaim.holds_of_wide 3 Try.f3 rfl rfl rfl rfl rfl rfl rfl ⟨rfl, rfl, rfl, rfl, rfl⟩ rfl rfl rfl rfl rfl (by kernel_rfl) Try.func3 (by kernel_rfl)
    (of_decide_eq_true (by kernel_rfl)) (by unfold Func.isWrapper; first | (rw [if_pos (by decide +kernel)]; kernel_rfl) | (rw [if_neg (by decide +kernel)]; exact ⟨rfl, rfl⟩))
    (fun os started H enc _ => lifted os started H enc)
end Go.Proofs.Ytmdlefagkfkenab.globStars
