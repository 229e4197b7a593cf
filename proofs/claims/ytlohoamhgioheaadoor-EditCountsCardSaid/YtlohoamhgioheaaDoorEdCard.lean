/-
  What the cards of layer 28 share: the tables, as their own initialisers lay them.
-/
import Derived.Test.YtlohoamhgioheaaDoorRows
import Derived.Test.YtlohoamhgioheaaDoorCards
import Derived.Test.YtlohoamhgioheaaDoorTie
import Derived.Test.YtlohoamhgioheaaDoorEdTab
import Derived.Lib.LaidTab
import Derived.LaidOnce
import Derived.ProofKit
namespace Go.Proofs.YtlohoamhgioheaaDoor
open Go.RowKit
set_option maxRecDepth 100000

theorem edOwn : ownKnob Tryd.prog.godebug = none := by kernel_rfl
/-- A variable that a list lays. -/
theorem laid_at {P : Program} {W : World} {n : String} {d : DataW Unit} : ∀ {l : List (String × DataW Unit)} {ps : List MemPlace}, DataW.LaidVars P W l ps → (n, d) ∈ l →
    ∃ g t cs fuel p, P.globalNamed n = some g ∧ (P.globals[g]?).map (·.type) = some t ∧ W.var? P n = some cs ∧ DataW.trod (fun _ => ()) P W 0 (fun _ => true) false fuel t cs.toList = some (d, p)
  | [], _, _, h => by cases h
  | (m, b) :: r, ps, hl, h => by
    obtain ⟨g, t, cs, fuel, p, q, h1, h2, h3, h4, h5, _⟩ := hl
    rcases List.mem_cons.1 h with e | h
    · cases e
      exact ⟨g, t, cs, fuel, p, h1, h2, h3, h4⟩
    · exact laid_at h5 h
theorem var_cell {W : World} {n : String} {g : Nat} {cs : Array Value} (hg : Tryd.prog.globalNamed n = some g) (h : W.var? Tryd.prog n = some cs) (i : Nat) : W.cell? ⟨g, i, none⟩ = cs[i]? := World.var?_cell hg h i
/-- An array of texts that reads as these texts. -/
theorem cells_of_texts {H : Type} {enc : TypeId × Value → H} {P : Program} {w : World} {base : Nat} {sp : Nat → Bool} {held : Bool} {fuel : Nat} {t e : TypeId} {n : Nat} {cs : List Value} {l : List (List UInt8)} {p : List MemPlace}
    (ht : P.underlying t = some (.array n e)) (he : P.underlying e = some .string) (hce : P.cellsOf e = 1)
    (h : DataW.trod enc P w base sp held fuel t cs = some (.agg (l.map fun s => .lit (.string s)), p)) : ∀ (i : Nat) (x : List UInt8), l[i]? = some x → cs[i]? = some (Value.string ⟨x.toArray⟩) := by
  cases fuel with
  | zero => simp [DataW.trod] at h
  | succ fuel =>
    simp only [DataW.trod, ht, hce, Nat.mul_one] at h
    split at h
    · obtain ⟨xs, hm, hx⟩ := Option.map_eq_some_iff.1 h
      have h1 := congrArg Prod.fst hx
      simp only [DataW.agg.injEq] at h1
      intro i x hi
      have h2 := congrArg (·[i]?) h1
      simp only [List.getElem?_map, hi, Option.map_some] at h2
      obtain ⟨y, hy, hy2⟩ := Option.map_eq_some_iff.1 h2
      have hin : i < n := by
        have h3 := (List.getElem?_eq_some_iff.1 hy).1
        have h4 := Lib.mapM_length hm
        simp at h4
        omega
      obtain ⟨b, hb, hf⟩ := Lib.mapM_at hm i i (by simp [hin])
      obtain rfl := Option.some.inj (hb.symm.trans hy)
      obtain ⟨s, hc, rfl, _⟩ := DataW.trod_string he hf
      simp only [DataW.lit.injEq, Lit.string.injEq] at hy2
      have h5 := congrArg (·[0]?) hc
      simp only [List.getElem?_take, List.getElem?_drop, Nat.add_zero] at h5
      have h6 : cs[i]? = some (.string s) := by simpa using h5
      rw [h6, ← hy2]
    · cases h

theorem edGlob0 : Tryd.prog.globalNamed "flitting/edit.words" = some 0 := by kernel_rfl
theorem edGlob1 : Tryd.prog.globalNamed "flitting/edit.fields" = some 1 := by kernel_rfl
theorem edTy0 : (Tryd.prog.globals[0]?).map (·.type) = some 54 := by kernel_rfl
theorem edTy1 : (Tryd.prog.globals[1]?).map (·.type) = some 73 := by kernel_rfl
theorem edTy2 : (Tryd.prog.globals[2]?).map (·.type) = some 104 := by kernel_rfl
theorem edCS : Tryd.prog.cellsOf 9 = 1 := by kernel_rfl
theorem edCI : Tryd.prog.cellsOf 3 = 1 := by kernel_rfl
theorem edCU : Tryd.prog.cellsOf 87 = 1 := by kernel_rfl
theorem edCA1 : Tryd.prog.cellsOf 73 = 10 := by kernel_rfl
theorem edCA2 : Tryd.prog.cellsOf 104 = 20 := by kernel_rfl
theorem words_are : ∀ i : Fin 10, [wordL 0, wordL 1, wordL 2, wordL 3, wordL 4, wordL 5, wordL 6, wordL 7, wordL 8, wordL 9][i.val]? = some (wordL (i.val : Int)) := by decide
theorem tabs_of {W : World} {l : List (String × DataW Unit)} (h : laidMetH Tryd.prog l W) (hp : (l.all fun x => x.2.handleName?.isNone) = true)
    (hw : ("flitting/edit.words", Rows.laid_flitting_edit_words) ∈ l) (hf : ("flitting/edit.fields", Rows.laid_flitting_edit_fields) ∈ l) (hu : ("internal/strconv.uint64pow10", Rows.laid_internal_strconv_uint64pow10) ∈ l) : Tabs W := by
  rw [MakeChecks.laidMetH_plain _ _ _ hp] at h
  obtain ⟨ps, hv, _, _⟩ := h
  refine ⟨fun k hk => ?_, fun k hk => ?_, ?_, ?_⟩
  · obtain ⟨g, t, cs, fuel, p, h1, h2, h3, h4⟩ := laid_at hv hw
    obtain rfl := Option.some.inj (edGlob0.symm.trans h1)
    obtain rfl := Option.some.inj (edTy0.symm.trans h2)
    have := cells_of_texts (l := [wordL 0, wordL 1, wordL 2, wordL 3, wordL 4, wordL 5, wordL 6, wordL 7, wordL 8, wordL 9]) Tryd.underlying54 Tryd.underlying9 edCS h4 k _ (words_are ⟨k, hk⟩)
    rw [var_cell edGlob0 h3, ← Array.getElem?_toList, this]; rfl
  · obtain ⟨g, t, cs, fuel, p, h1, h2, h3, h4⟩ := laid_at hv hf
    obtain rfl := Option.some.inj (edGlob1.symm.trans h1)
    obtain rfl := Option.some.inj (edTy1.symm.trans h2)
    have := Lib.cells_of_tab (k := .i64) (zs := [0, 3, 7, 6, 6, 3, 3, 2, 1, 6]) Tryd.underlying73 Tryd.underlying3 edCI edCA1 h4
    rw [var_cell edGlob1 h3, ← Array.getElem?_toList, this]
    have : ∀ i : Fin 10, (List.map (fun z : Int => Value.int .i64 z) [0, 3, 7, 6, 6, 3, 3, 2, 1, 6])[i.val]? = some (.int .i64 (fieldsN i.val)) := by
      intro ⟨i, hi⟩
      match i, hi with
      | 0, _ => rfl | 1, _ => rfl | 2, _ => rfl | 3, _ => rfl | 4, _ => rfl | 5, _ => rfl | 6, _ => rfl | 7, _ => rfl | 8, _ => rfl | 9, _ => rfl
    exact this ⟨k, hk⟩
  · obtain ⟨g, t, cs, fuel, p, h1, h2, h3, h4⟩ := laid_at hv hu
    obtain rfl := Option.some.inj (pow10_at.symm.trans h1)
    obtain rfl := Option.some.inj (edTy2.symm.trans h2)
    have := Lib.cells_of_tab (k := .u64) (zs := Lib.pow10Tab) Tryd.underlying104 Tryd.underlying87 edCU edCA2 h4
    unfold Lib.TabIs
    rw [h3, ← this]
  · obtain ⟨g, t, cs, fuel, p, h1, h2, h3, h4⟩ := laid_at hv hu
    obtain rfl := Option.some.inj (pow10_at.symm.trans h1)
    unfold World.var? at h3
    rw [pow10_at] at h3
    simp only [Option.bind_some] at h3
    cases hh : W.heap[2]? with
    | none => rw [hh] at h3; cases h3
    | some o => exact (Array.getElem?_eq_some_iff.1 hh).1
end Go.Proofs.YtlohoamhgioheaaDoor
