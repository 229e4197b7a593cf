/-
  What the cards of EditLines and EditTexts share: the library's two errors, as their own text lays them.
-/
import Derived.Test.YtlohoamhgioheaaDoorEdCard
import Derived.Test.YtlohoamhgioheaaDoorEdAtoi
namespace Go.Proofs.YtlohoamhgioheaaDoor
open Go.RowKit
set_option maxRecDepth 100000

theorem iface_of {H : Type} {enc : TypeId × Value → H} {P : Program} {w : World} {base : Nat} {sp : Nat → Bool} {held : Bool} {fuel : Nat} {t : TypeId} {ms : Array (String × TypeId)} {cs : List Value} {nm : String} {d : DataW H} {p : List MemPlace}
    (ht : P.underlying t = some (.interface ms)) (h : DataW.trod enc P w base sp held fuel t cs = some (.iface nm d, p)) : ∃ u v, cs = [.iface u v] := by
  cases fuel with
  | zero => simp [DataW.trod] at h
  | succ fuel =>
    unfold DataW.trod at h
    rw [ht] at h
    split at h <;> simp_all
theorem edGlob4 : Tryd.prog.globalNamed "strconv.ErrSyntax" = some 4 := by kernel_rfl
theorem edGlob5 : Tryd.prog.globalNamed "strconv.ErrRange" = some 5 := by kernel_rfl
theorem edTy4 : (Tryd.prog.globals[4]?).map (·.type) = some 62 := by kernel_rfl
theorem edTy5 : (Tryd.prog.globals[5]?).map (·.type) = some 62 := by kernel_rfl
theorem errs_of {W : World} {l : List (String × DataW Unit)} (h : laidMetH Tryd.prog l W) (hp : (l.all fun x => x.2.handleName?.isNone) = true)
    (hs : ("strconv.ErrSyntax", Rows.laid_strconv_ErrSyntax) ∈ l) (hr : ("strconv.ErrRange", Rows.laid_strconv_ErrRange) ∈ l) : Errs W := by
  rw [MakeChecks.laidMetH_plain _ _ _ hp] at h
  obtain ⟨ps, hv, _, _⟩ := h
  constructor
  · obtain ⟨g, t, cs, fuel, p, h1, h2, h3, h4⟩ := laid_at hv hs
    obtain rfl := Option.some.inj (edGlob4.symm.trans h1)
    obtain rfl := Option.some.inj (edTy4.symm.trans h2)
    obtain ⟨u, v, hc⟩ := iface_of Tryd.underlying62 h4
    refine ⟨.iface u v, ?_, .inr ⟨u, v, rfl⟩⟩
    rw [var_cell edGlob4 h3, ← Array.getElem?_toList, hc]; rfl
  · obtain ⟨g, t, cs, fuel, p, h1, h2, h3, h4⟩ := laid_at hv hr
    obtain rfl := Option.some.inj (edGlob5.symm.trans h1)
    obtain rfl := Option.some.inj (edTy5.symm.trans h2)
    obtain ⟨u, v, hc⟩ := iface_of Tryd.underlying62 h4
    refine ⟨.iface u v, ?_, .inr ⟨u, v, rfl⟩⟩
    rw [var_cell edGlob5 h3, ← Array.getElem?_toList, hc]; rfl
end Go.Proofs.YtlohoamhgioheaaDoor
