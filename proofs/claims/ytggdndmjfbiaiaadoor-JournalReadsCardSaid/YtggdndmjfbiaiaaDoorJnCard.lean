/-
  What the cards of layer 32 share: the library's table of powers of ten, and its two errors, as their own text lays them.
-/
import Derived.Test.YtggdndmjfbiaiaaDoorRows
import Derived.Test.YtggdndmjfbiaiaaDoorCards
import Derived.Test.YtggdndmjfbiaiaaDoorTie
import Derived.Test.YtggdndmjfbiaiaaDoorJnTab
import Derived.Lib.LaidTab
import Derived.LaidOnce
import Derived.ProofKit
namespace Go.Proofs.YtggdndmjfbiaiaaDoor
open Go.RowKit
set_option maxRecDepth 100000

/-- A variable that a list lays. -/
theorem laid_at {P : Program} {W : World} {n : String} {d : DataW Unit} : ∀ {l : List (String × DataW Unit)} {ps : List MemPlace}, DataW.LaidVars P W l ps → (n, d) ∈ l →
    ∃ g t cs fuel p, P.globalNamed n = some g ∧ (P.globals[g]?).map (·.type) = some t ∧ W.var? P n = some cs ∧ DataW.trod (fun _ => ()) P W 0 (fun _ => true) false fuel t cs.toList = some (d, p)
  | [], _, _, h => by cases h
  | (m, b) :: r, ps, hl, h => by
    obtain ⟨g, t, cs, fuel, p, q, h1, h2, h3, h4, h5, _⟩ := hl
    rcases List.mem_cons.1 h with e | h
    · cases e
      exact ⟨g, t, cs, fuel, p, h1, h2, h3, h4⟩
    · exact laid_at h5 h
theorem var_cell {W : World} {n : String} {g : Nat} {cs : Array Value} (hg : Tryd.prog.globalNamed n = some g) (h : W.var? Tryd.prog n = some cs) (i : Nat) : W.cell? ⟨g, i, none⟩ = cs[i]? := World.var?_cell hg h i
theorem iface_of {H : Type} {enc : TypeId × Value → H} {P : Program} {w : World} {base : Nat} {sp : Nat → Bool} {held : Bool} {fuel : Nat} {t : TypeId} {ms : Array (String × TypeId)} {cs : List Value} {nm : String} {d : DataW H} {p : List MemPlace}
    (ht : P.underlying t = some (.interface ms)) (h : DataW.trod enc P w base sp held fuel t cs = some (.iface nm d, p)) : ∃ u v, cs = [.iface u v] := by
  cases fuel with
  | zero => simp [DataW.trod] at h
  | succ fuel =>
    unfold DataW.trod at h
    rw [ht] at h
    split at h <;> simp_all
theorem jnGlob2 : Tryd.prog.globalNamed "strconv.ErrSyntax" = some 2 := by kernel_rfl
theorem jnGlob3 : Tryd.prog.globalNamed "strconv.ErrRange" = some 3 := by kernel_rfl
theorem jnTy0 : (Tryd.prog.globals[0]?).map (·.type) = some 81 := by kernel_rfl
theorem jnTy2 : (Tryd.prog.globals[2]?).map (·.type) = some 59 := by kernel_rfl
theorem jnTy3 : (Tryd.prog.globals[3]?).map (·.type) = some 59 := by kernel_rfl
theorem jnCU : Tryd.prog.cellsOf 66 = 1 := by kernel_rfl
theorem jnCA : Tryd.prog.cellsOf 81 = 20 := by kernel_rfl
theorem tabs_of {W : World} {l : List (String × DataW Unit)} (h : laidMetH Tryd.prog l W) (hp : (l.all fun x => x.2.handleName?.isNone) = true)
    (hu : ("internal/strconv.uint64pow10", Rows.laid_internal_strconv_uint64pow10) ∈ l) (hs : ("strconv.ErrSyntax", Rows.laid_strconv_ErrSyntax) ∈ l) (hr : ("strconv.ErrRange", Rows.laid_strconv_ErrRange) ∈ l) : Tabs W := by
  rw [MakeChecks.laidMetH_plain _ _ _ hp] at h
  obtain ⟨ps, hv, _, _⟩ := h
  refine ⟨?_, ?_, ?_⟩
  · obtain ⟨g, t, cs, fuel, p, h1, h2, h3, h4⟩ := laid_at hv hu
    obtain rfl := Option.some.inj (pow10_at.symm.trans h1)
    obtain rfl := Option.some.inj (jnTy0.symm.trans h2)
    have := Lib.cells_of_tab (k := .u64) (zs := Lib.pow10Tab) Tryd.underlying81 Tryd.underlying66 jnCU jnCA h4
    unfold Lib.TabIs
    rw [h3, ← this]
  · obtain ⟨g, t, cs, fuel, p, h1, h2, h3, h4⟩ := laid_at hv hs
    obtain rfl := Option.some.inj (jnGlob2.symm.trans h1)
    obtain rfl := Option.some.inj (jnTy2.symm.trans h2)
    obtain ⟨u, v, hc⟩ := iface_of Tryd.underlying59 h4
    refine ⟨.iface u v, ?_, .inr ⟨u, v, rfl⟩⟩
    rw [var_cell jnGlob2 h3, ← Array.getElem?_toList, hc]; rfl
  · obtain ⟨g, t, cs, fuel, p, h1, h2, h3, h4⟩ := laid_at hv hr
    obtain rfl := Option.some.inj (jnGlob3.symm.trans h1)
    obtain rfl := Option.some.inj (jnTy3.symm.trans h2)
    obtain ⟨u, v, hc⟩ := iface_of Tryd.underlying59 h4
    refine ⟨.iface u v, ?_, .inr ⟨u, v, rfl⟩⟩
    rw [var_cell jnGlob3 h3, ← Array.getElem?_toList, hc]; rfl
end Go.Proofs.YtggdndmjfbiaiaaDoor
