/-
  strings.Join between blanks; strconv.Itoa.
-/
import Derived.Test.YtlohoamhgioheaaDoorEdLays
import Derived.Test.YtlohoamhgioheaaDoorEdTab
import Derived.Test.YtlohoamhgioheaaDoorRefRight
import Derived.Lib.QuietBelow
namespace Go.Proofs.YtlohoamhgioheaaDoor
open Go.RowKit Go.Shelf
set_option maxRecDepth 100000

theorem join_any (A : Option Addr) (cs : List ByteArray) (c : Nat) (w : World) (hA : Rd w w.heap.size A cs) (hcap : cs.length ≤ c) (hn : (cs.length : Int) ≤ 1000) (hz : (Lib.join (cs.map toL) [32]).length ≤ 1000000) :
    Calls Tryd.prog 23 #[.slice A cs.length c, .string ⟨#[32]⟩] w fun e w' => e = .returned (.string ⟨(Lib.join (cs.map toL) [32]).toArray⟩) ∧ Below w.heap.size w w' := by
  cases cs with
  | nil =>
    refine (Any.strings_Join_none lays156 builderExtra_156 A c ⟨#[32]⟩ w).mono ?_
    rintro e w' ⟨rfl, rfl⟩
    exact ⟨rfl, Below.refl _ _⟩
  | cons y r =>
    obtain ⟨ad, rfl, hb, h0⟩ := hA 0 y rfl
    have hspot : ad.spot = none := by
      rw [show ad.add 0 = ad from rfl] at h0
      unfold World.cell? at h0
      split at h0
      · split at h0
        · cases h0
        · rename_i h; simpa using h
      · cases h0
    obtain ⟨bk, o, sp⟩ := ad
    obtain rfl : sp = none := hspot
    refine (Any.strings_Join lays156 builderExtra_156 bk o c (y :: r) ⟨#[32]⟩ w ?_ hb (by omega) hcap ?_).mono ?_
    · intro j x hx
      obtain ⟨ad', e', _, hc⟩ := hA j x hx
      cases e'
      by_cases hj : j = 0
      · subst hj; exact hc
      · unfold Addr.add at hc
        rw [if_neg hj] at hc
        exact hc
    · show (Lib.join ((y :: r).map toL) [32]).length ≤ _
      omega
    · rintro e w' ⟨rfl, hB⟩
      exact ⟨rfl, hB⟩

theorem itoa_any (n : Int) (w : World) (hT : Tabs w) (h0 : 0 ≤ n) (h1 : n ≤ 511) :
    Calls Tryd.prog 22 #[.int .i64 n] w fun e w' => e = .returned (.string ⟨(Lib.itoa n).toArray⟩) ∧ Below w.heap.size w w' := by
  refine (Any.strconv_Itoa laysM171 n (by omega) (by omega) w hT.p10).mono ?_
  rintro e w' ⟨rfl, k, os, rfl⟩
  exact ⟨rfl, below_regrown w (w.drawn + k) os⟩
end Go.Proofs.YtlohoamhgioheaaDoor
