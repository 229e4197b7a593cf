/-
  strconv.Itoa, and strconv.Atoi at every text: a number, and an error or none.
-/
import Derived.Test.YtggdndmjfbiaiaaDoorJnLays
import Derived.Test.YtggdndmjfbiaiaaDoorJnTab
import Derived.Lib.QuietBelow
namespace Go.Proofs.YtggdndmjfbiaiaaDoor
open Go.RowKit Go.Shelf
set_option maxRecDepth 100000

theorem itoa_any (n : Int) (w : World) (hT : Tabs w) (h0 : 0 ≤ n) (h1 : n ≤ 2147483647) :
    Calls Tryd.prog 17 #[.int .i64 n] w fun e w' => e = .returned (.string ⟨(Lib.itoa n).toArray⟩) ∧ Below w.heap.size w w' := by
  refine (Any.strconv_Itoa laysM171 n (by omega) (by omega) w hT.p10).mono ?_
  rintro e w' ⟨rfl, k, os, rfl⟩
  exact ⟨rfl, below_regrown w (w.drawn + k) os⟩
theorem atoi_any (s : ByteArray) (w : World) (hs : (s.size : Int) ≤ 1000000) (hT : Tabs w) :
    Calls Tryd.prog 25 #[.string s] w fun e w' => (∃ ev, e = .returned (.tuple #[.int .i64 (atoiJ (toL s)), ev])) ∧ Below w.heap.size w w' := by
  obtain ⟨e1, h1, k1⟩ := hT.es
  obtain ⟨e2, h2, k2⟩ := hT.er
  have hN : ∀ x, Lib.atoiAll s.data.toList = x → atoiJ (toL s) = match x with | .ok v => v | .range => Lib.atoiSat s.data.toList | _ => 0 := by
    intro x hx
    unfold atoiJ toL
    rw [hx]
    cases x <;> rfl
  cases h : Lib.atoiAll s.data.toList
  · rename_i v
    refine (Any.strconv_Atoi_ok laysC172 s (by omega) v h w).mono ?_
    rintro e w' ⟨rfl, hw⟩
    rw [hN _ h]
    refine ⟨⟨_, rfl⟩, ?_⟩
    rcases hw with rfl | ⟨t, rfl⟩
    · exact Below.refl _ _
    · exact Lib.bytesWorld_below _ _ _
  · refine (Any.strconv_Atoi_syntax laysC172 s (by omega) h e1 w h1 k1).mono ?_
    rintro e w' ⟨N, rfl, _, _, hb⟩
    rw [hN _ h]
    exact ⟨⟨_, rfl⟩, hb⟩
  · refine (Any.strconv_Atoi_range laysC172 s (by omega) h e2 w h2 k2).mono ?_
    rintro e w' ⟨N, rfl, _, _, hb⟩
    rw [hN _ h]
    exact ⟨⟨_, rfl⟩, hb⟩
end Go.Proofs.YtggdndmjfbiaiaaDoor
