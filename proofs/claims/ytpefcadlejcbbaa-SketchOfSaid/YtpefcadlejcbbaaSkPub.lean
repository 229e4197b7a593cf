/-
  sketch.Shingles.
-/
import Derived.Test.YtpefcadlejcbbaaSkOf
import Derived.Test.YtpefcadlejcbbaaClone
namespace Go.Proofs.Ytpefcadlejcbbaa
open Go.RowKit
set_option maxRecDepth 100000

/-- What Shingles answers: the iterator over a copy of the bytes. -/
def ShsOf (w0 : World) (l : List UInt8) (e : Ending) (w' : World) : Prop :=
  ∃ A c w1, e = .returned (.func (.func 51) #[] #[.pointer (some ⟨w1.heap.size, 0, none⟩)]) ∧ l.length ≤ c ∧ RdB w1 w1.heap.size A l ∧ Below w0.heap.size w0 w1 ∧
    w' = w1.alloc (.cells #[.slice A l.length c] 22)

set_option maxHeartbeats 1000000 in
theorem shPub_any (A : Option Addr) (l : List UInt8) (c : Nat) (w : World) (hR : RdB w w.heap.size A l) (hc : Caps A l.length c) (hl : l.length ≤ 40000) :
    Calls Try.prog 9 #[.slice A l.length c] w (ShsOf w l) := by
  have HC := hide (clone_own A l c w hR hc (by omega))
  clear hR hc
  go_enter Try.func9, Try.ntmps9
  go_wp2_with fail
  refine HC.out.mono ?_
  rintro e w1 ⟨A1, c1, rfl, hO1, hB1⟩
  have HX := hide (show l.length ≤ c1 ∧ RdB w1 w1.heap.size A1 l ∧ Below w.heap.size w w1 from ⟨(ownsRow_caps hO1).1, RdB.own hO1, hB1⟩)
  clear hO1 hB1 HC
  go_wp2_with fail
  refine (shingles_any _ _ _ _).mono ?_
  rintro e w2 ⟨rfl, hw2⟩
  subst hw2
  go_wp2_with fail
  exact bodyPost_ret (results_tmp rfl _ _ _) rfl ⟨A1, c1, w1, rfl, HX.out.1, HX.out.2.1, HX.out.2.2, rfl⟩
end Go.Proofs.Ytpefcadlejcbbaa
