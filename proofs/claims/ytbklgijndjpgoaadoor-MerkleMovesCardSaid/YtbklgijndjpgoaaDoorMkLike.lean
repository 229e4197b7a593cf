/-
  merkle.Like.
-/
import Derived.Test.YtbklgijndjpgoaaDoorMkBare
import Derived.Test.YtbklgijndjpgoaaDoorMkEqual
namespace Go.Proofs.YtbklgijndjpgoaaDoor
open Go.RowKit
set_option maxRecDepth 100000

def likeL (a : List Nd) (p : ByteArray) (b : List Nd) (q : ByteArray) : Bool := !(bareL p a).isEmpty && listB (bareL p a) (bareL q b)
theorem bareL_len (p : ByteArray) (l : List Nd) : (bareL p l).length ≤ l.length + 1 := by
  unfold bareL
  split
  · have := List.length_filter_le (under p) l
    simp only [List.length_cons, undersL, List.length_map]
    omega
  · simp

set_option maxHeartbeats 16000000 in
theorem like_any (A D : Option Addr) (a b : List Nd) (c d : Nat) (p q : ByteArray) (w : World) (hA : RdN w w.heap.size A a) (hD : RdN w w.heap.size D b) (hfa : FewN a) (hfb : FewN b) (ha : (a.length : Int) ≤ 1000) (hb : (b.length : Int) ≤ 1000)
    (hp : (p.size : Int) ≤ 1000000) (hq : (q.size : Int) ≤ 1000000) :
    Calls Tryd.prog 14 #[.slice A a.length c, .string p, .slice D b.length d, .string q] w fun e w' => e = .returned (.bool (likeL a p b q)) ∧ Below w.heap.size w w' := by
  have HX := hide (bare_any A a c p w hA hfa ha hp)
  have HY := hide (fun (W : World) (h : Below w.heap.size w W) => bare_any D b d q W (hD.step h) hfb hb hq)
  have hlx := bareL_len p a
  have hL : likeL a p b q = (!(bareL p a).isEmpty && listB (bareL p a) (bareL q b)) := rfl
  generalize likeL a p b q = V at hL ⊢
  generalize bareL p a = x at HX hlx hL
  generalize bareL q b = y at HY hL
  clear hA hD hfa hfb
  go_enter Tryd.func14, Tryd.ntmps14
  go_wp2_with fail
  refine HX.out.mono ?_
  rintro e w1 ⟨v, rfl, hX⟩
  obtain ⟨E, f, rfl⟩ := ownsRow_slice hX.own
  have HY1 := hide (HY.out w1 hX.below)
  clear HX HY
  go_wp2_with fail
  refine HY1.out.mono ?_
  rintro e w2 ⟨v, rfl, hY⟩
  obtain ⟨G, g, rfl⟩ := ownsRow_slice hY.own
  have hRx := (RdN.own hX.own).step hY.below
  have hRy := RdN.own hY.own
  have HB := hide (hX.below.trans (hY.below.mono hX.below.size))
  clear hX hY HY1
  cases x with
  | nil =>
    have HV := hide (show V = false by rw [hL]; rfl)
    clear hL hRx hRy
    go_wp2_with fail
    exact bodyPost_ret (results_tmp rfl _ _ _) rfl ⟨by rw [HV.out]; rfl, HB.out⟩
  | cons n x =>
    have HV := hide (show V = listB (n :: x) y by rw [hL]; rfl)
    obtain ⟨m, hm⟩ : ∃ m, m = (n :: x).length := ⟨_, rfl⟩
    have hm0 : (0 : Int) < m := by rw [hm, List.length_cons]; omega
    have HE := hide (eqNodes_any E G (n :: x) y f g w2 hRx hRy (by omega))
    rw [← hm] at HE ⊢
    generalize listB (n :: x) y = B at HE HV
    clear hL hRx hRy hm hlx
    go_wp2_with fail
    refine HE.out.mono ?_
    rintro e w3 ⟨rfl, hb3⟩
    have HB3 := hide (HB.out.trans (hb3.mono HB.out.size))
    clear HE hb3 HB
    go_wp2_with fail
    exact bodyPost_ret (results_tmp rfl _ _ _) rfl ⟨by rw [HV.out]; rfl, HB3.out⟩
end Go.Proofs.YtbklgijndjpgoaaDoor
