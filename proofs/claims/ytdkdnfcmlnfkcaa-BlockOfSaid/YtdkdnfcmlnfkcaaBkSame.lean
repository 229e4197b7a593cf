/-
  Are signs the same: slices.Equal.
-/
import Derived.Test.YtdkdnfcmlnfkcaaBkRow
import Derived.Deep.QuietTactic
namespace Go.Proofs.Ytdkdnfcmlnfkcaa
open Go.RowKit
set_option maxRecDepth 100000

/-- Are two signs the same? -/
def sgB (x y : Sg) : Bool := (((x.weak : Nat) : Int) == ((y.weak : Nat) : Int)) && ((((x.hi : Nat) : Int) == ((y.hi : Nat) : Int)) && (((x.lo : Nat) : Int) == ((y.lo : Nat) : Int)))
def sgsB : List Sg → List Sg → Bool
  | [], [] => true
  | x :: a, y :: b => sgB x y && sgsB a b
  | _, _ => false
theorem sgB_iff (x y : Sg) : sgB x y = true ↔ x = y := by
  obtain ⟨a, b, c⟩ := x
  obtain ⟨a', b', c'⟩ := y
  simp only [sgB, Bool.and_eq_true, beq_iff_eq, Sg.mk.injEq]
  omega
theorem sgsB_iff : ∀ a b : List Sg, sgsB a b = true ↔ a = b
  | [], [] => by simp [sgsB]
  | x :: a, [] => by simp [sgsB]
  | [], y :: b => by simp [sgsB]
  | x :: a, y :: b => by
    simp only [sgsB, Bool.and_eq_true, sgB_iff, sgsB_iff a b, List.cons.injEq]
theorem sgsB_refl (a : List Sg) : sgsB a a = true := (sgsB_iff a a).2 rfl
theorem sgsB_drop (a b : List Sg) (i : Nat) (x y : Sg) (hx : a[i]? = some x) (hy : b[i]? = some y) : sgsB (a.drop i) (b.drop i) = (sgB x y && sgsB (a.drop (i + 1)) (b.drop (i + 1))) := by
  obtain ⟨h1, e1⟩ := List.getElem?_eq_some_iff.1 hx
  obtain ⟨h2, e2⟩ := List.getElem?_eq_some_iff.1 hy
  rw [List.drop_eq_getElem_cons h1, List.drop_eq_getElem_cons h2, e1, e2]; rfl
theorem sgsB_len {a b : List Sg} (h : a.length ≠ b.length) : sgsB a b = false := by
  cases e : sgsB a b with
  | false => rfl
  | true => exact absurd (by rw [(sgsB_iff a b).1 e]) h
/-- Where two signs differ first. -/
theorem sgB_first {x y : Sg} (h : sgB x y = false) :
    (((x.weak : Nat) : Int) == ((y.weak : Nat) : Int)) = false ∨ ((((x.weak : Nat) : Int) == ((y.weak : Nat) : Int)) = true ∧ (((x.hi : Nat) : Int) == ((y.hi : Nat) : Int)) = false) ∨ ((((x.weak : Nat) : Int) == ((y.weak : Nat) : Int)) = true ∧ (((x.hi : Nat) : Int) == ((y.hi : Nat) : Int)) = true ∧ (((x.lo : Nat) : Int) == ((y.lo : Nat) : Int)) = false) := by
  unfold sgB at h
  cases h1 : (((x.weak : Nat) : Int) == ((y.weak : Nat) : Int)) <;> cases h2 : (((x.hi : Nat) : Int) == ((y.hi : Nat) : Int)) <;> cases h3 : (((x.lo : Nat) : Int) == ((y.lo : Nat) : Int)) <;> simp_all

set_option maxHeartbeats 16000000 in
theorem eqSigns_any (A D : Option Addr) (a b : List Sg) (c d : Nat) (w : World) (hA : RdSg w w.heap.size A a) (hD : RdSg w w.heap.size D b) (ha : (a.length : Int) ≤ 1000000) :
    Calls Try.prog 77 #[.slice A a.length c, .slice D b.length d] w fun e w' => e = .returned (.bool (sgsB a b)) ∧ Below w.heap.size w w' := by
  obtain ⟨V, hV⟩ : ∃ V, V = sgsB a b := ⟨_, rfl⟩
  rw [← hV]
  by_cases hl : a.length = b.length
  · have HV := hide (show sgsB (a.drop 0) (b.drop 0) = V by rw [hV]; rfl)
    have hle : (a.length : Int) = b.length := by omega
    have HAA := hide hA
    have HDD := hide hD
    clear hV hA hD
    go_enter Try.func77, Try.ntmps77
    go_wp2_with fail
    go_loopg [13] a.length (fun gk iv wr => ∃ i : Nat, iv = .int .i64 i ∧ i + gk = a.length ∧ Hid (sgsB (a.drop i) (b.drop i) = V) ∧ Hid (Below w.heap.size w wr))
    case atStart => exact ⟨0, rfl, by omega, HV, hide (Below.refl _ _)⟩
    case round =>
      obtain ⟨i, rfl, hig, HB, HW⟩ := hrel
      clear HV
      cases gk with
      | zero =>
        obtain rfl : i = a.length := by omega
        have HE := hide (show V = true by rw [← HB.out, List.drop_length, hl, List.drop_length]; rfl)
        clear HB
        go_wp2_with fail
        exact bodyPost_ret (results_tmp rfl _ _ _) rfl ⟨by rw [HE.out]; rfl, HW.out⟩
      | succ g0 =>
        have hii : (i : Int) < a.length := by omega
        have hib : (i : Int) < b.length := by omega
        have hi0 : (0 : Int) ≤ (i : Int) := by omega
        obtain ⟨x, hx⟩ : ∃ x, a[i]? = some x := ⟨_, List.getElem?_eq_getElem (by omega)⟩
        obtain ⟨y, hy⟩ : ∃ y, b[i]? = some y := ⟨_, List.getElem?_eq_getElem (by omega)⟩
        have hd := HB.out
        rw [sgsB_drop a b i x y hx hy] at hd
        obtain ⟨ad, rfl, hlt1, h1⟩ := (HAA.out.below HW.out (Nat.le_refl _)) i x hx
        obtain ⟨ae, rfl, hlt2, h2⟩ := (HDD.out.below HW.out (Nat.le_refl _)) i y hy
        have hiw : IntKind.i64.wrap ((i : Int) + 1) = ((i + 1 : Nat) : Int) := by rw [IntWalk.i64_in _ (by omega)]; rfl
        obtain ⟨c0, c1, c2⟩ := h1
        obtain ⟨e0, e1, e2⟩ := h2
        cases hq : sgB x y with
        | true =>
          rw [hq, Bool.true_and] at hd
          obtain rfl := (sgB_iff x y).1 hq
          have HD := hide hd
          clear hd HB hx hy hq hlt1 hlt2
          obtain ⟨wk, hi, lo⟩ := x
          simp only at c0 c1 c2 e0 e1 e2
          go_wp2_with fail
          go_quiet (fail)
          go_wp2_with fail
          rename_i nq
          have HW2 := hide (below_drewN HW.out nq)
          go_roundg g0
          case rel => exact ⟨i + 1, rfl, by omega, HD, HW2⟩
          case measure => omega
        | false =>
          rw [hq, Bool.false_and] at hd
          have HD := hide hd
          have hfirst := sgB_first hq
          clear hd HB hx hy hq hlt1 hlt2
          obtain ⟨wk, hi, lo⟩ := x
          obtain ⟨wk', hi', lo'⟩ := y
          simp only at c0 c1 c2 e0 e1 e2 hfirst
          rcases hfirst with g1 | ⟨g1, g2⟩ | ⟨g1, g2, g3⟩
          all_goals
            go_wp2_with fail
            go_quiet (fail)
            go_wp2_with fail
            rename_i nq
            exact bodyPost_ret (results_tmp rfl _ _ _) rfl ⟨by rw [← HD.out]; rfl, below_drewN HW.out nq⟩
  · have hle : ¬ (a.length : Int) = b.length := by omega
    have HE := hide (show V = false by rw [hV]; exact sgsB_len hl)
    clear hV
    go_enter Try.func77, Try.ntmps77
    go_wp2_with fail
    exact bodyPost_ret (results_tmp rfl _ _ _) rfl ⟨by rw [HE.out]; rfl, Below.refl _ _⟩
end Go.Proofs.Ytdkdnfcmlnfkcaa
