/-
  slices.Equal of nodes.
-/
import Derived.Test.YtbklgijndjpgoaaDoorMkText
namespace Go.Proofs.YtbklgijndjpgoaaDoor
open Go.RowKit
set_option maxRecDepth 100000

/-- Are two nodes the same? -/
def ndB (x y : Nd) : Bool := (x.path.toList == y.path.toList) && ((x.kind == y.kind) && ((x.mode == y.mode) && ((x.time == y.time) && (x.data.toList == y.data.toList))))
def listB : List Nd → List Nd → Bool
  | [], [] => true
  | x :: a, y :: b => ndB x y && listB a b
  | _, _ => false
theorem ndB_iff (x y : Nd) : ndB x y = true ↔ x = y := by
  obtain ⟨a, b, c, d, e⟩ := x
  obtain ⟨a', b', c', d', e'⟩ := y
  simp only [ndB, Bool.and_eq_true, beq_iff_eq, Nd.mk.injEq]
  have h : ∀ p q : ByteArray, p.toList = q.toList ↔ p = q := fun p q => ⟨fun h => toL_inj (by rw [← toL_list, ← toL_list, h]), fun h => by rw [h]⟩
  rw [h, h]
theorem listB_iff : ∀ a b : List Nd, listB a b = true ↔ a = b
  | [], [] => by simp [listB]
  | x :: a, [] => by simp [listB]
  | [], y :: b => by simp [listB]
  | x :: a, y :: b => by
    simp only [listB, Bool.and_eq_true, ndB_iff, listB_iff a b, List.cons.injEq]
theorem listB_drop (a b : List Nd) (i : Nat) (x y : Nd) (hx : a[i]? = some x) (hy : b[i]? = some y) : listB (a.drop i) (b.drop i) = (ndB x y && listB (a.drop (i + 1)) (b.drop (i + 1))) := by
  obtain ⟨h1, e1⟩ := List.getElem?_eq_some_iff.1 hx
  obtain ⟨h2, e2⟩ := List.getElem?_eq_some_iff.1 hy
  rw [List.drop_eq_getElem_cons h1, List.drop_eq_getElem_cons h2, e1, e2]; rfl
theorem listB_len {a b : List Nd} (h : a.length ≠ b.length) : listB a b = false := by
  cases e : listB a b with
  | false => rfl
  | true => exact absurd (by rw [(listB_iff a b).1 e]) h
/-- Where two nodes differ first. -/
theorem ndB_first {x y : Nd} (h : ndB x y = false) :
    (x.path.toList == y.path.toList) = false ∨ ((x.path.toList == y.path.toList) = true ∧ (x.kind == y.kind) = false) ∨ ((x.path.toList == y.path.toList) = true ∧ (x.kind == y.kind) = true ∧ (x.mode == y.mode) = false) ∨
    ((x.path.toList == y.path.toList) = true ∧ (x.kind == y.kind) = true ∧ (x.mode == y.mode) = true ∧ (x.time == y.time) = false) ∨ ((x.path.toList == y.path.toList) = true ∧ (x.kind == y.kind) = true ∧ (x.mode == y.mode) = true ∧ (x.time == y.time) = true ∧ (x.data.toList == y.data.toList) = false) := by
  unfold ndB at h
  cases h1 : (x.path.toList == y.path.toList) <;> cases h2 : (x.kind == y.kind) <;> cases h3 : (x.mode == y.mode) <;> cases h4 : (x.time == y.time) <;> cases h5 : (x.data.toList == y.data.toList) <;> simp_all

set_option maxHeartbeats 16000000 in
theorem eqNodes_any (A D : Option Addr) (a b : List Nd) (c d : Nat) (w : World) (hA : RdN w w.heap.size A a) (hD : RdN w w.heap.size D b) (ha : (a.length : Int) ≤ 1000000) :
    Calls Tryd.prog 31 #[.slice A a.length c, .slice D b.length d] w fun e w' => e = .returned (.bool (listB a b)) ∧ Below w.heap.size w w' := by
  obtain ⟨V, hV⟩ : ∃ V, V = listB a b := ⟨_, rfl⟩
  rw [← hV]
  by_cases hl : a.length = b.length
  · have HV := hide (show listB (a.drop 0) (b.drop 0) = V by rw [hV]; rfl)
    have hle : (a.length : Int) = b.length := by omega
    have HAA := hide hA
    have HDD := hide hD
    clear hV hA hD
    go_enter Tryd.func31, Tryd.ntmps31
    go_wp2_with fail
    go_loopg [13] a.length (fun gk iv wr => ∃ i : Nat, iv = .int .i64 i ∧ i + gk = a.length ∧ Hid (listB (a.drop i) (b.drop i) = V) ∧ Hid (Below w.heap.size w wr))
    case atStart => exact ⟨0, rfl, by omega, HV, hide (Below.refl _ _)⟩
    case round =>
      obtain ⟨i, rfl, hig, HB, HW⟩ := hrel
      clear HV
      cases gk with
      | zero =>
        obtain rfl : i = a.length := by omega
        have HE := hide (show V = true by rw [← HB.out, List.drop_length, hl, List.drop_length]; rfl)
        clear HB
        go_wp2_with fail
        exact bodyPost_ret (results_tmp rfl _ _ _) rfl ⟨by rw [HE.out]; rfl, HW.out⟩
      | succ g0 =>
        have hii : (i : Int) < a.length := by omega
        have hib : (i : Int) < b.length := by omega
        have hi0 : (0 : Int) ≤ (i : Int) := by omega
        obtain ⟨x, hx⟩ : ∃ x, a[i]? = some x := ⟨_, List.getElem?_eq_getElem (by omega)⟩
        obtain ⟨y, hy⟩ : ∃ y, b[i]? = some y := ⟨_, List.getElem?_eq_getElem (by omega)⟩
        have hd := HB.out
        rw [listB_drop a b i x y hx hy] at hd
        obtain ⟨ad, rfl, hlt1, h1⟩ := (HAA.out.below HW.out (Nat.le_refl _)) i x hx
        obtain ⟨ae, rfl, hlt2, h2⟩ := (HDD.out.below HW.out (Nat.le_refl _)) i y hy
        have hiw : IntKind.i64.wrap ((i : Int) + 1) = ((i + 1 : Nat) : Int) := by rw [IntWalk.i64_in _ (by omega)]; rfl
        obtain ⟨c0, c1, c2, c3, c4⟩ := h1
        obtain ⟨e0, e1, e2, e3, e4⟩ := h2
        cases hq : ndB x y with
        | true =>
          rw [hq, Bool.true_and] at hd
          obtain rfl := (ndB_iff x y).1 hq
          have HD := hide hd
          clear hd HB hx hy hq hlt1 hlt2
          obtain ⟨path, kind, mode, time, data⟩ := x
          simp only at c0 c1 c2 c3 c4 e0 e1 e2 e3 e4
          go_wp2_with fail
          go_quiet (fail)
          go_wp2_with fail
          rename_i nq
          have HW2 := hide (below_drewN HW.out nq)
          go_roundg g0
          case rel => exact ⟨i + 1, rfl, by omega, HD, HW2⟩
          case measure => omega
        | false =>
          rw [hq, Bool.false_and] at hd
          have HD := hide hd
          have hfirst := ndB_first hq
          clear hd HB hx hy hq hlt1 hlt2
          obtain ⟨path, kind, mode, time, data⟩ := x
          obtain ⟨path', kind', mode', time', data'⟩ := y
          simp only at c0 c1 c2 c3 c4 e0 e1 e2 e3 e4 hfirst
          rcases hfirst with g1 | ⟨g1, g2⟩ | ⟨g1, g2, g3⟩ | ⟨g1, g2, g3, g4⟩ | ⟨g1, g2, g3, g4, g5⟩
          all_goals
            go_wp2_with fail
            go_quiet (fail)
            go_wp2_with fail
            rename_i nq
            exact bodyPost_ret (results_tmp rfl _ _ _) rfl ⟨by rw [← HD.out]; rfl, below_drewN HW.out nq⟩
  · have hle : ¬ (a.length : Int) = b.length := by omega
    have HE := hide (show V = false by rw [hV]; exact listB_len hl)
    clear hV
    go_enter Tryd.func31, Tryd.ntmps31
    go_wp2_with fail
    exact bodyPost_ret (results_tmp rfl _ _ _) rfl ⟨by rw [HE.out]; rfl, Below.refl _ _⟩
end Go.Proofs.YtbklgijndjpgoaaDoor
