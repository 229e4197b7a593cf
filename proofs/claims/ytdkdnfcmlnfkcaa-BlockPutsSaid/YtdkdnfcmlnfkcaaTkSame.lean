/-
  Are tokens the same: the program's and the reference's answer.
-/
import Derived.Test.YtdkdnfcmlnfkcaaToks
import Derived.Deep.QuietTactic
import Derived.Lib.Strings
namespace Go.Proofs.Ytdkdnfcmlnfkcaa
open Go.RowKit
set_option maxRecDepth 100000

theorem toListT (s : ByteArray) : s.toList = toL s := Lib.toList_data s
/-- Are two tokens the same? -/
def tkB (x y : Tk) : Bool := (x.from_ == y.from_) && ((x.many == y.many) && (x.data.toList == y.data.toList))
def sameB : List Tk → List Tk → Bool
  | [], [] => true
  | x :: a, y :: b => tkB x y && sameB a b
  | _, _ => false
theorem tkB_iff (x y : Tk) : tkB x y = true ↔ x = y := by
  obtain ⟨a, b, c⟩ := x
  obtain ⟨a', b', c'⟩ := y
  simp only [tkB, Bool.and_eq_true, beq_iff_eq, Tk.mk.injEq]
  have h : ∀ p q : ByteArray, p.toList = q.toList ↔ p = q := fun p q => ⟨fun h => toL_inj (by rw [← toListT, ← toListT, h]), fun h => by rw [h]⟩
  rw [h]
theorem sameB_iff : ∀ a b : List Tk, sameB a b = true ↔ a = b
  | [], [] => by simp [sameB]
  | x :: a, [] => by simp [sameB]
  | [], y :: b => by simp [sameB]
  | x :: a, y :: b => by
    simp only [sameB, Bool.and_eq_true, tkB_iff, sameB_iff a b, List.cons.injEq]
theorem sameB_refl (a : List Tk) : sameB a a = true := (sameB_iff a a).2 rfl
theorem sameB_drop (a b : List Tk) (i : Nat) (x y : Tk) (hx : a[i]? = some x) (hy : b[i]? = some y) : sameB (a.drop i) (b.drop i) = (tkB x y && sameB (a.drop (i + 1)) (b.drop (i + 1))) := by
  obtain ⟨h1, e1⟩ := List.getElem?_eq_some_iff.1 hx
  obtain ⟨h2, e2⟩ := List.getElem?_eq_some_iff.1 hy
  rw [List.drop_eq_getElem_cons h1, List.drop_eq_getElem_cons h2, e1, e2]; rfl
theorem sameB_len {a b : List Tk} (h : a.length ≠ b.length) : sameB a b = false := by
  cases e : sameB a b with
  | false => rfl
  | true => exact absurd (by rw [(sameB_iff a b).1 e]) h
/-- Where two tokens differ first. -/
theorem tkB_first {x y : Tk} (h : tkB x y = false) :
    (x.from_ == y.from_) = false ∨ ((x.from_ == y.from_) = true ∧ (x.many == y.many) = false) ∨ ((x.from_ == y.from_) = true ∧ (x.many == y.many) = true ∧ (x.data.toList == y.data.toList) = false) := by
  unfold tkB at h
  cases h1 : (x.from_ == y.from_) <;> cases h2 : (x.many == y.many) <;> cases h3 : (x.data.toList == y.data.toList) <;> simp_all

set_option maxHeartbeats 16000000 in
theorem same_any (A D : Option Addr) (a b : List Tk) (c d : Nat) (w : World) (hA : RdT w w.heap.size A a) (hD : RdT w w.heap.size D b) (ha : (a.length : Int) ≤ 1000000) :
    Calls Try.prog 43 #[.slice A a.length c, .slice D b.length d] w fun e w' => e = .returned (.bool (sameB a b)) ∧ Below w.heap.size w w' := by
  obtain ⟨V, hV⟩ : ∃ V, V = sameB a b := ⟨_, rfl⟩
  rw [← hV]
  by_cases hl : a.length = b.length
  · have HV := hide (show sameB (a.drop 0) (b.drop 0) = V by rw [hV]; rfl)
    have hle : (a.length : Int) = b.length := by omega
    have HAA := hide hA
    have HDD := hide hD
    clear hV hA hD
    go_enter Try.func43, Try.ntmps43
    go_wp2_with fail
    go_loopg [13] a.length (fun gk iv wr => ∃ i : Nat, iv = .int .i64 i ∧ i + gk = a.length ∧ Hid (sameB (a.drop i) (b.drop i) = V) ∧ Hid (Below w.heap.size w wr))
    case atStart => exact ⟨0, rfl, by omega, HV, hide (Below.refl _ _)⟩
    case round =>
      obtain ⟨i, rfl, hig, HB, HW⟩ := hrel
      clear HV
      cases gk with
      | zero =>
        obtain rfl : i = a.length := by omega
        have HE := hide (show V = true by rw [← HB.out, List.drop_length, hl, List.drop_length]; rfl)
        clear HB
        go_wp2_with fail
        exact bodyPost_ret (results_tmp rfl _ _ _) rfl ⟨by rw [HE.out]; rfl, HW.out⟩
      | succ g0 =>
        have hii : (i : Int) < a.length := by omega
        have hib : (i : Int) < b.length := by omega
        have hi0 : (0 : Int) ≤ (i : Int) := by omega
        obtain ⟨x, hx⟩ : ∃ x, a[i]? = some x := ⟨_, List.getElem?_eq_getElem (by omega)⟩
        obtain ⟨y, hy⟩ : ∃ y, b[i]? = some y := ⟨_, List.getElem?_eq_getElem (by omega)⟩
        have hd := HB.out
        rw [sameB_drop a b i x y hx hy] at hd
        obtain ⟨ad, rfl, hlt1, h1⟩ := (HAA.out.below HW.out (Nat.le_refl _)) i x hx
        obtain ⟨ae, rfl, hlt2, h2⟩ := (HDD.out.below HW.out (Nat.le_refl _)) i y hy
        have hiw : IntKind.i64.wrap ((i : Int) + 1) = ((i + 1 : Nat) : Int) := by rw [IntWalk.i64_in _ (by omega)]; rfl
        obtain ⟨c0, c1, c2⟩ := h1
        obtain ⟨e0, e1, e2⟩ := h2
        cases hq : tkB x y with
        | true =>
          rw [hq, Bool.true_and] at hd
          obtain rfl := (tkB_iff x y).1 hq
          have HD := hide hd
          clear hd HB hx hy hq hlt1 hlt2
          obtain ⟨fr, many, data⟩ := x
          simp only at c0 c1 c2 e0 e1 e2
          go_wp2_with fail
          go_quiet (fail)
          go_wp2_with fail
          rename_i nq
          have HW2 := hide (below_drewN HW.out nq)
          go_roundg g0
          case rel => exact ⟨i + 1, rfl, by omega, HD, HW2⟩
          case measure => omega
        | false =>
          rw [hq, Bool.false_and] at hd
          have HD := hide hd
          have hfirst := tkB_first hq
          clear hd HB hx hy hq hlt1 hlt2
          obtain ⟨fr, many, data⟩ := x
          obtain ⟨fr', many', data'⟩ := y
          simp only at c0 c1 c2 e0 e1 e2 hfirst
          rcases hfirst with g1 | ⟨g1, g2⟩ | ⟨g1, g2, g3⟩
          all_goals
            go_wp2_with fail
            go_quiet (fail)
            go_wp2_with fail
            rename_i nq
            exact bodyPost_ret (results_tmp rfl _ _ _) rfl ⟨by rw [← HD.out]; rfl, below_drewN HW.out nq⟩
  · have hle : ¬ (a.length : Int) = b.length := by omega
    have HE := hide (show V = false by rw [hV]; exact sameB_len hl)
    clear hV
    go_enter Try.func43, Try.ntmps43
    go_wp2_with fail
    exact bodyPost_ret (results_tmp rfl _ _ _) rfl ⟨by rw [HE.out]; rfl, Below.refl _ _⟩

set_option maxHeartbeats 16000000 in
theorem refTSame_any (A D : Option Addr) (a b : List Tk) (c d : Nat) (w : World) (hA : RdT w w.heap.size A a) (hD : RdT w w.heap.size D b) (ha : (a.length : Int) ≤ 1000000) :
    Calls Try.prog 44 #[.slice A a.length c, .slice D b.length d] w fun e w' => e = .returned (.bool (sameB a b)) ∧ Below w.heap.size w w' := by
  obtain ⟨V, hV⟩ : ∃ V, V = sameB a b := ⟨_, rfl⟩
  rw [← hV]
  by_cases hl : a.length = b.length
  · have HV := hide (show sameB (a.drop 0) (b.drop 0) = V by rw [hV]; rfl)
    have hle : (a.length : Int) = b.length := by omega
    have HAA := hide hA
    have HDD := hide hD
    clear hV hA hD
    go_enter Try.func44, Try.ntmps44
    go_wp2_with fail
    go_loopg [5] a.length (fun gk iv wr => ∃ i : Nat, iv = .int .i64 i ∧ i + gk = a.length ∧ Hid (sameB (a.drop i) (b.drop i) = V) ∧ Hid (Below w.heap.size w wr))
    case atStart => exact ⟨0, rfl, by omega, HV, hide (Below.refl _ _)⟩
    case round =>
      obtain ⟨i, rfl, hig, HB, HW⟩ := hrel
      clear HV
      cases gk with
      | zero =>
        obtain rfl : i = a.length := by omega
        have HE := hide (show V = true by rw [← HB.out, List.drop_length, hl, List.drop_length]; rfl)
        clear HB
        go_wp2_with fail
        exact bodyPost_ret (results_tmp rfl _ _ _) rfl ⟨by rw [HE.out]; rfl, HW.out⟩
      | succ g0 =>
        have hii : (i : Int) < a.length := by omega
        have hib : (i : Int) < b.length := by omega
        have hi0 : (0 : Int) ≤ (i : Int) := by omega
        obtain ⟨x, hx⟩ : ∃ x, a[i]? = some x := ⟨_, List.getElem?_eq_getElem (by omega)⟩
        obtain ⟨y, hy⟩ : ∃ y, b[i]? = some y := ⟨_, List.getElem?_eq_getElem (by omega)⟩
        have hd := HB.out
        rw [sameB_drop a b i x y hx hy] at hd
        obtain ⟨ad, rfl, hlt1, h1⟩ := (HAA.out.below HW.out (Nat.le_refl _)) i x hx
        obtain ⟨ae, rfl, hlt2, h2⟩ := (HDD.out.below HW.out (Nat.le_refl _)) i y hy
        have hiw : IntKind.i64.wrap ((i : Int) + 1) = ((i + 1 : Nat) : Int) := by rw [IntWalk.i64_in _ (by omega)]; rfl
        obtain ⟨c0, c1, c2⟩ := h1
        obtain ⟨e0, e1, e2⟩ := h2
        cases hq : tkB x y with
        | true =>
          rw [hq, Bool.true_and] at hd
          obtain rfl := (tkB_iff x y).1 hq
          have HD := hide hd
          clear hd HB hx hy hq hlt1 hlt2
          obtain ⟨fr, many, data⟩ := x
          simp only at c0 c1 c2 e0 e1 e2
          go_wp2_with fail
          go_quiet (fail)
          go_wp2_with fail
          rename_i nq
          have HW2 := hide (below_drewN HW.out nq)
          go_roundg g0
          case rel => exact ⟨i + 1, rfl, by omega, HD, HW2⟩
          case measure => omega
        | false =>
          rw [hq, Bool.false_and] at hd
          have HD := hide hd
          have hfirst := tkB_first hq
          clear hd HB hx hy hq hlt1 hlt2
          obtain ⟨fr, many, data⟩ := x
          obtain ⟨fr', many', data'⟩ := y
          simp only at c0 c1 c2 e0 e1 e2 hfirst
          rcases hfirst with g1 | ⟨g1, g2⟩ | ⟨g1, g2, g3⟩
          all_goals
            go_wp2_with fail
            go_quiet (fail)
            go_wp2_with fail
            rename_i nq
            exact bodyPost_ret (results_tmp rfl _ _ _) rfl ⟨by rw [← HD.out]; rfl, below_drewN HW.out nq⟩
  · have hle : ¬ (a.length : Int) = b.length := by omega
    have HE := hide (show V = false by rw [hV]; exact sameB_len hl)
    clear hV
    go_enter Try.func44, Try.ntmps44
    go_wp2_with fail
    exact bodyPost_ret (results_tmp rfl _ _ _) rfl ⟨by rw [HE.out]; rfl, Below.refl _ _⟩
end Go.Proofs.Ytdkdnfcmlnfkcaa
