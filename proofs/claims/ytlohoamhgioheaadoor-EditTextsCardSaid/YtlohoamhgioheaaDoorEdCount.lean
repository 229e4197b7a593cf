/-
  slices.Contains at []int; edit.Count.
-/
import Derived.Test.YtlohoamhgioheaaDoorEdits
import Derived.Laws.CopyRow
namespace Go.Proofs.YtlohoamhgioheaaDoor
open Go.RowKit
set_option maxRecDepth 100000

/-- Numbers that lie at an address, one behind the other, below block B. -/
def RdI (w : World) (B : Nat) (A : Option Addr) (l : List Int) : Prop :=
  ∀ k z, l[k]? = some z → ∃ ad : Addr, A = some ad ∧ ad.block < B ∧ w.cell? (ad.add k) = some (.int .i64 z)
theorem RdI.below {w w' : World} {B B' : Nat} {A : Option Addr} {l : List Int} (h : RdI w B A l) (hb : Below B' w w') (hB : B ≤ B') : RdI w' B A l := fun k x hx => by
  obtain ⟨ad, e, hlt, h0⟩ := h k x hx
  exact ⟨ad, e, hlt, (hb.cell (by rw [add_block]; omega)).trans h0⟩
theorem RdI.mono {w : World} {B B' : Nat} {A : Option Addr} {l : List Int} (h : RdI w B A l) (hB : B ≤ B') : RdI w B' A l := fun k x hx => by
  obtain ⟨ad, e, hlt, hc⟩ := h k x hx
  exact ⟨ad, e, by omega, hc⟩
theorem RdI.step {w w' : World} {A : Option Addr} {l : List Int} (h : RdI w w.heap.size A l) (hb : Below w.heap.size w w') : RdI w' w'.heap.size A l := (h.below hb (Nat.le_refl _)).mono hb.size
theorem RdI.nil (w : World) (B : Nat) (A : Option Addr) : RdI w B A [] := fun k x hx => by simp at hx

/-- Is a number one of these? -/
def isIn (l : List Int) (v : Int) : Bool := l.any fun z => v == z
theorem isIn_drop (l : List Int) (v : Int) (i : Nat) (z : Int) (h : l[i]? = some z) : isIn (l.drop i) v = ((v == z) || isIn (l.drop (i + 1)) v) := by
  obtain ⟨hlt, e⟩ := List.getElem?_eq_some_iff.1 h
  rw [List.drop_eq_getElem_cons hlt, e]; rfl

set_option maxHeartbeats 4000000 in
theorem intsIndex_any (A : Option Addr) (l : List Int) (c : Nat) (v : Int) (w : World) (hA : RdI w w.heap.size A l) (hl : (l.length : Int) ≤ 1000000) :
    Calls Tryd.prog 52 #[.slice A l.length c, .int .i64 v] w fun e w' => (∃ r : Int, e = .returned (.int .i64 r) ∧ decide (0 ≤ r) = isIn l v) ∧ w' = w := by
  go_enter Tryd.func52, Tryd.ntmps52
  go_wp2_with fail
  go_loopg [8] l.length (fun gk iv wr => ∃ i : Nat, iv = .int .i64 i ∧ i + gk = l.length ∧ Hid (isIn (l.drop i) v = isIn l v) ∧ wr = w)
  case atStart => exact ⟨0, rfl, by omega, hide rfl, rfl⟩
  case round =>
    obtain ⟨i, rfl, hig, HB, rfl⟩ := hrel
    cases gk with
    | zero =>
      obtain rfl : i = l.length := by omega
      have HE := hide (show isIn l v = false by rw [← HB.out, List.drop_length]; rfl)
      clear HB
      go_wp2_with fail
      exact bodyPost_ret (results_tmp rfl _ _ _) rfl ⟨⟨-1, rfl, by rw [HE.out]; rfl⟩, rfl⟩
    | succ g0 =>
      have hii : (i : Int) < l.length := by omega
      obtain ⟨z, hz⟩ : ∃ z, l[i]? = some z := ⟨_, List.getElem?_eq_getElem (by omega)⟩
      obtain ⟨ad, rfl, hlt, c0⟩ := hA i z hz
      have hd := HB.out
      rw [isIn_drop l v i z hz] at hd
      clear HB hz hA
      cases hv : (v == z) with
      | true =>
        rw [hv, Bool.true_or] at hd
        have HD := hide hd
        clear hd
        go_wp2_with fail
        exact bodyPost_ret (results_tmp rfl _ _ _) rfl ⟨⟨(i : Int), rfl, by rw [← HD.out]; simp⟩, rfl⟩
      | false =>
        rw [hv, Bool.false_or] at hd
        have HD := hide hd
        clear hd
        go_wp2_with fail
        go_roundg g0
        case rel => exact ⟨i + 1, rfl, by omega, HD, rfl⟩
        case measure => omega
set_option maxHeartbeats 1000000 in
theorem contains_any (A : Option Addr) (l : List Int) (c : Nat) (v : Int) (w : World) (hA : RdI w w.heap.size A l) (hl : (l.length : Int) ≤ 1000000) :
    Calls Tryd.prog 37 #[.slice A l.length c, .int .i64 v] w fun e w' => e = .returned (.bool (isIn l v)) ∧ w' = w := by
  have HI := hide (intsIndex_any A l c v w hA hl)
  go_enter Tryd.func37, Tryd.ntmps37
  go_wp2_with fail
  refine (HI.out).mono ?_
  rintro e w1 ⟨⟨r, rfl, hr⟩, rfl⟩
  have HR := hide hr
  clear hr
  go_wp2_with fail
  exact bodyPost_ret (results_tmp rfl _ _ _) rfl ⟨by rw [← HR.out]; rfl, rfl⟩

/-- How many edits are of some kinds. -/
def countE (zs : List Int) : List Et → Nat
  | [] => 0
  | e :: l => (if isIn zs e.k then 1 else 0) + countE zs l
theorem count_drop (zs : List Int) (l : List Et) (i : Nat) (e : Et) (h : l[i]? = some e) : countE zs (l.drop i) = (if isIn zs e.k then 1 else 0) + countE zs (l.drop (i + 1)) := by
  obtain ⟨hlt, e⟩ := List.getElem?_eq_some_iff.1 h
  rw [List.drop_eq_getElem_cons hlt, e]; rfl
theorem count_le (zs : List Int) : ∀ l : List Et, countE zs l ≤ l.length
  | [] => Nat.le_refl _
  | e :: l => by
    have := count_le zs l
    unfold countE
    simp only [List.length_cons]
    split <;> omega
theorem count_none (l : List Et) : countE [] l = 0 := by
  induction l with
  | nil => rfl
  | cons e l ih => unfold countE; rw [ih]; rfl

set_option maxHeartbeats 4000000 in
theorem count_any (A : Option Addr) (l : List Et) (c : Nat) (C : Option Addr) (zs : List Int) (d : Nat) (w : World) (hA : RdE w w.heap.size A l) (hC : RdI w w.heap.size C zs) (hl : (l.length : Int) ≤ 1000000) (hz : (zs.length : Int) ≤ 1000000) :
    Calls Tryd.prog 20 #[.slice A l.length c, .slice C zs.length d] w fun e w' => e = .returned (.int .i64 (countE zs l : Nat)) ∧ Below w.heap.size w w' := by
  have HZ := hide hz
  go_enter Tryd.func20, Tryd.ntmps20
  clear hz
  go_wp2_with fail
  go_loopg [5, 10] l.length (fun gk nv iv wr => ∃ i n : Nat, nv = .int .i64 n ∧ iv = .int .i64 i ∧ i + gk = l.length ∧ n ≤ i ∧ Hid (n + countE zs (l.drop i) = countE zs l) ∧ Below w.heap.size w wr ∧ RdE wr wr.heap.size A l ∧ RdI wr wr.heap.size C zs)
  case atStart => exact ⟨0, 0, rfl, rfl, by omega, Nat.le_refl _, hide (by simp), Below.refl _ _, hA, hC⟩
  case round =>
    obtain ⟨i, n, rfl, rfl, hig, hni, HB, hB, hR, hS⟩ := hrel
    clear hA hC
    cases gk with
    | zero =>
      obtain rfl : i = l.length := by omega
      have HE := hide (show n = countE zs l by rw [← HB.out, List.drop_length]; rfl)
      clear HB
      go_wp2_with fail
      exact bodyPost_ret (results_tmp rfl _ _ _) rfl ⟨by rw [HE.out]; rfl, hB⟩
    | succ g0 =>
      have hii : (i : Int) < l.length := by omega
      obtain ⟨e, he⟩ : ∃ e, l[i]? = some e := ⟨_, List.getElem?_eq_getElem (by omega)⟩
      obtain ⟨ad, rfl, hlt, hnd⟩ := hR i e he
      have c0 := hnd.k
      have c1 := hnd.f
      have c2 := hnd.t
      have c3 := hnd.n
      have hd := HB.out
      rw [count_drop zs l i e he] at hd
      have HD := hide hd
      have HR := hide hR
      have HS := hide hS
      have HBw := hide hB
      clear HB he hnd hd hR hS hB
      go_wp2_with fail
      have hb1 : Below wr.heap.size wr (wr.alloc (Obj.cells e.cells 23)) := (Below.refl _ _).alloc (Nat.le_refl _) _
      refine (contains_any C zs d e.k _ (HS.out.step hb1) HZ.out).mono ?_
      rintro e1 w2 ⟨rfl, rfl⟩
      have HB2 := hide (HBw.out.trans (hb1.mono HBw.out.size))
      have HR2 := hide (HR.out.step hb1)
      have HS2 := hide (HS.out.step hb1)
      clear hb1 c0 c1 c2 c3
      cases hc : isIn zs e.k with
      | true =>
        have h := HD.out
        rw [hc, if_pos rfl] at h
        have HD2 := hide (show n + 1 + countE zs (l.drop (i + 1)) = countE zs l by omega)
        clear h hc HD
        have wn : IntKind.i64.wrap ((n : Int) + 1) = ((n + 1 : Nat) : Int) := by rw [IntWalk.i64_in _ (by omega)]; rfl
        go_wp2_with fail
        go_roundg g0
        case rel => exact ⟨i + 1, n + 1, rfl, rfl, by omega, by omega, HD2, HB2.out, HR2.out, HS2.out⟩
        case measure => omega
      | false =>
        have h := HD.out
        rw [hc] at h
        have HD2 := hide (show n + countE zs (l.drop (i + 1)) = countE zs l by simpa using h)
        clear h hc HD
        go_wp2_with fail
        go_roundg g0
        case rel => exact ⟨i + 1, n, rfl, rfl, by omega, by omega, HD2, HB2.out, HR2.out, HS2.out⟩
        case measure => omega
end Go.Proofs.YtlohoamhgioheaaDoor
