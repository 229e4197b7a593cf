/-
  Records that lie at an address, one behind the other; rows of records of the call's own.
-/
import Derived.Test.YtggdndmjfbiaiaaDoorBytes
import Derived.Laws.AppendOwnNone
import Derived.Deep.LoopGhost
import Derived.Deep.DeepCutAuto
namespace Go.Proofs.YtggdndmjfbiaiaaDoor
open Go.RowKit
set_option maxRecDepth 100000

/-- A record's two cells, at an address. -/
structure RcAt (w : World) (ad : Addr) (n : Int × Int) : Prop where
  k : w.cell? ad = some (.int .i64 n.1)
  n : w.cell? ⟨ad.block, ad.off + 1, none⟩ = some (.int .i64 n.2)
theorem RcAt.below {w w' : World} {B : Nat} {ad : Addr} {n : Int × Int} (h : RcAt w ad n) (hb : Below B w w') (hB : ad.block < B) : RcAt w' ad n :=
  ⟨(hb.cell hB).trans h.k, (hb.cell (p := ⟨ad.block, _, none⟩) hB).trans h.n⟩
/-- Records that lie at an address, one behind the other, below block B. -/
def RdR (w : World) (B : Nat) (A : Option Addr) (l : List (Int × Int)) : Prop :=
  ∀ k n, l[k]? = some n → ∃ ad : Addr, A = some ad ∧ ad.block < B ∧ RcAt w (ad.add (k * 2)) n
theorem RdR.below {w w' : World} {B B' : Nat} {A : Option Addr} {l : List (Int × Int)} (h : RdR w B A l) (hb : Below B' w w') (hB : B ≤ B') : RdR w' B A l := fun k x hx => by
  obtain ⟨ad, e, hlt, h0⟩ := h k x hx
  exact ⟨ad, e, hlt, h0.below hb (by rw [add_block]; omega)⟩
theorem RdR.mono {w : World} {B B' : Nat} {A : Option Addr} {l : List (Int × Int)} (h : RdR w B A l) (hB : B ≤ B') : RdR w B' A l := fun k x hx => by
  obtain ⟨ad, e, hlt, hc⟩ := h k x hx
  exact ⟨ad, e, by omega, hc⟩
theorem RdR.step {w w' : World} {A : Option Addr} {l : List (Int × Int)} (h : RdR w w.heap.size A l) (hb : Below w.heap.size w w') : RdR w' w'.heap.size A l := (h.below hb (Nat.le_refl _)).mono hb.size
theorem RdR.nil (w : World) (B : Nat) (A : Option Addr) : RdR w B A [] := fun k x hx => by simp at hx
theorem RdR.of_none {w : World} {B : Nat} {l : List (Int × Int)} (h : RdR w B none l) : l = [] := by
  cases l with
  | nil => rfl
  | cons y r => obtain ⟨ad, e', _⟩ := h 0 y rfl; cases e'
theorem RdR.take {w : World} {B : Nat} {A : Option Addr} {l : List (Int × Int)} (h : RdR w B A l) (k : Nat) : RdR w B A (l.take k) := fun j x hx => by
  rw [List.getElem?_take] at hx
  split at hx
  · exact h j x hx
  · cases hx

/-- Records' cells. -/
def cellsR (l : List (Int × Int)) : List Value := l.flatMap fun n => [.int .i64 n.1, .int .i64 n.2]
theorem cellsR_app (l m : List (Int × Int)) : cellsR (l ++ m) = cellsR l ++ cellsR m := by simp [cellsR]
theorem cellsR_snoc (l : List (Int × Int)) (n : Int × Int) : cellsR (l ++ [n]) = cellsR l ++ [.int .i64 n.1, .int .i64 n.2] := by simp [cellsR]
theorem cellsR_len : ∀ l : List (Int × Int), (cellsR l).length = l.length * 2
  | [] => rfl
  | n :: l => by
    have h := cellsR_len l
    show (Value.int .i64 n.1 :: .int .i64 n.2 :: cellsR l).length = _
    simp only [List.length_cons, h]
    omega
theorem cellsR_get : ∀ (l : List (Int × Int)) (k : Nat) (n : Int × Int), l[k]? = some n → (cellsR l)[k * 2]? = some (.int .i64 n.1) ∧ (cellsR l)[k * 2 + 1]? = some (.int .i64 n.2)
  | [], k, n, h => by simp at h
  | u :: l, 0, n, h => by
    simp at h
    subst h
    exact ⟨rfl, rfl⟩
  | u :: l, k + 1, n, h => by
    have e : ∀ j, (cellsR (u :: l))[2 + j]? = (cellsR l)[j]? := fun j => by
      show ([Value.int .i64 u.1, .int .i64 u.2] ++ cellsR l)[2 + j]? = _
      rw [List.getElem?_append_right (by show 2 ≤ _; omega)]
      congr 1
      show 2 + j - 2 = j
      omega
    obtain ⟨h1, h2⟩ := cellsR_get l k n (by simpa using h)
    refine ⟨?_, ?_⟩
    · rw [show (k + 1) * 2 = 2 + k * 2 by omega, e]; exact h1
    · rw [show (k + 1) * 2 + 1 = 2 + (k * 2 + 1) by omega, e]; exact h2
theorem addR_off (g k : Nat) : ((⟨g, 0, none⟩ : Addr).add k) = ⟨g, k, none⟩ := by unfold Addr.add; split <;> simp_all
theorem RdR.own {w : World} {B n c : Nat} {e : TypeId} {A : Option Addr} {l : List (Int × Int)} (h : w.ownsRow B e 2 (.slice A n c) n (cellsR l)) : RdR w w.heap.size A l := by
  intro k r hk
  obtain ⟨q1, q2⟩ := cellsR_get l k r hk
  rcases h.2 with ⟨hv, h0⟩ | ⟨g, cap, cur, hv, _, hg, _⟩
  · have h1 := h.1
    rw [h0] at h1
    have : cellsR l = [] := List.length_eq_zero_iff.1 (by omega)
    rw [this] at q1; simp at q1
  · injection hv with hA
    subst hA
    have hc := fun j u hj => h.cells (g := g) rfl j u hj
    refine ⟨_, rfl, (Array.getElem?_eq_some_iff.1 hg).1, ?_⟩
    have h1 := hc _ _ q1
    have h2 := hc _ _ q2
    rw [addR_off] at h1 h2 ⊢
    exact ⟨h1, h2⟩
theorem cellsR_one (l : List (Int × Int)) : ∀ u ∈ cellsR l, u.oneCell' = true := by
  intro u hu
  obtain ⟨n, _, hn⟩ := List.mem_flatMap.1 hu
  simp at hn
  rcases hn with rfl | rfl <;> rfl
theorem info_rec : (Tryd.prog.info? 34).map (fun i => (i.zero, i.size, i.bytes)) = some (some (.agg #[.int .i64 0, .int .i64 0]), 2, 16) := by kernel_rfl
theorem info_rrec : (Tryd.prog.info? 33).map (fun i => (i.zero, i.size, i.bytes)) = some (some (.agg #[.int .i64 0, .int .i64 0]), 2, 16) := by kernel_rfl
theorem RdR.drew {w : World} {A : Option Addr} {l : List (Int × Int)} (h : RdR w w.heap.size A l) : RdR w.drew w.drew.heap.size A l := h.step (Below.refl _ w).drew
/-- A record that has just been laid: each of its cells. -/
theorem new_rec (W : World) (k n : Int) (t : TypeId) : ∀ j u, (cellsR [(k, n)])[j]? = some u → (W.alloc (.cells #[.int .i64 k, .int .i64 n] t)).cell? ((⟨W.heap.size, 0, none⟩ : Addr).add j) = some u := by
  intro j u hu
  have hrow := World.alloc_heap_new W (Obj.cells #[.int .i64 k, .int .i64 n] t)
  rw [addR_off]
  have e : cellsR [(k, n)] = [Value.int .i64 k, .int .i64 n] := rfl
  rw [e] at hu
  exact (cell_of_row _ _ _ _ _ _ hrow).trans (by rw [← hu]; simp)
theorem ownsRow_lowerR {w : World} {base base' n size : Nat} {e : TypeId} {v : Value} {xs : List Value} (h : w.ownsRow base e size v n xs) (hb : base' ≤ base) : w.ownsRow base' e size v n xs :=
  ⟨h.1, h.2.imp id fun ⟨g, cap, cur, h1, h2, h3⟩ => ⟨g, cap, cur, h1, Nat.le_trans hb h2, h3⟩⟩
/-- A slice of these records, in a row of the call's own. -/
structure RI (w0 : World) (e : TypeId) (v : Value) (l : List (Int × Int)) (w' : World) : Prop where
  below : Below w0.heap.size w0 w'
  own : w'.ownsRow w0.heap.size e 2 v l.length (cellsR l)
theorem RI.step {w w1 w2 : World} {e : TypeId} {v : Value} {l : List (Int × Int)} (h : RI w e v l w1) (hb : Below w1.heap.size w1 w2) : RI w e v l w2 :=
  ⟨h.below.trans (hb.mono h.below.size), own_below h.own hb⟩
end Go.Proofs.YtggdndmjfbiaiaaDoor
