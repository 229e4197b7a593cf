/-
  A list of nodes whose first ones have another mode (plain); a store into a row of the call's own.
-/
import Derived.Test.YtbklgijndjpgoaaDoorMkMoveMath
import Derived.Laws.OwnMore
namespace Go.Proofs.YtbklgijndjpgoaaDoor
open Go.RowKit
set_option maxRecDepth 100000

def modes (k : Int) (j : Nat) (o : List Nd) : List Nd := o.mapIdx fun i n => if i < j then setM k n else n
theorem modes_len (k : Int) (j : Nat) (o : List Nd) : (modes k j o).length = o.length := by unfold modes; simp
theorem modes_zero (k : Int) (o : List Nd) : modes k 0 o = o := by
  unfold modes
  apply List.ext_getElem?
  intro i
  rw [List.getElem?_mapIdx]
  simp
theorem modes_all (k : Int) (o : List Nd) : modes k o.length o = o.map (setM k) := by
  unfold modes
  apply List.ext_getElem?
  intro i
  rw [List.getElem?_mapIdx, List.getElem?_map]
  by_cases h : i < o.length
  · simp [h]
  · rw [List.getElem?_eq_none (by omega)]; rfl
theorem modes_get {k : Int} {j : Nat} {o : List Nd} {n : Nd} (h : o[j]? = some n) : (modes k j o)[j]? = some n := by
  unfold modes
  rw [List.getElem?_mapIdx, h]
  simp
theorem modes_step {k : Int} {j : Nat} {o : List Nd} {n : Nd} (h : o[j]? = some n) : modes k (j + 1) o = (modes k j o).set j (setM k n) := by
  have hlt := (List.getElem?_eq_some_iff.1 h).1
  apply List.ext_getElem?
  intro i
  rw [List.getElem?_set, modes_len]
  unfold modes
  rw [List.getElem?_mapIdx, List.getElem?_mapIdx]
  by_cases e : j = i
  · subst e
    rw [if_pos rfl, if_pos hlt, h]
    simp
  · rw [if_neg e]
    have : (i < j + 1) ↔ (i < j) := by omega
    simp only [this]
theorem cells_set : ∀ (l : List Nd) (j : Nat) (n : Nd) (v : Int), l[j]? = some n → (cellsN l).set (j * 5 + 2) (.int .i64 v) = cellsN (l.set j ⟨n.path, n.kind, v, n.time, n.data⟩)
  | [], j, n, v, h => by simp at h
  | u :: l, 0, n, v, h => by
    simp at h
    subst h
    rfl
  | u :: l, j + 1, n, v, h => by
    have h' : l[j]? = some n := by simpa using h
    have ih := cells_set l j n v h'
    show (u.cells.toList ++ cellsN l).set ((j + 1) * 5 + 2) _ = u.cells.toList ++ cellsN (l.set j _)
    rw [← ih, List.set_append_right _ _ (by show 5 ≤ _; omega)]
    congr 2
    show (j + 1) * 5 + 2 - 5 = _
    omega
/-- A mode is stored. -/
theorem NI.mode {w W : World} {G : Option Addr} {m g : Nat} {l : List Nd} {j : Nat} {n : Nd} {ad : Addr} (h : NI w (.slice G m g) l W) (hG : G = some ad) (hm : l.length = m) (hn : l[j]? = some n) (v : Int) :
    NI w (.slice G m g) (l.set j ⟨n.path, n.kind, v, n.time, n.data⟩) (W.setCell ⟨(ad.add (j * 5)).block, (ad.add (j * 5)).off + 2, none⟩ (.int .i64 v)) ∧ W.frozen? ⟨(ad.add (j * 5)).block, (ad.add (j * 5)).off + 2, none⟩ = false := by
  subst hG
  subst hm
  have ho := h.own
  rcases ho.2 with ⟨hv, _⟩ | ⟨b, cap, cur, hv, hb, hg, _⟩
  · cases hv
  · have hv2 := hv
    injection hv2 with e1 e2 e3
    injection e1 with e1
    subst e1
    subst e3
    have hst := ho.stored (j * 5 + 2) (.int .i64 v)
    have e : (⟨((⟨b, 0, none⟩ : Addr).add (j * 5)).block, ((⟨b, 0, none⟩ : Addr).add (j * 5)).off + 2, none⟩ : Addr) = ⟨b, j * 5 + 2, none⟩ := by
      rw [add_block]
      unfold Addr.add
      by_cases hz : j * 5 = 0 <;> simp [hz]
    rw [e]
    refine ⟨⟨h.below.grown hst.2 h.below.size (fun k hk => by cases hk; exact hb), ?_⟩, ho.frozenAt _⟩
    have := hst.1
    rw [cells_set l j n v hn] at this
    rw [List.length_set]
    exact this
end Go.Proofs.YtbklgijndjpgoaaDoor
