/-
  tree.Find: its answer.
-/
import Derived.Test.YtbklgijndjpgoaaDoorTreeFind
import Derived.Test.YtbklgijndjpgoaaDoorMkMixA
namespace Go.Proofs.YtbklgijndjpgoaaDoor
open Go.RowKit
set_option maxRecDepth 100000

theorem set_five (w w3 : World) (n : Nat) (a b c d e x y z u v : Value) (t : TypeId) (h : w3.heap[n]? = some (.cells #[a, b, c, d, e] t (0, 0))) (hn : w.heap.size ≤ n) (hB : Below w.heap.size w w3) :
    ∃ W, W = ((((w3.setCell ⟨n, 0, none⟩ x).setCell ⟨n, 1, none⟩ y).setCell ⟨n, 2, none⟩ z).setCell ⟨n, 3, none⟩ u).setCell ⟨n, 4, none⟩ v ∧ W.heap[n]? = some (.cells #[x, y, z, u, v] t (0, 0)) ∧ Below w.heap.size w W := by
  have h1 := heap_setCell_same w3 n 0 _ _ x h
  have h2 := heap_setCell_same _ n 1 _ _ y h1
  have h3 := heap_setCell_same _ n 2 _ _ z h2
  have h4 := heap_setCell_same _ n 3 _ _ u h3
  have h5 := heap_setCell_same _ n 4 _ _ v h4
  exact ⟨_, rfl, h5, ((((hB.setCell (p := ⟨n, 0, none⟩) hn _).setCell (p := ⟨n, 1, none⟩) hn _).setCell (p := ⟨n, 2, none⟩) hn _).setCell (p := ⟨n, 3, none⟩) hn _).setCell (p := ⟨n, 4, none⟩) hn _⟩
/-- What Find answers: a node, and is there one? -/
def zeroNd : Nd := ⟨⟨#[]⟩, 0, 0, 0, ⟨#[]⟩⟩
def findL (p : ByteArray) (l : List Nd) : Nd × Bool := if atL p l < 0 then (zeroNd, false) else (l.getD (atL p l).toNat zeroNd, true)

set_option maxHeartbeats 8000000 in
theorem find_any (A : Option Addr) (l : List Nd) (c : Nat) (p : ByteArray) (w : World) (hA : RdN w w.heap.size A l) (hl : (l.length : Int) ≤ 1000000) :
    Calls Tryd.prog 40 #[.slice A l.length c, .string p] w fun e w' => e = .returned (.tuple #[.agg (findL p l).1.cells, .bool (findL p l).2]) ∧ Below w.heap.size w w' := by
  obtain ⟨q0, q1, hB⟩ := two_rows w #[.string p] #[.string ⟨#[]⟩, .int .i64 0, .int .i64 0, .int .i64 0, .string ⟨#[]⟩] 9 34
  have HIx := hide (indexNode_any A l c w.heap.size p _ (hA.step hB) hl (Array.getElem?_eq_some_iff.1 q0).1 q0)
  have HCases := hide (at_cases p l)
  have HFd := hide (show findL p l = if atL p l < 0 then (zeroNd, false) else (l.getD (atL p l).toNat zeroNd, true) from rfl)
  generalize findL p l = F at HFd ⊢
  generalize atL p l = z at HIx HCases HFd
  have HA := hide hA
  clear hA
  go_enter Tryd.func40, Tryd.ntmps40
  go_wp2_with fail
  refine HIx.out.mono ?_
  rintro e w3 ⟨rfl, hb3⟩
  have s3 := (hb3.block (w.heap.size + 1) (Array.getElem?_eq_some_iff.1 q1).1).trans q1
  have hB3 := hB.trans (hb3.mono hB.size)
  clear HIx q0 q1 hB hb3
  have z0 : ∀ i, w3.frozen? ⟨w.heap.size + 1, i, none⟩ = false := fun i => frozen_of_row _ _ _ _ _ s3
  have d0 : w3.cell? ⟨w.heap.size + 1, 0, none⟩ = some (.string ⟨#[]⟩) := cell_of_row _ _ _ _ _ _ s3
  have d1 : w3.cell? ⟨w.heap.size + 1, 1, none⟩ = some (.int .i64 0) := cell_of_row _ _ _ _ _ _ s3
  have d2 : w3.cell? ⟨w.heap.size + 1, 2, none⟩ = some (.int .i64 0) := cell_of_row _ _ _ _ _ _ s3
  have d3 : w3.cell? ⟨w.heap.size + 1, 3, none⟩ = some (.int .i64 0) := cell_of_row _ _ _ _ _ _ s3
  have d4 : w3.cell? ⟨w.heap.size + 1, 4, none⟩ = some (.string ⟨#[]⟩) := cell_of_row _ _ _ _ _ _ s3
  have e0 := z0 0
  have e1 := z0 1
  have e2 := z0 2
  have e3 := z0 3
  have e4 := z0 4
  rcases HCases.out with h | ⟨k, n, h, hn, _⟩
  · obtain ⟨W, hW, r5, hBW⟩ := set_five w w3 (w.heap.size + 1) _ _ _ _ _ (.string ⟨#[]⟩) (.int .i64 0) (.int .i64 0) (.int .i64 0) (.string ⟨#[]⟩) _ s3 (Nat.le_succ _) hB3
    have HE := hide (show F = (zeroNd, false) by rw [HFd.out, h]; rfl)
    subst h
    clear HCases HFd z0
    go_wp2_with fail
    subst hW
    have y0 : (((((w3.setCell ⟨w.heap.size + 1, 0, none⟩ (.string ⟨#[]⟩)).setCell ⟨w.heap.size + 1, 1, none⟩ (.int .i64 0)).setCell ⟨w.heap.size + 1, 2, none⟩ (.int .i64 0)).setCell ⟨w.heap.size + 1, 3, none⟩ (.int .i64 0)).setCell ⟨w.heap.size + 1, 4, none⟩ (.string ⟨#[]⟩)).cell? ⟨w.heap.size + 1, 0, none⟩ = some (.string ⟨#[]⟩) := cell_of_row _ _ _ _ _ _ r5
    have y1 : (((((w3.setCell ⟨w.heap.size + 1, 0, none⟩ (.string ⟨#[]⟩)).setCell ⟨w.heap.size + 1, 1, none⟩ (.int .i64 0)).setCell ⟨w.heap.size + 1, 2, none⟩ (.int .i64 0)).setCell ⟨w.heap.size + 1, 3, none⟩ (.int .i64 0)).setCell ⟨w.heap.size + 1, 4, none⟩ (.string ⟨#[]⟩)).cell? ⟨w.heap.size + 1, 1, none⟩ = some (.int .i64 0) := cell_of_row _ _ _ _ _ _ r5
    have y2 : (((((w3.setCell ⟨w.heap.size + 1, 0, none⟩ (.string ⟨#[]⟩)).setCell ⟨w.heap.size + 1, 1, none⟩ (.int .i64 0)).setCell ⟨w.heap.size + 1, 2, none⟩ (.int .i64 0)).setCell ⟨w.heap.size + 1, 3, none⟩ (.int .i64 0)).setCell ⟨w.heap.size + 1, 4, none⟩ (.string ⟨#[]⟩)).cell? ⟨w.heap.size + 1, 2, none⟩ = some (.int .i64 0) := cell_of_row _ _ _ _ _ _ r5
    have y3 : (((((w3.setCell ⟨w.heap.size + 1, 0, none⟩ (.string ⟨#[]⟩)).setCell ⟨w.heap.size + 1, 1, none⟩ (.int .i64 0)).setCell ⟨w.heap.size + 1, 2, none⟩ (.int .i64 0)).setCell ⟨w.heap.size + 1, 3, none⟩ (.int .i64 0)).setCell ⟨w.heap.size + 1, 4, none⟩ (.string ⟨#[]⟩)).cell? ⟨w.heap.size + 1, 3, none⟩ = some (.int .i64 0) := cell_of_row _ _ _ _ _ _ r5
    have y4 : (((((w3.setCell ⟨w.heap.size + 1, 0, none⟩ (.string ⟨#[]⟩)).setCell ⟨w.heap.size + 1, 1, none⟩ (.int .i64 0)).setCell ⟨w.heap.size + 1, 2, none⟩ (.int .i64 0)).setCell ⟨w.heap.size + 1, 3, none⟩ (.int .i64 0)).setCell ⟨w.heap.size + 1, 4, none⟩ (.string ⟨#[]⟩)).cell? ⟨w.heap.size + 1, 4, none⟩ = some (.string ⟨#[]⟩) := cell_of_row _ _ _ _ _ _ r5
    refine bodyPost_ret (v := .tuple #[.agg #[(.string ⟨#[]⟩), (.int .i64 0), (.int .i64 0), (.int .i64 0), (.string ⟨#[]⟩)], .bool false]) (by simp [results, Tryd.results40, go_sem, y0, y1, y2, y3, y4]) rfl ⟨by rw [HE.out]; rfl, hBW⟩
  · obtain ⟨path, kind, mode, time, data⟩ := n
    obtain ⟨W, hW, r5, hBW⟩ := set_five w w3 (w.heap.size + 1) _ _ _ _ _ (.string path) (.int .i64 kind) (.int .i64 mode) (.int .i64 time) (.string data) _ s3 (Nat.le_succ _) hB3
    have HE := hide (show F = (⟨path, kind, mode, time, data⟩, true) by rw [HFd.out, h, if_neg (by omega), Int.toNat_natCast, List.getD_eq_getElem?_getD, hn]; rfl)
    obtain ⟨ad, rfl, hlt, c0, c1, c2, c3, c4⟩ := (HA.out.below hB3 (Nat.le_refl _)) k _ hn
    simp only at c0 c1 c2 c3 c4
    have hkl : k < l.length := (List.getElem?_eq_some_iff.1 hn).1
    have hki : (k : Int) < l.length := by omega
    subst h
    clear HCases HFd z0 hn
    go_wp2_with fail
    subst hW
    have y0 : (((((w3.setCell ⟨w.heap.size + 1, 0, none⟩ (.string path)).setCell ⟨w.heap.size + 1, 1, none⟩ (.int .i64 kind)).setCell ⟨w.heap.size + 1, 2, none⟩ (.int .i64 mode)).setCell ⟨w.heap.size + 1, 3, none⟩ (.int .i64 time)).setCell ⟨w.heap.size + 1, 4, none⟩ (.string data)).cell? ⟨w.heap.size + 1, 0, none⟩ = some (.string path) := cell_of_row _ _ _ _ _ _ r5
    have y1 : (((((w3.setCell ⟨w.heap.size + 1, 0, none⟩ (.string path)).setCell ⟨w.heap.size + 1, 1, none⟩ (.int .i64 kind)).setCell ⟨w.heap.size + 1, 2, none⟩ (.int .i64 mode)).setCell ⟨w.heap.size + 1, 3, none⟩ (.int .i64 time)).setCell ⟨w.heap.size + 1, 4, none⟩ (.string data)).cell? ⟨w.heap.size + 1, 1, none⟩ = some (.int .i64 kind) := cell_of_row _ _ _ _ _ _ r5
    have y2 : (((((w3.setCell ⟨w.heap.size + 1, 0, none⟩ (.string path)).setCell ⟨w.heap.size + 1, 1, none⟩ (.int .i64 kind)).setCell ⟨w.heap.size + 1, 2, none⟩ (.int .i64 mode)).setCell ⟨w.heap.size + 1, 3, none⟩ (.int .i64 time)).setCell ⟨w.heap.size + 1, 4, none⟩ (.string data)).cell? ⟨w.heap.size + 1, 2, none⟩ = some (.int .i64 mode) := cell_of_row _ _ _ _ _ _ r5
    have y3 : (((((w3.setCell ⟨w.heap.size + 1, 0, none⟩ (.string path)).setCell ⟨w.heap.size + 1, 1, none⟩ (.int .i64 kind)).setCell ⟨w.heap.size + 1, 2, none⟩ (.int .i64 mode)).setCell ⟨w.heap.size + 1, 3, none⟩ (.int .i64 time)).setCell ⟨w.heap.size + 1, 4, none⟩ (.string data)).cell? ⟨w.heap.size + 1, 3, none⟩ = some (.int .i64 time) := cell_of_row _ _ _ _ _ _ r5
    have y4 : (((((w3.setCell ⟨w.heap.size + 1, 0, none⟩ (.string path)).setCell ⟨w.heap.size + 1, 1, none⟩ (.int .i64 kind)).setCell ⟨w.heap.size + 1, 2, none⟩ (.int .i64 mode)).setCell ⟨w.heap.size + 1, 3, none⟩ (.int .i64 time)).setCell ⟨w.heap.size + 1, 4, none⟩ (.string data)).cell? ⟨w.heap.size + 1, 4, none⟩ = some (.string data) := cell_of_row _ _ _ _ _ _ r5
    refine bodyPost_ret (v := .tuple #[.agg #[(.string path), (.int .i64 kind), (.int .i64 mode), (.int .i64 time), (.string data)], .bool true]) (by simp [results, Tryd.results40, go_sem, y0, y1, y2, y3, y4]) rfl ⟨by rw [HE.out]; rfl, hBW⟩
end Go.Proofs.YtbklgijndjpgoaaDoor
