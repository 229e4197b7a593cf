/-
  merkle.at: the node at a path, or the root as one.
-/
import Derived.Test.YtbklgijndjpgoaaDoorTreeFindAt
namespace Go.Proofs.YtbklgijndjpgoaaDoor
open Go.RowKit
set_option maxRecDepth 100000

/-- The root as a node. -/
def rootNd : Nd := ⟨⟨#[]⟩, 1, 0, 0, ⟨#[]⟩⟩
def topL (p : ByteArray) (l : List Nd) : Nd × Bool := if p.toList.isEmpty = true then (rootNd, true) else findL p l

set_option maxHeartbeats 8000000 in
theorem top_any (A : Option Addr) (l : List Nd) (c : Nat) (p : ByteArray) (w : World) (hA : RdN w w.heap.size A l) (hl : (l.length : Int) ≤ 1000000) :
    Calls Tryd.prog 22 #[.slice A l.length c, .string p] w fun e w' => e = .returned (.tuple #[.agg (topL p l).1.cells, .bool (topL p l).2]) ∧ Below w.heap.size w w' := by
  have hB0 : Below w.heap.size w (w.alloc (.cells #[.string ⟨#[]⟩, .int .i64 0, .int .i64 0, .int .i64 0, .string ⟨#[]⟩] 34)) := (Below.refl _ w).alloc (Nat.le_refl _) _
  have r0 := World.alloc_heap_new w (Obj.cells #[.string ⟨#[]⟩, .int .i64 0, .int .i64 0, .int .i64 0, .string ⟨#[]⟩] 34)
  have HT := hide (show topL p l = if p.toList.isEmpty = true then (rootNd, true) else findL p l from rfl)
  have HFi := hide (find_any A l c p (w.alloc (.cells #[.string ⟨#[]⟩, .int .i64 0, .int .i64 0, .int .i64 0, .string ⟨#[]⟩] 34)) (hA.step hB0) hl)
  generalize topL p l = T at HT ⊢
  clear hA
  cases he : p.toList.isEmpty with
  | true =>
    have HE := hide (show T = (rootNd, true) by rw [HT.out, if_pos he])
    have s3 := r0
    have r5 := World.alloc_heap_new w (Obj.cells #[(.string ⟨#[]⟩), (.int .i64 1), (.int .i64 0), (.int .i64 0), (.string ⟨#[]⟩)] 34)
    have hBW : Below w.heap.size w (w.alloc (.cells #[(.string ⟨#[]⟩), (.int .i64 1), (.int .i64 0), (.int .i64 0), (.string ⟨#[]⟩)] 34)) := (Below.refl _ w).alloc (Nat.le_refl _) _
    have d0 : (w.alloc (.cells #[.string ⟨#[]⟩, .int .i64 0, .int .i64 0, .int .i64 0, .string ⟨#[]⟩] 34)).cell? ⟨w.heap.size, 0, none⟩ = some (.string ⟨#[]⟩) := cell_of_row _ _ _ _ _ _ s3
    have e0 : (w.alloc (.cells #[.string ⟨#[]⟩, .int .i64 0, .int .i64 0, .int .i64 0, .string ⟨#[]⟩] 34)).frozen? ⟨w.heap.size, 0, none⟩ = false := frozen_of_row _ _ _ _ _ s3
    have d1 : (w.alloc (.cells #[.string ⟨#[]⟩, .int .i64 0, .int .i64 0, .int .i64 0, .string ⟨#[]⟩] 34)).cell? ⟨w.heap.size, 1, none⟩ = some (.int .i64 0) := cell_of_row _ _ _ _ _ _ s3
    have e1 : (w.alloc (.cells #[.string ⟨#[]⟩, .int .i64 0, .int .i64 0, .int .i64 0, .string ⟨#[]⟩] 34)).frozen? ⟨w.heap.size, 1, none⟩ = false := frozen_of_row _ _ _ _ _ s3
    have d2 : (w.alloc (.cells #[.string ⟨#[]⟩, .int .i64 0, .int .i64 0, .int .i64 0, .string ⟨#[]⟩] 34)).cell? ⟨w.heap.size, 2, none⟩ = some (.int .i64 0) := cell_of_row _ _ _ _ _ _ s3
    have e2 : (w.alloc (.cells #[.string ⟨#[]⟩, .int .i64 0, .int .i64 0, .int .i64 0, .string ⟨#[]⟩] 34)).frozen? ⟨w.heap.size, 2, none⟩ = false := frozen_of_row _ _ _ _ _ s3
    have d3 : (w.alloc (.cells #[.string ⟨#[]⟩, .int .i64 0, .int .i64 0, .int .i64 0, .string ⟨#[]⟩] 34)).cell? ⟨w.heap.size, 3, none⟩ = some (.int .i64 0) := cell_of_row _ _ _ _ _ _ s3
    have e3 : (w.alloc (.cells #[.string ⟨#[]⟩, .int .i64 0, .int .i64 0, .int .i64 0, .string ⟨#[]⟩] 34)).frozen? ⟨w.heap.size, 3, none⟩ = false := frozen_of_row _ _ _ _ _ s3
    have d4 : (w.alloc (.cells #[.string ⟨#[]⟩, .int .i64 0, .int .i64 0, .int .i64 0, .string ⟨#[]⟩] 34)).cell? ⟨w.heap.size, 4, none⟩ = some (.string ⟨#[]⟩) := cell_of_row _ _ _ _ _ _ s3
    have e4 : (w.alloc (.cells #[.string ⟨#[]⟩, .int .i64 0, .int .i64 0, .int .i64 0, .string ⟨#[]⟩] 34)).frozen? ⟨w.heap.size, 4, none⟩ = false := frozen_of_row _ _ _ _ _ s3
    clear HT HFi r0
    go_enter Tryd.func22, Tryd.ntmps22
    go_wp2_with fail
    have y0 : (w.alloc (.cells #[(.string ⟨#[]⟩), (.int .i64 1), (.int .i64 0), (.int .i64 0), (.string ⟨#[]⟩)] 34)).cell? ⟨w.heap.size, 0, none⟩ = some (.string ⟨#[]⟩) := cell_of_row _ _ _ _ _ _ r5
    have y1 : (w.alloc (.cells #[(.string ⟨#[]⟩), (.int .i64 1), (.int .i64 0), (.int .i64 0), (.string ⟨#[]⟩)] 34)).cell? ⟨w.heap.size, 1, none⟩ = some (.int .i64 1) := cell_of_row _ _ _ _ _ _ r5
    have y2 : (w.alloc (.cells #[(.string ⟨#[]⟩), (.int .i64 1), (.int .i64 0), (.int .i64 0), (.string ⟨#[]⟩)] 34)).cell? ⟨w.heap.size, 2, none⟩ = some (.int .i64 0) := cell_of_row _ _ _ _ _ _ r5
    have y3 : (w.alloc (.cells #[(.string ⟨#[]⟩), (.int .i64 1), (.int .i64 0), (.int .i64 0), (.string ⟨#[]⟩)] 34)).cell? ⟨w.heap.size, 3, none⟩ = some (.int .i64 0) := cell_of_row _ _ _ _ _ _ r5
    have y4 : (w.alloc (.cells #[(.string ⟨#[]⟩), (.int .i64 1), (.int .i64 0), (.int .i64 0), (.string ⟨#[]⟩)] 34)).cell? ⟨w.heap.size, 4, none⟩ = some (.string ⟨#[]⟩) := cell_of_row _ _ _ _ _ _ r5
    exact bodyPost_ret (v := .tuple #[.agg #[(.string ⟨#[]⟩), (.int .i64 1), (.int .i64 0), (.int .i64 0), (.string ⟨#[]⟩)], .bool true]) (by simp [results, Tryd.results22, go_sem, y0, y1, y2, y3, y4]) rfl ⟨by rw [HE.out]; rfl, hBW⟩
  | false =>
    have HE := hide (show T = findL p l by rw [HT.out, if_neg (by rw [he]; decide)])
    clear HT
    generalize findL p l = F at HFi HE
    obtain ⟨⟨path, kind, mode, time, data⟩, ok⟩ := F
    go_enter Tryd.func22, Tryd.ntmps22
    go_wp2_with fail
    refine HFi.out.mono ?_
    rintro e w3 ⟨rfl, hb3⟩
    have s3 := (hb3.block w.heap.size (by simp)).trans r0
    have hB3 := hB0.trans (hb3.mono hB0.size)
    obtain ⟨W, hW, r5, hBW⟩ := set_five w w3 w.heap.size _ _ _ _ _ (.string path) (.int .i64 kind) (.int .i64 mode) (.int .i64 time) (.string data) _ s3 (Nat.le_refl _) hB3
    have d0 : w3.cell? ⟨w.heap.size, 0, none⟩ = some (.string ⟨#[]⟩) := cell_of_row _ _ _ _ _ _ s3
    have e0 : w3.frozen? ⟨w.heap.size, 0, none⟩ = false := frozen_of_row _ _ _ _ _ s3
    have d1 : w3.cell? ⟨w.heap.size, 1, none⟩ = some (.int .i64 0) := cell_of_row _ _ _ _ _ _ s3
    have e1 : w3.frozen? ⟨w.heap.size, 1, none⟩ = false := frozen_of_row _ _ _ _ _ s3
    have d2 : w3.cell? ⟨w.heap.size, 2, none⟩ = some (.int .i64 0) := cell_of_row _ _ _ _ _ _ s3
    have e2 : w3.frozen? ⟨w.heap.size, 2, none⟩ = false := frozen_of_row _ _ _ _ _ s3
    have d3 : w3.cell? ⟨w.heap.size, 3, none⟩ = some (.int .i64 0) := cell_of_row _ _ _ _ _ _ s3
    have e3 : w3.frozen? ⟨w.heap.size, 3, none⟩ = false := frozen_of_row _ _ _ _ _ s3
    have d4 : w3.cell? ⟨w.heap.size, 4, none⟩ = some (.string ⟨#[]⟩) := cell_of_row _ _ _ _ _ _ s3
    have e4 : w3.frozen? ⟨w.heap.size, 4, none⟩ = false := frozen_of_row _ _ _ _ _ s3
    clear HFi r0 hb3 hB0
    simp only [Nd.cells]
    go_wp2_with fail
    subst hW
    have y0 : (((((w3.setCell ⟨w.heap.size, 0, none⟩ (.string path)).setCell ⟨w.heap.size, 1, none⟩ (.int .i64 kind)).setCell ⟨w.heap.size, 2, none⟩ (.int .i64 mode)).setCell ⟨w.heap.size, 3, none⟩ (.int .i64 time)).setCell ⟨w.heap.size, 4, none⟩ (.string data)).cell? ⟨w.heap.size, 0, none⟩ = some (.string path) := cell_of_row _ _ _ _ _ _ r5
    have y1 : (((((w3.setCell ⟨w.heap.size, 0, none⟩ (.string path)).setCell ⟨w.heap.size, 1, none⟩ (.int .i64 kind)).setCell ⟨w.heap.size, 2, none⟩ (.int .i64 mode)).setCell ⟨w.heap.size, 3, none⟩ (.int .i64 time)).setCell ⟨w.heap.size, 4, none⟩ (.string data)).cell? ⟨w.heap.size, 1, none⟩ = some (.int .i64 kind) := cell_of_row _ _ _ _ _ _ r5
    have y2 : (((((w3.setCell ⟨w.heap.size, 0, none⟩ (.string path)).setCell ⟨w.heap.size, 1, none⟩ (.int .i64 kind)).setCell ⟨w.heap.size, 2, none⟩ (.int .i64 mode)).setCell ⟨w.heap.size, 3, none⟩ (.int .i64 time)).setCell ⟨w.heap.size, 4, none⟩ (.string data)).cell? ⟨w.heap.size, 2, none⟩ = some (.int .i64 mode) := cell_of_row _ _ _ _ _ _ r5
    have y3 : (((((w3.setCell ⟨w.heap.size, 0, none⟩ (.string path)).setCell ⟨w.heap.size, 1, none⟩ (.int .i64 kind)).setCell ⟨w.heap.size, 2, none⟩ (.int .i64 mode)).setCell ⟨w.heap.size, 3, none⟩ (.int .i64 time)).setCell ⟨w.heap.size, 4, none⟩ (.string data)).cell? ⟨w.heap.size, 3, none⟩ = some (.int .i64 time) := cell_of_row _ _ _ _ _ _ r5
    have y4 : (((((w3.setCell ⟨w.heap.size, 0, none⟩ (.string path)).setCell ⟨w.heap.size, 1, none⟩ (.int .i64 kind)).setCell ⟨w.heap.size, 2, none⟩ (.int .i64 mode)).setCell ⟨w.heap.size, 3, none⟩ (.int .i64 time)).setCell ⟨w.heap.size, 4, none⟩ (.string data)).cell? ⟨w.heap.size, 4, none⟩ = some (.string data) := cell_of_row _ _ _ _ _ _ r5
    exact bodyPost_ret (v := .tuple #[.agg #[(.string path), (.int .i64 kind), (.int .i64 mode), (.int .i64 time), (.string data)], .bool ok]) (by simp [results, Tryd.results22, go_sem, y0, y1, y2, y3, y4]) rfl ⟨by rw [HE.out]; rfl, hBW⟩
end Go.Proofs.YtbklgijndjpgoaaDoor
