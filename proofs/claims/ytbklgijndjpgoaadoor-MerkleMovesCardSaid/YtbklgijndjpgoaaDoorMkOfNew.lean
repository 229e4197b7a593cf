/-
  merkle: of at a directory whose print isn't kept yet.
-/
import Derived.Test.YtbklgijndjpgoaaDoorMkOf
namespace Go.Proofs.YtbklgijndjpgoaaDoor
open Go.RowKit
set_option maxRecDepth 100000

set_option maxHeartbeats 16000000 in
theorem of_new (B M : Nat) (t : List Nd) (n : Nd) (w : World) (hk : (n.kind == 1) = true) (h : PrOk w B t M) (hp : n.path ∈ ⟨#[]⟩ :: t.map Nd.path) (hps : n.path.size ≤ maxLen) (ht : t.length ≤ 600)
    (hl : ∀ W', w.grownBy W' none → (Instr.lookup 68 (.map (some (B + 1))) (.string n.path) true).run Tryd.prog W' = .ok (.tuple #[.agg #[.int .u64 0, .int .u64 0], .bool false]) W')
    (HD : ∀ W, PrOk W B t M → Calls Tryd.prog 42 #[.pointer (some ⟨B + 2, 0, none⟩), .string n.path] W (PrPost W B M t (sumL (dirT t n.path)))) :
    Calls Tryd.prog 24 #[.pointer (some ⟨B + 2, 0, none⟩), .agg n.cells] w (PrPost w B M t (sumL (dirT t n.path))) := by
  obtain ⟨path, kind, mode, time, data⟩ := n
  simp only at hk hl hp hps HD ⊢
  show Calls _ _ #[_, .agg #[.string path, .int .i64 kind, .int .i64 mode, .int .i64 time, .string data]] _ _
  have HKeep := hide (fun (W : World) (hW : PrOk W B t M) => hW.keep hp hps ht)
  have HDir := hide HD
  generalize sumL (dirT t path) = q at HDir HKeep ⊢
  obtain ⟨q1, q2⟩ := q
  clear HD
  obtain ⟨r0, r1, hB⟩ := two_rows w #[.string path, .int .i64 kind, .int .i64 mode, .int .i64 time, .string data] #[.int .u64 0, .int .u64 0] 34 28
  have H := hide h
  have hlt := h.lt
  have hg1 := grownBy_below hB
  have hX0 : ((w.alloc (.cells #[.string path, .int .i64 kind, .int .i64 mode, .int .i64 time, .string data] 34)).alloc (.cells #[.int .u64 0, .int .u64 0] 28)).heap.size = w.heap.size + 1 + 1 := by simp
  clear h
  have c1 := cell_of_row _ _ 1 _ _ _ r0
  go_enter Tryd.func24, Tryd.ntmps24
  go_wp2_with fail
  generalize (w.alloc (.cells #[.string path, .int .i64 kind, .int .i64 mode, .int .i64 time, .string data] 34)).alloc (.cells #[.int .u64 0, .int .u64 0] 28) = X1 at r0 r1 hB hg1 hX0 c1 ⊢
  clear c1
  have HR := hide (H.out.step hg1).row
  have e1 := hl _ (hg1.trans (grownBy_below (Below.refl _ _).drew))
  have e2 := hl _ ((hg1.trans (World.grownBy_alloc _ (.cells #[.int .u64 0, .int .u64 0] 28) none)).trans (grownBy_below (Below.refl _ _).drew))
  have HSf := hide (fun (W : World) (h1 : W.heap[B + 2]? = some (.cells #[.map (some B), .map (some (B + 1))] 70 (0, 0))) (h2 : W.heap[w.heap.size]? = some (.cells #[.string path, .int .i64 kind, .int .i64 mode, .int .i64 time, .string data] 34 (0, 0))) =>
    (⟨cell_of_row _ _ _ _ _ _ h1, cell_of_row _ _ _ _ _ _ h2⟩ : W.cell? ⟨B + 2, 1, none⟩ = some (.map (some (B + 1))) ∧ W.cell? ⟨w.heap.size, 0, none⟩ = some (.string path)))
  have HR0 := hide r0
  have HA1 := hide (fun o => (Below.heap_alloc X1 o _ (by omega)).trans HR.out)
  have HA0 := hide (fun o => (Below.heap_alloc X1 o _ (by omega)).trans HR0.out)
  have HB := hide hB
  have HR1 := hide r1
  clear r0 r1 hB hg1 hl
  go_region_held3 (fun w' => w'.cell? ⟨B + 2, 1, none⟩ = some (.map (some (B + 1))) ∧ w'.cell? ⟨w.heap.size, 0, none⟩ = some (.string path)) (first | exact HSf.out _ HR.out HR0.out | exact HSf.out _ (HA1.out _) (HA0.out _)) (fail)
  all_goals
    have s0 := HA0.out (.cells #[.int .u64 0, .int .u64 0] 28)
    have s1 := (Below.heap_alloc X1 (.cells #[.int .u64 0, .int .u64 0] 28) _ (by omega)).trans HR1.out
    have s2 := World.alloc_heap_new X1 (Obj.cells #[.int .u64 0, .int .u64 0] 28)
    have hBX := (HB.out.alloc HB.out.size (.cells #[.int .u64 0, .int .u64 0] 28)).drew
    rw [hX0] at s2
    clear e1 e2 HR0 HA1 HA0 HR HR1 HB hX0
    change (X1.alloc (.cells #[.int .u64 0, .int .u64 0] 28)).drew.heap[w.heap.size]? = some (.cells #[.string path, .int .i64 kind, .int .i64 mode, .int .i64 time, .string data] 34 (0, 0)) at s0
    change (X1.alloc (.cells #[.int .u64 0, .int .u64 0] 28)).drew.heap[w.heap.size + 1]? = some (.cells #[.int .u64 0, .int .u64 0] 28 (0, 0)) at s1
    change (X1.alloc (.cells #[.int .u64 0, .int .u64 0] 28)).drew.heap[w.heap.size + 1 + 1]? = some (.cells #[.int .u64 0, .int .u64 0] 28 (0, 0)) at s2
    generalize (X1.alloc (.cells #[.int .u64 0, .int .u64 0] 28)).drew = X at s0 s1 s2 hBX ⊢
    have f0 : X.cell? ⟨w.heap.size, 0, none⟩ = some (.string path) := cell_of_row _ _ _ _ _ _ s0
    have HX := hide (H.out.step (grownBy_below hBX))
    have hl1 := (Array.getElem?_eq_some_iff.1 s1).1
    have hl2 := (Array.getElem?_eq_some_iff.1 s2).1
    have hl0 := (Array.getElem?_eq_some_iff.1 s0).1
    go_wp2_with (go_at_call 42; refine (HDir.out _ HX.out).mono ?_; rintro e w3 ⟨rfl, hP3, hg3⟩; have t2 := (hg3.block (w.heap.size + 1 + 1) hl2 (by simp; omega)).trans s2; have z0 : w3.frozen? ⟨w.heap.size + 1 + 1, 0, none⟩ = false := frozen_of_row _ _ _ _ _ t2; have z1 : w3.frozen? ⟨w.heap.size + 1 + 1, 1, none⟩ = false := frozen_of_row _ _ _ _ _ t2; have d0 : w3.cell? ⟨w.heap.size + 1 + 1, 0, none⟩ = some (.int .u64 0) := cell_of_row _ _ _ _ _ _ t2; have d1 : w3.cell? ⟨w.heap.size + 1 + 1, 1, none⟩ = some (.int .u64 0) := cell_of_row _ _ _ _ _ _ t2)
    have t0 := (hg3.block w.heap.size hl0 (by simp; omega)).trans s0
    have t1 := (hg3.block (w.heap.size + 1) hl1 (by simp; omega)).trans s1
    obtain ⟨W5, hW5, u2, hg5⟩ := set_pair w3 (w.heap.size + 1 + 1) _ _ (.int .u64 (q1 : Nat)) (.int .u64 (q2 : Nat)) _ t2
    have u0 := (hg5.block w.heap.size (Array.getElem?_eq_some_iff.1 t0).1 (by simp; omega)).trans t0
    have u1 := (hg5.block (w.heap.size + 1) (Array.getElem?_eq_some_iff.1 t1).1 (by simp)).trans t1
    have hMw := H.out.size
    have hP5 := hP3.over hg5 (by omega)
    have hGX : w.grownBy w3 (some (B + 1)) := (grown_any (grownBy_below hBX) _).trans hg3
    have hG5 := grown_over hGX hg5 (by omega)
    rw [← hW5]
    clear hW5 t0 t1 t2 z0 z1 d0 d1 hg3 hg5 hP3 hGX s0 s1 s2 hBX HX hl0 hl1 hl2 f0
    obtain ⟨W6, hrun6, hP6, hg6⟩ := HKeep.out W5.drew (hP5.below (Below.refl _ _).drew)
    have hR5 := hP5.row
    have v0 := (hg6.block w.heap.size (Array.getElem?_eq_some_iff.1 u0).1 (by simp; omega)).trans u0
    have v1 := (hg6.block (w.heap.size + 1) (Array.getElem?_eq_some_iff.1 u1).1 (by simp; omega)).trans u1
    have v2 := (hg6.block (w.heap.size + 1 + 1) (Array.getElem?_eq_some_iff.1 u2).1 (by simp; omega)).trans u2
    have hR6 := hP6.row
    have HSg := hide (fun (W : World) (h1 : W.heap[B + 2]? = some (.cells #[.map (some B), .map (some (B + 1))] 70 (0, 0))) (h2 : W.heap[w.heap.size]? = some (.cells #[.string path, .int .i64 kind, .int .i64 mode, .int .i64 time, .string data] 34 (0, 0))) (h3 : W.heap[w.heap.size + 1 + 1]? = some (.cells #[.int .u64 (q1 : Nat), .int .u64 (q2 : Nat)] 28 (0, 0))) =>
      (⟨cell_of_row _ _ _ _ _ _ h1, cell_of_row _ _ _ _ _ _ h2, cell_of_row _ _ _ _ _ _ h3, cell_of_row _ _ _ _ _ _ h3⟩ : W.cell? ⟨B + 2, 1, none⟩ = some (.map (some (B + 1))) ∧ W.cell? ⟨w.heap.size, 0, none⟩ = some (.string path) ∧ W.cell? ⟨w.heap.size + 1 + 1, 0, none⟩ = some (.int .u64 (q1 : Nat)) ∧ W.cell? ⟨w.heap.size + 1 + 1, 1, none⟩ = some (.int .u64 (q2 : Nat))))
    have H5 := hide (HSg.out W5.drew hR5 u0 u2)
    have H6 := hide (HSg.out W6 hR6 v0 v2)
    have HP6 := hide hP6
    have HG6 := hide (hG5.trans (⟨hg6.os, hg6.tape, hg6.output, hg6.size, hg6.block⟩ : W5.grownBy W6 (some (B + 1))))
    have HV := hide (And.intro v1 v2)
    clear hP5 hP6 hR5 hR6 u0 u1 u2 v0 v1 v2 hg6 hG5 HSg HSf HDir HKeep
    go_region_held3 (fun w' => w'.cell? ⟨B + 2, 1, none⟩ = some (.map (some (B + 1))) ∧ w'.cell? ⟨w.heap.size, 0, none⟩ = some (.string path) ∧ w'.cell? ⟨w.heap.size + 1 + 1, 0, none⟩ = some (.int .u64 (q1 : Nat)) ∧ w'.cell? ⟨w.heap.size + 1 + 1, 1, none⟩ = some (.int .u64 (q2 : Nat))) (first | exact H5.out | exact H6.out) (fail)
    obtain ⟨v1, v2⟩ := HV.out
    have z0 : W6.frozen? ⟨w.heap.size + 1, 0, none⟩ = false := frozen_of_row _ _ _ _ _ v1
    have z1 : W6.frozen? ⟨w.heap.size + 1, 1, none⟩ = false := frozen_of_row _ _ _ _ _ v1
    have d0 : W6.cell? ⟨w.heap.size + 1, 0, none⟩ = some (.int .u64 0) := cell_of_row _ _ _ _ _ _ v1
    have d1 : W6.cell? ⟨w.heap.size + 1, 1, none⟩ = some (.int .u64 0) := cell_of_row _ _ _ _ _ _ v1
    have d2 : W6.cell? ⟨w.heap.size + 1 + 1, 0, none⟩ = some (.int .u64 (q1 : Nat)) := cell_of_row _ _ _ _ _ _ v2
    have d3 : W6.cell? ⟨w.heap.size + 1 + 1, 1, none⟩ = some (.int .u64 (q2 : Nat)) := cell_of_row _ _ _ _ _ _ v2
    clear hrun6 H5 H6
    go_wp2_with fail
    obtain ⟨W7, hW7, x1, hg7⟩ := set_pair W6 (w.heap.size + 1) _ _ (.int .u64 (q1 : Nat)) (.int .u64 (q2 : Nat)) _ v1
    have y0 := cell_of_row _ _ 0 _ _ _ x1
    have y1 := cell_of_row _ _ 1 _ _ _ x1
    have hP7 := HP6.out.over hg7 (by omega)
    have hG7 := grown_over HG6.out hg7 (by omega)
    rw [← hW7]
    refine bodyPost_ret (v := .agg #[.int .u64 (q1 : Nat), .int .u64 (q2 : Nat)]) (by simp [results, Tryd.results24, go_sem, y0, y1]) rfl ⟨rfl, hP7, hG7⟩
end Go.Proofs.YtbklgijndjpgoaaDoor
