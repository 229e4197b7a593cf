/-
  merkle: of at a directory whose print is kept.
-/
import Derived.Test.YtbklgijndjpgoaaDoorMkOf
namespace Go.Proofs.YtbklgijndjpgoaaDoor
open Go.RowKit
set_option maxRecDepth 100000

set_option maxHeartbeats 16000000 in
theorem of_kept (B M : Nat) (t : List Nd) (n : Nd) (w : World) (hk : (n.kind == 1) = true) (h : PrOk w B t M)
    (hl : ∀ W', w.grownBy W' none → (Instr.lookup 68 (.map (some (B + 1))) (.string n.path) true).run Tryd.prog W' = .ok (.tuple #[.agg #[.int .u64 ((sumL (dirT t n.path)).1 : Nat), .int .u64 ((sumL (dirT t n.path)).2 : Nat)], .bool true]) W') :
    Calls Tryd.prog 24 #[.pointer (some ⟨B + 2, 0, none⟩), .agg n.cells] w (PrPost w B M t (sumL (dirT t n.path))) := by
  obtain ⟨path, kind, mode, time, data⟩ := n
  simp only at hk hl ⊢
  show Calls _ _ #[_, .agg #[.string path, .int .i64 kind, .int .i64 mode, .int .i64 time, .string data]] _ _
  generalize sumL (dirT t path) = q at hl ⊢
  obtain ⟨q1, q2⟩ := q
  simp only at hl
  obtain ⟨a, ha⟩ : ∃ a, a = Value.int .u64 (q1 : Nat) := ⟨_, rfl⟩
  obtain ⟨b, hb⟩ : ∃ b, b = Value.int .u64 (q2 : Nat) := ⟨_, rfl⟩
  rw [← ha, ← hb] at hl
  show Calls _ _ _ _ fun e w' => e = .returned (.agg #[.int .u64 (q1 : Nat), .int .u64 (q2 : Nat)]) ∧ PrOk w' B t M ∧ w.grownBy w' (some (B + 1))
  rw [← ha, ← hb]
  obtain ⟨r0, r1, hB⟩ := two_rows w #[.string path, .int .i64 kind, .int .i64 mode, .int .i64 time, .string data] #[.int .u64 0, .int .u64 0] 34 28
  have H := hide h
  have hlt := h.lt
  have hg1 := grownBy_below hB
  have hX0 : ((w.alloc (.cells #[.string path, .int .i64 kind, .int .i64 mode, .int .i64 time, .string data] 34)).alloc (.cells #[.int .u64 0, .int .u64 0] 28)).heap.size = w.heap.size + 1 + 1 := by simp
  clear h
  have c1 := cell_of_row _ _ 1 _ _ _ r0
  go_enter Tryd.func24, Tryd.ntmps24
  go_wp2_with fail
  generalize (w.alloc (.cells #[.string path, .int .i64 kind, .int .i64 mode, .int .i64 time, .string data] 34)).alloc (.cells #[.int .u64 0, .int .u64 0] 28) = X1 at r0 r1 hB hg1 hX0 c1 ⊢
  clear c1
  have HR := hide (H.out.step hg1).row
  have e1 := hl _ (hg1.trans (grownBy_below (Below.refl _ _).drew))
  have e2 := hl _ ((hg1.trans (World.grownBy_alloc _ (.cells #[.int .u64 0, .int .u64 0] 28) none)).trans (grownBy_below (Below.refl _ _).drew))
  have HSf := hide (fun (W : World) (h1 : W.heap[B + 2]? = some (.cells #[.map (some B), .map (some (B + 1))] 70 (0, 0))) (h2 : W.heap[w.heap.size]? = some (.cells #[.string path, .int .i64 kind, .int .i64 mode, .int .i64 time, .string data] 34 (0, 0))) =>
    (⟨cell_of_row _ _ _ _ _ _ h1, cell_of_row _ _ _ _ _ _ h2⟩ : W.cell? ⟨B + 2, 1, none⟩ = some (.map (some (B + 1))) ∧ W.cell? ⟨w.heap.size, 0, none⟩ = some (.string path)))
  have HR0 := hide r0
  have HA1 := hide (fun o => (Below.heap_alloc X1 o _ (by omega)).trans HR.out)
  have HA0 := hide (fun o => (Below.heap_alloc X1 o _ (by omega)).trans HR0.out)
  have HB := hide hB
  have HR1 := hide r1
  clear r0 r1 hB hg1 hl
  go_region_held3 (fun w' => w'.cell? ⟨B + 2, 1, none⟩ = some (.map (some (B + 1))) ∧ w'.cell? ⟨w.heap.size, 0, none⟩ = some (.string path)) (first | exact HSf.out _ HR.out HR0.out | exact HSf.out _ (HA1.out _) (HA0.out _)) (fail)
  all_goals
    have s1 := (Below.heap_alloc X1 (.cells #[.int .u64 (q1 : Nat), .int .u64 (q2 : Nat)] 28) _ (by omega)).trans HR1.out
    have s2 := World.alloc_heap_new X1 (Obj.cells #[.int .u64 (q1 : Nat), .int .u64 (q2 : Nat)] 28)
    have hBX := (HB.out.alloc HB.out.size (.cells #[.int .u64 (q1 : Nat), .int .u64 (q2 : Nat)] 28)).drew
    rw [hX0] at s2
    clear e1 e2 HSf HR0 HA1 HA0 HR HR1 HB hX0
    change (X1.alloc (.cells #[.int .u64 (q1 : Nat), .int .u64 (q2 : Nat)] 28)).drew.heap[w.heap.size + 1]? = some (.cells #[.int .u64 0, .int .u64 0] 28 (0, 0)) at s1
    change (X1.alloc (.cells #[.int .u64 (q1 : Nat), .int .u64 (q2 : Nat)] 28)).drew.heap[w.heap.size + 1 + 1]? = some (.cells #[.int .u64 (q1 : Nat), .int .u64 (q2 : Nat)] 28 (0, 0)) at s2
    generalize (X1.alloc (.cells #[.int .u64 (q1 : Nat), .int .u64 (q2 : Nat)] 28)).drew = X at s1 s2 hBX ⊢
    have z0 : X.frozen? ⟨w.heap.size + 1, 0, none⟩ = false := frozen_of_row _ _ _ _ _ s1
    have z1 : X.frozen? ⟨w.heap.size + 1, 1, none⟩ = false := frozen_of_row _ _ _ _ _ s1
    have d0 : X.cell? ⟨w.heap.size + 1, 0, none⟩ = some (.int .u64 0) := cell_of_row _ _ _ _ _ _ s1
    have d1 : X.cell? ⟨w.heap.size + 1, 1, none⟩ = some (.int .u64 0) := cell_of_row _ _ _ _ _ _ s1
    have d2 : X.cell? ⟨w.heap.size + 1 + 1, 0, none⟩ = some (.int .u64 (q1 : Nat)) := cell_of_row _ _ _ _ _ _ s2
    have d3 : X.cell? ⟨w.heap.size + 1 + 1, 1, none⟩ = some (.int .u64 (q2 : Nat)) := cell_of_row _ _ _ _ _ _ s2
    go_wp2_with fail
    obtain ⟨y0, y1, hBf⟩ := set_two w X (w.heap.size + 1) _ _ (.int .u64 (q1 : Nat)) (.int .u64 (q2 : Nat)) _ s1 (Nat.le_succ _) hBX
    have hgf := grownBy_below hBf
    refine bodyPost_ret (v := .agg #[.int .u64 (q1 : Nat), .int .u64 (q2 : Nat)]) (by simp [results, Tryd.results24, go_sem, y0, y1]) rfl ⟨by rw [ha, hb], H.out.step hgf, grown_any hgf _⟩
end Go.Proofs.YtbklgijndjpgoaaDoor
