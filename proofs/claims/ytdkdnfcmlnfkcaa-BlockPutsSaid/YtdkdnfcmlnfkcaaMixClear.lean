/-
  clear of a Hash's rest.
-/
import Derived.Test.YtdkdnfcmlnfkcaaMixSum
namespace Go.Proofs.Ytdkdnfcmlnfkcaa
open Go.RowKit
set_option maxRecDepth 100000

theorem wp_clear_run {P : Program} (w : World) {o : Oper} {a : Act} {K : Act → World → Prop} {Q : Exit → Act → World → Prop} (d : Operand) (t : TypeId)
    (ho : o.op = .call { callee := .builtin .clear, args := #[d], argTypes := #[t] }) (v : Value) (hd : a.eval d = v) {v' : Value} {w' : World}
    (hr : (Builtin.clear_ #[t] o.type #[v]).run P w = .ok v' w') (h : K (a.put o.dst v') w') : o.wp P a w K Q := by
  unfold Oper.wp execOp
  simp only [ho, resolve, invoke, builtin, Sem.run_bind, Sem.run_pure, Result.andThen_ok, List.map_toArray, List.map_cons, List.map_nil, hd, hr]
  exact h
theorem wpList_clear_run {P : Program} (w : World) {ops : Array Oper} {rest : List Oper} {o : Oper} {a : Act} {Q : Exit → Act → World → Prop} (hgd : o.guard = none) (d : Operand) (t : TypeId)
    (ho : o.op = .call { callee := .builtin .clear, args := #[d], argTypes := #[t] }) (v : Value) (hd : a.eval d = v) {v' : Value} {w' : World}
    (hr : (Builtin.clear_ #[t] o.type #[v]).run P w = .ok v' w') (h : wpList P ops Q rest (a.put o.dst v') w') : wpList P ops Q (o :: rest) a w :=
  wpList_plain hgd fun _ hK => wp_clear_run w d t ho v hd hr (hK _ _ h)

def clearW (W : World) (b : Nat) : World := W.setCells b 2 (List.replicate 8 (.int .u8 0))
set_option maxHeartbeats 1000000 in
theorem clear_any (W : World) (b n : Nat) (p : Nat × Nat) (x0 x1 x2 x3 x4 x5 x6 x7 : UInt8) (ty : TypeId) (h : W.heap[b]? = some (.cells (hashRow p [x0, x1, x2, x3, x4, x5, x6, x7] n) 155 (0, 0))) :
    (Builtin.clear_ #[22] ty #[.slice (some ⟨b, 2, none⟩) 8 8]).run Try.prog W = .ok (.tuple #[]) (clearW W b) ∧
      (clearW W b).heap[b]? = some (.cells (hashRow p (List.replicate 8 0) n) 155 (0, 0)) ∧ Below b W (clearW W b) ∧ (∀ i, i < W.heap.size → i ≠ b → (clearW W b).heap[i]? = W.heap[i]?) := by
  refine ⟨?_, ?_, ?_, ?_⟩
  · refine Lib.run_clear_slice W 22 5 ty (.int .u8 0) Try.underlying22 (fun w => Try.zeroValue5 w) rfl rfl b 2 8 8 (by decide) (fun j hj => ?_) (fun j _ => frozen_of_row _ _ _ _ _ h)
    have := hash_r h j ([x0, x1, x2, x3, x4, x5, x6, x7].getD j 0) (by
      have h8 : j < [x0, x1, x2, x3, x4, x5, x6, x7].length := hj
      rw [List.getD_eq_getElem?_getD, List.getElem?_eq_getElem h8]; rfl)
    rw [show 2 + j = j + 2 by omega, this]; rfl
  · have q2 := heap_setCell_same W b 2 _ _ (.int .u8 0) h
    have q3 := heap_setCell_same _ b 3 _ _ (.int .u8 0) q2
    have q4 := heap_setCell_same _ b 4 _ _ (.int .u8 0) q3
    have q5 := heap_setCell_same _ b 5 _ _ (.int .u8 0) q4
    have q6 := heap_setCell_same _ b 6 _ _ (.int .u8 0) q5
    have q7 := heap_setCell_same _ b 7 _ _ (.int .u8 0) q6
    have q8 := heap_setCell_same _ b 8 _ _ (.int .u8 0) q7
    have q9 := heap_setCell_same _ b 9 _ _ (.int .u8 0) q8
    simp only [hashRow, List.map_cons, List.map_nil, List.cons_append, List.nil_append, List.setIfInBounds_toArray, List.set_cons_succ, List.set_cons_zero] at q9
    exact q9
  · unfold clearW
    exact ((((((((Below.refl b W).setCell (p := ⟨b, 2, none⟩) (Nat.le_refl _) _).setCell (p := ⟨b, 3, none⟩) (Nat.le_refl _) _).setCell (p := ⟨b, 4, none⟩) (Nat.le_refl _) _).setCell (p := ⟨b, 5, none⟩) (Nat.le_refl _) _).setCell (p := ⟨b, 6, none⟩) (Nat.le_refl _) _).setCell (p := ⟨b, 7, none⟩) (Nat.le_refl _) _).setCell (p := ⟨b, 8, none⟩) (Nat.le_refl _) _).setCell (p := ⟨b, 9, none⟩) (Nat.le_refl _) _
  · intro i _ hne
    show ((((((((W.setCell ⟨b, 2, none⟩ _).setCell ⟨b, 3, none⟩ _).setCell ⟨b, 4, none⟩ _).setCell ⟨b, 5, none⟩ _).setCell ⟨b, 6, none⟩ _).setCell ⟨b, 7, none⟩ _).setCell ⟨b, 8, none⟩ _).setCell ⟨b, 9, none⟩ _).heap[i]? = _
    rw [Below.heap_setCell _ _ _ _ (by simpa using hne), Below.heap_setCell _ _ _ _ (by simpa using hne), Below.heap_setCell _ _ _ _ (by simpa using hne), Below.heap_setCell _ _ _ _ (by simpa using hne), Below.heap_setCell _ _ _ _ (by simpa using hne), Below.heap_setCell _ _ _ _ (by simpa using hne), Below.heap_setCell _ _ _ _ (by simpa using hne), Below.heap_setCell _ _ _ _ (by simpa using hne)]
end Go.Proofs.Ytdkdnfcmlnfkcaa
