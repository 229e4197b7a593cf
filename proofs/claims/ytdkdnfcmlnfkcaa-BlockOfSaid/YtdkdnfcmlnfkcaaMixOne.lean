/-
  mix.Start, closed.
-/
import Derived.Test.YtdkdnfcmlnfkcaaMixAlong
namespace Go.Proofs.Ytdkdnfcmlnfkcaa
open Go.RowKit
set_option maxRecDepth 100000

theorem row_words {W : World} {n : Nat} {l : List Nat} {t : TypeId} (h : W.heap[n]? = some (.cells (l.map (fun x => Value.int .u64 (x : Nat))).toArray t (0, 0))) : RdW W W.heap.size (some ⟨n, 0, none⟩) l := fun k x hx => by
  refine ⟨_, rfl, (Array.getElem?_eq_some_iff.1 h).1, ?_⟩
  have e : ((⟨n, 0, none⟩ : Addr).add k) = ⟨n, k, none⟩ := by unfold Addr.add; split <;> simp_all
  rw [e, cell_of_row _ _ _ _ _ _ h, List.getElem?_toArray, List.getElem?_map, hx]; rfl

set_option maxHeartbeats 1000000 in
theorem mixStart_any (w : World) : Calls Try.prog 141 #[] w fun e w' => e = .returned (stV startN) ∧ Below w.heap.size w w' := by
  go_enter Try.func141, Try.ntmps141
  go_wp2_with fail
  refine bodyPost_ret (v := .agg #[.int .u64 2611923443488327891, .int .u64 1376283091369227076]) (by simp [results, Try.results141, go_sem]) rfl ⟨rfl, (Below.refl _ w).alloc (Nat.le_refl _) _⟩

set_option maxHeartbeats 1000000 in
theorem closed_any (p : Nat × Nat) (n : Nat) (w : World) (hp : Two p) (hn : n ≤ 1000000) :
    Calls Try.prog 130 #[stV p, .int .i64 n] w fun e w' => e = .returned (stV (closedN p n)) ∧ Below w.heap.size w w' := by
  obtain ⟨r0, r1, hB⟩ := two_rows w #[.int .u64 (p.1 : Nat), .int .u64 (p.2 : Nat)] #[.int .u64 0, .int .u64 0] 152 28
  rw [show stV p = .agg #[.int .u64 (p.1 : Nat), .int .u64 (p.2 : Nat)] from rfl]
  have HA := hide (fun (W : World) (hR : RdW W W.heap.size (some ⟨w.heap.size + 2, 0, none⟩) [n, 18446744073709551615, 0, 0]) => (show Calls Try.prog 126 #[.agg #[.int .u64 (p.1 : Nat), .int .u64 (p.2 : Nat)], .func (.func 127) #[] #[], .slice (some ⟨w.heap.size + 2, 0, none⟩) 4 4] W (fun e w' => e = .returned (.agg #[.int .u64 ((closedN p n).1 : Nat), .int .u64 ((closedN p n).2 : Nat)]) ∧ Below W.heap.size W w') from along_round (some ⟨w.heap.size + 2, 0, none⟩) 4 [n, 18446744073709551615, 0, 0] p W hp (by simp; omega) hR (by simp)))
  have hz : ((w.alloc (.cells #[.int .u64 (p.1 : Nat), .int .u64 (p.2 : Nat)] 152)).alloc (.cells #[.int .u64 0, .int .u64 0] 28)).heap.size = w.heap.size + 2 := by simp
  show Calls _ _ _ _ fun e w' => e = .returned (.agg #[.int .u64 ((closedN p n).1 : Nat), .int .u64 ((closedN p n).2 : Nat)]) ∧ _
  generalize closedN p n = q at HA ⊢
  have hni : (n : Int) ≤ 1000000 := by omega
  go_enter Try.func130, Try.ntmps130
  go_wp2_with fail
  generalize ((w.alloc (.cells #[.int .u64 (p.1 : Nat), .int .u64 (p.2 : Nat)] 152)).alloc (.cells #[.int .u64 0, .int .u64 0] 28)) = w2 at r0 r1 hB hz ⊢
  have c0 : w2.cell? ⟨w.heap.size, 0, none⟩ = some (.int .u64 (p.1 : Nat)) := cell_of_row _ _ _ _ _ _ r0
  have c1 : w2.cell? ⟨w.heap.size, 1, none⟩ = some (.int .u64 (p.2 : Nat)) := cell_of_row _ _ _ _ _ _ r0
  go_wp2_with fail
  have hnew := World.alloc_heap_new w2 (Obj.cells #[.int .u64 (n : Nat), .int .u64 18446744073709551615, .int .u64 0, .int .u64 0] 26)
  rw [hz] at hnew
  have hB2 := hB.alloc hB.size (.cells #[.int .u64 (n : Nat), .int .u64 18446744073709551615, .int .u64 0, .int .u64 0] 26)
  have r2 : (w2.alloc (.cells #[.int .u64 (n : Nat), .int .u64 18446744073709551615, .int .u64 0, .int .u64 0] 26)).heap[w.heap.size + 1]? = some (.cells #[.int .u64 0, .int .u64 0] 28 (0, 0)) := by rw [Below.heap_alloc _ _ _ (by omega)]; exact r1
  refine (HA.out _ (row_words (l := [n, 18446744073709551615, 0, 0]) hnew)).mono ?_
  rintro e w3 ⟨rfl, hB3⟩
  have s1 := (hB3.block (w.heap.size + 1) (Array.getElem?_eq_some_iff.1 r2).1).trans r2
  have hBx := hB2.trans (hB3.mono hB2.size)
  clear r0 r1 hB hz c0 c1 HA hnew hB2 r2 hB3
  have d0 : w3.cell? ⟨w.heap.size + 1, 0, none⟩ = some (.int .u64 0) := cell_of_row _ _ _ _ _ _ s1
  have d1 : w3.cell? ⟨w.heap.size + 1, 1, none⟩ = some (.int .u64 0) := cell_of_row _ _ _ _ _ _ s1
  have z0 : w3.frozen? ⟨w.heap.size + 1, 0, none⟩ = false := frozen_of_row _ _ _ _ _ s1
  have z1 : w3.frozen? ⟨w.heap.size + 1, 1, none⟩ = false := frozen_of_row _ _ _ _ _ s1
  have HX := hide (set_two w w3 (w.heap.size + 1) _ _ (.int .u64 (q.1 : Nat)) (.int .u64 (q.2 : Nat)) _ s1 (by omega) hBx)
  clear s1 hBx
  go_wp2_with fail
  obtain ⟨y0, y1, hBf⟩ := HX.out
  refine bodyPost_ret (v := .agg #[.int .u64 (q.1 : Nat), .int .u64 (q.2 : Nat)]) (by simp [results, Try.results130, go_sem, y0, y1]) rfl ⟨rfl, hBf⟩
end Go.Proofs.Ytdkdnfcmlnfkcaa
