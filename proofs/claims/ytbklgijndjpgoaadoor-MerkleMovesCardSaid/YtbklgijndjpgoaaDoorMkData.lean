/-
  merkle.Data: the sum of a node's bytes (12.1).
-/
import Derived.Test.YtbklgijndjpgoaaDoorMkNodes
import Derived.Test.YtbklgijndjpgoaaDoorMkMixB
import Derived.Lib.ConvBytes
namespace Go.Proofs.YtbklgijndjpgoaaDoor
open Go.RowKit
set_option maxRecDepth 100000

set_option maxHeartbeats 4000000 in
theorem data_any (n : Nd) (w : World) (hd : (n.data.size : Int) ≤ 1000000) :
    Calls Tryd.prog 12 #[.agg n.cells] w fun e w' => e = .returned (stV (sumL (toL n.data))) ∧ Below w.heap.size w w' := by
  obtain ⟨path, kind, mode, time, data⟩ := n
  simp only at hd
  show Calls _ _ #[.agg #[.string path, .int .i64 kind, .int .i64 mode, .int .i64 time, .string data]] _ _
  obtain ⟨r0, r1, hB⟩ := two_rows w #[.string path, .int .i64 kind, .int .i64 mode, .int .i64 time, .string data] #[.int .u64 0, .int .u64 0] 34 28
  obtain ⟨hM, hBM⟩ := made_bytes ((w.alloc (.cells #[.string path, .int .i64 kind, .int .i64 mode, .int .i64 time, .string data] 34)).alloc (.cells #[.int .u64 0, .int .u64 0] 28)) data
  have hsl : (toL data).length = data.size := by simp [toL]
  have hrun := Lib.run_convert_string_bytes (P := Tryd.prog) ((w.alloc (.cells #[.string path, .int .i64 kind, .int .i64 mode, .int .i64 time, .string data] 34)).alloc (.cells #[.int .u64 0, .int .u64 0] 28)) 9 55 5 data Tryd.underlying9 Tryd.underlying55 Tryd.underlying5
  have c4 : ((w.alloc (.cells #[.string path, .int .i64 kind, .int .i64 mode, .int .i64 time, .string data] 34)).alloc (.cells #[.int .u64 0, .int .u64 0] 28)).cell? ⟨w.heap.size, 4, none⟩ = some (.string data) := cell_of_row _ _ _ _ _ _ r0
  have hsz : ((w.alloc (.cells #[.string path, .int .i64 kind, .int .i64 mode, .int .i64 time, .string data] 34)).alloc (.cells #[.int .u64 0, .int .u64 0] 28)).heap.size = w.heap.size + 1 + 1 := by simp
  have hcap : data.size ≤ grownCap ((w.alloc (.cells #[.string path, .int .i64 kind, .int .i64 mode, .int .i64 time, .string data] 34)).alloc (.cells #[.int .u64 0, .int .u64 0] 28)) data.size 0 5 := grownCap_ge _ _ _ _
  have hOf := of_any (some ⟨((w.alloc (.cells #[.string path, .int .i64 kind, .int .i64 mode, .int .i64 time, .string data] 34)).alloc (.cells #[.int .u64 0, .int .u64 0] 28)).heap.size, 0, none⟩) (toL data) (grownCap ((w.alloc (.cells #[.string path, .int .i64 kind, .int .i64 mode, .int .i64 time, .string data] 34)).alloc (.cells #[.int .u64 0, .int .u64 0] 28)) data.size 0 5) (Lib.bytesWorld ((w.alloc (.cells #[.string path, .int .i64 kind, .int .i64 mode, .int .i64 time, .string data] 34)).alloc (.cells #[.int .u64 0, .int .u64 0] 28)) 5 data) hM (by rw [hsl]; exact hcap) (by omega)
  rw [hsl] at hOf
  have q1 := (hBM.block (w.heap.size + 1) (by rw [hsz]; omega)).trans r1
  have hBw := hB.trans (hBM.mono hB.size)
  clear hM hBM hB r0 r1 hcap
  generalize Lib.bytesWorld ((w.alloc (.cells #[.string path, .int .i64 kind, .int .i64 mode, .int .i64 time, .string data] 34)).alloc (.cells #[.int .u64 0, .int .u64 0] 28)) 5 data = w2 at hrun hOf q1 hBw
  generalize grownCap ((w.alloc (.cells #[.string path, .int .i64 kind, .int .i64 mode, .int .i64 time, .string data] 34)).alloc (.cells #[.int .u64 0, .int .u64 0] 28)) data.size 0 5 = K at hrun hOf
  rw [hsz] at hOf hrun
  have HOf := hide hOf
  clear hOf hsz
  show Calls _ _ _ _ fun e w' => e = .returned (.agg #[.int .u64 ((sumL (toL data)).1 : Nat), .int .u64 ((sumL (toL data)).2 : Nat)]) ∧ _
  rw [show stV (sumL (toL data)) = .agg #[.int .u64 ((sumL (toL data)).1 : Nat), .int .u64 ((sumL (toL data)).2 : Nat)] from rfl] at HOf
  generalize sumL (toL data) = q at HOf ⊢
  go_enter Tryd.func12, Tryd.ntmps12
  go_wp2_with (go_at_call 27; refine HOf.out.mono ?_; rintro e w3 ⟨rfl, hB4⟩; have s3 := (hB4.block (w.heap.size + 1) (Array.getElem?_eq_some_iff.1 q1).1).trans q1; have z0 : w3.frozen? ⟨w.heap.size + 1, 0, none⟩ = false := frozen_of_row _ _ _ _ _ s3; have z1 : w3.frozen? ⟨w.heap.size + 1, 1, none⟩ = false := frozen_of_row _ _ _ _ _ s3; have d0 : w3.cell? ⟨w.heap.size + 1, 0, none⟩ = some (.int .u64 0) := cell_of_row _ _ _ _ _ _ s3; have d1 : w3.cell? ⟨w.heap.size + 1, 1, none⟩ = some (.int .u64 0) := cell_of_row _ _ _ _ _ _ s3)
  have hB7 := hBw.trans (hB4.mono hBw.size)
  obtain ⟨y0, y1, hBf⟩ := set_two w w3 (w.heap.size + 1) _ _ (.int .u64 (q.1 : Nat)) (.int .u64 (q.2 : Nat)) _ s3 (Nat.le_succ _) hB7
  refine bodyPost_ret (v := .agg #[.int .u64 (q.1 : Nat), .int .u64 (q.2 : Nat)]) (by simp [results, Tryd.results12, go_sem, y0, y1]) rfl ⟨rfl, hBf⟩
end Go.Proofs.YtbklgijndjpgoaaDoor
