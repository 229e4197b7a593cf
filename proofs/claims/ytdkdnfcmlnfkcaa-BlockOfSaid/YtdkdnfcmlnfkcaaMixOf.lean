/-
  mix.Of, mix.Words.
-/
import Derived.Test.YtdkdnfcmlnfkcaaMixWrite
namespace Go.Proofs.Ytdkdnfcmlnfkcaa
open Go.RowKit
set_option maxRecDepth 100000

set_option maxHeartbeats 2000000 in
theorem of_any (A : Option Addr) (l : List UInt8) (c : Nat) (w : World) (hR : RdB w w.heap.size A l) (hc : l.length ≤ c) (hl : l.length ≤ 1000000) :
    Calls Try.prog 70 #[.slice A l.length c] w fun e w' => e = .returned (stV (sumL l)) ∧ Below w.heap.size w w' := by
  obtain ⟨r0, r1, hB⟩ := two_rows w #[.int .u64 0, .int .u64 0] (hashRow (0, 0) (List.replicate 8 0) 0) 28 155
  have hS : ∀ W, IsH W (w.heap.size + 1) l → Calls Try.prog 106 #[.pointer (some ⟨w.heap.size + 1, 0, none⟩)] W fun e w' => e = .returned (stV (sumL l)) ∧ Below W.heap.size W w' := fun W h => hashSum_any _ l W h hl
  have HS := hide hS
  clear hS
  show Calls _ _ _ _ fun e w' => e = .returned (.agg #[.int .u64 ((sumL l).1 : Nat), .int .u64 ((sumL l).2 : Nat)]) ∧ _
  rw [show stV (sumL l) = .agg #[.int .u64 ((sumL l).1 : Nat), .int .u64 ((sumL l).2 : Nat)] from rfl] at HS
  generalize sumL l = q at HS ⊢
  have hI : IsH ((w.alloc (.cells #[.int .u64 0, .int .u64 0] 28)).alloc (.cells (hashRow (0, 0) (List.replicate 8 0) 0) 155)) (w.heap.size + 1) [] := ⟨(0, 0), ⟨by decide, by decide⟩, fun h => absurd rfl h, r1⟩
  have hW := write_any (w.heap.size + 1) [] A l c _ hI ((hR.below hB (Nat.le_refl _)).mono (Nat.le_succ _)) hc (by simpa using hl)
  have HW := hide hW
  clear hW hI r1
  go_enter Try.func70, Try.ntmps70
  go_wp2_with fail
  refine HW.out.mono ?_
  clear HW
  rintro e w2 ⟨rfl, hI2, hG2, hB2⟩
  have s1 := (hG2.block w.heap.size (by simp only [World.size_alloc]; omega) (by simp)).trans r0
  have hB3 := hB.trans (hB2.mono (by simp))
  clear hG2 hB2 hB r0
  go_wp2_with fail
  refine (HS.out w2 hI2.isH).mono ?_
  rintro e w3 ⟨rfl, hB4⟩
  have hB7 := hB3.trans (hB4.mono hB3.size)
  have s3 := (hB4.block w.heap.size (Array.getElem?_eq_some_iff.1 s1).1).trans s1
  clear hB3 hB4 s1
  have d0 : w3.cell? ⟨w.heap.size, 0, none⟩ = some (.int .u64 0) := cell_of_row _ _ _ _ _ _ s3
  have d1 : w3.cell? ⟨w.heap.size, 1, none⟩ = some (.int .u64 0) := cell_of_row _ _ _ _ _ _ s3
  have z0 : w3.frozen? ⟨w.heap.size, 0, none⟩ = false := frozen_of_row _ _ _ _ _ s3
  have z1 : w3.frozen? ⟨w.heap.size, 1, none⟩ = false := frozen_of_row _ _ _ _ _ s3
  have HX := hide (set_two w w3 w.heap.size _ _ (.int .u64 (q.1 : Nat)) (.int .u64 (q.2 : Nat)) _ s3 (Nat.le_refl _) hB7)
  clear s3 hB7
  go_wp2_with fail
  obtain ⟨y0, y1, hBf⟩ := HX.out
  refine bodyPost_ret (v := .agg #[.int .u64 (q.1 : Nat), .int .u64 (q.2 : Nat)]) (by simp [results, Try.results70, go_sem, y0, y1]) rfl ⟨rfl, hBf⟩
end Go.Proofs.Ytdkdnfcmlnfkcaa
