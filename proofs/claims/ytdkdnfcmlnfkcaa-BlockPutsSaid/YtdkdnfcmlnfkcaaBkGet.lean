/-
  A sign that stands where a reader does: block.readSign.
-/
import Derived.Test.YtdkdnfcmlnfkcaaBkMath
namespace Go.Proofs.Ytdkdnfcmlnfkcaa
open Go.RowKit
set_option maxRecDepth 100000

set_option maxHeartbeats 8000000 in
theorem readSign_any (b e : Nat) (l : List UInt8) (w : World) (h : IsR w b l e) (hl : l.length ≤ 1000000) :
    Calls Try.prog 111 #[.pointer (some ⟨b, 0, none⟩)] w fun en w' => en = .returned (.agg (readSg l e).1.cells) ∧ IsR w' b (readSg l e).2.1 (readSg l e).2.2 ∧ w.grownBy w' (some b) ∧ Below b w w' := by
  have hb := h.lt
  have hrow := World.alloc_heap_new w (Obj.cells #[.int .u32 0, .int .u64 0, .int .u64 0] 30)
  have hb0 : Below w.heap.size w (w.alloc (.cells #[.int .u32 0, .int .u64 0, .int .u64 0] 30)) := (Below.refl _ w).alloc (Nat.le_refl _) _
  have HI0 := hide (readNum_any b 4294967295 e l _ (h.keep (hb0.mono hb)) hl)
  have hlen := readN_len2 l e 4294967295
  have hle := readN_le l e 4294967295
  obtain ⟨K, HK⟩ : ∃ K, K = readSg l e := ⟨_, rfl⟩
  rw [← HK]
  unfold readSg at HK
  generalize readN l e 4294967295 = r at HI0 hlen hle HK
  obtain ⟨m, l1, e1⟩ := r
  simp only at HI0 hlen hle HK
  have HB0 := hide hb0
  have u1 : IntKind.u32.wrap (m : Int) = (m : Int) := by rw [IntKind.wrap_u32]; omega
  clear hb0 h
  have HT := hide (fun W (hI : IsR W b l1 e1) => readSum_any b e1 l1 W hI (by omega))
  subst HK
  simp only
  generalize readS l1 e1 = q at HT ⊢
  obtain ⟨⟨p1, p2⟩, l2, e2⟩ := q
  simp only [sumV] at HT ⊢
  go_enter Try.func111, Try.ntmps111
  go_wp2_with fail
  refine HI0.out.mono ?_
  rintro en w1 ⟨rfl, h2, h3, h4⟩
  have s1 := (h3.block w.heap.size (by simp) (fun e => by injection e; omega)).trans hrow
  have HG := hide (show w.grownBy w1 (some b) ∧ Below b w w1 from ⟨⟨h4.os.trans HB0.out.os, h4.tape.trans HB0.out.tape, h4.output.trans HB0.out.output, Nat.le_trans HB0.out.size h3.size, fun k hk hkb => (h3.block k (by simp; omega) hkb).trans (HB0.out.block k hk)⟩, (HB0.out.mono (Nat.le_of_lt hb)).trans h4⟩)
  have HT2 := hide (HT.out w1 h2)
  clear HI0 HT h2 h3 h4 HB0 hrow
  go_wp2_with fail
  refine HT2.out.mono ?_
  rintro en w2 ⟨rfl, h2, h3, h4⟩
  have s2 := (h3.block w.heap.size (Array.getElem?_eq_some_iff.1 s1).1 (fun e => by injection e; omega)).trans s1
  have HG2 := hide (show w.grownBy w2 (some b) ∧ Below b w w2 from ⟨grown_two HG.out.1 h3, HG.out.2.trans h4⟩)
  have HI2 := hide h2
  clear HT2 h2 h3 h4 HG s1
  have z0 : w2.frozen? ⟨w.heap.size, 0, none⟩ = false := frozen_of_row _ _ _ _ _ s2
  have z1 : w2.frozen? ⟨w.heap.size, 1, none⟩ = false := frozen_of_row _ _ _ _ _ s2
  have z2 : w2.frozen? ⟨w.heap.size, 2, none⟩ = false := frozen_of_row _ _ _ _ _ s2
  have k0 : w2.cell? ⟨w.heap.size, 0, none⟩ = some (.int .u32 0) := cell_of_row _ _ _ _ _ _ s2
  have k1 : w2.cell? ⟨w.heap.size, 1, none⟩ = some (.int .u64 0) := cell_of_row _ _ _ _ _ _ s2
  have k2 : w2.cell? ⟨w.heap.size, 2, none⟩ = some (.int .u64 0) := cell_of_row _ _ _ _ _ _ s2
  have HX := hide (row_sign w2 w.heap.size _ _ _ (.int .u32 (m : Nat)) (.int .u64 (p1 : Nat)) (.int .u64 (p2 : Nat)) _ s2)
  have HY := hide (three_keep HI2.out HG2.out.1 HG2.out.2 (Nat.le_refl _) hb (.int .u32 (m : Nat)) (.int .u64 (p1 : Nat)) (.int .u64 (p2 : Nat)))
  clear HG2 HI2 s2
  go_wp2_with fail
  obtain ⟨y0, y1, y2⟩ := HX.out
  refine bodyPost_ret (v := .agg #[.int .u32 (m : Nat), .int .u64 (p1 : Nat), .int .u64 (p2 : Nat)]) (by simp [results, Try.results111, go_sem, y0, y1, y2]) rfl ⟨rfl, HY.out⟩
end Go.Proofs.Ytdkdnfcmlnfkcaa
