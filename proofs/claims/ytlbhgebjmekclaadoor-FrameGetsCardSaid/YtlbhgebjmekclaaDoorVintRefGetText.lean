/-
  The reference's reader: GetText.
-/
import Derived.Test.YtlbhgebjmekclaaDoorVintRefEnd
import Derived.Deep.RegionWith
namespace Go.Proofs.YtlbhgebjmekclaaDoor
open Go.RowKit
set_option maxRecDepth 100000

set_option maxHeartbeats 4000000 in
theorem getText_any (l : List UInt8) (e : Nat) (most : Int) (w : World) (hl : l.length ≤ 1000000) (hm : most ≤ 9223372036854775807) :
    Calls Tryd.prog 32 #[refR l e, .int .i64 most] w fun en w' => en = .returned (.tuple #[refR (readT l e most.toNat).2.1 (readT l e most.toNat).2.2, .string (ofL (readT l e most.toNat).1)]) ∧ Below w.heap.size w w' := by
  have hG := fun W => getInt_any l e most W hl hm
  have hle := readN_le l e most.toNat
  have hlen := readN_len2 l e most.toNat
  obtain ⟨s, hs⟩ := refR_two l e
  rw [hs] at hG
  rw [hs]
  unfold readT
  generalize readN l e most.toNat = r at hG hle hlen ⊢
  obtain ⟨n, l', e'⟩ := r
  simp only at hG hle hlen
  clear hs
  have hr : (n : Int) ≤ 9223372036854775807 := by omega
  obtain ⟨_, r1, hB⟩ := new_rows w #[.string s, .int .i64 (e : Nat)] #[.string ⟨#[]⟩, .int .i64 0] 60 60
  have hz : ((w.alloc (.cells #[.string s, .int .i64 (e : Nat)] 60)).alloc (.cells #[.string ⟨#[]⟩, .int .i64 0] 60)).heap.size = w.heap.size + 2 := by simp
  have HG := hide (hG ((w.alloc (.cells #[.string s, .int .i64 (e : Nat)] 60)).alloc (.cells #[.string ⟨#[]⟩, .int .i64 0] 60)))
  clear hG
  go_enter Tryd.func32, Tryd.ntmps32
  go_wp2_with fail
  refine HG.out.mono ?_
  rintro en w3 ⟨rfl, hB3⟩
  have hBx := hB.trans (hB3.mono (by omega))
  have i0 := (hB3.block (w.heap.size + 1) (by omega)).trans r1
  have hlt3 : w.heap.size + 1 < w3.heap.size := (Array.getElem?_eq_some_iff.1 i0).1
  clear HG hB3 r1 hB hz
  have d0 : w3.cell? ⟨w.heap.size + 1, 0, none⟩ = some (.string ⟨#[]⟩) := cell_of_row _ _ _ _ _ _ i0
  have d1 : w3.cell? ⟨w.heap.size + 1, 1, none⟩ = some (.int .i64 0) := cell_of_row _ _ _ _ _ _ i0
  have z0 : w3.frozen? ⟨w.heap.size + 1, 0, none⟩ = false := frozen_of_row _ _ _ _ _ i0
  have z1 : w3.frozen? ⟨w.heap.size + 1, 1, none⟩ = false := frozen_of_row _ _ _ _ _ i0
  by_cases he : e' = 0
  · subst he
    have hsz := ofL_size l'
    rw [refR_ok]
    by_cases hs : l'.length < n
    · have HN := hide (show textOf (n, l', 0) = ([], l', 4) by unfold textOf; rw [if_neg (by simp), if_pos hs])
      have q0 : ((ofL l').size : Int) < n := by omega
      go_wp2_with fail
      refine (fail_any _ _ _ _).mono ?_
      rintro en w4 ⟨rfl, hB4⟩
      have i1 : (w3.alloc (.cells #[.string (ofL l'), .int .i64 0] 60)).heap[w.heap.size + 1]? = some (.cells #[.string ⟨#[]⟩, .int .i64 0] 60 (0, 0)) := by rw [Below.heap_alloc _ _ _ hlt3]; exact i0
      have i2 := (hB4.block (w.heap.size + 1) (Array.getElem?_eq_some_iff.1 i1).1).trans i1
      have hBy := (hBx.alloc hBx.size (.cells #[.string (ofL l'), .int .i64 0] 60)).trans (hB4.mono (hBx.alloc hBx.size _).size)
      clear d0 d1 z0 z1 hB4 i1 i0 hBx
      have d0 : w4.cell? ⟨w.heap.size + 1, 0, none⟩ = some (.string ⟨#[]⟩) := cell_of_row _ _ _ _ _ _ i2
      have d1 : w4.cell? ⟨w.heap.size + 1, 1, none⟩ = some (.int .i64 0) := cell_of_row _ _ _ _ _ _ i2
      have z0 : w4.frozen? ⟨w.heap.size + 1, 0, none⟩ = false := frozen_of_row _ _ _ _ _ i2
      have z1 : w4.frozen? ⟨w.heap.size + 1, 1, none⟩ = false := frozen_of_row _ _ _ _ _ i2
      have HX := hide (ref_end w w4 (w.heap.size + 1) _ _ (.string ⟨#[]⟩) (.int .i64 4) _ i2 (by omega) hBy)
      clear i2 hBy
      go_wp2_with fail
      obtain ⟨y0, y1, hBf⟩ := HX.out
      refine bodyPost_ret (v := .tuple #[.agg #[.string ⟨#[]⟩, .int .i64 4], .string ⟨#[]⟩]) (by simp [results, Tryd.results32, go_sem, y0, y1]) rfl ⟨by rw [HN.out]; rfl, hBf⟩
    · have HN := hide (show textOf (n, l', 0) = (l'.take n, l'.drop n, 0) by unfold textOf; rw [if_neg (by simp), if_neg hs])
      have q0 : (n : Int) ≤ ((ofL l').size : Nat) := by omega
      go_wp2_with fail
      have i9 : w3.drew.heap[w.heap.size + 1]? = some (.cells #[.string ⟨#[]⟩, .int .i64 0] 60 (0, 0)) := i0
      have HX := hide (ref_end_alloc w w3.drew (w.heap.size + 1) _ _ (.string ((ofL l').extract n l'.length)) (.int .i64 0) _ (.cells #[.string (ofL l'), .int .i64 0] 60) i9 (by omega) hBx.drew)
      have ex0 : (ofL l').extract 0 n = ofL (l'.take n) := by
        apply toL_inj
        simp [toL, ofL]
      have HE := hide ex0
      have HY := hide (ref_end_alloc w w3 (w.heap.size + 1) _ _ (.string ((ofL l').extract n l'.length)) (.int .i64 0) _ (.cells #[.string (ofL l'), .int .i64 0] 60) i0 (by omega) hBx)
      clear i9 ex0 hBx i0
      go_region_with (fail)
      all_goals
        go_wp2_with fail
        obtain ⟨y0, y1, _⟩ := HY.out
        obtain ⟨_, _, hBf⟩ := HX.out
        refine bodyPost_ret (v := .tuple #[.agg #[.string ((ofL l').extract n l'.length), .int .i64 0], .string ((ofL l').extract 0 n)]) (by simp [results, Tryd.results32, go_sem, y0, y1]) rfl ⟨by rw [HN.out, HE.out, ofL_extract]; rfl, hBf⟩
  · have HN := hide (show textOf (n, l', e') = ([], l', e') by unfold textOf; rw [if_pos he])
    have E1 : ((e' : Int) != 0) = true := by rw [bne_iff_ne]; omega
    have HX := hide (ref_end_alloc w w3 (w.heap.size + 1) _ _ (.string ⟨#[]⟩) (.int .i64 (e' : Nat)) _ (.cells #[.string ⟨#[]⟩, .int .i64 (e' : Nat)] 60) i0 (by omega) hBx)
    have HR := hide (refR_err l' e' he)
    rw [HR.out]
    clear he i0 hBx
    go_wp2_with fail
    obtain ⟨y0, y1, hBf⟩ := HX.out
    refine bodyPost_ret (v := .tuple #[.agg #[.string ⟨#[]⟩, .int .i64 (e' : Nat)], .string ⟨#[]⟩]) (by simp [results, Tryd.results32, go_sem, y0, y1]) rfl ⟨by rw [HN.out]; show _ = Ending.returned (.tuple #[refR l' e', .string (ofL [])]); rw [HR.out]; rfl, hBf⟩
end Go.Proofs.YtlbhgebjmekclaaDoor
