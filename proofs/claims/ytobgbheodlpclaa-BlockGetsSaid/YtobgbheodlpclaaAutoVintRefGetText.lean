/-
  Texts that belong together: VintRefInt, VintRefEnd, VintRefGetText.
-/
import Derived.Test.YtobgbheodlpclaaVintRefGet
import Derived.Deep.RegionWith
/-
  The reference's reader: GetInt.
-/
namespace Go.Proofs.Ytobgbheodlpclaa
open Go.RowKit
set_option maxRecDepth 100000

theorem get_any (l : List UInt8) (e most : Nat) (w : World) (hl : l.length ≤ 1000000) :
    Calls Try.prog 82 #[refR l e, .int .u64 most] w fun en w' => en = .returned (.tuple #[refR (readN l e most).2.1 (readN l e most).2.2, .int .u64 ((readN l e most).1 : Nat)]) ∧ Below w.heap.size w w' := by
  by_cases h : e = 0
  · subst h; exact get_ok l most w hl
  · have hN : readN l e most = (0, l, e) := by unfold readN; rw [if_pos h]
    rw [hN]
    exact get_err l e most w h
theorem refR_two (l : List UInt8) (e : Nat) : ∃ s : ByteArray, refR l e = .agg #[.string s, .int .i64 (e : Nat)] := ⟨_, rfl⟩

theorem ref_end_alloc (w w3 : World) (n : Nat) (a b x y : Value) (t : TypeId) (o : Obj) (h : w3.heap[n]? = some (.cells #[a, b] t (0, 0))) (hn : w.heap.size ≤ n) (hB : Below w.heap.size w w3) :
    (((w3.setCell ⟨n, 0, none⟩ x).setCell ⟨n, 1, none⟩ y).alloc o).cell? ⟨n, 0, none⟩ = some x ∧ (((w3.setCell ⟨n, 0, none⟩ x).setCell ⟨n, 1, none⟩ y).alloc o).cell? ⟨n, 1, none⟩ = some y ∧ Below w.heap.size w (((w3.setCell ⟨n, 0, none⟩ x).setCell ⟨n, 1, none⟩ y).alloc o) := by
  have hfin := heap_setCell_same _ n 1 _ _ y (heap_setCell_same w3 n 0 _ _ x h)
  have hlt := (Array.getElem?_eq_some_iff.1 hfin).1
  obtain ⟨y0, y1, hb⟩ := ref_end w w3 n a b x y t h hn hB
  exact ⟨(((Below.refl _ _).alloc (Nat.le_refl _) o).cell hlt).trans y0, (((Below.refl _ _).alloc (Nat.le_refl _) o).cell hlt).trans y1, hb.alloc hb.size o⟩
set_option maxHeartbeats 2000000 in
theorem getInt_any (l : List UInt8) (e : Nat) (most : Int) (w : World) (hl : l.length ≤ 1000000) (hm : most ≤ 9223372036854775807) :
    Calls Try.prog 81 #[refR l e, .int .i64 most] w fun en w' => en = .returned (.tuple #[refR (readN l e most.toNat).2.1 (readN l e most.toNat).2.2, .int .i64 ((readN l e most.toNat).1 : Nat)]) ∧ Below w.heap.size w w' := by
  have hG := fun W => get_any l e most.toNat W hl
  have hle := readN_le l e most.toNat
  obtain ⟨s, hs⟩ := refR_two l e
  obtain ⟨s2, hs2⟩ := refR_two (readN l e most.toNat).2.1 (readN l e most.toNat).2.2
  rw [hs, hs2] at hG
  rw [hs, hs2]
  generalize readN l e most.toNat = r at hG hle ⊢
  obtain ⟨n, l', e'⟩ := r
  simp only at hG hle ⊢
  clear hs hs2
  have hr : (n : Int) ≤ 9223372036854775807 := by omega
  obtain ⟨_, r1, hB⟩ := new_rows w #[.string s, .int .i64 (e : Nat)] #[.string ⟨#[]⟩, .int .i64 0] 122 122
  have hz : ((w.alloc (.cells #[.string s, .int .i64 (e : Nat)] 122)).alloc (.cells #[.string ⟨#[]⟩, .int .i64 0] 122)).heap.size = w.heap.size + 2 := by simp
  have HG := hide (hG ((w.alloc (.cells #[.string s, .int .i64 (e : Nat)] 122)).alloc (.cells #[.string ⟨#[]⟩, .int .i64 0] 122)))
  clear hG
  by_cases h0 : most < 0
  · have h1 : most.toNat = 0 := by omega
    rw [h1] at HG
    go_enter Try.func81, Try.ntmps81
    go_wp2_with fail
    refine HG.out.mono ?_
    rintro en w3 ⟨rfl, hB3⟩
    have hBx := hB.trans (hB3.mono (by omega))
    have i0 := (hB3.block (w.heap.size + 1) (by omega)).trans r1
    have hlt3 : w.heap.size + 1 < w3.heap.size := (Array.getElem?_eq_some_iff.1 i0).1
    have d0 : w3.cell? ⟨w.heap.size + 1, 0, none⟩ = some (.string ⟨#[]⟩) := cell_of_row _ _ _ _ _ _ i0
    have d1 : w3.cell? ⟨w.heap.size + 1, 1, none⟩ = some (.int .i64 0) := cell_of_row _ _ _ _ _ _ i0
    have z0 : w3.frozen? ⟨w.heap.size + 1, 0, none⟩ = false := frozen_of_row _ _ _ _ _ i0
    have z1 : w3.frozen? ⟨w.heap.size + 1, 1, none⟩ = false := frozen_of_row _ _ _ _ _ i0
    have HX := hide (ref_end_alloc w w3 (w.heap.size + 1) _ _ (.string s2) (.int .i64 (e' : Nat)) _ (.cells #[.string s2, .int .i64 (e' : Nat)] 122) i0 (by omega) hBx)
    clear i0 hBx hB3 r1 hB HG hz
    go_wp2_with fail
    obtain ⟨y0, y1, hBf⟩ := HX.out
    refine bodyPost_ret (v := .tuple #[.agg #[.string s2, .int .i64 (e' : Nat)], .int .i64 (n : Nat)]) (by simp [results, Try.results81, go_sem, y0, y1]) rfl ⟨rfl, hBf⟩
  · have h1 : ((most.toNat : Nat) : Int) = most := by omega
    rw [h1] at HG
    go_enter Try.func81, Try.ntmps81
    go_wp2_with fail
    refine HG.out.mono ?_
    rintro en w3 ⟨rfl, hB3⟩
    have hBx := hB.trans (hB3.mono (by omega))
    have i0 := (hB3.block (w.heap.size + 1) (by omega)).trans r1
    have hlt3 : w.heap.size + 1 < w3.heap.size := (Array.getElem?_eq_some_iff.1 i0).1
    have d0 : w3.cell? ⟨w.heap.size + 1, 0, none⟩ = some (.string ⟨#[]⟩) := cell_of_row _ _ _ _ _ _ i0
    have d1 : w3.cell? ⟨w.heap.size + 1, 1, none⟩ = some (.int .i64 0) := cell_of_row _ _ _ _ _ _ i0
    have z0 : w3.frozen? ⟨w.heap.size + 1, 0, none⟩ = false := frozen_of_row _ _ _ _ _ i0
    have z1 : w3.frozen? ⟨w.heap.size + 1, 1, none⟩ = false := frozen_of_row _ _ _ _ _ i0
    have HX := hide (ref_end_alloc w w3 (w.heap.size + 1) _ _ (.string s2) (.int .i64 (e' : Nat)) _ (.cells #[.string s2, .int .i64 (e' : Nat)] 122) i0 (by omega) hBx)
    clear i0 hBx hB3 r1 hB HG hz
    go_wp2_with fail
    obtain ⟨y0, y1, hBf⟩ := HX.out
    refine bodyPost_ret (v := .tuple #[.agg #[.string s2, .int .i64 (e' : Nat)], .int .i64 (n : Nat)]) (by simp [results, Try.results81, go_sem, y0, y1]) rfl ⟨rfl, hBf⟩
end Go.Proofs.Ytobgbheodlpclaa
/-
  The reference's reader: End.
-/
namespace Go.Proofs.Ytobgbheodlpclaa
open Go.RowKit
set_option maxRecDepth 100000

set_option maxHeartbeats 1000000 in
theorem refEnd_any (l : List UInt8) (e : Nat) (w : World) :
    Calls Try.prog 84 #[refR l e] w fun en w' => en = .returned (.int .i64 ((endN e l : Nat) : Int)) ∧ Below w.heap.size w w' := by
  by_cases he : e = 0
  · subst he
    have hsz := ofL_size l
    have hB : Below w.heap.size w (w.alloc (.cells #[.string (ofL l), .int .i64 0] 122)) := (Below.refl _ w).alloc (Nat.le_refl _) _
    rw [refR_ok]
    by_cases h0 : l.length = 0
    · have HE := hide (show endN 0 l = 0 by unfold endN; rw [if_neg (by simp), if_pos h0])
      have q0 : ¬ (0 : Int) < ((ofL l).size : Nat) := by omega
      go_enter Try.func84, Try.ntmps84
      clear h0 hsz
      go_wp2_with fail
      refine bodyPost_ret (results_tmp rfl _ _ _) rfl ⟨by rw [HE.out]; rfl, hB⟩
    · have HE := hide (show endN 0 l = 5 by unfold endN; rw [if_neg (by simp), if_neg h0])
      have q0 : (0 : Int) < ((ofL l).size : Nat) := by omega
      go_enter Try.func84, Try.ntmps84
      clear h0 hsz
      go_wp2_with fail
      refine bodyPost_ret (results_tmp rfl _ _ _) rfl ⟨by rw [HE.out]; rfl, hB⟩
  · have HE := hide (show endN e l = e by unfold endN; rw [if_pos he])
    have E0 : ((e : Int) == 0) = false := by rw [beq_eq_false_iff_ne]; omega
    have hB : Below w.heap.size w (w.alloc (.cells #[.string ⟨#[]⟩, .int .i64 (e : Nat)] 122)) := (Below.refl _ w).alloc (Nat.le_refl _) _
    rw [refR_err l e he]
    clear he
    go_enter Try.func84, Try.ntmps84
    go_wp2_with fail
    refine bodyPost_ret (results_tmp rfl _ _ _) rfl ⟨by rw [HE.out]; rfl, hB⟩
end Go.Proofs.Ytobgbheodlpclaa
/-
  The reference's reader: GetText.
-/
namespace Go.Proofs.Ytobgbheodlpclaa
open Go.RowKit
set_option maxRecDepth 100000

set_option maxHeartbeats 4000000 in
theorem getText_any (l : List UInt8) (e : Nat) (most : Int) (w : World) (hl : l.length ≤ 1000000) (hm : most ≤ 9223372036854775807) :
    Calls Try.prog 91 #[refR l e, .int .i64 most] w fun en w' => en = .returned (.tuple #[refR (readT l e most.toNat).2.1 (readT l e most.toNat).2.2, .string (ofL (readT l e most.toNat).1)]) ∧ Below w.heap.size w w' := by
  have hG := fun W => getInt_any l e most W hl hm
  have hle := readN_le l e most.toNat
  have hlen := readN_len2 l e most.toNat
  obtain ⟨s, hs⟩ := refR_two l e
  rw [hs] at hG
  rw [hs]
  unfold readT
  generalize readN l e most.toNat = r at hG hle hlen ⊢
  obtain ⟨n, l', e'⟩ := r
  simp only at hG hle hlen
  clear hs
  have hr : (n : Int) ≤ 9223372036854775807 := by omega
  obtain ⟨_, r1, hB⟩ := new_rows w #[.string s, .int .i64 (e : Nat)] #[.string ⟨#[]⟩, .int .i64 0] 122 122
  have hz : ((w.alloc (.cells #[.string s, .int .i64 (e : Nat)] 122)).alloc (.cells #[.string ⟨#[]⟩, .int .i64 0] 122)).heap.size = w.heap.size + 2 := by simp
  have HG := hide (hG ((w.alloc (.cells #[.string s, .int .i64 (e : Nat)] 122)).alloc (.cells #[.string ⟨#[]⟩, .int .i64 0] 122)))
  clear hG
  go_enter Try.func91, Try.ntmps91
  go_wp2_with fail
  refine HG.out.mono ?_
  rintro en w3 ⟨rfl, hB3⟩
  have hBx := hB.trans (hB3.mono (by omega))
  have i0 := (hB3.block (w.heap.size + 1) (by omega)).trans r1
  have hlt3 : w.heap.size + 1 < w3.heap.size := (Array.getElem?_eq_some_iff.1 i0).1
  clear HG hB3 r1 hB hz
  have d0 : w3.cell? ⟨w.heap.size + 1, 0, none⟩ = some (.string ⟨#[]⟩) := cell_of_row _ _ _ _ _ _ i0
  have d1 : w3.cell? ⟨w.heap.size + 1, 1, none⟩ = some (.int .i64 0) := cell_of_row _ _ _ _ _ _ i0
  have z0 : w3.frozen? ⟨w.heap.size + 1, 0, none⟩ = false := frozen_of_row _ _ _ _ _ i0
  have z1 : w3.frozen? ⟨w.heap.size + 1, 1, none⟩ = false := frozen_of_row _ _ _ _ _ i0
  by_cases he : e' = 0
  · subst he
    have hsz := ofL_size l'
    rw [refR_ok]
    by_cases hs : l'.length < n
    · have HN := hide (show textOf (n, l', 0) = ([], l', 4) by unfold textOf; rw [if_neg (by simp), if_pos hs])
      have q0 : ((ofL l').size : Int) < n := by omega
      go_wp2_with fail
      refine (fail_any _ _ _ _).mono ?_
      rintro en w4 ⟨rfl, hB4⟩
      have i1 : (w3.alloc (.cells #[.string (ofL l'), .int .i64 0] 122)).heap[w.heap.size + 1]? = some (.cells #[.string ⟨#[]⟩, .int .i64 0] 122 (0, 0)) := by rw [Below.heap_alloc _ _ _ hlt3]; exact i0
      have i2 := (hB4.block (w.heap.size + 1) (Array.getElem?_eq_some_iff.1 i1).1).trans i1
      have hBy := (hBx.alloc hBx.size (.cells #[.string (ofL l'), .int .i64 0] 122)).trans (hB4.mono (hBx.alloc hBx.size _).size)
      clear d0 d1 z0 z1 hB4 i1 i0 hBx
      have d0 : w4.cell? ⟨w.heap.size + 1, 0, none⟩ = some (.string ⟨#[]⟩) := cell_of_row _ _ _ _ _ _ i2
      have d1 : w4.cell? ⟨w.heap.size + 1, 1, none⟩ = some (.int .i64 0) := cell_of_row _ _ _ _ _ _ i2
      have z0 : w4.frozen? ⟨w.heap.size + 1, 0, none⟩ = false := frozen_of_row _ _ _ _ _ i2
      have z1 : w4.frozen? ⟨w.heap.size + 1, 1, none⟩ = false := frozen_of_row _ _ _ _ _ i2
      have HX := hide (ref_end w w4 (w.heap.size + 1) _ _ (.string ⟨#[]⟩) (.int .i64 4) _ i2 (by omega) hBy)
      clear i2 hBy
      go_wp2_with fail
      obtain ⟨y0, y1, hBf⟩ := HX.out
      refine bodyPost_ret (v := .tuple #[.agg #[.string ⟨#[]⟩, .int .i64 4], .string ⟨#[]⟩]) (by simp [results, Try.results91, go_sem, y0, y1]) rfl ⟨by rw [HN.out]; rfl, hBf⟩
    · have HN := hide (show textOf (n, l', 0) = (l'.take n, l'.drop n, 0) by unfold textOf; rw [if_neg (by simp), if_neg hs])
      have q0 : (n : Int) ≤ ((ofL l').size : Nat) := by omega
      go_wp2_with fail
      have i9 : w3.drew.heap[w.heap.size + 1]? = some (.cells #[.string ⟨#[]⟩, .int .i64 0] 122 (0, 0)) := i0
      have HX := hide (ref_end_alloc w w3.drew (w.heap.size + 1) _ _ (.string ((ofL l').extract n l'.length)) (.int .i64 0) _ (.cells #[.string (ofL l'), .int .i64 0] 122) i9 (by omega) hBx.drew)
      have ex0 : (ofL l').extract 0 n = ofL (l'.take n) := by
        apply toL_inj
        simp [toL, ofL]
      have HE := hide ex0
      have HY := hide (ref_end_alloc w w3 (w.heap.size + 1) _ _ (.string ((ofL l').extract n l'.length)) (.int .i64 0) _ (.cells #[.string (ofL l'), .int .i64 0] 122) i0 (by omega) hBx)
      clear i9 ex0 hBx i0
      go_region_with (fail)
      all_goals
        go_wp2_with fail
        obtain ⟨y0, y1, _⟩ := HY.out
        obtain ⟨_, _, hBf⟩ := HX.out
        refine bodyPost_ret (v := .tuple #[.agg #[.string ((ofL l').extract n l'.length), .int .i64 0], .string ((ofL l').extract 0 n)]) (by simp [results, Try.results91, go_sem, y0, y1]) rfl ⟨by rw [HN.out, HE.out, ofL_extract]; rfl, hBf⟩
  · have HN := hide (show textOf (n, l', e') = ([], l', e') by unfold textOf; rw [if_pos he])
    have E1 : ((e' : Int) != 0) = true := by rw [bne_iff_ne]; omega
    have HX := hide (ref_end_alloc w w3 (w.heap.size + 1) _ _ (.string ⟨#[]⟩) (.int .i64 (e' : Nat)) _ (.cells #[.string ⟨#[]⟩, .int .i64 (e' : Nat)] 122) i0 (by omega) hBx)
    have HR := hide (refR_err l' e' he)
    rw [HR.out]
    clear he i0 hBx
    go_wp2_with fail
    obtain ⟨y0, y1, hBf⟩ := HX.out
    refine bodyPost_ret (v := .tuple #[.agg #[.string ⟨#[]⟩, .int .i64 (e' : Nat)], .string ⟨#[]⟩]) (by simp [results, Try.results91, go_sem, y0, y1]) rfl ⟨by rw [HN.out]; show _ = Ending.returned (.tuple #[refR l' e', .string (ofL [])]); rw [HR.out]; rfl, hBf⟩
end Go.Proofs.Ytobgbheodlpclaa
