/-
  The reference's reader: GetInt.
-/
import Derived.Test.YtlbhgebjmekclaaDoorVintRefGet
namespace Go.Proofs.YtlbhgebjmekclaaDoor
open Go.RowKit
set_option maxRecDepth 100000

theorem get_any (l : List UInt8) (e most : Nat) (w : World) (hl : l.length ≤ 1000000) :
    Calls Tryd.prog 31 #[refR l e, .int .u64 most] w fun en w' => en = .returned (.tuple #[refR (readN l e most).2.1 (readN l e most).2.2, .int .u64 ((readN l e most).1 : Nat)]) ∧ Below w.heap.size w w' := by
  by_cases h : e = 0
  · subst h; exact get_ok l most w hl
  · have hN : readN l e most = (0, l, e) := by unfold readN; rw [if_pos h]
    rw [hN]
    exact get_err l e most w h
theorem refR_two (l : List UInt8) (e : Nat) : ∃ s : ByteArray, refR l e = .agg #[.string s, .int .i64 (e : Nat)] := ⟨_, rfl⟩

theorem ref_end_alloc (w w3 : World) (n : Nat) (a b x y : Value) (t : TypeId) (o : Obj) (h : w3.heap[n]? = some (.cells #[a, b] t (0, 0))) (hn : w.heap.size ≤ n) (hB : Below w.heap.size w w3) :
    (((w3.setCell ⟨n, 0, none⟩ x).setCell ⟨n, 1, none⟩ y).alloc o).cell? ⟨n, 0, none⟩ = some x ∧ (((w3.setCell ⟨n, 0, none⟩ x).setCell ⟨n, 1, none⟩ y).alloc o).cell? ⟨n, 1, none⟩ = some y ∧ Below w.heap.size w (((w3.setCell ⟨n, 0, none⟩ x).setCell ⟨n, 1, none⟩ y).alloc o) := by
  have hfin := heap_setCell_same _ n 1 _ _ y (heap_setCell_same w3 n 0 _ _ x h)
  have hlt := (Array.getElem?_eq_some_iff.1 hfin).1
  obtain ⟨y0, y1, hb⟩ := ref_end w w3 n a b x y t h hn hB
  exact ⟨(((Below.refl _ _).alloc (Nat.le_refl _) o).cell hlt).trans y0, (((Below.refl _ _).alloc (Nat.le_refl _) o).cell hlt).trans y1, hb.alloc hb.size o⟩
set_option maxHeartbeats 2000000 in
theorem getInt_any (l : List UInt8) (e : Nat) (most : Int) (w : World) (hl : l.length ≤ 1000000) (hm : most ≤ 9223372036854775807) :
    Calls Tryd.prog 30 #[refR l e, .int .i64 most] w fun en w' => en = .returned (.tuple #[refR (readN l e most.toNat).2.1 (readN l e most.toNat).2.2, .int .i64 ((readN l e most.toNat).1 : Nat)]) ∧ Below w.heap.size w w' := by
  have hG := fun W => get_any l e most.toNat W hl
  have hle := readN_le l e most.toNat
  obtain ⟨s, hs⟩ := refR_two l e
  obtain ⟨s2, hs2⟩ := refR_two (readN l e most.toNat).2.1 (readN l e most.toNat).2.2
  rw [hs, hs2] at hG
  rw [hs, hs2]
  generalize readN l e most.toNat = r at hG hle ⊢
  obtain ⟨n, l', e'⟩ := r
  simp only at hG hle ⊢
  clear hs hs2
  have hr : (n : Int) ≤ 9223372036854775807 := by omega
  obtain ⟨_, r1, hB⟩ := new_rows w #[.string s, .int .i64 (e : Nat)] #[.string ⟨#[]⟩, .int .i64 0] 60 60
  have hz : ((w.alloc (.cells #[.string s, .int .i64 (e : Nat)] 60)).alloc (.cells #[.string ⟨#[]⟩, .int .i64 0] 60)).heap.size = w.heap.size + 2 := by simp
  have HG := hide (hG ((w.alloc (.cells #[.string s, .int .i64 (e : Nat)] 60)).alloc (.cells #[.string ⟨#[]⟩, .int .i64 0] 60)))
  clear hG
  by_cases h0 : most < 0
  · have h1 : most.toNat = 0 := by omega
    rw [h1] at HG
    go_enter Tryd.func30, Tryd.ntmps30
    go_wp2_with fail
    refine HG.out.mono ?_
    rintro en w3 ⟨rfl, hB3⟩
    have hBx := hB.trans (hB3.mono (by omega))
    have i0 := (hB3.block (w.heap.size + 1) (by omega)).trans r1
    have hlt3 : w.heap.size + 1 < w3.heap.size := (Array.getElem?_eq_some_iff.1 i0).1
    have d0 : w3.cell? ⟨w.heap.size + 1, 0, none⟩ = some (.string ⟨#[]⟩) := cell_of_row _ _ _ _ _ _ i0
    have d1 : w3.cell? ⟨w.heap.size + 1, 1, none⟩ = some (.int .i64 0) := cell_of_row _ _ _ _ _ _ i0
    have z0 : w3.frozen? ⟨w.heap.size + 1, 0, none⟩ = false := frozen_of_row _ _ _ _ _ i0
    have z1 : w3.frozen? ⟨w.heap.size + 1, 1, none⟩ = false := frozen_of_row _ _ _ _ _ i0
    have HX := hide (ref_end_alloc w w3 (w.heap.size + 1) _ _ (.string s2) (.int .i64 (e' : Nat)) _ (.cells #[.string s2, .int .i64 (e' : Nat)] 60) i0 (by omega) hBx)
    clear i0 hBx hB3 r1 hB HG hz
    go_wp2_with fail
    obtain ⟨y0, y1, hBf⟩ := HX.out
    refine bodyPost_ret (v := .tuple #[.agg #[.string s2, .int .i64 (e' : Nat)], .int .i64 (n : Nat)]) (by simp [results, Tryd.results30, go_sem, y0, y1]) rfl ⟨rfl, hBf⟩
  · have h1 : ((most.toNat : Nat) : Int) = most := by omega
    rw [h1] at HG
    go_enter Tryd.func30, Tryd.ntmps30
    go_wp2_with fail
    refine HG.out.mono ?_
    rintro en w3 ⟨rfl, hB3⟩
    have hBx := hB.trans (hB3.mono (by omega))
    have i0 := (hB3.block (w.heap.size + 1) (by omega)).trans r1
    have hlt3 : w.heap.size + 1 < w3.heap.size := (Array.getElem?_eq_some_iff.1 i0).1
    have d0 : w3.cell? ⟨w.heap.size + 1, 0, none⟩ = some (.string ⟨#[]⟩) := cell_of_row _ _ _ _ _ _ i0
    have d1 : w3.cell? ⟨w.heap.size + 1, 1, none⟩ = some (.int .i64 0) := cell_of_row _ _ _ _ _ _ i0
    have z0 : w3.frozen? ⟨w.heap.size + 1, 0, none⟩ = false := frozen_of_row _ _ _ _ _ i0
    have z1 : w3.frozen? ⟨w.heap.size + 1, 1, none⟩ = false := frozen_of_row _ _ _ _ _ i0
    have HX := hide (ref_end_alloc w w3 (w.heap.size + 1) _ _ (.string s2) (.int .i64 (e' : Nat)) _ (.cells #[.string s2, .int .i64 (e' : Nat)] 60) i0 (by omega) hBx)
    clear i0 hBx hB3 r1 hB HG hz
    go_wp2_with fail
    obtain ⟨y0, y1, hBf⟩ := HX.out
    refine bodyPost_ret (v := .tuple #[.agg #[.string s2, .int .i64 (e' : Nat)], .int .i64 (n : Nat)]) (by simp [results, Tryd.results30, go_sem, y0, y1]) rfl ⟨rfl, hBf⟩
end Go.Proofs.YtlbhgebjmekclaaDoor
