/-
  vint's reader: Text.
-/
import Derived.Test.YtlbhgebjmekclaaDoorVintReads
namespace Go.Proofs.YtlbhgebjmekclaaDoor
open Go.RowKit
set_option maxRecDepth 100000

/-- What a text's reading leaves behind its number's: the text, what is left, the error. -/
def textOf (r : Nat × List UInt8 × Nat) : List UInt8 × List UInt8 × Nat :=
  if r.2.2 ≠ 0 then ([], r.2.1, r.2.2) else if r.2.1.length < r.1 then ([], r.2.1, 4) else (r.2.1.take r.1, r.2.1.drop r.1, 0)
def readT (l : List UInt8) (e m : Nat) : List UInt8 × List UInt8 × Nat := textOf (readN l e m)
theorem grown_do {w w1 w2 w' : World} {b : Nat} (h3 : w.grownBy w1 (some b)) (hB : Below w1.heap.size w1 w2) (hB' : Below b w2 w') (hk : ∀ k, k ≠ b → w'.heap[k]? = w2.heap[k]?) : w.grownBy w' (some b) :=
  ⟨hB'.os.trans (hB.os.trans h3.os), hB'.tape.trans (hB.tape.trans h3.tape), hB'.output.trans (hB.output.trans h3.output), Nat.le_trans h3.size (Nat.le_trans hB.size hB'.size),
    fun k hlt hkb => (hk k (fun e => hkb (by rw [e]))).trans ((hB.block k (Nat.lt_of_lt_of_le hlt h3.size)).trans (h3.block k hlt hkb))⟩
theorem readN_len2 (l : List UInt8) (e most : Nat) : (readN l e most).2.1.length ≤ l.length := by
  unfold readN
  split
  · exact Nat.le_refl _
  · split
    · exact Nat.le_refl _
    · split
      · exact Nat.le_refl _
      · simp

set_option maxHeartbeats 2000000 in
theorem readText_any (b e : Nat) (most : Int) (l : List UInt8) (w : World) (h : IsR w b l e) (hl : l.length ≤ 1000000) (hm : most ≤ 9223372036854775807) :
    Calls Tryd.prog 45 #[.pointer (some ⟨b, 0, none⟩), .int .i64 most] w fun en w' =>
      en = .returned (.string (ofL (readT l e most.toNat).1)) ∧ IsR w' b (readT l e most.toNat).2.1 (readT l e most.toNat).2.2 ∧ w.grownBy w' (some b) ∧ Below b w w' := by
  have hI := readInt_any b e most l w h hl hm
  have hlen := readN_len2 l e most.toNat
  have hle := readN_le l e most.toNat
  unfold readT
  generalize readN l e most.toNat = r at hI hlen hle ⊢
  obtain ⟨n, l', e'⟩ := r
  simp only at hI hlen hle
  have hr : (n : Int) ≤ 9223372036854775807 := by omega
  have hl2 : l'.length ≤ 1000000 := by omega
  clear hlen hle hl
  go_enter Tryd.func45, Tryd.ntmps45
  go_wp2_with fail
  refine hI.mono ?_
  clear hI
  rintro en w1 ⟨rfl, h2, h3, h4⟩
  go_wp2_with fail
  have hb1 := h2.lt
  have hB : Below w1.heap.size w1 ((w1.alloc (.cells #[.int .i64 n] 3)).alloc (.cells #[.string ⟨#[]⟩] 9)) := ((Below.refl _ w1).alloc (Nat.le_refl _) _).alloc (by simp) _
  have r0 : ((w1.alloc (.cells #[.int .i64 n] 3)).alloc (.cells #[.string ⟨#[]⟩] 9)).heap[w1.heap.size]? = some (.cells #[.int .i64 n] 3 (0, 0)) := by
    rw [Below.heap_alloc _ _ _ (by simp)]
    exact World.alloc_heap_new _ _
  have r1 : ((w1.alloc (.cells #[.int .i64 n] 3)).alloc (.cells #[.string ⟨#[]⟩] 9)).heap[w1.heap.size + 1]? = some (.cells #[.string ⟨#[]⟩] 9 (0, 0)) := by
    have h := World.alloc_heap_new (w1.alloc (.cells #[.int .i64 n] 3)) (Obj.cells #[.string ⟨#[]⟩] 9)
    simp only [World.size_alloc] at h
    exact h
  have hz : ((w1.alloc (.cells #[.int .i64 n] 3)).alloc (.cells #[.string ⟨#[]⟩] 9)).heap.size = w1.heap.size + 2 := by simp
  generalize ((w1.alloc (.cells #[.int .i64 n] 3)).alloc (.cells #[.string ⟨#[]⟩] 9)) = w2 at hB r0 r1 hz ⊢
  have hR1 := h2.keep (hB.mono (show b + 1 ≤ w1.heap.size by omega))
  have hB0 := h4.trans (hB.mono (by omega))
  by_cases he : e' = 0
  · subst he
    by_cases hs : l'.length < n
    · have HN := hide (show textOf (n, l', 0) = ([], l', 4) by unfold textOf; rw [if_neg (by simp), if_pos hs])
      refine (doText_ok b 0 4 l' w2 w2 _ _ hR1 (Nat.zero_le _) rfl (Below.refl _ _) (fun A c _ hR => text1_short A l' c n _ w1.heap.size w2 (cell_of_row _ _ _ _ _ _ r0) hs)).mono ?_
      rintro en w3 ⟨⟨v, rfl⟩, g1, g2, g3⟩
      have c2 : w3.cell? ⟨w1.heap.size + 1, 0, none⟩ = some (.string ⟨#[]⟩) := cell_of_row _ _ _ _ _ _ ((g3 _ (by omega)).trans r1)
      have HG := hide (grown_do h3 hB g2 g3)
      have hBB := hB0.trans g2
      clear g3 hB hs
      go_wp2_with fail
      refine bodyPost_ret (results_tmp rfl _ _ _) rfl ⟨by rw [HN.out]; rfl, by rw [HN.out]; exact g1, HG.out, hBB⟩
    · have HN := hide (show textOf (n, l', 0) = (l'.take n, l'.drop n, 0) by unfold textOf; rw [if_neg (by simp), if_neg hs])
      have hBs : Below w1.heap.size w2 (w2.setCell ⟨w1.heap.size + 1, 0, none⟩ (.string (ofL (l'.take n)))) := (Below.refl _ w2).setCell (p := ⟨w1.heap.size + 1, 0, none⟩) (by show w1.heap.size ≤ w1.heap.size + 1; omega) _
      refine (doText_ok b n 0 l' w2 _ _ _ hR1 (by omega) (Below.heap_setCell _ _ _ _ (by show b ≠ w1.heap.size + 1; omega)) (hBs.mono (by omega)) (fun A c hc hR => text1_ok A l' c n w1.heap.size (w1.heap.size + 1) w2 (hR.mono (by omega)) hc r0 r1 (by omega) (by omega))).mono ?_
      rintro en w3 ⟨⟨v, rfl⟩, g1, g2, g3⟩
      have c2 : w3.cell? ⟨w1.heap.size + 1, 0, none⟩ = some (.string (ofL (l'.take n))) := cell_of_row _ _ _ _ _ _ ((g3 _ (by omega)).trans (heap_setCell_same _ _ 0 _ _ _ r1))
      have HG := hide (grown_do h3 (hB.trans hBs) g2 g3)
      have hBB := (hB0.trans (hBs.mono (by omega))).trans g2
      clear g3 g2 hB hBs hs
      go_wp2_with fail
      refine bodyPost_ret (results_tmp rfl _ _ _) rfl ⟨by rw [HN.out]; rfl, by rw [HN.out]; exact g1, HG.out, hBB⟩
  · have HN := hide (show textOf (n, l', e') = ([], l', e') by unfold textOf; rw [if_pos he])
    refine (do_err b e' l' w2 _ hR1 he).mono ?_
    rintro en w3 ⟨⟨v, rfl⟩, rfl⟩
    have c2 : w3.cell? ⟨w1.heap.size + 1, 0, none⟩ = some (.string ⟨#[]⟩) := cell_of_row _ _ _ _ _ _ r1
    have HG := hide (grown_do h3 hB (Below.refl b w3) (fun _ _ => rfl))
    clear hB he
    go_wp2_with fail
    refine bodyPost_ret (results_tmp rfl _ _ _) rfl ⟨by rw [HN.out]; rfl, by rw [HN.out]; exact hR1, HG.out, hB0⟩
end Go.Proofs.YtlbhgebjmekclaaDoor
