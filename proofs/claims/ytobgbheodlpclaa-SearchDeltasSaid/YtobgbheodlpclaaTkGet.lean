/-
  The tokens that bytes are: the program's Get.
-/
import Derived.Test.YtobgbheodlpclaaTkPut
import Derived.Test.YtobgbheodlpclaaAutoVintText
namespace Go.Proofs.Ytobgbheodlpclaa
open Go.RowKit
set_option maxRecDepth 100000

/-- A token that is read, what is left, the error. -/
def readK (l : List UInt8) : Tk × List UInt8 × Nat :=
  if (readN l 0 4097).1 ≠ 0 then
    (⟨((readN (readN l 0 4097).2.1 (readN l 0 4097).2.2 4097).1 : Nat), ((readN l 0 4097).1 : Nat), ⟨#[]⟩⟩, (readN (readN l 0 4097).2.1 (readN l 0 4097).2.2 4097).2)
  else (⟨0, 0, ofL (readT (readN l 0 4097).2.1 (readN l 0 4097).2.2 16384).1⟩, (readT (readN l 0 4097).2.1 (readN l 0 4097).2.2 16384).2)
theorem readT_len2 (l : List UInt8) (e m : Nat) : (readT l e m).2.1.length ≤ l.length := by
  have h := readN_len2 l e m
  unfold readT textOf
  generalize readN l e m = r at h
  split
  · exact h
  · split
    · exact h
    · rw [List.length_drop]; omega
theorem readK_len (l : List UInt8) : (readK l).2.1.length ≤ l.length := by
  have h := readN_len2 l 0 4097
  unfold readK
  generalize readN l 0 4097 = r at h
  split
  · exact Nat.le_trans (readN_len2 _ _ _) h
  · exact Nat.le_trans (readT_len2 _ _ _) h
theorem own_grown {w w' : World} {base n size b : Nat} {e : TypeId} {v : Value} {xs : List Value} (h : w.ownsRow base e size v n xs) (hg : w.grownBy w' (some b)) (hb : b < base) : w'.ownsRow base e size v n xs := by
  refine h.kept hg ?_
  cases hv : v.ownBlock with
  | none => exact .inl rfl
  | some g => exact .inr (fun e => by have := (h.lt g hv).1; cases e; omega)

theorem row_three (w : World) (n : Nat) (a b c x y z : Value) (t : TypeId) (h : w.heap[n]? = some (.cells #[a, b, c] t (0, 0))) :
    (((w.setCell ⟨n, 0, none⟩ x).setCell ⟨n, 1, none⟩ y).setCell ⟨n, 2, none⟩ z).cell? ⟨n, 0, none⟩ = some x ∧ (((w.setCell ⟨n, 0, none⟩ x).setCell ⟨n, 1, none⟩ y).setCell ⟨n, 2, none⟩ z).cell? ⟨n, 1, none⟩ = some y ∧ (((w.setCell ⟨n, 0, none⟩ x).setCell ⟨n, 1, none⟩ y).setCell ⟨n, 2, none⟩ z).cell? ⟨n, 2, none⟩ = some z := by
  have hfin := heap_setCell_same _ n 2 _ _ z (heap_setCell_same _ n 1 _ _ y (heap_setCell_same w n 0 _ _ x h))
  exact ⟨cell_of_row _ _ _ _ _ _ hfin, cell_of_row _ _ _ _ _ _ hfin, cell_of_row _ _ _ _ _ _ hfin⟩
/-- The world behind the answer's store. -/
theorem three_keep {w0 w : World} {b n : Nat} {l : List UInt8} {e : Nat} (hI : IsR w b l e) (hg : w0.grownBy w (some b)) (hB : Below b w0 w) (hn : w0.heap.size ≤ n) (hb : b < w0.heap.size) (x y z : Value) :
    IsR (((w.setCell ⟨n, 0, none⟩ x).setCell ⟨n, 1, none⟩ y).setCell ⟨n, 2, none⟩ z) b l e ∧ w0.grownBy (((w.setCell ⟨n, 0, none⟩ x).setCell ⟨n, 1, none⟩ y).setCell ⟨n, 2, none⟩ z) (some b) ∧ Below b w0 (((w.setCell ⟨n, 0, none⟩ x).setCell ⟨n, 1, none⟩ y).setCell ⟨n, 2, none⟩ z) := by
  have h1 : Below w0.heap.size w (((w.setCell ⟨n, 0, none⟩ x).setCell ⟨n, 1, none⟩ y).setCell ⟨n, 2, none⟩ z) := (((Below.refl _ w).setCell (p := ⟨n, 0, none⟩) hn x).setCell (p := ⟨n, 1, none⟩) hn y).setCell (p := ⟨n, 2, none⟩) hn z
  exact ⟨hI.keep (h1.mono hb), ⟨h1.os.trans hg.os, h1.tape.trans hg.tape, h1.output.trans hg.output, Nat.le_trans hg.size h1.size, fun k hk hkb => (h1.block k hk).trans (hg.block k hk hkb)⟩, hB.trans (h1.mono (Nat.le_of_lt hb))⟩
theorem grown_below {w0 w w' : World} {b : Nat} (hg : w0.grownBy w (some b)) (hb : Below w.heap.size w w') : w0.grownBy w' (some b) :=
  ⟨hb.os.trans hg.os, hb.tape.trans hg.tape, hb.output.trans hg.output, Nat.le_trans hg.size hb.size, fun k hk hkb => (hb.block k (Nat.lt_of_lt_of_le hk hg.size)).trans (hg.block k hk hkb)⟩
theorem grown_two {w0 w w' : World} {b : Nat} (hg : w0.grownBy w (some b)) (hb : w.grownBy w' (some b)) : w0.grownBy w' (some b) :=
  ⟨hb.os.trans hg.os, hb.tape.trans hg.tape, hb.output.trans hg.output, Nat.le_trans hg.size hb.size, fun k hk hkb => (hb.block k (Nat.lt_of_lt_of_le hk hg.size) hkb).trans (hg.block k hk hkb)⟩

set_option maxHeartbeats 8000000 in
theorem tokRead_any (b : Nat) (l : List UInt8) (w : World) (h : IsR w b l 0) (hl : l.length ≤ 1000000) :
    Calls Try.prog 88 #[.pointer (some ⟨b, 0, none⟩)] w fun en w' => en = .returned (.agg (readK l).1.cells) ∧ IsR w' b (readK l).2.1 (readK l).2.2 ∧ w.grownBy w' (some b) ∧ Below b w w' := by
  have hb := h.lt
  have hrow := World.alloc_heap_new w (Obj.cells #[.int .i64 0, .int .i64 0, .string ⟨#[]⟩] 71)
  have hb0 : Below w.heap.size w (w.alloc (.cells #[.int .i64 0, .int .i64 0, .string ⟨#[]⟩] 71)) := (Below.refl _ w).alloc (Nat.le_refl _) _
  have HI0 := hide (readInt_any b 0 4097 l _ (h.keep (hb0.mono hb)) hl (by decide))
  have hlen := readN_len2 l 0 4097
  have hle := readN_le l 0 4097
  obtain ⟨K, HK⟩ : ∃ K, K = readK l := ⟨_, rfl⟩
  rw [← HK]
  unfold readK at HK
  rw [show (4097 : Int).toNat = 4097 from rfl] at HI0
  generalize readN l 0 4097 = r at HI0 hlen hle HK
  obtain ⟨m, l1, e1⟩ := r
  simp only at HI0 hlen hle HK
  have HB0 := hide hb0
  have hz : (w.alloc (.cells #[.int .i64 0, .int .i64 0, .string ⟨#[]⟩] 71)).heap.size = w.heap.size + 1 := by simp
  clear hb0 h
  by_cases hm : m = 0
  · rw [if_neg (by simpa using hm)] at HK
    have HT := hide (fun W (hI : IsR W b l1 e1) => readText_any b e1 16384 l1 W hI (by omega) (by decide))
    rw [show (16384 : Int).toNat = 16384 from rfl] at HT
    subst HK
    try simp only
    generalize readT l1 e1 16384 = q at HT ⊢
    obtain ⟨s, l2, e2⟩ := q
    simp only at HT ⊢
    subst hm
    go_enter Try.func88, Try.ntmps88
    go_wp2_with fail
    refine HI0.out.mono ?_
    rintro en w1 ⟨rfl, h2, h3, h4⟩
    have s1 := (h3.block w.heap.size (by simp) (fun e => by injection e; omega)).trans hrow
    have HG := hide (show w.grownBy w1 (some b) ∧ Below b w w1 from ⟨⟨h4.os.trans HB0.out.os, h4.tape.trans HB0.out.tape, h4.output.trans HB0.out.output, Nat.le_trans HB0.out.size h3.size, fun k hk hkb => (h3.block k (by simp; omega) hkb).trans (HB0.out.block k hk)⟩, (HB0.out.mono (Nat.le_of_lt hb)).trans h4⟩)
    have HT2 := hide (HT.out w1 h2)
    clear HI0 HT h2 h3 h4 HB0 hrow hz
    go_wp2_with fail
    refine HT2.out.mono ?_
    rintro en w2 ⟨rfl, h2, h3, h4⟩
    have s2 := (h3.block w.heap.size (Array.getElem?_eq_some_iff.1 s1).1 (fun e => by injection e; omega)).trans s1
    have HG2 := hide (show w.grownBy w2 (some b) ∧ Below b w w2 from ⟨grown_two HG.out.1 h3, HG.out.2.trans h4⟩)
    have HI2 := hide h2
    clear HT2 h2 h3 h4 HG s1
    go_wp2_with fail
    refine (literal_any (ofL s) w2).mono ?_
    rintro en w3 ⟨rfl, hb3⟩
    have s3 := (hb3.block w.heap.size (Array.getElem?_eq_some_iff.1 s2).1).trans s2
    have HG3 := hide (show w.grownBy w3 (some b) ∧ Below b w w3 from ⟨grown_below HG2.out.1 hb3, HG2.out.2.trans (hb3.mono (Nat.le_of_lt HI2.out.lt))⟩)
    have HI3 := hide (HI2.out.keep (hb3.mono HI2.out.lt))
    have z0 : w3.frozen? ⟨w.heap.size, 0, none⟩ = false := frozen_of_row _ _ _ _ _ s3
    have z1 : w3.frozen? ⟨w.heap.size, 1, none⟩ = false := frozen_of_row _ _ _ _ _ s3
    have z2 : w3.frozen? ⟨w.heap.size, 2, none⟩ = false := frozen_of_row _ _ _ _ _ s3
    have k0 : w3.cell? ⟨w.heap.size, 0, none⟩ = some (.int .i64 0) := cell_of_row _ _ _ _ _ _ s3
    have k1 : w3.cell? ⟨w.heap.size, 1, none⟩ = some (.int .i64 0) := cell_of_row _ _ _ _ _ _ s3
    have k2 : w3.cell? ⟨w.heap.size, 2, none⟩ = some (.string ⟨#[]⟩) := cell_of_row _ _ _ _ _ _ s3
    have HX := hide (row_three w3 w.heap.size _ _ _ (.int .i64 0) (.int .i64 0) (.string (ofL s)) _ s3)
    have HY := hide (three_keep HI3.out HG3.out.1 HG3.out.2 (Nat.le_refl _) hb (.int .i64 0) (.int .i64 0) (.string (ofL s)))
    clear hb3 HG2 HI2 HG3 HI3 s2 s3
    simp only [Tk.cells]
    go_wp2_with fail
    obtain ⟨y0, y1, y2⟩ := HX.out
    refine bodyPost_ret (v := .agg #[.int .i64 0, .int .i64 0, .string (ofL s)]) (by simp [results, Try.results88, go_sem, y0, y1, y2]) rfl ⟨rfl, HY.out⟩
  · rw [if_pos (by simpa using hm)] at HK
    have HT := hide (fun W (hI : IsR W b l1 e1) => readInt_any b e1 4097 l1 W hI (by omega) (by decide))
    rw [show (4097 : Int).toNat = 4097 from rfl] at HT
    subst HK
    try simp only
    generalize readN l1 e1 4097 = q at HT ⊢
    obtain ⟨f, l2, e2⟩ := q
    simp only at HT ⊢
    have E0 : ((m : Int) != 0) = true := by rw [bne_iff_ne]; omega
    go_enter Try.func88, Try.ntmps88
    go_wp2_with fail
    refine HI0.out.mono ?_
    rintro en w1 ⟨rfl, h2, h3, h4⟩
    have s1 := (h3.block w.heap.size (by simp) (fun e => by injection e; omega)).trans hrow
    have HG := hide (show w.grownBy w1 (some b) ∧ Below b w w1 from ⟨⟨h4.os.trans HB0.out.os, h4.tape.trans HB0.out.tape, h4.output.trans HB0.out.output, Nat.le_trans HB0.out.size h3.size, fun k hk hkb => (h3.block k (by simp; omega) hkb).trans (HB0.out.block k hk)⟩, (HB0.out.mono (Nat.le_of_lt hb)).trans h4⟩)
    have HT2 := hide (HT.out w1 h2)
    clear HI0 HT h2 h3 h4 HB0 hrow hz
    go_wp2_with fail
    refine HT2.out.mono ?_
    rintro en w2 ⟨rfl, h2, h3, h4⟩
    have s2 := (h3.block w.heap.size (Array.getElem?_eq_some_iff.1 s1).1 (fun e => by injection e; omega)).trans s1
    have HG2 := hide (show w.grownBy w2 (some b) ∧ Below b w w2 from ⟨grown_two HG.out.1 h3, HG.out.2.trans h4⟩)
    have HI2 := hide h2
    clear HT2 h2 h3 h4 HG s1
    go_wp2_with fail
    refine (copy_any f m w2).mono ?_
    rintro en w3 ⟨rfl, hb3⟩
    have s3 := (hb3.block w.heap.size (Array.getElem?_eq_some_iff.1 s2).1).trans s2
    have HG3 := hide (show w.grownBy w3 (some b) ∧ Below b w w3 from ⟨grown_below HG2.out.1 hb3, HG2.out.2.trans (hb3.mono (Nat.le_of_lt HI2.out.lt))⟩)
    have HI3 := hide (HI2.out.keep (hb3.mono HI2.out.lt))
    have z0 : w3.frozen? ⟨w.heap.size, 0, none⟩ = false := frozen_of_row _ _ _ _ _ s3
    have z1 : w3.frozen? ⟨w.heap.size, 1, none⟩ = false := frozen_of_row _ _ _ _ _ s3
    have z2 : w3.frozen? ⟨w.heap.size, 2, none⟩ = false := frozen_of_row _ _ _ _ _ s3
    have k0 : w3.cell? ⟨w.heap.size, 0, none⟩ = some (.int .i64 0) := cell_of_row _ _ _ _ _ _ s3
    have k1 : w3.cell? ⟨w.heap.size, 1, none⟩ = some (.int .i64 0) := cell_of_row _ _ _ _ _ _ s3
    have k2 : w3.cell? ⟨w.heap.size, 2, none⟩ = some (.string ⟨#[]⟩) := cell_of_row _ _ _ _ _ _ s3
    have HX := hide (row_three w3 w.heap.size _ _ _ (.int .i64 (f : Nat)) (.int .i64 (m : Nat)) (.string ⟨#[]⟩) _ s3)
    have HY := hide (three_keep HI3.out HG3.out.1 HG3.out.2 (Nat.le_refl _) hb (.int .i64 (f : Nat)) (.int .i64 (m : Nat)) (.string ⟨#[]⟩))
    clear hb3 HG2 HI2 HG3 HI3 s2 s3
    simp only [Tk.cells]
    go_wp2_with fail
    obtain ⟨y0, y1, y2⟩ := HX.out
    refine bodyPost_ret (v := .agg #[.int .i64 (f : Nat), .int .i64 (m : Nat), .string ⟨#[]⟩]) (by simp [results, Try.results88, go_sem, y0, y1, y2]) rfl ⟨rfl, HY.out⟩
end Go.Proofs.Ytobgbheodlpclaa
