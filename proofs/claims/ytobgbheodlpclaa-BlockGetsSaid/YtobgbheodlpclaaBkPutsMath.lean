/-
  What Put lays, Get reads.
-/
import Derived.Test.YtobgbheodlpclaaBkGetAll
namespace Go.Proofs.Ytobgbheodlpclaa
open Go.RowKit

theorem putS_by (z tl : Int) (l : List Sg) (s : Sg) (h : rightS z l.length tl s = true) : putS z l tl s = bySig ⟨z.toNat, l, tl.toNat, s⟩ := by
  obtain ⟨h1, h2, h3, h4, h5⟩ := right_facts h
  unfold putS bySig
  rw [if_pos h]
  by_cases ht : tl = 0
  · subst ht; simp
  · rw [if_pos ht, if_pos (show tl.toNat ≠ 0 by omega)]
theorem right_last {z tl : Int} {n : Nat} {s : Sg} (h : rightS z n tl s = true) (ht : tl = 0) : s = ⟨0, 0, 0⟩ := by
  obtain ⟨h1, h2, h3, h4, h5⟩ := right_facts h
  rw [right_in h1 h2 h3, if_pos ht] at h
  obtain ⟨a, b, c⟩ := zero_all h
  cases s
  simp_all
theorem getSig_put (z tl : Int) (l : List Sg) (s : Sg) (h : rightS z l.length tl s = true) (hf : ∀ x ∈ l, x.fits) (hs : s.fits) : getSig (putS z l tl s) = (⟨z.toNat, l, tl.toNat, s⟩, 0) := by
  obtain ⟨h1, h2, h3, h4, h5⟩ := right_facts h
  have hb := readSig_back ⟨z.toNat, l, tl.toNat, s⟩ (by show z.toNat ≤ 64; omega) h3 (by show tl.toNat ≤ 63; omega) hf hs (fun q => right_last h (by have q' : tl.toNat = 0 := q; omega))
  rw [putS_by z tl l s h]
  unfold getSig
  rw [hb]
  have e1 : ((z.toNat : Nat) : Int) = z := by omega
  have e2 : ((tl.toNat : Nat) : Int) = tl := by omega
  rw [if_neg (by simp [endN])]
  simp only
  rw [e1, e2, if_pos h]
theorem signs_len : ∀ l : List Sg, (l.flatMap signBy).length ≤ l.length * 26
  | [] => by simp
  | x :: r => by
    have h1 := signBy_len x
    have h2 := signs_len r
    rw [List.flatMap_cons, List.length_append, List.length_cons]
    omega
theorem putS_len (z tl : Int) (l : List Sg) (s : Sg) (h : l.length ≤ 100) : (putS z l tl s).length ≤ 100000 := by
  have h1 := groupsL_le z.toNat
  have h2 := groupsL_le l.length
  have h3 := groupsL_le tl.toNat
  have h4 := signs_len l
  have h5 := signBy_len s
  unfold putS
  split
  · simp only [List.length_append]
    split
    · omega
    · rw [List.length_nil]; omega
  · simp
/-- What two signatures that were just made leave. -/
structure Two15 (w2 : World) (n5 n6 : Nat) (a b : Array Value) (B1 B2 : Option Addr) (l m : List Sg) (W : World) : Prop where
  below : Below w2.heap.size w2 W
  row5 : W.heap[n5]? = some (.cells a 32 (0, 0))
  row6 : W.heap[n6]? = some (.cells b 32 (0, 0))
  rd1 : RdSg W W.heap.size B1 l
  rd2 : RdSg W W.heap.size B2 m
/-- Six cells of a row, stored. -/
def six (W : World) (n : Nat) (a0 a1 a2 a3 a4 a5 : Value) : World := ((((((W.setCell ⟨n, 0, none⟩ a0).setCell ⟨n, 1, none⟩ a1).setCell ⟨n, 2, none⟩ a2).setCell ⟨n, 3, none⟩ a3).setCell ⟨n, 4, none⟩ a4).setCell ⟨n, 5, none⟩ a5)
theorem six_row {W : World} {n : Nat} {z : Array Value} {t : TypeId} (b0 b1 b2 b3 b4 b5 a0 a1 a2 a3 a4 a5 : Value) (hz : z = #[b0, b1, b2, b3, b4, b5]) (h : W.heap[n]? = some (.cells z t (0, 0))) : (six W n a0 a1 a2 a3 a4 a5).heap[n]? = some (.cells #[a0, a1, a2, a3, a4, a5] t (0, 0)) := by
  subst hz
  exact heap_setCell_same _ n 5 _ _ a5 (heap_setCell_same _ n 4 _ _ a4 (heap_setCell_same _ n 3 _ _ a3 (heap_setCell_same _ n 2 _ _ a2 (heap_setCell_same _ n 1 _ _ a1 (heap_setCell_same W n 0 _ _ a0 h)))))
theorem six_below {W w2 : World} {B n : Nat} (a0 a1 a2 a3 a4 a5 : Value) (h : Below B w2 W) (hn : B ≤ n) : Below B w2 (six W n a0 a1 a2 a3 a4 a5) :=
  Below.setCell (p := ⟨n, 5, none⟩) (Below.setCell (p := ⟨n, 4, none⟩) (Below.setCell (p := ⟨n, 3, none⟩) (Below.setCell (p := ⟨n, 2, none⟩) (Below.setCell (p := ⟨n, 1, none⟩) (Below.setCell (p := ⟨n, 0, none⟩) h hn a0) hn a1) hn a2) hn a3) hn a4) hn a5
theorem six_other (W : World) (n k : Nat) (a0 a1 a2 a3 a4 a5 : Value) (hk : k ≠ n) : (six W n a0 a1 a2 a3 a4 a5).heap[k]? = W.heap[k]? := by
  have hn : ∀ (U : World) (j : Nat) (v : Value), (U.setCell ⟨n, j, none⟩ v).heap[k]? = U.heap[k]? := fun U j v => heap_setCell_other _ _ _ _ (by simpa using hk)
  unfold six
  rw [hn, hn, hn, hn, hn, hn]
theorem six_own {W : World} {base c n size : Nat} {e : TypeId} {v : Value} {xs : List Value} (a0 a1 a2 a3 a4 a5 : Value) (h : W.ownsRow base e size v c xs) (hb : ∀ r, v.ownBlock = some r → r ≠ n) : (six W n a0 a1 a2 a3 a4 a5).ownsRow base e size v c xs :=
  sig_own_cell (sig_own_cell (sig_own_cell (sig_own_cell (sig_own_cell (sig_own_cell h hb) hb) hb) hb) hb) hb
end Go.Proofs.Ytobgbheodlpclaa
