/-
  crc.Seal.
-/
import Derived.Test.YtlbhgebjmekclaaDoorCrcFour
import Derived.Test.YtlbhgebjmekclaaDoorCrcSum
namespace Go.Proofs.YtlbhgebjmekclaaDoor
open Go.RowKit
set_option maxRecDepth 100000

theorem Table.below {w w' : World} {B : Nat} (h : Table w) (hb : Below B w w') (hB : 0 < B) : Table w' := fun k x hx => (hb.cell (p := ⟨0, k, none⟩) hB).trans (h k x hx)
theorem Table.pos {w : World} (h : Table w) : 0 < w.heap.size := cell_lt (h 0 _ rfl)
theorem le4_len (n : Nat) : (le4 n).length = 4 := rfl

set_option maxHeartbeats 2000000 in
theorem sum_one (A : Option Addr) (l : List UInt8) (c : Nat) (w : World) (t : TypeId) (hT : Table w) (hR : RdB w w.heap.size A l) (hl : l.length ≤ 1000000) :
    Calls Tryd.prog 38 #[.slice (some ⟨w.heap.size, 0, none⟩) 1 1] (w.alloc (.cells #[.slice A l.length c] t)) fun e w' => e = .returned (.int .u32 (crcL l : Nat)) ∧ w' = w.alloc (.cells #[.slice A l.length c] t) := by
  have hb : Below w.heap.size w (w.alloc (.cells #[.slice A l.length c] t)) := (Below.refl _ w).alloc (Nat.le_refl _) _
  have hnew := World.alloc_heap_new w (Obj.cells #[.slice A l.length c] t)
  have h := crcSum_any w.heap.size 1 [(A, l, c)] _ (hT.below hb hT.pos) (fun k x hx => by
    rcases k with _ | k
    · simp at hx; subst hx; exact cell_of_row _ _ _ _ _ _ hnew
    · simp at hx) (fun x hx => by
    simp at hx
    subst hx
    exact hR.step hb) (by simp) (fun x hx => by
    simp at hx
    subst hx
    exact hl)
  rw [show allB [(A, l, c)] = l by simp [allB]] at h
  exact h

set_option maxHeartbeats 4000000 in
theorem seal_any (A : Option Addr) (l : List UInt8) (c : Nat) (w : World) (hT : Table w) (hR : RdB w w.heap.size A l) (hl : l.length ≤ 1000000) :
    Calls Tryd.prog 19 #[.slice A l.length c] w (Bytes w (l ++ le4 (crcL l))) := by
  have HS := hide (sum_one A l c w 28 hT hR hl)
  have hr : crcL l < 4294967296 := by unfold crcL; omega
  have HL := hide (fun W => laid_any (crcL l) W hr)
  have hb : Below w.heap.size w (w.alloc (.cells #[.slice A l.length c] 28)) := (Below.refl _ w).alloc (Nat.le_refl _) _
  have HB := hide hb
  have HR := hide hR
  have HE := hide (le4_row (crcL l))
  have HN := hide (le4_len (crcL l))
  obtain ⟨m, hm⟩ : ∃ m, m = le4 (crcL l) := ⟨_, rfl⟩
  rw [← hm] at HE HN ⊢
  clear hm
  generalize crcL l = r at HS HL HE hr
  obtain ⟨x0, x1, x2, x3, rfl⟩ : ∃ x0 x1 x2 x3, m = [x0, x1, x2, x3] := by
    have := HN.out
    match m, this with
    | [x0, x1, x2, x3], _ => exact ⟨x0, x1, x2, x3, rfl⟩
  rw [HE.out, show ([x0, x1, x2, x3].map byteV).toArray = #[.int .u8 x0.toNat, .int .u8 x1.toNat, .int .u8 x2.toNat, .int .u8 x3.toNat] from rfl] at HL
  clear hT hR hb HE HN hr
  go_enter Tryd.func19, Tryd.ntmps19
  go_wp2_with fail
  refine HS.out.mono ?_
  rintro e w1 ⟨rfl, rfl⟩
  go_wp2_with fail
  refine (HL.out _).mono ?_
  rintro e w2 ⟨rfl, hB2⟩
  have hB3 := HB.out.trans (hB2.mono HB.out.size)
  clear HS HL HB hB2
  go_wp2_with fail
  have hrow := World.alloc_heap_new w2 (Obj.cells #[.int .u8 x0.toNat, .int .u8 x1.toNat, .int .u8 x2.toNat, .int .u8 x3.toNat] 70)
  have hB4 := hB3.alloc hB3.size (.cells #[.int .u8 x0.toNat, .int .u8 x1.toNat, .int .u8 x2.toNat, .int .u8 x3.toNat] 70)
  have hz : (w2.alloc (.cells #[.int .u8 x0.toNat, .int .u8 x1.toNat, .int .u8 x2.toNat, .int .u8 x3.toNat] 70)).heap.size = w2.heap.size + 1 := by simp
  generalize w2.alloc (.cells #[.int .u8 x0.toNat, .int .u8 x1.toNat, .int .u8 x2.toNat, .int .u8 x3.toNat] 70) = w3 at hrow hB4 hz ⊢
  rw [← hz]
  have hRx : RdB w3 w3.heap.size (some ⟨w2.heap.size, 0, none⟩) [x0, x1, x2, x3] := crow_any hrow
  have hRa := (HR.out.below hB4 (Nat.le_refl _)).mono hB4.size
  clear hrow hB3 hz HR
  have HC := hide (cat_two A (some ⟨w2.heap.size, 0, none⟩) l [x0, x1, x2, x3] c 4 w3 hRa hRx hl (by simp) 28)
  clear hRa hRx
  refine HC.out.mono ?_
  rintro e w5 ⟨A2, c2, rfl, hC, hR2, hB5⟩
  have HX := hide (show Caps A2 (l ++ [x0, x1, x2, x3]).length c2 ∧ RdB w5 w5.heap.size A2 (l ++ [x0, x1, x2, x3]) ∧ Below w.heap.size w w5 from ⟨hC, hR2, hB4.trans (hB5.mono hB4.size)⟩)
  clear hC hR2 hB5 hB4 HC
  obtain ⟨m, hm⟩ : ∃ m, m = l ++ [x0, x1, x2, x3] := ⟨_, rfl⟩
  rw [← hm] at HX ⊢
  have HM := hide hm
  clear hm
  go_wp2_with fail
  obtain ⟨h1, h2, h3⟩ := HX.out
  have hm := HM.out
  subst hm
  exact bodyPost_ret (results_tmp rfl _ _ _) rfl ⟨A2, c2, rfl, h1, h2, h3⟩
end Go.Proofs.YtlbhgebjmekclaaDoor
