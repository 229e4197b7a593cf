/-
  crc's examples: awake.
-/
import Derived.Test.YtklficpogeidlaaDoorCrcSeal
import Derived.Lib.UnsafeStr
namespace Go.Proofs.YtklficpogeidlaaDoor
open Go.RowKit
set_option maxRecDepth 100000

theorem conv_markn (W : World) (b n : Nat) (cs : Array Value) (t : TypeId) (h : W.heap[b]? = some (.cells cs t (0, 0))) :
    ∃ w2, (convert 43 43 (.slice (some ⟨b, 0, none⟩) n n)).run Tryd.prog W = .ok (.slice (some ⟨b, 0, none⟩) n n) w2 ∧ Below b W w2 ∧ w2.heap[b]? = some (.cells cs t (cs.size, cs.size + 1)) ∧ w2.heap.size = W.heap.size := by
  have hs : W.shape? b = some (t, cs.size) := by unfold World.shape?; rw [h]
  have hlt : b < W.heap.size := (Array.getElem?_eq_some_iff.1 h).1
  refine ⟨W.freeze ⟨b, cs.size, none⟩ 1, ?_, Lib.below_freeze (B := b) (Below.refl b W) (p := ⟨b, cs.size, none⟩) (Nat.le_refl b) 1, ?_, by simp [World.freeze]⟩
  · simp [convert, run_underlying Tryd.underlying43, run_underlying Tryd.underlying5, markStringish, hs]
  · simp [World.freeze, Array.getElem?_modify, h]
theorem arow_any {W : World} {g : Nat} {l : List UInt8} {t : TypeId} {fz : Nat × Nat} (h : W.heap[g]? = some (.cells (l.map byteV).toArray t fz)) : RdB W W.heap.size (some ⟨g, 0, none⟩) l := fun k x hx => by
  refine ⟨_, rfl, (Array.getElem?_eq_some_iff.1 h).1, ?_⟩
  have e : ((⟨g, 0, none⟩ : Addr).add k) = ⟨g, k, none⟩ := by unfold Addr.add; split <;> simp_all
  rw [e]
  unfold World.cell?
  rw [h]
  simp [hx]
def nine : List UInt8 := [49, 50, 51, 52, 53, 54, 55, 56, 57]
theorem nine_sum : crcL nine = 3421780262 := by decide +kernel

set_option maxHeartbeats 4000000 in
theorem crcAwake_any (w : World) (hT : Table w) : Calls Tryd.prog 29 #[] w fun e w' => e = .returned (.bool true) ∧ Below w.heap.size w w' := by
  obtain ⟨w1, hw1⟩ : ∃ w1, w1 = w.alloc (.cells (nine.map byteV).toArray 5) := ⟨_, rfl⟩
  have hn1 := World.alloc_heap_new w (Obj.cells (nine.map byteV).toArray 5)
  have hB1 := (Below.refl _ w).alloc (Nat.le_refl _) (Obj.cells (nine.map byteV).toArray 5)
  have hz1 : (w.alloc (Obj.cells (nine.map byteV).toArray 5)).heap.size = w.heap.size + 1 := by simp
  rw [← hw1] at hn1 hB1 hz1
  obtain ⟨w2, hcv, hB2, hrow, hz2⟩ := conv_markn w1 w.heap.size 9 _ _ hn1
  have hB2' := hB1.trans hB2
  rw [hz1] at hz2
  have hR := arow_any hrow
  have hT2 := hT.below hB2' hT.pos
  have HS := hide (sum_one (some ⟨w.heap.size, 0, none⟩) nine 9 w2 43 hT2 hR (by decide))
  rw [nine_sum, hz2, show nine.length = 9 from rfl] at HS
  have HT := hide (fun W (h : Below w.heap.size w W) => seal_any none [] 0 W (hT.below h hT.pos) (RdB.nil _ _ _) (by decide))
  have HB := hide (hB2'.alloc hB2'.size (Obj.cells #[.slice (some ⟨w.heap.size, 0, none⟩) 9 9] 43))
  rw [show (nine.map byteV).toArray = #[.int .u8 49, .int .u8 50, .int .u8 51, .int .u8 52, .int .u8 53, .int .u8 54, .int .u8 55, .int .u8 56, .int .u8 57] from rfl] at hw1
  clear hT hn1 hB1 hz1 hB2 hB2' hrow hR hT2
  go_enter Tryd.func29, Tryd.ntmps29
  rw [hw1] at hcv
  clear hw1
  go_wp2_with fail
  refine HS.out.mono ?_
  rintro e w3 ⟨rfl, rfl⟩
  clear HS hcv
  go_wp2_with fail
  refine (HT.out _ HB.out).mono ?_
  rintro e w4 ⟨A, c, rfl, hC, hR, hB4⟩
  have hcv := conv_any hR c
  have hBx := HB.out.trans (hB4.mono HB.out.size)
  have hl : ([] ++ le4 (crcL [])).length = 4 := rfl
  rw [hl] at hcv ⊢
  rw [show ofL ([] ++ le4 (crcL [])) = ⟨#[0, 0, 0, 0]⟩ from by decide +kernel] at hcv
  clear HT HB hC hR hB4 hl hz2
  go_wp2_with fail
  exact bodyPost_ret (results_tmp rfl _ _ _) rfl ⟨rfl, hBx⟩
end Go.Proofs.YtklficpogeidlaaDoor
