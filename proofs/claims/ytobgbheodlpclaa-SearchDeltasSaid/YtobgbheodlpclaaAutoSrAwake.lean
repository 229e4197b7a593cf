/-
  Texts that belong together: PtAwake, SrAwake, SrSelfMath.
-/
import Derived.Test.YtobgbheodlpclaaAutoPtApply
import Derived.Test.YtobgbheodlpclaaAutoRollStep
import Derived.Test.YtobgbheodlpclaaSrOf
import Derived.Test.YtobgbheodlpclaaAutoTkSame
/-
  The page's example of layer 18.
-/
namespace Go.Proofs.Ytobgbheodlpclaa
open Go.RowKit
set_option maxRecDepth 100000

/-- Tokens that have just been laid. -/
theorem RdT.laid (W : World) (l : List Tk) (t : TypeId) : RdT (W.alloc (.cells (cellsT l).toArray t)) (W.alloc (.cells (cellsT l).toArray t)).heap.size (some ⟨W.heap.size, 0, none⟩) l := fun k x hx => by
  obtain ⟨q1, q2, q3⟩ := cellsT_get l k x hx
  have hrow := World.alloc_heap_new W (Obj.cells (cellsT l).toArray t)
  refine ⟨_, rfl, by simp, ?_⟩
  rw [addT_off]
  refine ⟨?_, ?_, ?_⟩
  · rw [cell_of_row _ _ _ _ _ _ hrow, List.getElem?_toArray]; exact q1
  · rw [cell_of_row _ _ _ _ _ _ hrow, List.getElem?_toArray]; exact q2
  · rw [cell_of_row _ _ _ _ _ _ hrow, List.getElem?_toArray]; exact q3
def eightP : List UInt8 := [97, 98, 99, 100, 101, 102, 103, 104]
def twoP : List Tk := [⟨1, 1, ⟨#[]⟩⟩, ⟨0, 0, ⟨#[120]⟩⟩]
theorem eight_two : applyE eightP 4 twoP = 0 ∧ applyL eightP 4 twoP = [101, 102, 103, 104, 120] := ⟨by kernel_rfl, by kernel_rfl⟩

set_option maxHeartbeats 4000000 in
theorem ptAwake_any (w : World) : Calls Try.prog 57 #[] w fun e w' => e = .returned (.bool true) ∧ Below w.heap.size w w' := by
  obtain ⟨w1, hw1⟩ : ∃ w1, w1 = w.alloc (.cells (eightP.map byteV).toArray 5) := ⟨_, rfl⟩
  have hn1 := World.alloc_heap_new w (Obj.cells (eightP.map byteV).toArray 5)
  have hB1 := (Below.refl _ w).alloc (Nat.le_refl _) (Obj.cells (eightP.map byteV).toArray 5)
  rw [← hw1] at hn1 hB1
  obtain ⟨w2, hcv, hB2, hrow, hz2⟩ := conv_self w1 w.heap.size 8 _ _ hn1
  have HB2 := hide (hB1.trans hB2)
  have hR := row_bytes hrow
  rw [show (eightP.map byteV).toArray = #[.int .u8 97, .int .u8 98, .int .u8 99, .int .u8 100, .int .u8 101, .int .u8 102, .int .u8 103, .int .u8 104] from rfl] at hw1
  have hB3 := (Below.refl w2.heap.size w2).alloc (Nat.le_refl _) (Obj.cells (cellsT twoP).toArray 71)
  have HAp := hide (apply_any (some ⟨w.heap.size, 0, none⟩) eightP 8 4 (some ⟨w2.heap.size, 0, none⟩) twoP 2 _ (hR.step hB3) ⟨by decide, fun e => by cases e⟩ (by decide) (RdT.laid w2 twoP 71) (by decide))
  rw [eight_two.1, eight_two.2] at HAp
  have HB3 := hide (HB2.out.trans (hB3.mono HB2.out.size))
  clear hn1 hB1 hB2 hrow hz2 hR hB3
  go_enter Try.func57, Try.ntmps57
  rw [hw1] at hcv
  clear hw1
  go_wp2_with fail
  refine HAp.out.mono ?_
  rintro e w4 ⟨D, d, rfl, hcd, hRd, hb4⟩
  have hcv4 : (convert 22 9 (.slice D 5 d)).run Try.prog w4 = .ok (.string ⟨#[101, 102, 103, 104, 120]⟩) w4 := conv_any hRd d
  have HB4 := hide (HB3.out.trans (hb4.mono HB3.out.size))
  clear hcd hRd hb4 hcv HAp HB2
  go_wp2_with fail
  exact bodyPost_ret (results_tmp rfl _ _ _) rfl ⟨rfl, HB4.out⟩
end Go.Proofs.Ytobgbheodlpclaa
/-
  The page's example of layer 17.
-/
namespace Go.Proofs.Ytobgbheodlpclaa
open Go.RowKit
set_option maxRecDepth 100000

def nineP : List UInt8 := [120, 101, 102, 103, 104, 97, 98, 99, 100]
def threeP : List Tk := [⟨0, 0, ⟨#[120]⟩⟩, ⟨1, 1, ⟨#[]⟩⟩, ⟨0, 1, ⟨#[]⟩⟩]
theorem eight_nine : deltaL eightP 4 nineP = threeP := by kernel_rfl

set_option maxHeartbeats 8000000 in
theorem srAwake_any (w : World) : Calls Try.prog 51 #[] w fun e w' => e = .returned (.bool true) ∧ Below w.heap.size w w' := by
  obtain ⟨w1, hw1⟩ : ∃ w1, w1 = w.alloc (.cells (eightP.map byteV).toArray 5) := ⟨_, rfl⟩
  have hn1 := World.alloc_heap_new w (Obj.cells (eightP.map byteV).toArray 5)
  have hB1 := (Below.refl _ w).alloc (Nat.le_refl _) (Obj.cells (eightP.map byteV).toArray 5)
  rw [← hw1] at hn1 hB1
  obtain ⟨w2, hcv, hB2, hrow, hz2⟩ := conv_self w1 w.heap.size 8 _ _ hn1
  have hBB2 := hB1.trans hB2
  have hR := row_bytes hrow
  rw [show (eightP.map byteV).toArray = #[.int .u8 97, .int .u8 98, .int .u8 99, .int .u8 100, .int .u8 101, .int .u8 102, .int .u8 103, .int .u8 104] from rfl] at hw1
  obtain ⟨w3, hw3⟩ : ∃ w3, w3 = w2.alloc (.cells (nineP.map byteV).toArray 5) := ⟨_, rfl⟩
  have hn3 := World.alloc_heap_new w2 (Obj.cells (nineP.map byteV).toArray 5)
  have hB3 := (Below.refl _ w2).alloc (Nat.le_refl _) (Obj.cells (nineP.map byteV).toArray 5)
  rw [← hw3] at hn3 hB3
  obtain ⟨w4, hcv4, hB4, hrow4, hz4⟩ := conv_self w3 w2.heap.size 9 _ _ hn3
  have hB34 := hB3.trans hB4
  have hR4 := row_bytes hrow4
  rw [show (nineP.map byteV).toArray = #[.int .u8 120, .int .u8 101, .int .u8 102, .int .u8 103, .int .u8 104, .int .u8 97, .int .u8 98, .int .u8 99, .int .u8 100] from rfl] at hw3
  have HDe := hide (delta_any (some ⟨w.heap.size, 0, none⟩) eightP 8 4 4 (some ⟨w2.heap.size, 0, none⟩) nineP 9 w4 (hR.step hB34) ⟨by decide, fun e => by cases e⟩ (by decide) hR4 ⟨by decide, fun e => by cases e⟩ (by decide) (by decide))
  rw [eight_nine] at HDe
  have HB4 := hide (hBB2.trans (hB34.mono hBB2.size))
  clear hn1 hB1 hB2 hrow hz2 hR hn3 hB3 hB4 hrow4 hz4 hB34 hR4 hBB2
  go_enter Try.func51, Try.ntmps51
  rw [hw1] at hcv
  rw [hw3] at hcv4
  clear hw1 hw3
  go_wp2_with fail
  refine HDe.out.mono ?_
  rintro e w5 ⟨v, rfl, hI⟩
  obtain ⟨D, d, rfl⟩ := ownsRow_slice hI.own
  have hB6 := (Below.refl w5.heap.size w5).alloc (Nat.le_refl _) (Obj.cells (cellsT threeP).toArray 71)
  have HSm := hide (same_any D (some ⟨w5.heap.size, 0, none⟩) threeP threeP d 3 _ ((RdT.own hI.own).step hB6) (RdT.laid w5 threeP 71) (by decide))
  rw [sameB_refl] at HSm
  have hB5 := HB4.out.trans (hI.below.mono HB4.out.size)
  have HB6 := hide (hB5.trans (hB6.mono hB5.size))
  clear hI hB6 hB5 HDe hcv hcv4 HB4
  go_wp2_with fail
  refine HSm.out.mono ?_
  rintro e w7 ⟨rfl, hb7⟩
  have HF := hide (HB6.out.trans (hb7.mono HB6.out.size))
  clear hb7
  go_wp2_with fail
  exact bodyPost_ret (results_tmp rfl _ _ _) rfl ⟨rfl, HF.out⟩
end Go.Proofs.Ytobgbheodlpclaa
/-
  The signature of bytes, block by block; what is searched for in itself costs nothing (plain).
-/
namespace Go.Proofs.Ytobgbheodlpclaa
open Go.RowKit
set_option maxRecDepth 100000

theorem sigOf_all (l : List UInt8) (size : Int) (h : Nat) (hh : fitN size = h) :
    (∀ k < (sigOf l h).1.length, (blkL l size k).length = h ∧ (sigOf l h).1[k]? = some (signL (blkL l size k))) ∧
    ((sigOf l h).2.1 ≠ 0 → (blkL l size (sigOf l h).1.length).length = (sigOf l h).2.1 ∧ (sigOf l h).2.2 = signL (blkL l size (sigOf l h).1.length)) ∧
    countN l.length size = if (sigOf l h).2.1 = 0 then ((sigOf l h).1.length : Int) else (sigOf l h).1.length + 1 := by
  have hf := fitN_in size
  rw [hh] at hf
  have hnn := countN_nn l.length size
  have hcn := countN_nat l.length size
  rw [hh] at hcn
  obtain ⟨N, hN⟩ : ∃ N : Nat, countN l.length size = N := ⟨(countN l.length size).toNat, by omega⟩
  have hNt : (countN l.length size).toNat = N := by omega
  have hlen : (blocksL l size).length = N := by rw [blocksL_len, hNt]
  have hall : (blocksL l size).take N = blocksL l size := List.take_of_length_le (by omega)
  have e := Int.mul_ediv_add_emod (l.length : Int) h
  have hm := Int.emod_nonneg (l.length : Int) (show (h : Int) ≠ 0 by omega)
  have hm2 := Int.emod_lt_of_pos (l.length : Int) (show (0 : Int) < h by omega)
  have hq0 : 0 ≤ (l.length : Int) / h := Int.ediv_nonneg (by omega) (by omega)
  obtain ⟨q, hq⟩ : ∃ q : Nat, (l.length : Int) / h = q := ⟨((l.length : Int) / h).toNat, by omega⟩
  rw [hq] at e hcn
  have hqh : ((q * h : Nat) : Int) = (h : Int) * q := by rw [Int.natCast_mul, Int.mul_comm]
  rw [hN] at hcn ⊢
  have hkh : ∀ k < q, (blkL l size k).length = h := fun k hk => by
    rw [blk_length l size h k hh (by split at hcn <;> omega)]
    have h1 : (k + 1) * h ≤ q * h := Nat.mul_le_mul_right h hk
    rw [Nat.add_mul, Nat.one_mul] at h1
    omega
  have hget : ∀ k < N, (blocksL l size)[k]? = some (blkL l size k) := fun k hk => blocksL_get l size k (by omega)
  unfold sigOf
  rw [blocksL_fit l size h hh]
  by_cases h0 : (l.length : Int) % h = 0
  · rw [if_pos h0] at hcn
    have hqN : q = N := by omega
    have hw := sigF_whole l size h hh N (by rw [← hqN]; omega) (by omega)
    rw [hall] at hw
    rw [hw]
    simp only [List.length_map, hlen]
    refine ⟨fun k hk => ⟨hkh k (by omega), ?_⟩, fun hz => absurd rfl hz, by simp⟩
    rw [List.getElem?_map, hget k hk]; rfl
  · rw [if_neg h0] at hcn
    have hqN : q + 1 = N := by omega
    have hw := sigF_whole l size h hh q (by omega) (by omega)
    have hg := hget q (by omega)
    have hbl : (blkL l size q).length = l.length - q * h := by
      rw [blk_length l size h q hh (by omega)]; omega
    have hst := sigF_take h _ q _ hg
    rw [hqN, hall, hw] at hst
    have hne : ¬ (blkL l size q).length = h := by omega
    unfold ofStep at hst
    rw [if_neg hne] at hst
    have htl : ((blocksL l size).take q).length = q := by rw [List.length_take]; omega
    rw [hst]
    simp only [List.length_map, htl]
    refine ⟨fun k hk => ⟨hkh k hk, ?_⟩, fun _ => ⟨trivial, by first | rfl | trivial⟩, ?_⟩
    · rw [List.getElem?_map, List.getElem?_take, if_pos hk, hget k (by omega)]; rfl
    · rw [if_neg (by omega)]; omega

theorem bytes_le (T : List Tk) : bytesL T ≤ sizeL T := sizeL_filter _ _
theorem self_size (l : List UInt8) (size : Int) (bl : List Sg) (h tl : Nat) (s : Sg) (hh : fitN size = h) (hlen : bl.length * h + tl = l.length) (ht : tl < h) (hs : ∀ k < bl.length, bl[k]? = some (signL (blkL l size k))) (hN : ∀ k < bl.length, k < (countN l.length size).toNat)
    (hT : tl ≠ 0 → s = signL (blkL l size bl.length) ∧ bl.length < (countN l.length size).toNat) : ∀ (f i nx : Nat), i ≤ bl.length → (l.drop (i * h)).length ≤ f → sizeL (refS bl h tl s f (l.drop (i * h)) nx) = 0
  | 0, i, nx, _, _ => rfl
  | f + 1, i, nx, hi, hf => by
    have hh4 := (fitN_in size).1
    rw [hh] at hh4
    cases hd : l.drop (i * h) with
    | nil => rfl
    | cons x r =>
      rw [refS_cons, ← hd]
      have hmul : i * h ≤ bl.length * h := Nat.mul_le_mul_right h hi
      by_cases hib : i < bl.length
      · have h1 : (i + 1) * h ≤ bl.length * h := Nat.mul_le_mul_right h hib
        rw [Nat.add_mul, Nat.one_mul] at h1
        rw [if_pos (by rw [List.length_drop]; omega)]
        have hb : (l.drop (i * h)).take h = blkL l size i := (blk_here l size h i hh (hN i hib)).2.symm
        have hw : whichL bl (signL ((l.drop (i * h)).take h)) nx ≠ none := whichL_some nx (by rw [hb]; exact List.mem_of_getElem? (hs i hib))
        cases hk : whichL bl (signL ((l.drop (i * h)).take h)) nx with
        | none => exact absurd hk hw
        | some k =>
          simp only
          have e : (l.drop (i * h)).drop h = l.drop ((i + 1) * h) := by rw [List.drop_drop, Nat.add_mul, Nat.one_mul]
          rw [e]
          show (ByteArray.mk #[]).size + sizeL _ = 0
          rw [self_size l size bl h tl s hh hlen ht hs hN hT f (i + 1) (k + 1) hib (by rw [List.length_drop] at hf ⊢; rw [Nat.add_mul, Nat.one_mul]; omega)]
          rfl
      · have hie : i = bl.length := by omega
        subst hie
        have hdl : (l.drop (bl.length * h)).length = tl := by rw [List.length_drop]; omega
        have ht0 : tl ≠ 0 := by rw [← hdl, hd]; simp
        obtain ⟨t1, t2⟩ := hT ht0
        rw [if_neg (by omega)]
        have hb : l.drop (bl.length * h) = blkL l size bl.length := by
          rw [(blk_here l size h bl.length hh t2).2, List.take_of_length_le (by omega)]
        rw [if_pos (by unfold tailB; rw [hdl, t1, hb]; simp [ht0, (sgB_iff _ _).2]), List.drop_of_length_le (by omega), refS_nil]
        rfl
/-- All that the law SearchSelf says. -/
theorem self_facts (l b : List UInt8) (size : Int) (h : Nat) (hh : fitN size = h) (hl : l.length ≤ 400) (hb : b.length ≤ 400) :
    (valsL l size (deltaL l h b)).length = b.length ∧ bytesL (deltaL l h l) = 0 ∧ bytesL (deltaL l h b) ≤ b.length ∧ (deltaL l h b).length ≤ 1000 ∧ (∀ t ∈ deltaL l h b, rightT t = true) := by
  obtain ⟨f1, f2, f3, f4⟩ := sigOf_facts l size h hh (by omega)
  obtain ⟨a1, a2, a3⟩ := sigOf_all l size h hh
  have hf := fitN_in size
  rw [hh] at hf
  unfold deltaL
  generalize sigOf l h = q at f1 f2 f3 f4 a1 a2 a3 ⊢
  obtain ⟨bl, tl, s⟩ := q
  simp only at f1 f2 f3 f4 a1 a2 a3 ⊢
  have ht : tl < h := by
    have q := f2
    unfold rightS at q
    simp only [Bool.and_eq_true, decide_eq_true_eq] at q
    have q4 := q.2.2.2
    split at q4
    · omega
    · simp only [Bool.and_eq_true, decide_eq_true_eq] at q4; omega
  obtain ⟨b1, b2, b3, b4⟩ := found_facts bl h tl s b f2 hb
  obtain ⟨c1, c2, c3, c4⟩ := found_facts bl h tl s l f2 hl
  refine ⟨?_, ?_, Nat.le_trans (bytes_le _) b3, b2, b4⟩
  · rw [b1, vals_join l size _ (refS_right bl h tl s f3 _ b 0)]
    exact vals_len l size bl h tl s (fun k hk => (a1 k hk).1) (fun hz => (a2 hz).1) (by omega) _ b 0 (Nat.le_refl _)
  · rw [c1, joinR_bytes]
    have hN : ∀ k < bl.length, k < (countN l.length size).toNat := fun k hk => by rw [a3]; split <;> omega
    have := self_size l size bl h tl s hh f1 ht (fun k hk => (a1 k hk).2) hN (fun hz => ⟨(a2 hz).2, by rw [a3, if_neg hz]; omega⟩) l.length 0 0 (Nat.zero_le _) (by simp)
    rw [Nat.zero_mul, List.drop_zero] at this
    have h2 := bytes_le (refS bl h tl s l.length l 0)
    omega
end Go.Proofs.Ytobgbheodlpclaa
