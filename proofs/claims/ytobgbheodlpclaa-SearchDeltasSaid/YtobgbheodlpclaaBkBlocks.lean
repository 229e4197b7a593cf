/-
  All blocks of bytes: the reference's Blocks.
-/
import Derived.Test.YtobgbheodlpclaaBkAt
import Derived.Laws.AppendOwnNone
import Derived.Deep.LoopGhost
import Derived.Deep.DeepCutAuto
import Derived.Lib.Strings
import Derived.Maps.AppendAt
namespace Go.Proofs.Ytobgbheodlpclaa
open Go.RowKit
set_option maxRecDepth 100000

/-- All blocks of bytes. -/
def blocksL (l : List UInt8) (size : Int) : List (List UInt8) := (List.range (countN l.length size).toNat).map fun k => blkL l size ((k : Nat) : Int)
theorem blocksL_len (l : List UInt8) (size : Int) : (blocksL l size).length = (countN l.length size).toNat := by simp [blocksL]
/-- Texts, as values. -/
def strs (L : List (List UInt8)) : List Value := L.map fun x => .string (ofL x)
/-- A row of texts of the call's own. -/
structure XI (w0 : World) (v : Value) (L : List (List UInt8)) (w' : World) : Prop where
  below : Below w0.heap.size w0 w'
  own : w'.ownsRow w0.heap.size 9 1 v L.length (strs L)
/-- Texts that lie at an address, one behind the other, below block B. -/
def RdTx (w : World) (B : Nat) (A : Option Addr) (L : List (List UInt8)) : Prop :=
  ∀ k x, L[k]? = some x → ∃ ad : Addr, A = some ad ∧ ad.block < B ∧ w.cell? (ad.add k) = some (.string (ofL x))
theorem RdTx.below {w w' : World} {B B' : Nat} {A : Option Addr} {l : List (List UInt8)} (h : RdTx w B A l) (hb : Below B' w w') (hB : B ≤ B') : RdTx w' B A l := fun k x hx => by
  obtain ⟨ad, e, hlt, hc⟩ := h k x hx
  exact ⟨ad, e, hlt, (hb.cell (by rw [add_block]; omega)).trans hc⟩
theorem RdTx.mono {w : World} {B B' : Nat} {A : Option Addr} {l : List (List UInt8)} (h : RdTx w B A l) (hB : B ≤ B') : RdTx w B' A l := fun k x hx => by
  obtain ⟨ad, e, hlt, hc⟩ := h k x hx
  exact ⟨ad, e, by omega, hc⟩
theorem RdTx.step {w w' : World} {A : Option Addr} {l : List (List UInt8)} (h : RdTx w w.heap.size A l) (hb : Below w.heap.size w w') : RdTx w' w'.heap.size A l := (h.below hb (Nat.le_refl _)).mono hb.size
theorem RdTx.own {w : World} {base n c : Nat} {e : TypeId} {A : Option Addr} {l : List (List UInt8)} (h : w.ownsRow base e 1 (.slice A n c) n (strs l)) : RdTx w w.heap.size A l := fun k x hx => by
  rcases h.2 with ⟨hv, h0⟩ | ⟨g, cap, cur, hv, _, hg, _⟩
  · have := h.1
    rw [h0] at this
    simp [strs] at this
    subst this
    simp at hx
  · injection hv with hA
    subst hA
    refine ⟨_, rfl, (Array.getElem?_eq_some_iff.1 hg).1, h.cells (g := g) rfl k _ ?_⟩
    unfold strs
    rw [List.getElem?_map, hx]; rfl
theorem info_str : (Try.prog.info? 9).map (fun i => (i.zero, i.size, i.bytes)) = some (some (.string ⟨#[]⟩), 1, 16) := by kernel_rfl

theorem count_ge (n s : Int) (hs : 4 ≤ s) : n ≤ (if n % s = 0 then n / s else n / s + 1) * s := by
  have e := Int.mul_ediv_add_emod n s
  have hm := Int.emod_lt_of_pos n (show 0 < s by omega)
  rw [Int.mul_comm] at e
  split
  · omega
  · rw [Int.add_mul]; omega
theorem countN_nat (n : Nat) (size : Int) : countN n size = if (n : Int) % fitN size = 0 then (n : Int) / fitN size else (n : Int) / fitN size + 1 := by
  unfold countN; rw [show max (n : Int) 0 = n by omega]
theorem countN_nn (n : Nat) (size : Int) : 0 ≤ countN n size := by
  have hf := fitN_in size
  have h : 0 ≤ (n : Int) / fitN size := Int.ediv_nonneg (by omega) (by omega)
  rw [countN_nat]; split <;> omega
theorem countN_le (n : Nat) (size : Int) : countN n size ≤ n := by
  have hf := fitN_in size
  by_cases h : countN n size ≤ 0
  · omega
  · have h1 := count_lt (n : Int) (fitN size) (countN n size - 1) hf.1 (by rw [← countN_nat]; omega)
    have h2 : (countN n size - 1) * 4 ≤ (countN n size - 1) * fitN size := Int.mul_le_mul_of_nonneg_left hf.1 (by omega)
    omega
theorem blkL_len (l : List UInt8) (size k : Int) : (blkL l size k).length ≤ 64 := by
  have hf := fitN_in size
  unfold blkL
  split
  · simp
  · rw [List.length_take]; omega
/-- What stands at a block's place. -/
theorem blk_here (l : List UInt8) (size : Int) (h k : Nat) (hh : fitN size = h) (hk : k < (countN l.length size).toNat) :
    k * h < l.length ∧ blkL l size k = (l.drop (k * h)).take h := by
  have hf := fitN_in size
  have hc := countN_nat l.length size
  have h1 : ((k : Int) * h) < l.length := by
    have := count_lt (l.length : Int) (fitN size) k hf.1 (by rw [← hc]; omega)
    rwa [hh] at this
  have h2 : k * h < l.length := by exact_mod_cast h1
  refine ⟨h2, ?_⟩
  unfold blkL
  rw [if_neg (by omega), hh]
  congr 1
theorem blk_ext (s : ByteArray) (m h : Nat) (hm : m < s.size) : toL (s.extract m (min (m + h) s.size)) = ((toL s).drop m).take h := by
  have hl : (toL s).length = s.size := by simp [toL]
  rw [show toL (s.extract m (min (m + h) s.size)) = ((toL s).drop m).take (min (m + h) s.size - m) from Lib.extract_data s _ _]
  rw [List.take_eq_take_iff, List.length_drop, hl]
  omega
theorem blocks_take (l : List UInt8) (size : Int) (k : Nat) (hk : k < (countN l.length size).toNat) : (blocksL l size).take (k + 1) = (blocksL l size).take k ++ [blkL l size k] := by
  rw [List.take_add_one, List.getElem?_eq_getElem (by rw [blocksL_len]; exact hk)]
  simp [blocksL]

set_option maxHeartbeats 4000000 in
theorem refBlocks_any (s : ByteArray) (size : Int) (w : World) (hs : s.size ≤ 1000000) :
    Calls Try.prog 17 #[.string s, .int .i64 size] w fun e w' => ∃ v, e = .returned v ∧ XI w v (blocksL (toL s) size) w' := by
  obtain ⟨i0, hi, hz0, hz1, hz2⟩ := info_parts info_str
  have hf := fitN_in size
  obtain ⟨h, hh⟩ : ∃ h : Nat, fitN size = h := ⟨(fitN size).toNat, by omega⟩
  have hsl : (toL s).length = s.size := by simp [toL]
  obtain ⟨N, hN⟩ : ∃ N : Nat, (countN (toL s).length size).toNat = N := ⟨_, rfl⟩
  have HStep := hide (fun (k : Nat) (hk : k < N) => (⟨by have := (blk_here (toL s) size h k hh (by omega)).1; omega, by rw [(blk_here (toL s) size h k hh (by omega)).2], blocks_take (toL s) size k (by omega)⟩ :
    k * h < s.size ∧ blkL (toL s) size k = ((toL s).drop (k * h)).take h ∧ (blocksL (toL s) size).take (k + 1) = (blocksL (toL s) size).take k ++ [blkL (toL s) size k]))
  have HEnd := hide (show s.size ≤ N * h by
    have h1 := count_ge (s.size : Int) (fitN size) hf.1
    rw [← countN_nat, hh] at h1
    have h2 := countN_nn s.size size
    rw [hsl] at hN
    have h3 : countN s.size size = N := by omega
    rw [h3] at h1
    exact_mod_cast h1)
  have HLen := hide (show (blocksL (toL s) size).length = N by rw [blocksL_len, hN])
  have HF := hide (fun W => hold_any size W)
  rw [hh] at hf HF
  clear hN hsl hh
  generalize blocksL (toL s) size = L at HStep HLen ⊢
  go_enter Try.func17, Try.ntmps17
  go_wp2_with fail
  go_loopg [5, 6, 7] N (fun gk ov iv _ wr => ∃ (k a : Nat) (B : Option Addr) (d : Nat), ov = .slice B k d ∧ iv = .int .i64 a ∧ k + gk = N ∧ Hid (a = k * h) ∧ Hid (Below w.heap.size w wr) ∧ Hid (wr.ownsRow w.heap.size 9 1 (.slice B k d) k (strs (L.take k))))
  case atStart => exact ⟨0, 0, none, 0, rfl, rfl, by omega, hide (by simp), hide (Below.refl _ _), hide (World.ownsRow_nil _ _ _ _)⟩
  case round =>
    obtain ⟨k, a, B, d, rfl, rfl, hkg, Ha, HB, HO⟩ := hrel
    cases gk with
    | zero =>
      obtain rfl : k = N := by omega
      have hge : ¬ ((a : Int) < s.size) := by have := Ha.out; have := HEnd.out; omega
      have HX := hide (show XI w (.slice B k d) L wr from ⟨HB.out, by have h := HO.out; rw [List.take_of_length_le (by have := HLen.out; omega)] at h; rw [HLen.out]; exact h⟩)
      go_wp2_with fail
      exact bodyPost_ret (results_tmp rfl _ _ _) rfl ⟨.slice B k d, rfl, HX.out⟩
    | succ g0 =>
      have hlt : (a : Int) < s.size := by have := Ha.out; have := (HStep.out k (by omega)).1; omega
      have ha0 : (0 : Int) ≤ a := by omega
      have hah : 0 ≤ (a : Int) + h := by omega
      have hsi : (s.size : Int) ≤ 1000000 := by omega
      have hh1 : (4 : Int) ≤ h ∧ (h : Int) ≤ 64 := hf
      obtain ⟨hh2, hh3⟩ := hh1
      have hle : (a : Int) ≤ a + h := by omega
      have hle2 : (a : Int) ≤ s.size := by omega
      have e1 : ((a : Int) + h).toNat = a + h := by omega
      have hk6 : k ≤ 1000000 := by have h1 := (HStep.out k (by omega)).1; have h2 : k * 4 ≤ k * h := Nat.mul_le_mul_left k (by omega); omega
      have hws := HB.out.size
      have HT := hide (show strs (L.take k) ++ [.string (s.extract a (min (a + h) s.size))] = strs (L.take (k + 1)) by
        obtain ⟨q1, q2, q3⟩ := HStep.out k (by omega)
        rw [q3, q2]
        unfold strs
        rw [List.map_append]
        congr 1
        show [_] = [_]
        congr 2
        apply toL_inj
        rw [toL_ofL, blk_ext s a h (by omega), Ha.out])
      by_cases hc : (s.size : Int) < (a : Int) + h
      · have HT2 := hide (show strs (L.take k) ++ [.string (s.extract a s.size)] = strs (L.take (k + 1)) by rw [← HT.out, show min (a + h) s.size = s.size by omega])
        clear HT
        go_wp2_with fail
        refine (HF.out _).mono ?_
        rintro e w1 ⟨rfl, rfl⟩
        go_wp2_with (at_builtin; refine wpList_append_own _ rfl _ _ 34 rfl w.heap.size 9 i0 (.string ⟨#[]⟩) 1 16 Try.underlying34 hi hz0 hz1 hz2 rfl (by decide) _ _ _ rfl (HO.out.alloc _) ⟨w1.heap.size, 0, none⟩ 1 1 [.string (s.extract a s.size)] rfl rfl (cell_one_new _ _ _) (by simp [Value.oneCell']) (by unfold maxLen; omega) (by omega) (by simp; omega) ?_)
        intro v' w' hO3 hg3 _
        obtain ⟨B', d', rfl⟩ := ownsRow_slice hO3
        have HO3 := hide (show w'.ownsRow w.heap.size 9 1 (.slice B' (k + 1) d') (k + 1) (strs (L.take (k + 1))) from by rw [← HT2.out]; exact hO3)
        have HB3 := hide ((HB.out.alloc HB.out.size _).grown hg3 (by simp; omega) (fun r e => (HO.out.lt r e).1))
        clear hO3 hg3
        go_wp2_with fail
        refine (HF.out _).mono ?_
        rintro e w3 ⟨rfl, rfl⟩
        go_wp2_with fail
        go_roundg g0
        case rel => exact ⟨k + 1, a + h, B', d', rfl, rfl, by omega, hide (by rw [Ha.out, Nat.add_mul, Nat.one_mul]), HB3, HO3⟩
        case measure => omega
      · have HT2 := hide (show strs (L.take k) ++ [.string (s.extract a (a + h))] = strs (L.take (k + 1)) by rw [← HT.out, show min (a + h) s.size = a + h by omega])
        clear HT
        go_wp2_with fail
        refine (HF.out _).mono ?_
        rintro e w1 ⟨rfl, rfl⟩
        go_wp2_with (at_builtin; refine wpList_append_own _ rfl _ _ 34 rfl w.heap.size 9 i0 (.string ⟨#[]⟩) 1 16 Try.underlying34 hi hz0 hz1 hz2 rfl (by decide) _ _ _ rfl (HO.out.alloc _) ⟨w1.heap.size, 0, none⟩ 1 1 [.string (s.extract a (a + h))] rfl rfl (cell_one_new _ _ _) (by simp [Value.oneCell']) (by unfold maxLen; omega) (by omega) (by simp; omega) ?_)
        intro v' w' hO3 hg3 _
        obtain ⟨B', d', rfl⟩ := ownsRow_slice hO3
        have HO3 := hide (show w'.ownsRow w.heap.size 9 1 (.slice B' (k + 1) d') (k + 1) (strs (L.take (k + 1))) from by rw [← HT2.out]; exact hO3)
        have HB3 := hide ((HB.out.alloc HB.out.size _).grown hg3 (by simp; omega) (fun r e => (HO.out.lt r e).1))
        clear hO3 hg3
        go_wp2_with fail
        refine (HF.out _).mono ?_
        rintro e w3 ⟨rfl, rfl⟩
        go_wp2_with fail
        go_roundg g0
        case rel => exact ⟨k + 1, a + h, B', d', rfl, rfl, by omega, hide (by rw [Ha.out, Nat.add_mul, Nat.one_mul]), HB3, HO3⟩
        case measure => omega
end Go.Proofs.Ytobgbheodlpclaa
