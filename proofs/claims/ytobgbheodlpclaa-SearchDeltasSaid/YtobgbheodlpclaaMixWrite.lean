/-
  mix.Hash: Write.
-/
import Derived.Test.YtobgbheodlpclaaAutoMixClear
import Derived.StillTailTactics
import Derived.Lib.SlBuf
namespace Go.Proofs.Ytobgbheodlpclaa
open Go.RowKit
set_option maxRecDepth 100000

/-- A Hash that has met m and whose state is told, in block b. -/
def IsHS (w : World) (b : Nat) (m : List UInt8) : Prop := w.heap[b]? = some (.cells (hashRow (atN (m.length / 8) m) (restL (m.length / 8) m) m.length) 155 (0, 0))
theorem IsHS.isH {w : World} {b : Nat} {m : List UInt8} (h : IsHS w b m) : IsH w b m := ⟨_, atN_two _ _, fun _ => rfl, h⟩

/-- Bytes that lie at an address, in another block than b. -/
def RdX (w : World) (b : Nat) (A : Option Addr) (l : List UInt8) : Prop :=
  ∀ k x, l[k]? = some x → ∃ ad : Addr, A = some ad ∧ ad.block ≠ b ∧ w.cell? (ad.add k) = some (byteV x)
theorem RdX.nil (w : World) (b : Nat) (A : Option Addr) : RdX w b A [] := fun k x hx => by simp at hx
theorem RdX.kept {w w' : World} {b : Nat} {A : Option Addr} {l : List UInt8} (h : RdX w b A l) (hg : w.grownBy w' (some b)) : RdX w' b A l := fun k x hx => by
  obtain ⟨ad, e, hne, hc⟩ := h k x hx
  exact ⟨ad, e, hne, hg.cell hc (by rw [add_block]; simpa using hne)⟩
theorem RdB.otherX {w : World} {b : Nat} {A : Option Addr} {l : List UInt8} (h : RdB w b A l) : RdX w b A l := fun k x hx => by
  obtain ⟨ad, e, hlt, hc⟩ := h k x hx
  exact ⟨ad, e, Nat.ne_of_lt hlt, hc⟩
theorem RdX.drop {w : World} {b c k : Nat} {A : Option Addr} {l : List UInt8} (h : RdX w b A l) (hc : l.length ≤ c) : RdX w b (if c = k then A else A.map (·.add k)) (l.drop k) := fun j x hx => by
  rw [List.getElem?_drop] at hx
  have hlt := (List.getElem?_eq_some_iff.1 hx).1
  obtain ⟨ad, rfl, hb, hcell⟩ := h (k + j) x hx
  rw [if_neg (by omega)]
  refine ⟨ad.add k, rfl, by rw [add_block]; exact hb, ?_⟩
  have e : (ad.add k).add j = ad.add (k + j) := by
    unfold Addr.add
    by_cases hi : k = 0 <;> by_cases hj : j = 0 <;> simp [hi, hj, Nat.add_assoc]
  rw [e]; exact hcell

set_option maxHeartbeats 4000000 in
/-- One copy: as many bytes as there is room for. -/
theorem write_copy (b n r k : Nat) (p : Nat × Nat) (R L : List UInt8) (ad : Addr) (c : Nat) (w : World) (hR : R.length = 8) (hr : n % 8 = r) (hk : k = Nat.min L.length (8 - r))
    (h : w.heap[b]? = some (.cells (hashRow p R n) 155 (0, 0))) (hB : RdX w b (some ad) L) :
    (Builtin.copy_ #[22, 22] 3 #[.slice (some ⟨b, 2 + r, none⟩) (8 - r) (8 - r), .slice (some ad) L.length c]).run Try.prog w = .ok (.int .i64 (k : Nat)) (w.setRow b (hashRow p (R.take r ++ L.take k ++ R.drop (r + k)) n)) := by
  obtain ⟨i0, hi, hz0, hz1, hz2⟩ := info_parts info_byte
  have h1 := run_copy_row (P := Try.prog) w 22 22 3 5 b (2 + r) (8 - r) (8 - r) ad L.length c (hashRow p R n) 155 ((L.take k).map byteV)
    Try.underlying22 (by rw [hi]; simp [hz1]) h (by rw [List.length_map, List.length_take, hk]; show min (Nat.min _ _) _ = _; simp only [Nat.min_def]; split <;> split <;> omega)
    (fun j v hj => by
      rw [List.getElem?_map, Option.map_eq_some_iff] at hj
      obtain ⟨y, hy, rfl⟩ := hj
      have hy2 : L[j]? = some y := by
        rw [List.getElem?_take] at hy
        split at hy
        · exact hy
        · cases hy
      obtain ⟨ad', e', _, hc⟩ := hB j y hy2
      cases e'
      exact hc)
    (by
      have : k ≤ 8 - r := by rw [hk]; exact Nat.min_le_right _ _
      rw [List.length_map, List.length_take]
      show _ ≤ (hashRow p R n).size
      unfold hashRow
      simp only [List.size_toArray, List.length_cons, List.length_append, List.length_map, List.length_nil, hR]
      omega)
    (fun v hv => by obtain ⟨y, _, rfl⟩ := List.mem_map.1 hv; rfl)
  have hk8 : k ≤ 8 - r := by rw [hk]; exact Nat.min_le_right _ _
  have hkl : ((L.take k).map byteV).length = k := by rw [List.length_map, List.length_take, hk]; exact Nat.min_eq_left (Nat.min_le_left _ _)
  rw [hkl] at h1
  have hrow : (hashRow p R n).toList.take (2 + r) ++ (L.take k).map byteV ++ (hashRow p R n).toList.drop (2 + r + k) = (hashRow p (R.take r ++ L.take k ++ R.drop (r + k)) n).toList := by
    unfold hashRow
    simp only [List.map_append, List.map_take, List.map_drop]
    rw [show 2 + r = r + 1 + 1 by omega, show r + 1 + 1 + k = r + k + 1 + 1 by omega]
    simp only [List.take_succ_cons, List.drop_succ_cons, List.cons_append]
    rw [List.take_append_of_le_length (by rw [List.length_map]; omega), List.drop_append_of_le_length (by rw [List.length_map]; omega)]
    simp only [List.append_assoc]
  rw [hrow] at h1
  exact h1
/-- The rest behind a copy. -/
theorem rest_copy (q k : Nat) (M L : List UInt8) (h1 : 8 * q ≤ M.length) (h2 : M.length - 8 * q + k ≤ 8) (hk : k ≤ L.length) :
    (restL q M).take (M.length - 8 * q) ++ L.take k ++ (restL q M).drop (M.length - 8 * q + k) = restL q (M ++ L.take k) := by
  unfold restL
  have hl : (M.drop (8 * q)).length = M.length - 8 * q := List.length_drop ..
  have e : (M.drop (8 * q)).drop (M.length - 8 * q + k) = [] := List.drop_of_length_le (by omega)
  rw [List.take_append_of_le_length (by omega), List.take_of_length_le (by omega), List.drop_append, e, hl, show M.length - 8 * q + k - (M.length - 8 * q) = k by omega, List.nil_append, List.drop_replicate,
    List.drop_append_of_le_length h1, List.length_append, List.length_take, Nat.min_eq_left hk, show 8 - (M.length - 8 * q) - k = 8 - (M.length + k - 8 * q) by omega]

theorem hash_setn {w : World} {b n n2 : Nat} {p : Nat × Nat} {r : List UInt8} {t : TypeId} (hr : r.length = 8) (h : w.heap[b]? = some (.cells (hashRow p r n) t (0, 0))) : (w.setCell ⟨b, 10, none⟩ (.int .i64 (n2 : Nat))).heap[b]? = some (.cells (hashRow p r n2) t (0, 0)) := by
  have h2 := heap_setCell_same w b 10 _ _ (.int .i64 (n2 : Nat)) h
  obtain ⟨x0, x1, x2, x3, x4, x5, x6, x7, rfl⟩ := eight r hr
  exact h2

set_option maxHeartbeats 3000000 in
theorem writeX_any (b : Nat) (m : List UInt8) (A : Option Addr) (l : List UInt8) (c : Nat) (w : World) (h : IsH w b m) (hR : RdX w b A l) (hc : l.length ≤ c) (hm : m.length + l.length ≤ 1000000) :
    Calls Try.prog 105 #[.pointer (some ⟨b, 0, none⟩), .slice A l.length c] w fun e w' => e = .returned (.tuple #[]) ∧ IsHS w' b (m ++ l) ∧ w.grownBy w' (some b) ∧ Below b w w' := by
  have hb := isH_two h
  have HW := hide (whole_any b m w h)
  have htw := atN_two (m.length / 8) m
  obtain ⟨p, _, _, hr⟩ := h
  rw [show stV (atN (m.length / 8) m) = .agg #[.int .u64 ((atN (m.length / 8) m).1 : Nat), .int .u64 ((atN (m.length / 8) m).2 : Nat)] from rfl] at HW
  go_enter Try.func105, Try.ntmps105
  go_wp2_with fail
  refine HW.out.mono ?_
  rintro e w2 ⟨rfl, hB2⟩
  have r2 := (hB2.block b hb).trans hr
  obtain ⟨d0, d1⟩ := hash_p r2
  have z0 : w2.frozen? ⟨b, 0, none⟩ = false := frozen_of_row _ _ _ _ _ r2
  have z1 : w2.frozen? ⟨b, 1, none⟩ = false := frozen_of_row _ _ _ _ _ r2
  have r3 : ((w2.setCell ⟨b, 0, none⟩ (.int .u64 ((atN (m.length / 8) m).1 : Nat))).setCell ⟨b, 1, none⟩ (.int .u64 ((atN (m.length / 8) m).2 : Nat))).heap[b]? = some (.cells (hashRow (atN (m.length / 8) m) (restL (m.length / 8) m) m.length) 155 (0, 0)) := heap_setCell_same _ b 1 _ _ _ (heap_setCell_same w2 b 0 _ _ _ r2)
  have hG3 : w.grownBy ((w2.setCell ⟨b, 0, none⟩ (.int .u64 ((atN (m.length / 8) m).1 : Nat))).setCell ⟨b, 1, none⟩ (.int .u64 ((atN (m.length / 8) m).2 : Nat))) (some b) := by
    have hB3 := (Below.refl b w2).setCell (p := ⟨b, 0, none⟩) (Nat.le_refl _) (.int .u64 ((atN (m.length / 8) m).1 : Nat)) |>.setCell (p := ⟨b, 1, none⟩) (Nat.le_refl _) (.int .u64 ((atN (m.length / 8) m).2 : Nat))
    exact ⟨hB3.os.trans hB2.os, hB3.tape.trans hB2.tape, hB3.output.trans hB2.output, Nat.le_trans hB2.size hB3.size, fun k hk hkb => ((Below.heap_setCell _ _ _ _ (by simpa using hkb)).trans (Below.heap_setCell _ _ _ _ (by simpa using hkb))).trans (hB2.block k hk)⟩
  have hB3 : Below b w ((w2.setCell ⟨b, 0, none⟩ (.int .u64 ((atN (m.length / 8) m).1 : Nat))).setCell ⟨b, 1, none⟩ (.int .u64 ((atN (m.length / 8) m).2 : Nat))) := (hB2.mono (Nat.le_of_lt hb)).setCell (p := ⟨b, 0, none⟩) (Nat.le_refl _) _ |>.setCell (p := ⟨b, 1, none⟩) (Nat.le_refl _) _
  clear HW hr hB2 r2
  have hS0 : Hid (IsHS ((w2.setCell ⟨b, 0, none⟩ (.int .u64 ((atN (m.length / 8) m).1 : Nat))).setCell ⟨b, 1, none⟩ (.int .u64 ((atN (m.length / 8) m).2 : Nat))) b m) := hide r3
  clear r3
  generalize atN (m.length / 8) m = p3 at hG3 hB3 htw hS0 ⊢
  go_wp2_with fail
  go_loopw [1, 4] (fun s k wr => ∃ (j : Nat) (A2 : Option Addr) (c2 : Nat), j ≤ l.length ∧ s = .slice A2 (l.length - j) c2 ∧ l.length - j ≤ c2 ∧ RdX w b A2 (l.drop j) ∧ Hid (IsHS wr b (m ++ l.take j)) ∧ w.grownBy wr (some b) ∧ Below b w wr) (fun s _ _ => match s with | .slice _ n _ => n | _ => 0)
  case atStart => exact ⟨0, A, c, Nat.zero_le _, rfl, hc, by simpa using hR, by simpa using hS0, hG3, hB3⟩
  case round =>
    clear hS0 hG3 hB3 d0 d1 z0 z1
    obtain ⟨j, A2, c2, hj, rfl, hc2, hR2w, HS, hG, hB⟩ := hrel
    have hR2 := hR2w.kept hG
    by_cases hlt : j < l.length
    · have hpos : (0 : Int) < ((l.length - j : Nat) : Int) := by omega
      have hL : (l.drop j).length = l.length - j := List.length_drop ..
      obtain ⟨ad, rfl, _, _⟩ := hR2 0 _ (List.getElem?_eq_getElem (by omega))
      have hM : (m ++ l.take j).length = m.length + j := by rw [List.length_append, List.length_take, Nat.min_eq_left hj]
      generalize hMM : m ++ l.take j = M at HS hM
      have hrow := HS.out
      unfold IsHS at hrow
      have c10 := hash_n (rest_ok M) hrow
      obtain ⟨N, hN⟩ : ∃ N, N = M.length := ⟨_, rfl⟩
      rw [← hN] at c10 hM
      obtain ⟨r, hr⟩ : ∃ r, r = N % 8 := ⟨_, rfl⟩
      have hr8 : r < 8 := by omega
      have E8 : ((N : Int)).tmod 8 = (r : Int) := by rw [Int.tmod_eq_emod_of_nonneg (by omega)]; omega
      have hr1 : (r : Int) ≤ 8 := by omega
      have HR := hide hr
      have HN := hide hN
      have HM := hide hM
      have HJ := hide hMM
      obtain ⟨Z, hZ⟩ : ∃ Z, Z = l.length - j := ⟨_, rfl⟩
      rw [← hZ] at hc2 hL hpos ⊢
      have HZ := hide hZ
      clear hr hN hM hMM hZ hlt
      have h8r : ¬ 8 = r := by omega
      obtain ⟨k, hk⟩ : ∃ k, k = Nat.min Z (8 - r) := ⟨_, rfl⟩
      have hk1 : k ≤ Z := by rw [hk]; exact Nat.min_le_left _ _
      have hk2 : k ≤ 8 - r := by rw [hk]; exact Nat.min_le_right _ _
      have hrow2 : wr.drew.heap[b]? = some (.cells (hashRow (atN (M.length / 8) M) (restL (M.length / 8) M) N) 155 (0, 0)) := by rw [HN.out]; exact hrow
      have hcp := write_copy b N r k _ _ (l.drop j) ad c2 wr.drew (rest_ok M) HR.out.symm (by rw [hL]; exact hk) hrow2 (show RdX wr.drew b (some ad) (l.drop j) from hR2)
      rw [hL] at hcp
      have hrest := rest_copy (N / 8) k M (l.drop j) (by have := HN.out; omega) (by have := HR.out; have := HN.out; omega) (by rw [hL]; exact hk1)
      rw [← HN.out, show N - 8 * (N / 8) = r by have := HR.out; omega] at hrest
      rw [← HN.out] at hrow2
      rw [← HN.out, hrest] at hcp
      have hM2 : M ++ (l.drop j).take k = m ++ l.take (j + k) := by rw [← HJ.out, List.append_assoc, ← List.take_add]
      rw [hM2] at hcp
      have hM2l : (m ++ l.take (j + k)).length = N + k := by rw [List.length_append, List.length_take]; have := HM.out; have := HZ.out; omega
      have hat : atN (N / 8) M = atN (N / 8) (m ++ l.take (j + k)) := by rw [← hM2, atN_app _ _ _ (by have := HN.out; omega)]
      rw [hat] at hcp hrow2
      have h8 := restL_len (N / 8) (m ++ l.take (j + k)) (by rw [hM2l]; have := HR.out; omega)
      obtain ⟨x0, x1, x2, x3, x4, x5, x6, x7, hX⟩ := eight _ h8
      have hwr := wordN_rest (N / 8) (m ++ l.take (j + k)) (by rw [hM2l]; have := HR.out; omega)
      have hsm := wordN_small [x0, x1, x2, x3, x4, x5, x6, x7] (by simp)
      rw [hX] at hcp hwr
      have htw4 := atN_two (N / 8) (m ++ l.take (j + k))
      have hsucc := atN_succ (N / 8) (m ++ l.take (j + k))
      rw [← hwr] at hsucc
      have hw5 := setRow_heap wr.drew b _ (hashRow (atN (N / 8) (m ++ l.take (j + k))) [x0, x1, x2, x3, x4, x5, x6, x7] N) _ _ hrow2
      have hB5 : Below b w (wr.drew.setRow b (hashRow (atN (N / 8) (m ++ l.take (j + k))) [x0, x1, x2, x3, x4, x5, x6, x7] N)) := (show Below b w wr.drew from ⟨hB.os, hB.tape, hB.output, hB.size, hB.block⟩).trans ⟨rfl, rfl, rfl, by simp, fun i hi => setRow_other _ _ _ _ (by omega)⟩
      have hG5 : w.grownBy (wr.drew.setRow b (hashRow (atN (N / 8) (m ++ l.take (j + k))) [x0, x1, x2, x3, x4, x5, x6, x7] N)) (some b) := ⟨hG.os, hG.tape, hG.output, by rw [setRow_size]; exact hG.size, fun i hi hib => (setRow_other _ _ _ _ (by simpa using hib)).trans (hG.block i hi hib)⟩
      have HAT := hide (rfl : atN (N / 8) (m ++ l.take (j + k)) = atN (N / 8) (m ++ l.take (j + k)))
      obtain ⟨p4, hp4⟩ : ∃ p4, p4 = atN (N / 8) (m ++ l.take (j + k)) := ⟨_, rfl⟩
      rw [← hp4] at hcp hw5 hB5 hG5 htw4 hsucc
      have HP4 := hide hp4
      have HSU := hide hsucc
      have HXX := hide hX
      have HM2 := hide hM2l
      have HK := hide hk
      have HK1 := hide hk1
      have HC2 := hide hc2
      have HK2 := hide hk2
      have hk8 : (k : Int) ≤ 8 := by omega
      have hN6 : (N : Int) ≤ 1000000 := by have := HM.out; omega
      have hkZ : (k : Int) ≤ Z := by omega
      have hkc : (k : Int) ≤ c2 := by omega
      have HRD := hide (hR2w.drop (k := k) (by rw [hL]; exact hc2))
      rw [List.drop_drop] at HRD
      have hfin : (c2 = k ∧ Z = k) ∨ (¬ c2 = k) := by omega
      clear hrow hrow2 hrest hG hB HS hM2 hM2l hat h8 hX hwr hp4 hsucc hk hk1 hk2 HAT hL hc2 hR2 hR2w
      rcases hfin with ⟨hck, hzk⟩ | hck
      · subst hck
        subst hzk
        generalize hw5d : wr.drew.setRow b (hashRow p4 [x0, x1, x2, x3, x4, x5, x6, x7] N) = w5 at hcp hw5 hB5 hG5
        clear hw5d
        have c10 := hash_n rfl hw5
        have z10 : w5.frozen? ⟨b, 10, none⟩ = false := frozen_of_row _ _ _ _ _ hw5
        have hw6 : (w5.setCell ⟨b, 10, none⟩ (.int .i64 ((N : Int) + (Z : Int)))).heap[b]? = some (.cells (hashRow p4 [x0, x1, x2, x3, x4, x5, x6, x7] (N + Z)) 155 (0, 0)) := hash_setn rfl hw5
        have hB6 : Below b w (w5.setCell ⟨b, 10, none⟩ (.int .i64 ((N : Int) + (Z : Int)))) := hB5.setCell (p := ⟨b, 10, none⟩) (Nat.le_refl _) _
        have hG6 : w.grownBy (w5.setCell ⟨b, 10, none⟩ (.int .i64 ((N : Int) + (Z : Int)))) (some b) := ⟨hB6.os, hB6.tape, hB6.output, hB6.size, fun i hi hib => (Below.heap_setCell _ _ _ _ (by simpa using hib)).trans (hG5.block i hi hib)⟩
        by_cases hfl : (N + Z) % 8 = 0
        · have E2 : (((N : Int) + (Z : Int)) % 8 == 0) = true := by rw [beq_iff_eq]; omega
          have HQ := hide (show (N + Z) / 8 = N / 8 + 1 by have := HR.out; have := HK2.out; omega)
          clear hfl
          go_wp2_with fail
          go_still_tail 10, (by kernel_rfl)
          change wpList _ _ _ _ _ wr.drew
          go_wp2_with (at_builtin; refine Lib.wpList_copy_run _ rfl _ _ 22 22 rfl _ _ rfl rfl hcp ?_)
          generalize w5.setCell ⟨b, 10, none⟩ (.int .i64 ((N : Int) + (Z : Int))) = w6 at hw6 hB6 hG6 ⊢
          clear hcp hw5 hB5 hG5 c10 z10
          obtain ⟨m0, m1⟩ := hash_p hw6
          have k0 : w6.cell? ⟨b, 2, none⟩ = some (.int .u8 (x0.toNat : Nat)) := hash_r hw6 0 x0 rfl
          have k1 : w6.cell? ⟨b, 3, none⟩ = some (.int .u8 (x1.toNat : Nat)) := hash_r hw6 1 x1 rfl
          have k2 : w6.cell? ⟨b, 4, none⟩ = some (.int .u8 (x2.toNat : Nat)) := hash_r hw6 2 x2 rfl
          have k3 : w6.cell? ⟨b, 5, none⟩ = some (.int .u8 (x3.toNat : Nat)) := hash_r hw6 3 x3 rfl
          have k4 : w6.cell? ⟨b, 6, none⟩ = some (.int .u8 (x4.toNat : Nat)) := hash_r hw6 4 x4 rfl
          have k5 : w6.cell? ⟨b, 7, none⟩ = some (.int .u8 (x5.toNat : Nat)) := hash_r hw6 5 x5 rfl
          have k6 : w6.cell? ⟨b, 8, none⟩ = some (.int .u8 (x6.toNat : Nat)) := hash_r hw6 6 x6 rfl
          have k7 : w6.cell? ⟨b, 9, none⟩ = some (.int .u8 (x7.toNat : Nat)) := hash_r hw6 7 x7 rfl
          have hbl := (Array.getElem?_eq_some_iff.1 hw6).1
          have HWd := hide (fun W => word_any x0 x1 x2 x3 x4 x5 x6 x7 W)
          have HA := hide (fun (W : World) (g : Nat) (hR : RdW W W.heap.size (some ⟨g, 0, none⟩) [wordN [x0, x1, x2, x3, x4, x5, x6, x7]]) => (show Calls Try.prog 126 #[.agg #[.int .u64 (p4.1 : Nat), .int .u64 (p4.2 : Nat)], .func (.func 127) #[] #[], .slice (some ⟨g, 0, none⟩) 1 1] W (fun e w' => e = .returned (.agg #[.int .u64 ((roundN p4 (wordN [x0, x1, x2, x3, x4, x5, x6, x7])).1 : Nat), .int .u64 ((roundN p4 (wordN [x0, x1, x2, x3, x4, x5, x6, x7])).2 : Nat)]) ∧ Below W.heap.size W w') from along_round (some ⟨g, 0, none⟩) 1 [wordN [x0, x1, x2, x3, x4, x5, x6, x7]] p4 W htw4 (by simpa using hsm) hR (by simp)))
          generalize wordN [x0, x1, x2, x3, x4, x5, x6, x7] = wd at HA HWd HSU
          generalize roundN p4 wd = p5 at HA HSU
          have hBq : Below b w w6.drew := ⟨hB6.os, hB6.tape, hB6.output, hB6.size, hB6.block⟩
          go_region_with (first
            | (go_at_call 128
               refine (HWd.out _).mono ?_
               rintro e wa ⟨rfl, hBa⟩
               have m0 : wa.cell? ⟨b, 0, none⟩ = some (.int .u64 (p4.1 : Nat)) := (hBa.cell (p := ⟨b, 0, none⟩) hbl).trans m0
               have m1 : wa.cell? ⟨b, 1, none⟩ = some (.int .u64 (p4.2 : Nat)) := (hBa.cell (p := ⟨b, 1, none⟩) hbl).trans m1
               have n0 : (wa.alloc (.cells #[.int .u64 (wd : Nat)] 26)).cell? ⟨b, 0, none⟩ = some (.int .u64 (p4.1 : Nat)) := Lib.cell?_alloc_some _ m0
               have n1 : (wa.alloc (.cells #[.int .u64 (wd : Nat)] 26)).cell? ⟨b, 1, none⟩ = some (.int .u64 (p4.2 : Nat)) := Lib.cell?_alloc_some _ m1)
            | (go_at_call 126; go_loud (
               refine (HA.out _ _ (row_words (l := [wd]) (World.alloc_heap_new _ _))).mono ?_
               rintro e wb ⟨rfl, hBb⟩
               have hx1 := (((hBb.block b (Nat.lt_of_lt_of_le hbl (Nat.le_trans hBa.size (by simp)))).trans (Below.heap_alloc _ _ _ (Nat.lt_of_lt_of_le hbl hBa.size))).trans (hBa.block b hbl)).trans hw6
               have hx3 : Below w6.heap.size w6.drew wb := (hBa.alloc hBa.size _).trans (hBb.mono (Nat.le_trans hBa.size (by simp)))
               have d0 : wb.cell? ⟨b, 0, none⟩ = some (.int .u64 (p4.1 : Nat)) := cell_of_row _ _ _ _ _ _ hx1
               have d1 : wb.cell? ⟨b, 1, none⟩ = some (.int .u64 (p4.2 : Nat)) := cell_of_row _ _ _ _ _ _ hx1
               have z0 : wb.frozen? ⟨b, 0, none⟩ = false := frozen_of_row _ _ _ _ _ hx1
               have z1 : wb.frozen? ⟨b, 1, none⟩ = false := frozen_of_row _ _ _ _ _ hx1
               have HY1 := hide hx1
               have HY3 := hide hx3
               clear hx1 hx3)))
          all_goals
            clear k0 k1 k2 k3 k4 k5 k6 k7 m0 m1 d0 d1 z0 z1
            have hw7 : ((wb.setCell ⟨b, 0, none⟩ (.int .u64 (p5.1 : Nat))).setCell ⟨b, 1, none⟩ (.int .u64 (p5.2 : Nat))).heap[b]? = some (.cells (hashRow p5 [x0, x1, x2, x3, x4, x5, x6, x7] (N + Z)) 155 (0, 0)) := heap_setCell_same _ b 1 _ _ _ (heap_setCell_same wb b 0 _ _ _ HY1.out)
            have hB7 : Below b w ((wb.setCell ⟨b, 0, none⟩ (.int .u64 (p5.1 : Nat))).setCell ⟨b, 1, none⟩ (.int .u64 (p5.2 : Nat))) := ((hBq.trans (HY3.out.mono (Nat.le_of_lt hbl))).setCell (p := ⟨b, 0, none⟩) (Nat.le_refl _) _).setCell (p := ⟨b, 1, none⟩) (Nat.le_refl _) _
            have hG7 : w.grownBy ((wb.setCell ⟨b, 0, none⟩ (.int .u64 (p5.1 : Nat))).setCell ⟨b, 1, none⟩ (.int .u64 (p5.2 : Nat))) (some b) := ⟨hB7.os, hB7.tape, hB7.output, hB7.size, fun i hi hib => ((Below.heap_setCell _ _ _ _ (by simpa using hib)).trans (Below.heap_setCell _ _ _ _ (by simpa using hib))).trans ((HY3.out.block i (Nat.lt_of_lt_of_le hi hG6.size)).trans (hG6.block i hi hib))⟩
            clear HY1 HY3
            generalize ((wb.setCell ⟨b, 0, none⟩ (.int .u64 (p5.1 : Nat))).setCell ⟨b, 1, none⟩ (.int .u64 (p5.2 : Nat))) = w7 at hw7 hB7 hG7 ⊢
            clear hw6 hB6 hG6 hBq
            have hcl := fun ty => (clear_any w7 b (N + Z) p5 x0 x1 x2 x3 x4 x5 x6 x7 ty hw7).1
            obtain ⟨_, hw8, hBc, hoc⟩ := clear_any w7 b (N + Z) p5 x0 x1 x2 x3 x4 x5 x6 x7 0 hw7
            have hB8 := hB7.trans hBc
            have hG8 : w.grownBy (clearW w7 b) (some b) := ⟨hB8.os, hB8.tape, hB8.output, hB8.size, fun i hi hib => (hoc i (Nat.lt_of_lt_of_le hi hG7.size) (by simpa using hib)).trans (hG7.block i hi hib)⟩
            clear hw7 hBc hoc hB7 hG7
            go_wp2_with (at_builtin; refine wpList_clear_run _ rfl _ 22 rfl _ rfl (hcl _) ?_)
            go_roundw
            case rel =>
              refine ⟨j + Z, some ad, _, by have := HK1.out; have := HZ.out; omega, by rw [show l.length - (j + Z) = 0 by have := HZ.out; omega] <;> rfl, ?_, ?_, ?_, hG8, hB8⟩
              · have := HZ.out; have := HC2.out; have := HK1.out; omega
              · exact (by rw [show l.drop (j + Z) = [] from List.drop_of_length_le (by have := HZ.out; omega)]; exact RdX.nil _ _ _)
              · refine hide ?_
                unfold IsHS
                rw [HM2.out, HQ.out, HSU.out, show restL (N / 8 + 1) (m ++ l.take (j + Z)) = List.replicate 8 0 from by
                  unfold restL
                  rw [List.drop_of_length_le (by rw [HM2.out]; have := HQ.out; have := HR.out; have := HK2.out; omega), HM2.out, show N + Z - 8 * (N / 8 + 1) = 0 by have := HQ.out; have := HR.out; have := HK2.out; omega]; rfl]
                exact hw8
            case measure => have := HK1.out; show 0 < Z; omega
        · have E2 : (((N : Int) + (Z : Int)) % 8 == 0) = false := by rw [beq_eq_false_iff_ne]; omega
          have HQ := hide (show (N + Z) / 8 = N / 8 by have := HR.out; have := HK2.out; omega)
          clear hfl
          go_wp2_with fail
          go_still_tail 10, (by kernel_rfl)
          change wpList _ _ _ _ _ wr.drew
          go_wp2_with (at_builtin; refine Lib.wpList_copy_run _ rfl _ _ 22 22 rfl _ _ rfl rfl hcp ?_)
          go_roundw
          case rel =>
            refine ⟨j + Z, some ad, _, by have := HK1.out; have := HZ.out; omega, by rw [show l.length - (j + Z) = 0 by have := HZ.out; omega] <;> rfl, ?_, ?_, ?_, hG6, hB6⟩
            · have := HZ.out; have := HC2.out; have := HK1.out; omega
            · exact (by rw [show l.drop (j + Z) = [] from List.drop_of_length_le (by have := HZ.out; omega)]; exact RdX.nil _ _ _)
            · refine hide ?_
              unfold IsHS
              rw [HM2.out, HQ.out, HXX.out, ← HP4.out]
              exact hw6
          case measure => have := HK1.out; show 0 < Z; omega
      · have HKP := hide (show 0 < k by have := HK.out; rw [this]; show 0 < min Z (8 - r); rw [Nat.lt_min]; omega)
        generalize hw5d : wr.drew.setRow b (hashRow p4 [x0, x1, x2, x3, x4, x5, x6, x7] N) = w5 at hcp hw5 hB5 hG5
        clear hw5d
        have c10 := hash_n rfl hw5
        have z10 : w5.frozen? ⟨b, 10, none⟩ = false := frozen_of_row _ _ _ _ _ hw5
        have hw6 : (w5.setCell ⟨b, 10, none⟩ (.int .i64 ((N : Int) + (k : Int)))).heap[b]? = some (.cells (hashRow p4 [x0, x1, x2, x3, x4, x5, x6, x7] (N + k)) 155 (0, 0)) := hash_setn rfl hw5
        have hB6 : Below b w (w5.setCell ⟨b, 10, none⟩ (.int .i64 ((N : Int) + (k : Int)))) := hB5.setCell (p := ⟨b, 10, none⟩) (Nat.le_refl _) _
        have hG6 : w.grownBy (w5.setCell ⟨b, 10, none⟩ (.int .i64 ((N : Int) + (k : Int)))) (some b) := ⟨hB6.os, hB6.tape, hB6.output, hB6.size, fun i hi hib => (Below.heap_setCell _ _ _ _ (by simpa using hib)).trans (hG5.block i hi hib)⟩
        by_cases hfl : (N + k) % 8 = 0
        · have E2 : (((N : Int) + (k : Int)) % 8 == 0) = true := by rw [beq_iff_eq]; omega
          have HQ := hide (show (N + k) / 8 = N / 8 + 1 by have := HR.out; have := HK2.out; have := HKP.out; omega)
          clear hfl
          go_wp2_with fail
          go_still_tail 10, (by kernel_rfl)
          change wpList _ _ _ _ _ wr.drew
          go_wp2_with (at_builtin; refine Lib.wpList_copy_run _ rfl _ _ 22 22 rfl _ _ rfl rfl hcp ?_)
          generalize w5.setCell ⟨b, 10, none⟩ (.int .i64 ((N : Int) + (k : Int))) = w6 at hw6 hB6 hG6 ⊢
          clear hcp hw5 hB5 hG5 c10 z10
          obtain ⟨m0, m1⟩ := hash_p hw6
          have k0 : w6.cell? ⟨b, 2, none⟩ = some (.int .u8 (x0.toNat : Nat)) := hash_r hw6 0 x0 rfl
          have k1 : w6.cell? ⟨b, 3, none⟩ = some (.int .u8 (x1.toNat : Nat)) := hash_r hw6 1 x1 rfl
          have k2 : w6.cell? ⟨b, 4, none⟩ = some (.int .u8 (x2.toNat : Nat)) := hash_r hw6 2 x2 rfl
          have k3 : w6.cell? ⟨b, 5, none⟩ = some (.int .u8 (x3.toNat : Nat)) := hash_r hw6 3 x3 rfl
          have k4 : w6.cell? ⟨b, 6, none⟩ = some (.int .u8 (x4.toNat : Nat)) := hash_r hw6 4 x4 rfl
          have k5 : w6.cell? ⟨b, 7, none⟩ = some (.int .u8 (x5.toNat : Nat)) := hash_r hw6 5 x5 rfl
          have k6 : w6.cell? ⟨b, 8, none⟩ = some (.int .u8 (x6.toNat : Nat)) := hash_r hw6 6 x6 rfl
          have k7 : w6.cell? ⟨b, 9, none⟩ = some (.int .u8 (x7.toNat : Nat)) := hash_r hw6 7 x7 rfl
          have hbl := (Array.getElem?_eq_some_iff.1 hw6).1
          have HWd := hide (fun W => word_any x0 x1 x2 x3 x4 x5 x6 x7 W)
          have HA := hide (fun (W : World) (g : Nat) (hR : RdW W W.heap.size (some ⟨g, 0, none⟩) [wordN [x0, x1, x2, x3, x4, x5, x6, x7]]) => (show Calls Try.prog 126 #[.agg #[.int .u64 (p4.1 : Nat), .int .u64 (p4.2 : Nat)], .func (.func 127) #[] #[], .slice (some ⟨g, 0, none⟩) 1 1] W (fun e w' => e = .returned (.agg #[.int .u64 ((roundN p4 (wordN [x0, x1, x2, x3, x4, x5, x6, x7])).1 : Nat), .int .u64 ((roundN p4 (wordN [x0, x1, x2, x3, x4, x5, x6, x7])).2 : Nat)]) ∧ Below W.heap.size W w') from along_round (some ⟨g, 0, none⟩) 1 [wordN [x0, x1, x2, x3, x4, x5, x6, x7]] p4 W htw4 (by simpa using hsm) hR (by simp)))
          generalize wordN [x0, x1, x2, x3, x4, x5, x6, x7] = wd at HA HWd HSU
          generalize roundN p4 wd = p5 at HA HSU
          have hBq : Below b w w6.drew := ⟨hB6.os, hB6.tape, hB6.output, hB6.size, hB6.block⟩
          go_region_with (first
            | (go_at_call 128
               refine (HWd.out _).mono ?_
               rintro e wa ⟨rfl, hBa⟩
               have m0 : wa.cell? ⟨b, 0, none⟩ = some (.int .u64 (p4.1 : Nat)) := (hBa.cell (p := ⟨b, 0, none⟩) hbl).trans m0
               have m1 : wa.cell? ⟨b, 1, none⟩ = some (.int .u64 (p4.2 : Nat)) := (hBa.cell (p := ⟨b, 1, none⟩) hbl).trans m1
               have n0 : (wa.alloc (.cells #[.int .u64 (wd : Nat)] 26)).cell? ⟨b, 0, none⟩ = some (.int .u64 (p4.1 : Nat)) := Lib.cell?_alloc_some _ m0
               have n1 : (wa.alloc (.cells #[.int .u64 (wd : Nat)] 26)).cell? ⟨b, 1, none⟩ = some (.int .u64 (p4.2 : Nat)) := Lib.cell?_alloc_some _ m1)
            | (go_at_call 126; go_loud (
               refine (HA.out _ _ (row_words (l := [wd]) (World.alloc_heap_new _ _))).mono ?_
               rintro e wb ⟨rfl, hBb⟩
               have hx1 := (((hBb.block b (Nat.lt_of_lt_of_le hbl (Nat.le_trans hBa.size (by simp)))).trans (Below.heap_alloc _ _ _ (Nat.lt_of_lt_of_le hbl hBa.size))).trans (hBa.block b hbl)).trans hw6
               have hx3 : Below w6.heap.size w6.drew wb := (hBa.alloc hBa.size _).trans (hBb.mono (Nat.le_trans hBa.size (by simp)))
               have d0 : wb.cell? ⟨b, 0, none⟩ = some (.int .u64 (p4.1 : Nat)) := cell_of_row _ _ _ _ _ _ hx1
               have d1 : wb.cell? ⟨b, 1, none⟩ = some (.int .u64 (p4.2 : Nat)) := cell_of_row _ _ _ _ _ _ hx1
               have z0 : wb.frozen? ⟨b, 0, none⟩ = false := frozen_of_row _ _ _ _ _ hx1
               have z1 : wb.frozen? ⟨b, 1, none⟩ = false := frozen_of_row _ _ _ _ _ hx1
               have HY1 := hide hx1
               have HY3 := hide hx3
               clear hx1 hx3)))
          all_goals
            clear k0 k1 k2 k3 k4 k5 k6 k7 m0 m1 d0 d1 z0 z1
            have hw7 : ((wb.setCell ⟨b, 0, none⟩ (.int .u64 (p5.1 : Nat))).setCell ⟨b, 1, none⟩ (.int .u64 (p5.2 : Nat))).heap[b]? = some (.cells (hashRow p5 [x0, x1, x2, x3, x4, x5, x6, x7] (N + k)) 155 (0, 0)) := heap_setCell_same _ b 1 _ _ _ (heap_setCell_same wb b 0 _ _ _ HY1.out)
            have hB7 : Below b w ((wb.setCell ⟨b, 0, none⟩ (.int .u64 (p5.1 : Nat))).setCell ⟨b, 1, none⟩ (.int .u64 (p5.2 : Nat))) := ((hBq.trans (HY3.out.mono (Nat.le_of_lt hbl))).setCell (p := ⟨b, 0, none⟩) (Nat.le_refl _) _).setCell (p := ⟨b, 1, none⟩) (Nat.le_refl _) _
            have hG7 : w.grownBy ((wb.setCell ⟨b, 0, none⟩ (.int .u64 (p5.1 : Nat))).setCell ⟨b, 1, none⟩ (.int .u64 (p5.2 : Nat))) (some b) := ⟨hB7.os, hB7.tape, hB7.output, hB7.size, fun i hi hib => ((Below.heap_setCell _ _ _ _ (by simpa using hib)).trans (Below.heap_setCell _ _ _ _ (by simpa using hib))).trans ((HY3.out.block i (Nat.lt_of_lt_of_le hi hG6.size)).trans (hG6.block i hi hib))⟩
            clear HY1 HY3
            generalize ((wb.setCell ⟨b, 0, none⟩ (.int .u64 (p5.1 : Nat))).setCell ⟨b, 1, none⟩ (.int .u64 (p5.2 : Nat))) = w7 at hw7 hB7 hG7 ⊢
            clear hw6 hB6 hG6 hBq
            have hcl := fun ty => (clear_any w7 b (N + k) p5 x0 x1 x2 x3 x4 x5 x6 x7 ty hw7).1
            obtain ⟨_, hw8, hBc, hoc⟩ := clear_any w7 b (N + k) p5 x0 x1 x2 x3 x4 x5 x6 x7 0 hw7
            have hB8 := hB7.trans hBc
            have hG8 : w.grownBy (clearW w7 b) (some b) := ⟨hB8.os, hB8.tape, hB8.output, hB8.size, fun i hi hib => (hoc i (Nat.lt_of_lt_of_le hi hG7.size) (by simpa using hib)).trans (hG7.block i hi hib)⟩
            clear hw7 hBc hoc hB7 hG7
            go_wp2_with (at_builtin; refine wpList_clear_run _ rfl _ 22 rfl _ rfl (hcl _) ?_)
            go_roundw
            case rel =>
              refine ⟨j + k, some (ad.add k), _, by have := HK1.out; have := HZ.out; omega, by rw [show l.length - (j + k) = Z - k by have := HZ.out; omega] <;> rfl, ?_, ?_, ?_, hG8, hB8⟩
              · have := HZ.out; have := HC2.out; have := HK1.out; omega
              · exact (by have h := HRD.out; rw [if_neg hck] at h; exact h)
              · refine hide ?_
                unfold IsHS
                rw [HM2.out, HQ.out, HSU.out, show restL (N / 8 + 1) (m ++ l.take (j + k)) = List.replicate 8 0 from by
                  unfold restL
                  rw [List.drop_of_length_le (by rw [HM2.out]; have := HQ.out; have := HR.out; have := HK2.out; omega), HM2.out, show N + k - 8 * (N / 8 + 1) = 0 by have := HQ.out; have := HR.out; have := HK2.out; omega]; rfl]
                exact hw8
            case measure => have := HK1.out; show Z - k < Z; have := HKP.out; omega
        · have E2 : (((N : Int) + (k : Int)) % 8 == 0) = false := by rw [beq_eq_false_iff_ne]; omega
          have HQ := hide (show (N + k) / 8 = N / 8 by have := HR.out; have := HK2.out; omega)
          clear hfl
          go_wp2_with fail
          go_still_tail 10, (by kernel_rfl)
          change wpList _ _ _ _ _ wr.drew
          go_wp2_with (at_builtin; refine Lib.wpList_copy_run _ rfl _ _ 22 22 rfl _ _ rfl rfl hcp ?_)
          go_roundw
          case rel =>
            refine ⟨j + k, some (ad.add k), _, by have := HK1.out; have := HZ.out; omega, by rw [show l.length - (j + k) = Z - k by have := HZ.out; omega] <;> rfl, ?_, ?_, ?_, hG6, hB6⟩
            · have := HZ.out; have := HC2.out; have := HK1.out; omega
            · exact (by have h := HRD.out; rw [if_neg hck] at h; exact h)
            · refine hide ?_
              unfold IsHS
              rw [HM2.out, HQ.out, HXX.out, ← HP4.out]
              exact hw6
          case measure => have := HK1.out; show Z - k < Z; have := HKP.out; omega
    · obtain rfl : j = l.length := by omega
      rw [List.take_length] at HS
      rw [Nat.sub_self]
      clear hR2 hR2w hc2 hlt hj
      go_wp2_with fail
      refine bodyPost_end (v := .tuple #[]) (by simp [results, Try.results105, go_sem]) rfl ⟨rfl, HS, hG, hB⟩
theorem write_any (b : Nat) (m : List UInt8) (A : Option Addr) (l : List UInt8) (c : Nat) (w : World) (h : IsH w b m) (hR : RdB w b A l) (hc : l.length ≤ c) (hm : m.length + l.length ≤ 1000000) :
    Calls Try.prog 105 #[.pointer (some ⟨b, 0, none⟩), .slice A l.length c] w fun e w' => e = .returned (.tuple #[]) ∧ IsHS w' b (m ++ l) ∧ w.grownBy w' (some b) ∧ Below b w w' :=
  writeX_any b m A l c w h hR.otherX hc hm
end Go.Proofs.Ytobgbheodlpclaa
