/-
  Texts that belong together: VintGroups, VintPut, VintSum.
-/
import Derived.Test.YtobgbheodlpclaaAutoVintLay
import Derived.Lib.VarintBits
import Derived.Lib.ConvBytes
import Derived.Laws.BytesArg
import Derived.Deep.RegionWith
/-
  vint.groups: a number's bytes.
-/
namespace Go.Proofs.Ytobgbheodlpclaa
open Go.RowKit
set_option maxRecDepth 100000

theorem u64_or_nat (a b : Nat) (ha : a < 18446744073709551616) (hb : b < 18446744073709551616) : bits .or .u64 (a : Int) (b : Int) = ((a ||| b : Nat) : Int) := (bits_nat .u64 64 (by decide) wraps_u64 a b ha hb).2

theorem ofNat_small (m : Nat) (h : m < 256) : (UInt8.ofNat m).toNat = m := by rw [UInt8.toNat_ofNat']; exact Nat.mod_eq_of_lt h
/-- The row behind k rounds. -/
def rowG (n G k : Nat) : List Value := (List.range G).map fun i => if i < k then .int .u8 ((n / 128 ^ i % 128 + 128 : Nat) : Int) else .int .u8 0
theorem rowG_zero (n G : Nat) : rowG n G 0 = (madeCells #[Value.int IntKind.u8 0] G).toList := by
  rw [toList_madeCells_one]
  apply List.ext_getElem?
  intro j
  by_cases h : j < G <;> simp [rowG, h]
theorem rowG_set (n G k : Nat) (h : k < G) : (rowG n G k).set k (.int .u8 ((n / 128 ^ k % 128 + 128 : Nat) : Int)) = rowG n G (k + 1) := by
  apply List.ext_getElem?
  intro j
  rw [List.getElem?_set]
  by_cases hj : k = j
  · subst hj
    simp [rowG, h]
  · rw [if_neg hj]
    by_cases hG : j < G
    · simp only [rowG, List.getElem?_map, List.getElem?_range hG, Option.map_some]
      by_cases hk : j < k
      · rw [if_pos hk, if_pos (by omega)]
      · rw [if_neg hk, if_neg (by omega)]
    · simp [rowG, hG]

theorem rowG_at (n G k i : Nat) (h : i < G) : (rowG n G k)[i]? = some (if i < k then .int .u8 ((n / 128 ^ i % 128 + 128 : Nat) : Int) else .int .u8 0) := by
  simp only [rowG, List.getElem?_map, List.getElem?_range h, Option.map_some]
theorem or_128 : ∀ x : Fin 256, bits BinOp.or IntKind.u8 ((x.val : Nat) : Int) 128 = ((x.val % 128 + 128 : Nat) : Int) := by decide
theorem or_group (n k : Nat) : bits BinOp.or IntKind.u8 ((n : Int) / 2 ^ (7 * k) % 256) 128 = ((n / 128 ^ k % 128 + 128 : Nat) : Int) := by
  have e : ((n : Int) / 2 ^ (7 * k) % 256) = ((n / 128 ^ k % 256 : Nat) : Int) := by
    rw [show (2 : Int) ^ (7 * k) = ((128 ^ k : Nat) : Int) by rw [Int.pow_mul]; simp]
    omega
  rw [e]
  have := or_128 ⟨n / 128 ^ k % 256, Nat.mod_lt _ (by decide)⟩
  simp only at this
  rw [this, Nat.mod_mod_of_dvd _ (by decide)]

theorem rowG_last (n G : Nat) (hG : G = (groupsF 9 n).length) (hp : 1 ≤ G) (hget : ∀ (i : Nat) (h : i < (groupsF 9 n).length), (groupsF 9 n)[i] = UInt8.ofNat (if i + 1 = (groupsF 9 n).length then n / 128 ^ i % 128 else n / 128 ^ i % 128 + 128)) :
    (rowG n G G).set (G - 1) (.int .u8 ((n / 128 ^ (G - 1) % 128 : Nat) : Int)) = (groupsL n).map byteV := by
  apply List.ext_getElem?
  intro j
  rw [List.getElem?_set, List.getElem?_map]
  by_cases hj : j < G
  · have hj' : j < (groupsF 9 n).length := by omega
    rw [show (groupsL n)[j]? = some (groupsF 9 n)[j] from List.getElem?_eq_getElem hj', hget j hj', ← hG]
    have hm : n / 128 ^ j % 128 < 128 := Nat.mod_lt _ (by decide)
    by_cases he : G - 1 = j
    · subst he
      rw [if_pos rfl, if_pos (by simp [rowG]; omega), if_pos (by omega)]
      simp only [Option.map_some, byteV]
      rw [ofNat_small _ (by omega)]
    · rw [if_neg he, rowG_at _ _ _ _ hj, if_pos hj, if_neg (by omega)]
      simp only [Option.map_some, byteV]
      rw [ofNat_small _ (by omega)]
  · have hj' : ¬ j < (groupsF 9 n).length := by omega
    rw [if_neg (by omega), List.getElem?_eq_none (by simp [rowG]; omega), show (groupsL n)[j]? = none from List.getElem?_eq_none (by show (groupsF 9 n).length ≤ j; omega)]
    rfl

set_option maxHeartbeats 4000000 in
theorem groups_any (n : Nat) (w : World) (hn : n < 18446744073709551616) :
    Calls Try.prog 132 #[.int .u64 n] w (Bytes w (groupsL n)) := by
  obtain ⟨i0, hi, hz0, hz1, hz2⟩ := info_parts info_byte
  have hlen := groups_len 9 n (Nat.lt_of_lt_of_le hn (by decide)) hn
  have hpos := groups_pos 9 n
  have hle := groups_le 9 n
  have HG := hide (groups_get 9 n (Nat.lt_of_lt_of_le hn (by decide)))
  have hN : (n : Int) ≤ 18446744073709551615 := by omega
  have h0 : (0 : Int) ≤ n := by omega
  go_enter Try.func132, Try.ntmps132
  have hor : bits BinOp.or IntKind.u64 (n : Int) 1 = ((n ||| 1 : Nat) : Int) := u64_or_nat n 1 hn (by decide)
  have hor1 : ((n ||| 1 : Nat) : Int) ≤ 18446744073709551615 := by have := Nat.or_lt_two_pow (n := 64) hn (show 1 < 2 ^ 64 by decide); omega
  go_wp2_with fail
  refine (len64_any _ _ (by omega) hor1).mono ?_
  rw [Int.toNat_natCast]
  rintro e w0 ⟨rfl, rfl⟩
  obtain ⟨G, hG⟩ : ∃ G, G = (groupsF 9 n).length := ⟨_, rfl⟩
  have hBG : ∃ b : Nat, b = Lib.bitLen (n ||| 1) := ⟨_, rfl⟩
  obtain ⟨b, hb⟩ := hBG
  rw [← hb] at hlen ⊢
  rw [← hG] at hlen hpos hle
  have hq : ((b : Int) + 6) / 7 = (G : Int) := by omega
  have hb64 : (b : Int) ≤ 70 := by omega
  have hG1 : (1 : Int) ≤ G := by omega
  have hG2 : (G : Int) ≤ 10 := by omega
  have HGG := hide hG
  clear hor hor1 hlen hb hG
  go_wp2_with (at_make; refine wpList_make_full _ rfl _ _ 22 rfl w0.heap.size 5 i0 (.int .u8 0) 1 Try.underlying22 hi hz0 hz1 _ _ _ _ G rfl rfl hq hq (by rw [hz2]; omega) (by unfold maxLen; omega) (Nat.le_refl _) ?_)
  intro w1 hO hg1
  rw [← rowG_zero n] at hO
  have hB1 : Below w0.heap.size w0 w1 := (Below.refl _ _).grown hg1 (Nat.le_refl _) (fun r e => by cases e)
  clear hq hg1
  go_wp2_with fail
  go_loopw [4, 13] (fun _ i wr => ∃ k : Nat, k ≤ G ∧ i = .int .i64 k ∧ wr.ownsRow w0.heap.size 5 1 (.slice (some ⟨w0.heap.size, 0, none⟩) G G) G (rowG n G k) ∧ Below w0.heap.size w0 wr) (fun _ i _ => G - (intOf i).toNat)
  case atStart => exact ⟨0, Nat.zero_le _, rfl, hO, hB1⟩
  case round =>
    obtain ⟨k, hk, rfl, hOk, hBk⟩ := hrel
    by_cases hlt : (k : Int) < G
    · have hf := hOk.frozenAt k
      have hc : wr.cell? ⟨w0.heap.size, k, none⟩ = some (.int .u8 0) := by
        rw [hOk.cellAt _ (by omega), rowG_at _ _ _ _ (by omega), if_neg (by omega)]
      have HV := hide (or_group n k)
      go_wp2_with fail
      go_roundw
      case rel =>
        obtain ⟨ho, hg⟩ := hOk.stored k (.int .u8 ((n / 128 ^ k % 128 + 128 : Nat) : Int))
        rw [rowG_set n G k (by omega)] at ho
        rw [HV.out]
        exact ⟨k + 1, by omega, rfl, ho, hBk.grown hg hBk.size (fun r e => by cases e; exact Nat.le_refl _)⟩
      case measure => simp [intOf]; omega
    · obtain rfl : k = G := by omega
      have g1 : (0 : Int) ≤ (k : Int) - 1 := by omega
      have g2 : (k : Int) - 1 < k := by omega
      have g3 : ((k : Int) - 1).toNat = k - 1 := by omega
      have hf := hOk.frozenAt (k - 1)
      have hc : wr.cell? ⟨w0.heap.size, k - 1, none⟩ = some (.int .u8 ((n / 128 ^ (k - 1) % 128 + 128 : Nat) : Int)) := by
        rw [hOk.cellAt _ (by omega), rowG_at _ _ _ _ (by omega), if_pos (by omega)]
      have hm : n / 128 ^ (k - 1) % 128 < 128 := Nat.mod_lt _ (by decide)
      obtain ⟨ho, hg⟩ := hOk.stored (k - 1) (.int .u8 ((n / 128 ^ (k - 1) % 128 : Nat) : Int))
      rw [rowG_last n k HGG.out hpos HG.out] at ho
      have HO := hide ho
      have HB := hide (hBk.grown hg hBk.size (fun r e => by cases e; exact Nat.le_refl _))
      clear ho hg
      go_wp2_with fail
      have hl : (groupsL n).length = k := HGG.out.symm
      refine bodyPost_ret (results_tmp rfl _ _ _) rfl ⟨some ⟨w0.heap.size, 0, none⟩, k, by rw [hl]; rfl, ⟨by omega, fun e => by cases e⟩, ?_, HB.out⟩
      exact RdB.own (n := k) (c := k) HO.out
end Go.Proofs.Ytobgbheodlpclaa
/-
  vint.Num and Text put bytes behind others.
-/
namespace Go.Proofs.Ytobgbheodlpclaa
open Go.RowKit
set_option maxRecDepth 100000

theorem cat_three (A B D : Option Addr) (l m r : List UInt8) (c d f : Nat) (w : World) (hA : RdB w w.heap.size A l) (hB : RdB w w.heap.size B m) (hD : RdB w w.heap.size D r) (hl : l.length ≤ 1000000) (hm : m.length ≤ 1000000) (hr : r.length ≤ 1000000) (t : TypeId) :
    Calls Try.prog 131 #[.slice (some ⟨w.heap.size, 0, none⟩) 3 3] (w.alloc (.cells #[.slice A l.length c, .slice B m.length d, .slice D r.length f] t)) (Bytes w (l ++ m ++ r)) := by
  have hnew := World.alloc_heap_new w (Obj.cells #[.slice A l.length c, .slice B m.length d, .slice D r.length f] t)
  have hb : Below w.heap.size w (w.alloc (.cells #[.slice A l.length c, .slice B m.length d, .slice D r.length f] t)) := (Below.refl _ w).alloc (Nat.le_refl _) _
  have h := concat_any w.heap.size 3 [(A, l, c), (B, m, d), (D, r, f)] (w.alloc (.cells #[.slice A l.length c, .slice B m.length d, .slice D r.length f] t)) (fun k x hx => by
    rcases k with _ | _ | _ | k
    · simp at hx; subst hx; exact cell_of_row _ _ _ _ _ _ hnew
    · simp at hx; subst hx; exact cell_of_row _ _ _ _ _ _ hnew
    · simp at hx; subst hx; exact cell_of_row _ _ _ _ _ _ hnew
    · simp at hx) (by simp) (fun x hx => by
    simp at hx
    rcases hx with rfl | rfl | rfl
    · exact hA.step hb
    · exact hB.step hb
    · exact hD.step hb) (by simp) (fun x hx => by
    simp at hx
    rcases hx with rfl | rfl | rfl <;> assumption)
  refine h.mono fun e w' hw => ?_
  have e1 : allB [(A, l, c), (B, m, d), (D, r, f)] = l ++ m ++ r := by simp [allB]
  rw [e1] at hw
  exact hw.back hb
theorem groupsL_le (n : Nat) : (groupsL n).length ≤ 10 := groups_le 9 n

set_option maxHeartbeats 1000000 in
theorem putNum_any (A : Option Addr) (l : List UInt8) (c n : Nat) (w : World) (hR : RdB w w.heap.size A l) (hl : l.length ≤ 1000000) (hn : n < 18446744073709551616) :
    Calls Try.prog 107 #[.slice A l.length c, .int .u64 n] w (Bytes w (l ++ groupsL n)) := by
  go_enter Try.func107, Try.ntmps107
  go_wp2_with fail
  refine (groups_any n w hn).mono ?_
  rintro e w1 ⟨G, gc, rfl, _, hG, hB1⟩
  have hR1 := hR.step hB1
  have hgl := groupsL_le n
  go_wp2_with fail
  refine (cat_two A G l (groupsL n) c gc w1 hR1 hG hl (by omega) _).mono ?_
  rintro e w2 hw2
  obtain ⟨D, d, rfl, h2, h3, h4⟩ := hw2.back hB1
  go_wp2_with fail
  refine bodyPost_ret (results_tmp rfl _ _ _) rfl ⟨D, d, by simp only [List.length_append]; rfl, h2, h3, h4⟩

set_option maxHeartbeats 1000000 in
theorem putText_any (A : Option Addr) (l : List UInt8) (c : Nat) (s : ByteArray) (w : World) (hR : RdB w w.heap.size A l) (hl : l.length ≤ 1000000) (hs : s.size ≤ 1000000) :
    Calls Try.prog 114 #[.slice A l.length c, .string s] w (Bytes w (l ++ (groupsL s.size ++ toL s))) := by
  have hsl : (toL s).length = s.size := by simp [toL]
  have hsi : (s.size : Int) ≤ 1000000 := by omega
  go_enter Try.func114, Try.ntmps114
  go_wp2_with fail
  refine (groups_any s.size w (by omega)).mono ?_
  rintro e w1 ⟨G, gc, rfl, _, hG, hB1⟩
  have hR1 := hR.step hB1
  have hgl := groupsL_le s.size
  have hrun := Lib.run_convert_string_bytes (P := Try.prog) w1 9 22 5 s Try.underlying9 Try.underlying22 Try.underlying5
  obtain ⟨hM, hBM⟩ := made_bytes w1 s
  have hR2 := hR1.step hBM
  have hG2 := hG.step hBM
  have hB2 := hB1.trans (hBM.mono hB1.size)
  generalize Lib.bytesWorld w1 5 s = w2 at hrun hM hBM hR2 hG2 hB2
  generalize grownCap w1 s.size 0 5 = K at hrun
  go_wp2_with fail
  have hcat := cat_three A G (some ⟨w1.heap.size, 0, none⟩) l (groupsL s.size) (toL s) c gc K w2 hR2 hG2 hM hl (by omega) (by omega) 22
  rw [hsl, List.append_assoc] at hcat
  refine hcat.mono ?_
  rintro e w3 hw3
  obtain ⟨D, d, rfl, h2, h3, h4⟩ := hw3.back hB2
  go_wp2_with fail
  refine bodyPost_ret (results_tmp rfl _ _ _) rfl ⟨D, d, by simp only [List.length_append, hsl]; rfl, h2, h3, h4⟩
end Go.Proofs.Ytobgbheodlpclaa
/-
  vint.word and Sum: half a sum's bytes, and a sum's.
-/
namespace Go.Proofs.Ytobgbheodlpclaa
open Go.RowKit
set_option maxRecDepth 100000

/-- The row behind k rounds: the last k bytes. -/
def rowW (n k : Nat) : List Value := (List.range 8).map fun j => if 8 ≤ j + k then .int .u8 ((n / 256 ^ (7 - j) % 256 : Nat) : Int) else .int .u8 0
theorem rowW_zero (n : Nat) : rowW n 0 = List.replicate 8 (Value.int .u8 0) := by simp [rowW, List.range, List.range.loop]
theorem rowW_at (n k j : Nat) (h : j < 8) : (rowW n k)[j]? = some (if 8 ≤ j + k then .int .u8 ((n / 256 ^ (7 - j) % 256 : Nat) : Int) else .int .u8 0) := by
  simp only [rowW, List.getElem?_map, List.getElem?_range h, Option.map_some]
theorem rowW_set (n k : Nat) (h : k < 8) : (rowW n k).set (7 - k) (.int .u8 ((n / 256 ^ k % 256 : Nat) : Int)) = rowW n (k + 1) := by
  apply List.ext_getElem?
  intro j
  rw [List.getElem?_set]
  by_cases hj : 7 - k = j
  · subst hj
    rw [if_pos rfl, if_pos (by simp [rowW]; omega), rowW_at _ _ _ (by omega), if_pos (by omega), show 7 - (7 - k) = k by omega]
  · rw [if_neg hj]
    by_cases h8 : j < 8
    · rw [rowW_at _ _ _ h8, rowW_at _ _ _ h8]
      by_cases hk : 8 ≤ j + k
      · rw [if_pos hk, if_pos (by omega)]
      · rw [if_neg hk, if_neg (by omega)]
    · simp [rowW, h8]
theorem rowW_full (n : Nat) : rowW n 8 = (wordL n).map byteV := by
  unfold rowW wordL
  rw [List.map_map]
  apply List.map_congr_left
  intro j _
  rw [if_pos (by omega)]
  show _ = byteV (UInt8.ofNat (n / 256 ^ (7 - j) % 256))
  unfold byteV
  rw [ofNat_small _ (Nat.mod_lt _ (by decide))]
theorem div_shift (n k : Nat) : ((n : Int) / 2 ^ (8 * k) % 256) = ((n / 256 ^ k % 256 : Nat) : Int) := by
  rw [show (2 : Int) ^ (8 * k) = ((256 ^ k : Nat) : Int) by rw [Int.pow_mul]; simp]
  omega
/-- Half a sum's cells. -/
def wordCells (n : Nat) : Array Value := (rowW n 8).toArray

set_option maxHeartbeats 4000000 in
theorem half_any (n : Nat) (w : World) (hn : n < 18446744073709551616) :
    Calls Try.prog 133 #[.int .u64 n] w fun e w' => e = .returned (.slice (some ⟨w.heap.size, 0, none⟩) 8 8) ∧ w' = w.alloc (.cells (wordCells n) 5) := by
  have hN : (n : Int) ≤ 18446744073709551615 := by omega
  have h0 : (0 : Int) ≤ n := by omega
  have hmk : (Instr.makeSlice 22 (.int .i64 8) (.int .i64 8)).run Try.prog w = .ok (.slice (some ⟨w.heap.size, 0, none⟩) 8 8) (w.alloc (.cells (rowW n 0).toArray 5)) := by
    rw [rowW_zero]
    have h : ∀ w : World, (Instr.makeSlice 22 (.int .i64 8) (.int .i64 8)).run Try.prog w = .ok (.slice (some ⟨w.heap.size, 0, none⟩) 8 8) (w.alloc (.cells (List.replicate 8 (Value.int .u8 0)).toArray 5)) := fun w => by kernel_rfl
    exact h w
  obtain ⟨wx, hwx⟩ : ∃ wx, wx = w.alloc (.cells (rowW n 0).toArray 5) := ⟨_, rfl⟩
  rw [← hwx] at hmk
  have HX := hide hwx
  clear hwx
  go_enter Try.func133, Try.ntmps133
  go_wp2_with fail
  go_loopw [4, 8] (fun _ i wr => ∃ k : Nat, k ≤ 8 ∧ i = .int .i64 k ∧ Hid (wr = w.alloc (.cells (rowW n k).toArray 5))) (fun _ i _ => 8 - (intOf i).toNat)
  case atStart => exact ⟨0, by decide, rfl, HX⟩
  case round =>
    obtain ⟨k, hk, rfl, HW⟩ := hrel
    by_cases hlt : (k : Int) < 8
    · have hnew : wr.heap[w.heap.size]? = some (.cells (rowW n k).toArray 5 (0, 0)) := by rw [HW.out]; exact World.alloc_heap_new _ _
      have hc : wr.cell? ⟨w.heap.size, 7 - k, none⟩ = some (.int .u8 0) := by
        rw [cell_of_row _ _ _ _ _ _ hnew]
        rw [List.getElem?_toArray, rowW_at _ _ _ (by omega), if_neg (by omega)]
      have hf : wr.frozen? ⟨w.heap.size, 7 - k, none⟩ = false := frozen_of_row _ _ _ _ _ hnew
      have HV := hide (div_shift n k)
      have g0 : (0 : Int) ≤ 7 - (k : Int) := by omega
      have g1 : (7 : Int) - k < 8 := by omega
      have g2 : ((7 : Int) - k).toNat = 7 - k := by omega
      clear hnew
      go_wp2_with fail
      go_roundw
      case rel =>
        refine ⟨k + 1, by omega, rfl, ?_⟩
        rw [HV.out, HW.out]
        show _ = _
        rw [World.setCell_alloc_at _ _ _ _ _ rfl, ← rowW_set n k (by omega)]
        simp
      case measure => simp [intOf]; omega
    · obtain rfl : k = 8 := by omega
      go_wp2_with fail
      refine bodyPost_ret (results_tmp rfl _ _ _) rfl ⟨rfl, HW.out⟩

theorem wordL_len (n : Nat) : (wordL n).length = 8 := by simp [wordL]
theorem word_rd (W : World) (n : Nat) : RdB (W.alloc (.cells (wordCells n) 5)) (W.alloc (.cells (wordCells n) 5)).heap.size (some ⟨W.heap.size, 0, none⟩) (wordL n) := fun k x hx => by
  refine ⟨_, rfl, by simp, ?_⟩
  have e : ((⟨W.heap.size, 0, none⟩ : Addr).add k) = ⟨W.heap.size, k, none⟩ := by unfold Addr.add; split <;> simp_all
  rw [e, cell_of_row _ _ _ _ _ _ (World.alloc_heap_new W _)]
  unfold wordCells
  rw [List.getElem?_toArray, rowW_full, List.getElem?_map, hx]; rfl
theorem RdB.alloc {W : World} {A : Option Addr} {l : List UInt8} (h : RdB W W.heap.size A l) (o : Obj) : RdB (W.alloc o) (W.alloc o).heap.size A l := h.step ((Below.refl _ W).alloc (Nat.le_refl _) o)
theorem RdB.drew {w : World} {A : Option Addr} {l : List UInt8} (h : RdB w w.heap.size A l) : RdB w.drew w.drew.heap.size A l := h

theorem cat_sum (A B D : Option Addr) (l : List UInt8) (c hi lo : Nat) (w : World) (hA : RdB w w.heap.size A l) (hB : RdB w w.heap.size B (wordL hi)) (hD : RdB w w.heap.size D (wordL lo)) (hl : l.length ≤ 1000000) :
    Calls Try.prog 131 #[.slice (some ⟨w.heap.size, 0, none⟩) 3 3] (w.alloc (.cells #[.slice A l.length c, .slice B 8 8, .slice D 8 8] 22)) (Bytes w (l ++ (wordL hi ++ wordL lo))) := by
  have h := cat_three A B D l (wordL hi) (wordL lo) c 8 8 w hA hB hD hl (by rw [wordL_len]; decide) (by rw [wordL_len]; decide) 22
  rw [wordL_len, wordL_len, List.append_assoc] at h
  exact h

theorem cat_sum_at (A B D : Option Addr) (l : List UInt8) (c hi lo N : Nat) (W : World) (hN : W.heap.size = N) (hA : RdB W W.heap.size A l) (hB : RdB W W.heap.size B (wordL hi)) (hD : RdB W W.heap.size D (wordL lo)) (hl : l.length ≤ 1000000) :
    Calls Try.prog 131 #[.slice (some ⟨N, 0, none⟩) 3 3] (W.alloc (.cells #[.slice A l.length c, .slice B 8 8, .slice D 8 8] 22)).drew (Bytes W (l ++ (wordL hi ++ wordL lo))) := by
  subst hN
  have h : Calls Try.prog 131 #[.slice (some ⟨W.heap.size, 0, none⟩) 3 3] (W.alloc (.cells #[.slice A l.length c, .slice B 8 8, .slice D 8 8] 22)).drew (Bytes W.drew (l ++ (wordL hi ++ wordL lo))) := cat_sum A B D l c hi lo W.drew hA.drew hB.drew hD.drew hl
  exact h.mono fun e w' hh => hh.back (Below.refl _ W).drew

set_option maxHeartbeats 400000 in
theorem putSum_any (A : Option Addr) (l : List UInt8) (c hi lo : Nat) (w : World) (hR : RdB w w.heap.size A l) (hl : l.length ≤ 1000000) (h1 : hi < 18446744073709551616) (h2 : lo < 18446744073709551616) :
    Calls Try.prog 108 #[.slice A l.length c, .agg #[.int .u64 hi, .int .u64 lo]] w (Bytes w (l ++ (wordL hi ++ wordL lo))) := by
  have H1 := hide h1
  have H2 := hide h2
  have hb : ∀ X Y : Array Value, Below w.heap.size w (((w.alloc (.cells #[.int .u64 hi, .int .u64 lo] 28)).alloc (.cells X 5)).alloc (.cells Y 5)) := fun X Y =>
    (((Below.refl _ w).alloc (Nat.le_refl _) _).alloc (by simp) _).alloc (by simp; omega) _
  have HA := hide (cat_sum_at A (some ⟨w.heap.size + 1, 0, none⟩) (some ⟨w.heap.size + 1 + 1, 0, none⟩) l c hi lo (w.heap.size + 1 + 1 + 1) (((w.alloc (.cells #[.int .u64 hi, .int .u64 lo] 28)).alloc (.cells (wordCells hi) 5)).alloc (.cells (wordCells lo) 5)) (by simp)
    (((hR.alloc _).alloc _).alloc _)
    (by have := (word_rd (w.alloc (.cells #[.int .u64 hi, .int .u64 lo] 28)) hi).alloc (.cells (wordCells lo) 5); simpa using this)
    (by have := word_rd ((w.alloc (.cells #[.int .u64 hi, .int .u64 lo] 28)).alloc (.cells (wordCells hi) 5)) lo; simpa using this) hl)
  have HB := hide (cat_sum_at A (some ⟨w.heap.size + 1 + 1, 0, none⟩) (some ⟨w.heap.size + 1, 0, none⟩) l c hi lo (w.heap.size + 1 + 1 + 1) (((w.alloc (.cells #[.int .u64 hi, .int .u64 lo] 28)).alloc (.cells (wordCells lo) 5)).alloc (.cells (wordCells hi) 5)) (by simp)
    (((hR.alloc _).alloc _).alloc _)
    (by have := word_rd ((w.alloc (.cells #[.int .u64 hi, .int .u64 lo] 28)).alloc (.cells (wordCells lo) 5)) hi; simpa using this)
    (by have := (word_rd (w.alloc (.cells #[.int .u64 hi, .int .u64 lo] 28)) lo).alloc (.cells (wordCells hi) 5); simpa using this) hl)
  have hb1 := hide (hb (wordCells hi) (wordCells lo))
  have hb2 := hide (hb (wordCells lo) (wordCells hi))
  clear hR h1 h2 hb
  go_enter Try.func108, Try.ntmps108
  go_wp2_with fail
  go_region_with (first
    | (go_at_call 133; ((with_reducible refine (half_any hi _ H1.out).mono ?_); rintro en w4 ⟨rfl, rfl⟩))
    | (go_at_call 133; ((with_reducible refine (half_any lo _ H2.out).mono ?_); rintro en w4 ⟨rfl, rfl⟩))
    | (go_at_call 131; ((with_reducible refine HA.out.mono ?_); rintro en w5 hw5; have hx := hw5.back hb1.out; obtain ⟨E, ec, rfl, g1, g2, g3⟩ := hx))
    | (go_at_call 131; ((with_reducible refine HB.out.mono ?_); rintro en w5 hw5; have hx := hw5.back hb2.out; obtain ⟨E, ec, rfl, g1, g2, g3⟩ := hx)))
  all_goals
    go_wp2_with fail
    refine bodyPost_ret (results_tmp rfl _ _ _) rfl ⟨E, ec, by simp only [List.length_append, wordL_len]; rfl, g1, g2, g3⟩
end Go.Proofs.Ytobgbheodlpclaa
