/-
  Texts that belong together: VintMath, VintBytes, VintLay, VintGroups, VintPut.
-/
import Derived.Lib.BitFns
import Derived.Test.YtdkdnfcmlnfkcaaAutoBytes
import Derived.Test.YtdkdnfcmlnfkcaaAutoConcat
import Derived.Test.YtdkdnfcmlnfkcaaProg
import Derived.Shelf.Strconv.Itoa0
import Derived.Lib.VarintBits
import Derived.Lib.ConvBytes
import Derived.Laws.BytesArg
/-
  Numbers as groups of seven bits: plain mathematics.
-/
namespace Go.Proofs.Ytdkdnfcmlnfkcaa
open Go
/-- A number's bytes. -/
def groupsF : Nat → Nat → List UInt8
  | 0, n => [UInt8.ofNat n]
  | f + 1, n => if n < 128 then [UInt8.ofNat n] else UInt8.ofNat (n % 128 + 128) :: groupsF f (n / 128)
def groupsL (n : Nat) : List UInt8 := groupsF 9 n

theorem bitLen_or (m : Nat) (h1 : 1 ≤ m) (h : m < 2 ^ 64) : Lib.bitLen (m ||| 1) = Lib.bitLen m := by
  have hor : m ||| 1 < 2 ^ 64 := Nat.or_lt_two_pow h (by decide)
  have hd : (m ||| 1) / 2 = m / 2 := by
    rw [← Nat.shiftRight_eq_div_pow _ 1, ← Nat.shiftRight_eq_div_pow _ 1, Nat.shiftRight_or_distrib]
    show m >>> 1 ||| 0 = _
    simp
  have hne : m ||| 1 ≠ 0 := by
    have : 1 ≤ m ||| 1 := Nat.right_le_or
    omega
  rw [Lib.bitLen_half _ hne hor, Lib.bitLen_half m (by omega) h, hd]
theorem or_div (n : Nat) : (n ||| 1) / 128 = n / 128 := by
  rw [← Nat.shiftRight_eq_div_pow _ 7, ← Nat.shiftRight_eq_div_pow _ 7, Nat.shiftRight_or_distrib]
  show n >>> 7 ||| 0 = _
  simp
theorem small_len : ∀ n : Fin 128, (Lib.bitLen (n.val ||| 1) + 6) / 7 = 1 := by decide +kernel
theorem groups_len : ∀ (f n : Nat), n < 128 ^ (f + 1) → n < 2 ^ 64 → (groupsF f n).length = (Lib.bitLen (n ||| 1) + 6) / 7
  | 0, n, h, _ => by
    rw [small_len ⟨n, by omega⟩]; rfl
  | f + 1, n, h, h64 => by
    unfold groupsF
    split
    · rename_i hn
      rw [small_len ⟨n, hn⟩]; rfl
    · rename_i hn
      have hor : n ||| 1 < 2 ^ 64 := Nat.or_lt_two_pow h64 (by decide)
      have hle : n ≤ n ||| 1 := Nat.left_le_or
      have hd : n / 128 < 128 ^ (f + 1) := by rw [Nat.div_lt_iff_lt_mul (by decide)]; rw [Nat.pow_succ] at h; exact h
      rw [List.length_cons, groups_len f (n / 128) hd (by omega), Lib.bitLen_shift 7 (n ||| 1) (by omega) hor]
      show _ = (7 + Lib.bitLen ((n ||| 1) / 128) + 6) / 7
      rw [or_div, bitLen_or (n / 128) (by omega) (by omega)]
      omega
theorem groups_get : ∀ (f n : Nat), n < 128 ^ (f + 1) → ∀ i, (h : i < (groupsF f n).length) →
    (groupsF f n)[i] = UInt8.ofNat (if i + 1 = (groupsF f n).length then n / 128 ^ i % 128 else n / 128 ^ i % 128 + 128)
  | 0, n, hn, i, h => by
    have : i = 0 := by simp [groupsF] at h; exact h
    subst this
    have : n < 128 := by simpa using hn
    simp [groupsF, Nat.mod_eq_of_lt this]
  | f + 1, n, hn, i, h => by
    by_cases h128 : n < 128
    · have e : groupsF (f + 1) n = [UInt8.ofNat n] := by unfold groupsF; rw [if_pos h128]
      simp only [e] at h ⊢
      have : i = 0 := by simpa using h
      subst this
      simp [Nat.mod_eq_of_lt h128]
    · have hd : n / 128 < 128 ^ (f + 1) := by rw [Nat.div_lt_iff_lt_mul (by decide)]; rw [Nat.pow_succ] at hn; exact hn
      have e : groupsF (f + 1) n = UInt8.ofNat (n % 128 + 128) :: groupsF f (n / 128) := by
        conv => lhs; unfold groupsF
        rw [if_neg h128]
      have hpos : 0 < (groupsF f (n / 128)).length := by
        cases f <;> unfold groupsF
        · simp
        · split <;> simp
      simp only [e] at h ⊢
      cases i with
      | zero =>
        rw [if_neg (by rw [List.length_cons]; omega)]
        simp
      | succ j =>
        have ih := groups_get f (n / 128) hd j (by simpa using h)
        simp only [List.getElem_cons_succ, ih, List.length_cons]
        rw [Nat.div_div_eq_div_mul, Nat.pow_succ, Nat.mul_comm 128]
        congr 1
        simp only [Nat.add_right_cancel_iff]
theorem groups_pos (f n : Nat) : 1 ≤ (groupsF f n).length := by
  cases f <;> unfold groupsF
  · simp
  · split <;> simp
theorem groups_le : ∀ (f n : Nat), (groupsF f n).length ≤ f + 1
  | 0, n => by simp [groupsF]
  | f + 1, n => by
    unfold groupsF
    split
    · simp
    · have := groups_le f (n / 128); simp; omega
/-- Half a sum's bytes, the highest first. -/
def wordL (w : Nat) : List UInt8 := (List.range 8).map fun j => UInt8.ofNat (w / 256 ^ (7 - j) % 256)
end Go.Proofs.Ytdkdnfcmlnfkcaa
/-
  Slices of bytes, slices.Grow of nothing, slices.Concat: what Bytes and Concat say (this text only brings them together with the numbers' groups).
-/

/-
  The numbers of this dump at which the library's text of math/bits.Len64 lies: so its contract speaks here.
-/
namespace Go.Proofs.Ytdkdnfcmlnfkcaa
open Go.Shelf

def laysLen_ren : Go.Shelf.Ren := ⟨fun | 129 => 144 | n => n, fun | 53 => 26 | 3 => 3 | 4 => 4 | 46 => 205 | 5 => 5 | 9 => 9 | n => n, fun | n => n⟩
theorem laysLen : Go.Proofs.Lays.n129 Try.prog laysLen_ren := {
  mixed := by kernel_rfl
  f129 := Try.func144.trans (congrArg some (by kernel_rfl))
  t3 := Try.underlying3
  a3 := Try.isAgg3
  z3 := Try.sizeOf3
  v3 := Try.zeroValue3
  t4 := Try.underlying4
  a4 := Try.isAgg4
  z4 := Try.sizeOf4
  v4 := Try.zeroValue4
  t5 := Try.underlying5
  a5 := Try.isAgg5
  z5 := Try.sizeOf5
  v5 := Try.zeroValue5
  t9 := Try.underlying9
  a9 := Try.isAgg9
  z9 := Try.sizeOf9
  v9 := Try.zeroValue9
  t46 := Try.underlying205
  a46 := Try.isAgg205
  z46 := Try.sizeOf205
  v46 := Try.zeroValue205
  t53 := Try.underlying26
  a53 := Try.isAgg26
  z53 := Try.sizeOf26
  v53 := Try.zeroValue26 }
theorem len64_any (x : Int) (w : World) (h0 : 0 ≤ x) (h1 : x ≤ 18446744073709551615) :
    Calls Try.prog 144 #[.int .u64 x] w fun e w' => e = .returned (.int .i64 (Lib.bitLen x.toNat)) ∧ w' = w := Any.bits_Len64 laysLen x w h0 h1
end Go.Proofs.Ytdkdnfcmlnfkcaa
/-
  vint.groups: a number's bytes.
-/
namespace Go.Proofs.Ytdkdnfcmlnfkcaa
open Go.RowKit
set_option maxRecDepth 100000

theorem u64_or_nat (a b : Nat) (ha : a < 18446744073709551616) (hb : b < 18446744073709551616) : bits .or .u64 (a : Int) (b : Int) = ((a ||| b : Nat) : Int) := (bits_nat .u64 64 (by decide) wraps_u64 a b ha hb).2

theorem ofNat_small (m : Nat) (h : m < 256) : (UInt8.ofNat m).toNat = m := by rw [UInt8.toNat_ofNat']; exact Nat.mod_eq_of_lt h
/-- The row behind k rounds. -/
def rowG (n G k : Nat) : List Value := (List.range G).map fun i => if i < k then .int .u8 ((n / 128 ^ i % 128 + 128 : Nat) : Int) else .int .u8 0
theorem rowG_zero (n G : Nat) : rowG n G 0 = (madeCells #[Value.int IntKind.u8 0] G).toList := by
  rw [toList_madeCells_one]
  apply List.ext_getElem?
  intro j
  by_cases h : j < G <;> simp [rowG, h]
theorem rowG_set (n G k : Nat) (h : k < G) : (rowG n G k).set k (.int .u8 ((n / 128 ^ k % 128 + 128 : Nat) : Int)) = rowG n G (k + 1) := by
  apply List.ext_getElem?
  intro j
  rw [List.getElem?_set]
  by_cases hj : k = j
  · subst hj
    simp [rowG, h]
  · rw [if_neg hj]
    by_cases hG : j < G
    · simp only [rowG, List.getElem?_map, List.getElem?_range hG, Option.map_some]
      by_cases hk : j < k
      · rw [if_pos hk, if_pos (by omega)]
      · rw [if_neg hk, if_neg (by omega)]
    · simp [rowG, hG]

theorem rowG_at (n G k i : Nat) (h : i < G) : (rowG n G k)[i]? = some (if i < k then .int .u8 ((n / 128 ^ i % 128 + 128 : Nat) : Int) else .int .u8 0) := by
  simp only [rowG, List.getElem?_map, List.getElem?_range h, Option.map_some]
theorem or_128 : ∀ x : Fin 256, bits BinOp.or IntKind.u8 ((x.val : Nat) : Int) 128 = ((x.val % 128 + 128 : Nat) : Int) := by decide
theorem or_group (n k : Nat) : bits BinOp.or IntKind.u8 ((n : Int) / 2 ^ (7 * k) % 256) 128 = ((n / 128 ^ k % 128 + 128 : Nat) : Int) := by
  have e : ((n : Int) / 2 ^ (7 * k) % 256) = ((n / 128 ^ k % 256 : Nat) : Int) := by
    rw [show (2 : Int) ^ (7 * k) = ((128 ^ k : Nat) : Int) by rw [Int.pow_mul]; simp]
    omega
  rw [e]
  have := or_128 ⟨n / 128 ^ k % 256, Nat.mod_lt _ (by decide)⟩
  simp only at this
  rw [this, Nat.mod_mod_of_dvd _ (by decide)]

theorem rowG_last (n G : Nat) (hG : G = (groupsF 9 n).length) (hp : 1 ≤ G) (hget : ∀ (i : Nat) (h : i < (groupsF 9 n).length), (groupsF 9 n)[i] = UInt8.ofNat (if i + 1 = (groupsF 9 n).length then n / 128 ^ i % 128 else n / 128 ^ i % 128 + 128)) :
    (rowG n G G).set (G - 1) (.int .u8 ((n / 128 ^ (G - 1) % 128 : Nat) : Int)) = (groupsL n).map byteV := by
  apply List.ext_getElem?
  intro j
  rw [List.getElem?_set, List.getElem?_map]
  by_cases hj : j < G
  · have hj' : j < (groupsF 9 n).length := by omega
    rw [show (groupsL n)[j]? = some (groupsF 9 n)[j] from List.getElem?_eq_getElem hj', hget j hj', ← hG]
    have hm : n / 128 ^ j % 128 < 128 := Nat.mod_lt _ (by decide)
    by_cases he : G - 1 = j
    · subst he
      rw [if_pos rfl, if_pos (by simp [rowG]; omega), if_pos (by omega)]
      simp only [Option.map_some, byteV]
      rw [ofNat_small _ (by omega)]
    · rw [if_neg he, rowG_at _ _ _ _ hj, if_pos hj, if_neg (by omega)]
      simp only [Option.map_some, byteV]
      rw [ofNat_small _ (by omega)]
  · have hj' : ¬ j < (groupsF 9 n).length := by omega
    rw [if_neg (by omega), List.getElem?_eq_none (by simp [rowG]; omega), show (groupsL n)[j]? = none from List.getElem?_eq_none (by show (groupsF 9 n).length ≤ j; omega)]
    rfl

set_option maxHeartbeats 4000000 in
theorem groups_any (n : Nat) (w : World) (hn : n < 18446744073709551616) :
    Calls Try.prog 132 #[.int .u64 n] w (Bytes w (groupsL n)) := by
  obtain ⟨i0, hi, hz0, hz1, hz2⟩ := info_parts info_byte
  have hlen := groups_len 9 n (Nat.lt_of_lt_of_le hn (by decide)) hn
  have hpos := groups_pos 9 n
  have hle := groups_le 9 n
  have HG := hide (groups_get 9 n (Nat.lt_of_lt_of_le hn (by decide)))
  have hN : (n : Int) ≤ 18446744073709551615 := by omega
  have h0 : (0 : Int) ≤ n := by omega
  go_enter Try.func132, Try.ntmps132
  have hor : bits BinOp.or IntKind.u64 (n : Int) 1 = ((n ||| 1 : Nat) : Int) := u64_or_nat n 1 hn (by decide)
  have hor1 : ((n ||| 1 : Nat) : Int) ≤ 18446744073709551615 := by have := Nat.or_lt_two_pow (n := 64) hn (show 1 < 2 ^ 64 by decide); omega
  go_wp2_with fail
  refine (len64_any _ _ (by omega) hor1).mono ?_
  rw [Int.toNat_natCast]
  rintro e w0 ⟨rfl, rfl⟩
  obtain ⟨G, hG⟩ : ∃ G, G = (groupsF 9 n).length := ⟨_, rfl⟩
  have hBG : ∃ b : Nat, b = Lib.bitLen (n ||| 1) := ⟨_, rfl⟩
  obtain ⟨b, hb⟩ := hBG
  rw [← hb] at hlen ⊢
  rw [← hG] at hlen hpos hle
  have hq : ((b : Int) + 6) / 7 = (G : Int) := by omega
  have hb64 : (b : Int) ≤ 70 := by omega
  have hG1 : (1 : Int) ≤ G := by omega
  have hG2 : (G : Int) ≤ 10 := by omega
  have HGG := hide hG
  clear hor hor1 hlen hb hG
  go_wp2_with (at_make; refine wpList_make_full _ rfl _ _ 22 rfl w0.heap.size 5 i0 (.int .u8 0) 1 Try.underlying22 hi hz0 hz1 _ _ _ _ G rfl rfl hq hq (by rw [hz2]; omega) (by unfold maxLen; omega) (Nat.le_refl _) ?_)
  intro w1 hO hg1
  rw [← rowG_zero n] at hO
  have hB1 : Below w0.heap.size w0 w1 := (Below.refl _ _).grown hg1 (Nat.le_refl _) (fun r e => by cases e)
  clear hq hg1
  go_wp2_with fail
  go_loopw [4, 13] (fun _ i wr => ∃ k : Nat, k ≤ G ∧ i = .int .i64 k ∧ wr.ownsRow w0.heap.size 5 1 (.slice (some ⟨w0.heap.size, 0, none⟩) G G) G (rowG n G k) ∧ Below w0.heap.size w0 wr) (fun _ i _ => G - (intOf i).toNat)
  case atStart => exact ⟨0, Nat.zero_le _, rfl, hO, hB1⟩
  case round =>
    obtain ⟨k, hk, rfl, hOk, hBk⟩ := hrel
    by_cases hlt : (k : Int) < G
    · have hf := hOk.frozenAt k
      have hc : wr.cell? ⟨w0.heap.size, k, none⟩ = some (.int .u8 0) := by
        rw [hOk.cellAt _ (by omega), rowG_at _ _ _ _ (by omega), if_neg (by omega)]
      have HV := hide (or_group n k)
      go_wp2_with fail
      go_roundw
      case rel =>
        obtain ⟨ho, hg⟩ := hOk.stored k (.int .u8 ((n / 128 ^ k % 128 + 128 : Nat) : Int))
        rw [rowG_set n G k (by omega)] at ho
        rw [HV.out]
        exact ⟨k + 1, by omega, rfl, ho, hBk.grown hg hBk.size (fun r e => by cases e; exact Nat.le_refl _)⟩
      case measure => simp [intOf]; omega
    · obtain rfl : k = G := by omega
      have g1 : (0 : Int) ≤ (k : Int) - 1 := by omega
      have g2 : (k : Int) - 1 < k := by omega
      have g3 : ((k : Int) - 1).toNat = k - 1 := by omega
      have hf := hOk.frozenAt (k - 1)
      have hc : wr.cell? ⟨w0.heap.size, k - 1, none⟩ = some (.int .u8 ((n / 128 ^ (k - 1) % 128 + 128 : Nat) : Int)) := by
        rw [hOk.cellAt _ (by omega), rowG_at _ _ _ _ (by omega), if_pos (by omega)]
      have hm : n / 128 ^ (k - 1) % 128 < 128 := Nat.mod_lt _ (by decide)
      obtain ⟨ho, hg⟩ := hOk.stored (k - 1) (.int .u8 ((n / 128 ^ (k - 1) % 128 : Nat) : Int))
      rw [rowG_last n k HGG.out hpos HG.out] at ho
      have HO := hide ho
      have HB := hide (hBk.grown hg hBk.size (fun r e => by cases e; exact Nat.le_refl _))
      clear ho hg
      go_wp2_with fail
      have hl : (groupsL n).length = k := HGG.out.symm
      refine bodyPost_ret (results_tmp rfl _ _ _) rfl ⟨some ⟨w0.heap.size, 0, none⟩, k, by rw [hl]; rfl, ⟨by omega, fun e => by cases e⟩, ?_, HB.out⟩
      exact RdB.own (n := k) (c := k) HO.out
end Go.Proofs.Ytdkdnfcmlnfkcaa
/-
  vint.Num and Text put bytes behind others.
-/
namespace Go.Proofs.Ytdkdnfcmlnfkcaa
open Go.RowKit
set_option maxRecDepth 100000

theorem cat_three (A B D : Option Addr) (l m r : List UInt8) (c d f : Nat) (w : World) (hA : RdB w w.heap.size A l) (hB : RdB w w.heap.size B m) (hD : RdB w w.heap.size D r) (hl : l.length ≤ 1000000) (hm : m.length ≤ 1000000) (hr : r.length ≤ 1000000) (t : TypeId) :
    Calls Try.prog 131 #[.slice (some ⟨w.heap.size, 0, none⟩) 3 3] (w.alloc (.cells #[.slice A l.length c, .slice B m.length d, .slice D r.length f] t)) (Bytes w (l ++ m ++ r)) := by
  have hnew := World.alloc_heap_new w (Obj.cells #[.slice A l.length c, .slice B m.length d, .slice D r.length f] t)
  have hb : Below w.heap.size w (w.alloc (.cells #[.slice A l.length c, .slice B m.length d, .slice D r.length f] t)) := (Below.refl _ w).alloc (Nat.le_refl _) _
  have h := concat_any w.heap.size 3 [(A, l, c), (B, m, d), (D, r, f)] (w.alloc (.cells #[.slice A l.length c, .slice B m.length d, .slice D r.length f] t)) (fun k x hx => by
    rcases k with _ | _ | _ | k
    · simp at hx; subst hx; exact cell_of_row _ _ _ _ _ _ hnew
    · simp at hx; subst hx; exact cell_of_row _ _ _ _ _ _ hnew
    · simp at hx; subst hx; exact cell_of_row _ _ _ _ _ _ hnew
    · simp at hx) (by simp) (fun x hx => by
    simp at hx
    rcases hx with rfl | rfl | rfl
    · exact hA.step hb
    · exact hB.step hb
    · exact hD.step hb) (by simp) (fun x hx => by
    simp at hx
    rcases hx with rfl | rfl | rfl <;> assumption)
  refine h.mono fun e w' hw => ?_
  have e1 : allB [(A, l, c), (B, m, d), (D, r, f)] = l ++ m ++ r := by simp [allB]
  rw [e1] at hw
  exact hw.back hb
theorem groupsL_le (n : Nat) : (groupsL n).length ≤ 10 := groups_le 9 n

set_option maxHeartbeats 1000000 in
theorem putNum_any (A : Option Addr) (l : List UInt8) (c n : Nat) (w : World) (hR : RdB w w.heap.size A l) (hl : l.length ≤ 1000000) (hn : n < 18446744073709551616) :
    Calls Try.prog 107 #[.slice A l.length c, .int .u64 n] w (Bytes w (l ++ groupsL n)) := by
  go_enter Try.func107, Try.ntmps107
  go_wp2_with fail
  refine (groups_any n w hn).mono ?_
  rintro e w1 ⟨G, gc, rfl, _, hG, hB1⟩
  have hR1 := hR.step hB1
  have hgl := groupsL_le n
  go_wp2_with fail
  refine (cat_two A G l (groupsL n) c gc w1 hR1 hG hl (by omega) _).mono ?_
  rintro e w2 hw2
  obtain ⟨D, d, rfl, h2, h3, h4⟩ := hw2.back hB1
  go_wp2_with fail
  refine bodyPost_ret (results_tmp rfl _ _ _) rfl ⟨D, d, by simp only [List.length_append]; rfl, h2, h3, h4⟩

set_option maxHeartbeats 1000000 in
theorem putText_any (A : Option Addr) (l : List UInt8) (c : Nat) (s : ByteArray) (w : World) (hR : RdB w w.heap.size A l) (hl : l.length ≤ 1000000) (hs : s.size ≤ 1000000) :
    Calls Try.prog 114 #[.slice A l.length c, .string s] w (Bytes w (l ++ (groupsL s.size ++ toL s))) := by
  have hsl : (toL s).length = s.size := by simp [toL]
  have hsi : (s.size : Int) ≤ 1000000 := by omega
  go_enter Try.func114, Try.ntmps114
  go_wp2_with fail
  refine (groups_any s.size w (by omega)).mono ?_
  rintro e w1 ⟨G, gc, rfl, _, hG, hB1⟩
  have hR1 := hR.step hB1
  have hgl := groupsL_le s.size
  have hrun := Lib.run_convert_string_bytes (P := Try.prog) w1 9 22 5 s Try.underlying9 Try.underlying22 Try.underlying5
  obtain ⟨hM, hBM⟩ := made_bytes w1 s
  have hR2 := hR1.step hBM
  have hG2 := hG.step hBM
  have hB2 := hB1.trans (hBM.mono hB1.size)
  generalize Lib.bytesWorld w1 5 s = w2 at hrun hM hBM hR2 hG2 hB2
  generalize grownCap w1 s.size 0 5 = K at hrun
  go_wp2_with fail
  have hcat := cat_three A G (some ⟨w1.heap.size, 0, none⟩) l (groupsL s.size) (toL s) c gc K w2 hR2 hG2 hM hl (by omega) (by omega) 22
  rw [hsl, List.append_assoc] at hcat
  refine hcat.mono ?_
  rintro e w3 hw3
  obtain ⟨D, d, rfl, h2, h3, h4⟩ := hw3.back hB2
  go_wp2_with fail
  refine bodyPost_ret (results_tmp rfl _ _ _) rfl ⟨D, d, by simp only [List.length_append, hsl]; rfl, h2, h3, h4⟩
end Go.Proofs.Ytdkdnfcmlnfkcaa
