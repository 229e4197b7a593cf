/-
  vint.groups: a number's bytes.
-/
import Derived.Test.YtlbhgebjmekclaaDoorVintBytes
import Derived.Test.YtlbhgebjmekclaaDoorVintLay
import Derived.Lib.VarintBits
namespace Go.Proofs.YtlbhgebjmekclaaDoor
open Go.RowKit
set_option maxRecDepth 100000

theorem u64_or_nat (a b : Nat) (ha : a < 18446744073709551616) (hb : b < 18446744073709551616) : bits .or .u64 (a : Int) (b : Int) = ((a ||| b : Nat) : Int) := (bits_nat .u64 64 (by decide) wraps_u64 a b ha hb).2

theorem ofNat_small (m : Nat) (h : m < 256) : (UInt8.ofNat m).toNat = m := by rw [UInt8.toNat_ofNat']; exact Nat.mod_eq_of_lt h
/-- The row behind k rounds. -/
def rowG (n G k : Nat) : List Value := (List.range G).map fun i => if i < k then .int .u8 ((n / 128 ^ i % 128 + 128 : Nat) : Int) else .int .u8 0
theorem rowG_zero (n G : Nat) : rowG n G 0 = (madeCells #[Value.int IntKind.u8 0] G).toList := by
  rw [toList_madeCells_one]
  apply List.ext_getElem?
  intro j
  by_cases h : j < G <;> simp [rowG, h]
theorem rowG_set (n G k : Nat) (h : k < G) : (rowG n G k).set k (.int .u8 ((n / 128 ^ k % 128 + 128 : Nat) : Int)) = rowG n G (k + 1) := by
  apply List.ext_getElem?
  intro j
  rw [List.getElem?_set]
  by_cases hj : k = j
  · subst hj
    simp [rowG, h]
  · rw [if_neg hj]
    by_cases hG : j < G
    · simp only [rowG, List.getElem?_map, List.getElem?_range hG, Option.map_some]
      by_cases hk : j < k
      · rw [if_pos hk, if_pos (by omega)]
      · rw [if_neg hk, if_neg (by omega)]
    · simp [rowG, hG]

theorem rowG_at (n G k i : Nat) (h : i < G) : (rowG n G k)[i]? = some (if i < k then .int .u8 ((n / 128 ^ i % 128 + 128 : Nat) : Int) else .int .u8 0) := by
  simp only [rowG, List.getElem?_map, List.getElem?_range h, Option.map_some]
theorem or_128 : ∀ x : Fin 256, bits BinOp.or IntKind.u8 ((x.val : Nat) : Int) 128 = ((x.val % 128 + 128 : Nat) : Int) := by decide
theorem or_group (n k : Nat) : bits BinOp.or IntKind.u8 ((n : Int) / 2 ^ (7 * k) % 256) 128 = ((n / 128 ^ k % 128 + 128 : Nat) : Int) := by
  have e : ((n : Int) / 2 ^ (7 * k) % 256) = ((n / 128 ^ k % 256 : Nat) : Int) := by
    rw [show (2 : Int) ^ (7 * k) = ((128 ^ k : Nat) : Int) by rw [Int.pow_mul]; simp]
    omega
  rw [e]
  have := or_128 ⟨n / 128 ^ k % 256, Nat.mod_lt _ (by decide)⟩
  simp only at this
  rw [this, Nat.mod_mod_of_dvd _ (by decide)]

theorem rowG_last (n G : Nat) (hG : G = (groupsF 9 n).length) (hp : 1 ≤ G) (hget : ∀ (i : Nat) (h : i < (groupsF 9 n).length), (groupsF 9 n)[i] = UInt8.ofNat (if i + 1 = (groupsF 9 n).length then n / 128 ^ i % 128 else n / 128 ^ i % 128 + 128)) :
    (rowG n G G).set (G - 1) (.int .u8 ((n / 128 ^ (G - 1) % 128 : Nat) : Int)) = (groupsL n).map byteV := by
  apply List.ext_getElem?
  intro j
  rw [List.getElem?_set, List.getElem?_map]
  by_cases hj : j < G
  · have hj' : j < (groupsF 9 n).length := by omega
    rw [show (groupsL n)[j]? = some (groupsF 9 n)[j] from List.getElem?_eq_getElem hj', hget j hj', ← hG]
    have hm : n / 128 ^ j % 128 < 128 := Nat.mod_lt _ (by decide)
    by_cases he : G - 1 = j
    · subst he
      rw [if_pos rfl, if_pos (by simp [rowG]; omega), if_pos (by omega)]
      simp only [Option.map_some, byteV]
      rw [ofNat_small _ (by omega)]
    · rw [if_neg he, rowG_at _ _ _ _ hj, if_pos hj, if_neg (by omega)]
      simp only [Option.map_some, byteV]
      rw [ofNat_small _ (by omega)]
  · have hj' : ¬ j < (groupsF 9 n).length := by omega
    rw [if_neg (by omega), List.getElem?_eq_none (by simp [rowG]; omega), show (groupsL n)[j]? = none from List.getElem?_eq_none (by show (groupsF 9 n).length ≤ j; omega)]
    rfl

set_option maxHeartbeats 4000000 in
theorem groups_any (n : Nat) (w : World) (hn : n < 18446744073709551616) :
    Calls Tryd.prog 40 #[.int .u64 n] w (Bytes w (groupsL n)) := by
  obtain ⟨i0, hi, hz0, hz1, hz2⟩ := info_parts info_byte
  have hlen := groups_len 9 n (Nat.lt_of_lt_of_le hn (by decide)) hn
  have hpos := groups_pos 9 n
  have hle := groups_le 9 n
  have HG := hide (groups_get 9 n (Nat.lt_of_lt_of_le hn (by decide)))
  have hN : (n : Int) ≤ 18446744073709551615 := by omega
  have h0 : (0 : Int) ≤ n := by omega
  go_enter Tryd.func40, Tryd.ntmps40
  have hor : bits BinOp.or IntKind.u64 (n : Int) 1 = ((n ||| 1 : Nat) : Int) := u64_or_nat n 1 hn (by decide)
  have hor1 : ((n ||| 1 : Nat) : Int) ≤ 18446744073709551615 := by have := Nat.or_lt_two_pow (n := 64) hn (show 1 < 2 ^ 64 by decide); omega
  go_wp2_with fail
  refine (len64_any _ _ (by omega) hor1).mono ?_
  rw [Int.toNat_natCast]
  rintro e w0 ⟨rfl, rfl⟩
  obtain ⟨G, hG⟩ : ∃ G, G = (groupsF 9 n).length := ⟨_, rfl⟩
  have hBG : ∃ b : Nat, b = Lib.bitLen (n ||| 1) := ⟨_, rfl⟩
  obtain ⟨b, hb⟩ := hBG
  rw [← hb] at hlen ⊢
  rw [← hG] at hlen hpos hle
  have hq : ((b : Int) + 6) / 7 = (G : Int) := by omega
  have hb64 : (b : Int) ≤ 70 := by omega
  have hG1 : (1 : Int) ≤ G := by omega
  have hG2 : (G : Int) ≤ 10 := by omega
  have HGG := hide hG
  clear hor hor1 hlen hb hG
  go_wp2_with (at_make; refine wpList_make_full _ rfl _ _ 28 rfl w0.heap.size 5 i0 (.int .u8 0) 1 Tryd.underlying28 hi hz0 hz1 _ _ _ _ G rfl rfl hq hq (by rw [hz2]; omega) (by unfold maxLen; omega) (Nat.le_refl _) ?_)
  intro w1 hO hg1
  rw [← rowG_zero n] at hO
  have hB1 : Below w0.heap.size w0 w1 := (Below.refl _ _).grown hg1 (Nat.le_refl _) (fun r e => by cases e)
  clear hq hg1
  go_wp2_with fail
  go_loopw [4, 13] (fun _ i wr => ∃ k : Nat, k ≤ G ∧ i = .int .i64 k ∧ wr.ownsRow w0.heap.size 5 1 (.slice (some ⟨w0.heap.size, 0, none⟩) G G) G (rowG n G k) ∧ Below w0.heap.size w0 wr) (fun _ i _ => G - (intOf i).toNat)
  case atStart => exact ⟨0, Nat.zero_le _, rfl, hO, hB1⟩
  case round =>
    obtain ⟨k, hk, rfl, hOk, hBk⟩ := hrel
    by_cases hlt : (k : Int) < G
    · have hf := hOk.frozenAt k
      have hc : wr.cell? ⟨w0.heap.size, k, none⟩ = some (.int .u8 0) := by
        rw [hOk.cellAt _ (by omega), rowG_at _ _ _ _ (by omega), if_neg (by omega)]
      have HV := hide (or_group n k)
      go_wp2_with fail
      go_roundw
      case rel =>
        obtain ⟨ho, hg⟩ := hOk.stored k (.int .u8 ((n / 128 ^ k % 128 + 128 : Nat) : Int))
        rw [rowG_set n G k (by omega)] at ho
        rw [HV.out]
        exact ⟨k + 1, by omega, rfl, ho, hBk.grown hg hBk.size (fun r e => by cases e; exact Nat.le_refl _)⟩
      case measure => simp [intOf]; omega
    · obtain rfl : k = G := by omega
      have g1 : (0 : Int) ≤ (k : Int) - 1 := by omega
      have g2 : (k : Int) - 1 < k := by omega
      have g3 : ((k : Int) - 1).toNat = k - 1 := by omega
      have hf := hOk.frozenAt (k - 1)
      have hc : wr.cell? ⟨w0.heap.size, k - 1, none⟩ = some (.int .u8 ((n / 128 ^ (k - 1) % 128 + 128 : Nat) : Int)) := by
        rw [hOk.cellAt _ (by omega), rowG_at _ _ _ _ (by omega), if_pos (by omega)]
      have hm : n / 128 ^ (k - 1) % 128 < 128 := Nat.mod_lt _ (by decide)
      obtain ⟨ho, hg⟩ := hOk.stored (k - 1) (.int .u8 ((n / 128 ^ (k - 1) % 128 : Nat) : Int))
      rw [rowG_last n k HGG.out hpos HG.out] at ho
      have HO := hide ho
      have HB := hide (hBk.grown hg hBk.size (fun r e => by cases e; exact Nat.le_refl _))
      clear ho hg
      go_wp2_with fail
      have hl : (groupsL n).length = k := HGG.out.symm
      refine bodyPost_ret (results_tmp rfl _ _ _) rfl ⟨some ⟨w0.heap.size, 0, none⟩, k, by rw [hl]; rfl, ⟨by omega, fun e => by cases e⟩, ?_, HB.out⟩
      exact RdB.own (n := k) (c := k) HO.out
end Go.Proofs.YtlbhgebjmekclaaDoor
