/-
  Texts that belong together: Concat, VintMath, VintBytes, VintLay, VintGroups, VintPut, VintSum, VintOwnSum.
-/
import Derived.Test.YtbklgijndjpgoaaDoorMkBase
import Derived.Lib.BitFns
import Derived.Test.YtbklgijndjpgoaaDoorProg
import Derived.Shelf.Strconv.Itoa0
import Derived.Lib.VarintBits
import Derived.Lib.ConvBytes
import Derived.Laws.BytesArg
import Derived.Deep.RegionWith
/-
  slices.Grow of nothing, slices.Concat.
-/
namespace Go.Proofs.YtbklgijndjpgoaaDoor
open Go.RowKit
set_option maxRecDepth 100000

set_option maxHeartbeats 1000000 in
/-- slices.Grow of nothing: a row with room. -/
theorem grow_any (n : Nat) (w : World) (hn : n ≤ 100000000) :
    Calls Tryd.prog 85 #[.slice none 0 0, .int .i64 n] w fun e w' => (∃ v, e = .returned v ∧ w'.ownsRow w.heap.size 5 1 v 0 []) ∧ Below w.heap.size w w' := by
  obtain ⟨i0, hi, hz0, hz1, hz2⟩ := info_parts info_byte
  by_cases h0 : n = 0
  · have h1 : ¬ (0 : Int) < n := by omega
    have h2 : (0 : Int) ≤ n := by omega
    clear h0
    go_enter Tryd.func85, Tryd.ntmps85
    go_wp2_with fail
    refine bodyPost_ret (results_tmp rfl _ _ _) rfl ⟨⟨_, rfl, World.ownsRow_nil _ _ _ _⟩, Below.refl _ _⟩
  · have h1 : (0 : Int) < n := by omega
    have h2 : (0 : Int) ≤ n := by omega
    have h3 : (n : Int) ≤ 100000000 := by omega
    have hold : (Builtin.firstCells i0.size 0 (.slice none 0 0)).run Tryd.prog w.drew = .ok ([] : List Value).toArray w.drew := by simp [Builtin.firstCells]
    have hrz : ∀ ty, (Builtin.append_ #[55, 3] ty #[.slice none 0 0, .int .i64 n]).run Tryd.prog w =
      .ok (.slice (some ⟨w.heap.size, 0, none⟩) n (grownCap w n 0 5)) (w.drew.alloc (.cells (Builtin.zeroCells (Value.int .u8 0).cells n ++ Builtin.zeroCells (Value.int .u8 0).cells (grownCap w n 0 5 - n)) 5)) := fun ty => by
      have h := Lib.run_append_grow_zeros w 55 3 ty 5 i0 (.int .u8 0) .i64 .i64 Tryd.underlying55 Tryd.underlying3 hi hz0 none 0 0 [] hold n (by omega) (by omega) (by omega) (by omega) (by rw [hz2]; omega)
        (by rw [Nat.zero_add]; exact growslice_fits (by omega) (by rw [hz2]; omega))
      simpa using h
    have hG := grownCap_ge w n 0 5
    have hG2 := grownCap_le_maxLen w n 0 5 (by unfold maxLen; omega)
    have hG3 : ((grownCap w n 0 5 : Nat) : Int) ≤ 9223372036854775807 := by unfold maxLen at hG2; omega
    have hG4 : (n : Int) ≤ ((grownCap w n 0 5 : Nat) : Int) := by omega
    have hcs : (Builtin.zeroCells (Value.int .u8 0).cells n ++ Builtin.zeroCells (Value.int .u8 0).cells (grownCap w n 0 5 - n)).size = grownCap w n 0 5 * 1 := by
      simp [Builtin.zeroCells, Value.cells]; omega
    have hown : (w.drew.alloc (.cells (Builtin.zeroCells (Value.int .u8 0).cells n ++ Builtin.zeroCells (Value.int .u8 0).cells (grownCap w n 0 5 - n)) 5)).ownsRow w.heap.size 5 1 (.slice (some ⟨w.heap.size, 0, none⟩) 0 (grownCap w n 0 5)) 0 [] :=
      World.ownsRow_made (base := w.heap.size) (e := 5) (size := 1) w.drew _ _ (Nat.le_refl _) hG2 hcs
    have hB : Below w.heap.size w (w.drew.alloc (.cells (Builtin.zeroCells (Value.int .u8 0).cells n ++ Builtin.zeroCells (Value.int .u8 0).cells (grownCap w n 0 5 - n)) 5)) := (Below.refl _ w).drew.alloc (Nat.le_refl _) _
    have HO := hide hown
    have HB := hide hB
    clear hown hB hcs hold
    generalize hX : w.drew.alloc (.cells (Builtin.zeroCells (Value.int .u8 0).cells n ++ Builtin.zeroCells (Value.int .u8 0).cells (grownCap w n 0 5 - n)) 5) = wx at HO HB hrz
    generalize hGG : grownCap w n 0 5 = G at HO hrz hG3 hG4
    clear hX hGG hG hG2 h0
    go_enter Tryd.func85, Tryd.ntmps85
    go_wp2_with (at_builtin; refine Lib.wpList_append_run _ rfl _ _ _ _ rfl _ _ rfl rfl _ _ (hrz _) ?_)
    refine bodyPost_ret (results_tmp rfl _ _ _) rfl ⟨⟨.slice (some ⟨w.heap.size, 0, none⟩) 0 G, rfl, HO.out⟩, HB.out⟩

/-- The bytes of some slices, one behind the other. -/
def allB (L : List (Option Addr × List UInt8 × Nat)) : List UInt8 := L.flatMap (·.2.1)
theorem allB_succ (L : List (Option Addr × List UInt8 × Nat)) (k : Nat) (x : Option Addr × List UInt8 × Nat) (hx : L[k]? = some x) : allB (L.take (k + 1)) = allB (L.take k) ++ x.2.1 := by
  obtain ⟨h, e⟩ := List.getElem?_eq_some_iff.1 hx
  rw [List.take_succ_eq_append_getElem h, e]
  simp [allB]

set_option maxHeartbeats 2000000 in
theorem concat_any (g c : Nat) (L : List (Option Addr × List UInt8 × Nat)) (w : World) (hrow : ∀ k x, L[k]? = some x → w.cell? ⟨g, k, none⟩ = some (.slice x.1 x.2.1.length x.2.2)) (hg : g < w.heap.size)
    (hR : ∀ x ∈ L, RdB w w.heap.size x.1 x.2.1) (hn : L.length ≤ 3) (hs : ∀ x ∈ L, x.2.1.length ≤ 1000000) :
    Calls Tryd.prog 76 #[.slice (some ⟨g, 0, none⟩) L.length c] w (Bytes w (allB L)) := by
  obtain ⟨i0, hi, hz0, hz1, hz2⟩ := info_parts info_byte
  have HR := hide hR
  have HS := hide hs
  have HW := hide hrow
  clear hR hs hrow
  go_enter Tryd.func76, Tryd.ntmps76
  go_wp2_with fail
  go_loopw [3, 11] (fun s i wr => ∃ k : Nat, k ≤ L.length ∧ i = .int .i64 k ∧ s = .int .i64 ((allB (L.take k)).length : Nat) ∧ (allB (L.take k)).length ≤ 1000000 * k ∧ wr = w) (fun _ i _ => L.length - (intOf i).toNat)
  case atStart => exact ⟨0, Nat.zero_le _, rfl, rfl, by simp [allB], rfl⟩
  case round =>
    obtain ⟨k, hk, rfl, rfl, hb, rfl⟩ := hrel
    by_cases hlt : (k : Int) < L.length
    · have hlt' : k < L.length := by omega
      have hx := List.getElem?_eq_getElem hlt'
      have hc := HW.out k _ hx
      have hm := HS.out L[k] (List.getElem_mem hlt')
      have hsn := congrArg List.length (allB_succ L k _ hx)
      rw [List.length_append] at hsn
      have HN := hide hsn
      clear hsn hx
      generalize L[k] = x at hc hm HN
      obtain ⟨xa, xl, xc⟩ := x
      simp only at hc hm HN
      have q1 : (0 : Int) ≤ ((allB (L.take k)).length : Nat) + (xl.length : Nat) := by omega
      have q2 : (((allB (L.take k)).length : Nat) : Int) ≤ 3000000 := by omega
      have q3 : ((xl.length : Nat) : Int) ≤ 1000000 := by omega
      go_wp2_with fail
      go_roundw
      case rel => exact ⟨k + 1, by omega, rfl, by rw [HN.out]; simp, by rw [HN.out]; omega, trivial⟩
      case measure => simp [intOf]; omega
    · have hk' : k = L.length := by omega
      have HE := hide (show (allB (L.take k)).length = (allB L).length by rw [hk', List.take_length])
      have hbl : (allB L).length ≤ 3000000 := by rw [← HE.out]; omega
      rw [HE.out]
      clear hk' hb
      go_wp2_with fail
      refine (grow_any _ _ (by omega)).mono ?_
      rename World => w0
      rintro e w1 ⟨⟨v, rfl, hO⟩, hB1⟩
      clear HE hlt hk
      go_wp2_with fail
      go_loopw [6, 27] (fun s i wr2 => ∃ k : Nat, k ≤ L.length ∧ i = .int .i64 k ∧ wr2.ownsRow w0.heap.size 5 1 s (allB (L.take k)).length ((allB (L.take k)).map byteV) ∧ (allB (L.take k)).length ≤ 1000000 * k ∧ Below w0.heap.size w0 wr2 ) (fun _ i _ => L.length - (intOf i).toNat)
      case atStart => exact ⟨0, Nat.zero_le _, rfl, by simpa [allB] using hO, by simp [allB], hB1⟩
      case round =>
        obtain ⟨k, hk, rfl, hO2, hb, hBa⟩ := hrel
        by_cases hlt : (k : Int) < L.length
        · have hlt' : k < L.length := by omega
          have hx := List.getElem?_eq_getElem hlt'
          have hc := (hBa.cell (p := ⟨g, k, none⟩) hg).trans (HW.out k _ hx)
          have hRx := (HR.out L[k] (List.getElem_mem hlt')).step hBa
          have hm := HS.out L[k] (List.getElem_mem hlt')
          have hsn := allB_succ L k _ hx
          have HN := hide hsn
          clear hsn hx
          generalize L[k] = x at hc hm HN hRx
          obtain ⟨xa, xl, xc⟩ := x
          simp only at hc hm HN hRx
          go_wp2_with (at_builtin; refine wpList_append_bytes rfl _ _ 55 rfl w0.heap.size 5 i0 Tryd.underlying55 hi hz0 hz1 hz2 _ _ _ rfl hO2 xa _ xc _ xl rfl rfl hRx (by unfold maxLen; omega) (by omega) hBa.size ?_)
          intro v' w' hO3 hg3
          go_wp2_with fail
          go_roundw
          case rel => exact ⟨k + 1, by omega, rfl, by rw [HN.out, List.length_append, List.map_append]; exact hO3, by rw [HN.out, List.length_append]; omega, hBa.grown hg3 hBa.size (fun r e => (hO2.lt r e).1)⟩
          case measure => simp [intOf]; omega
        · have hk' : k = L.length := by omega
          have HE := hide (show allB (L.take k) = allB L by rw [hk', List.take_length])
          rw [HE.out] at hO2
          clear hk' hb
          obtain ⟨A, cc, rfl⟩ := ownsRow_slice hO2
          go_wp2_with fail
          refine bodyPost_ret (results_tmp rfl _ _ _) rfl ⟨A, cc, rfl, ownsRow_caps hO2, RdB.own hO2, hBa⟩
theorem cat_two (A B : Option Addr) (l m : List UInt8) (c d : Nat) (w : World) (hA : RdB w w.heap.size A l) (hB : RdB w w.heap.size B m) (hl : l.length ≤ 1000000) (hm : m.length ≤ 1000000) (t : TypeId) :
    Calls Tryd.prog 76 #[.slice (some ⟨w.heap.size, 0, none⟩) 2 2] (w.alloc (.cells #[.slice A l.length c, .slice B m.length d] t)) (Bytes w (l ++ m)) := by
  have hnew := World.alloc_heap_new w (Obj.cells #[.slice A l.length c, .slice B m.length d] t)
  have hb : Below w.heap.size w (w.alloc (.cells #[.slice A l.length c, .slice B m.length d] t)) := (Below.refl _ w).alloc (Nat.le_refl _) _
  have h := concat_any w.heap.size 2 [(A, l, c), (B, m, d)] (w.alloc (.cells #[.slice A l.length c, .slice B m.length d] t)) (fun k x hx => by
    rcases k with _ | _ | k
    · simp at hx; subst hx; exact cell_of_row _ _ _ _ _ _ hnew
    · simp at hx; subst hx; exact cell_of_row _ _ _ _ _ _ hnew
    · simp at hx) (by simp) (fun x hx => by
    simp at hx
    rcases hx with rfl | rfl
    · exact hA.step hb
    · exact hB.step hb) (by simp) (fun x hx => by
    simp at hx
    rcases hx with rfl | rfl <;> assumption)
  refine h.mono fun e w' hw => ?_
  have e1 : allB [(A, l, c), (B, m, d)] = l ++ m := by simp [allB]
  rw [e1] at hw
  exact hw.back hb
end Go.Proofs.YtbklgijndjpgoaaDoor
/-
  Numbers as groups of seven bits: plain mathematics.
-/
namespace Go.Proofs.YtbklgijndjpgoaaDoor
open Go
/-- A number's bytes. -/
def groupsF : Nat → Nat → List UInt8
  | 0, n => [UInt8.ofNat n]
  | f + 1, n => if n < 128 then [UInt8.ofNat n] else UInt8.ofNat (n % 128 + 128) :: groupsF f (n / 128)
def groupsL (n : Nat) : List UInt8 := groupsF 9 n

theorem bitLen_or (m : Nat) (h1 : 1 ≤ m) (h : m < 2 ^ 64) : Lib.bitLen (m ||| 1) = Lib.bitLen m := by
  have hor : m ||| 1 < 2 ^ 64 := Nat.or_lt_two_pow h (by decide)
  have hd : (m ||| 1) / 2 = m / 2 := by
    rw [← Nat.shiftRight_eq_div_pow _ 1, ← Nat.shiftRight_eq_div_pow _ 1, Nat.shiftRight_or_distrib]
    show m >>> 1 ||| 0 = _
    simp
  have hne : m ||| 1 ≠ 0 := by
    have : 1 ≤ m ||| 1 := Nat.right_le_or
    omega
  rw [Lib.bitLen_half _ hne hor, Lib.bitLen_half m (by omega) h, hd]
theorem or_div (n : Nat) : (n ||| 1) / 128 = n / 128 := by
  rw [← Nat.shiftRight_eq_div_pow _ 7, ← Nat.shiftRight_eq_div_pow _ 7, Nat.shiftRight_or_distrib]
  show n >>> 7 ||| 0 = _
  simp
theorem small_len : ∀ n : Fin 128, (Lib.bitLen (n.val ||| 1) + 6) / 7 = 1 := by decide +kernel
theorem groups_len : ∀ (f n : Nat), n < 128 ^ (f + 1) → n < 2 ^ 64 → (groupsF f n).length = (Lib.bitLen (n ||| 1) + 6) / 7
  | 0, n, h, _ => by
    rw [small_len ⟨n, by omega⟩]; rfl
  | f + 1, n, h, h64 => by
    unfold groupsF
    split
    · rename_i hn
      rw [small_len ⟨n, hn⟩]; rfl
    · rename_i hn
      have hor : n ||| 1 < 2 ^ 64 := Nat.or_lt_two_pow h64 (by decide)
      have hle : n ≤ n ||| 1 := Nat.left_le_or
      have hd : n / 128 < 128 ^ (f + 1) := by rw [Nat.div_lt_iff_lt_mul (by decide)]; rw [Nat.pow_succ] at h; exact h
      rw [List.length_cons, groups_len f (n / 128) hd (by omega), Lib.bitLen_shift 7 (n ||| 1) (by omega) hor]
      show _ = (7 + Lib.bitLen ((n ||| 1) / 128) + 6) / 7
      rw [or_div, bitLen_or (n / 128) (by omega) (by omega)]
      omega
theorem groups_get : ∀ (f n : Nat), n < 128 ^ (f + 1) → ∀ i, (h : i < (groupsF f n).length) →
    (groupsF f n)[i] = UInt8.ofNat (if i + 1 = (groupsF f n).length then n / 128 ^ i % 128 else n / 128 ^ i % 128 + 128)
  | 0, n, hn, i, h => by
    have : i = 0 := by simp [groupsF] at h; exact h
    subst this
    have : n < 128 := by simpa using hn
    simp [groupsF, Nat.mod_eq_of_lt this]
  | f + 1, n, hn, i, h => by
    by_cases h128 : n < 128
    · have e : groupsF (f + 1) n = [UInt8.ofNat n] := by unfold groupsF; rw [if_pos h128]
      simp only [e] at h ⊢
      have : i = 0 := by simpa using h
      subst this
      simp [Nat.mod_eq_of_lt h128]
    · have hd : n / 128 < 128 ^ (f + 1) := by rw [Nat.div_lt_iff_lt_mul (by decide)]; rw [Nat.pow_succ] at hn; exact hn
      have e : groupsF (f + 1) n = UInt8.ofNat (n % 128 + 128) :: groupsF f (n / 128) := by
        conv => lhs; unfold groupsF
        rw [if_neg h128]
      have hpos : 0 < (groupsF f (n / 128)).length := by
        cases f <;> unfold groupsF
        · simp
        · split <;> simp
      simp only [e] at h ⊢
      cases i with
      | zero =>
        rw [if_neg (by rw [List.length_cons]; omega)]
        simp
      | succ j =>
        have ih := groups_get f (n / 128) hd j (by simpa using h)
        simp only [List.getElem_cons_succ, ih, List.length_cons]
        rw [Nat.div_div_eq_div_mul, Nat.pow_succ, Nat.mul_comm 128]
        congr 1
        simp only [Nat.add_right_cancel_iff]
theorem groups_pos (f n : Nat) : 1 ≤ (groupsF f n).length := by
  cases f <;> unfold groupsF
  · simp
  · split <;> simp
theorem groups_le : ∀ (f n : Nat), (groupsF f n).length ≤ f + 1
  | 0, n => by simp [groupsF]
  | f + 1, n => by
    unfold groupsF
    split
    · simp
    · have := groups_le f (n / 128); simp; omega
/-- Half a sum's bytes, the highest first. -/
def wordL (w : Nat) : List UInt8 := (List.range 8).map fun j => UInt8.ofNat (w / 256 ^ (7 - j) % 256)
end Go.Proofs.YtbklgijndjpgoaaDoor
/-
  Slices of bytes, slices.Grow of nothing, slices.Concat: what Bytes and Concat say (this text only brings them together with the numbers' groups).
-/

/-
  The numbers of this dump at which the library's text of math/bits.Len64 lies: so its contract speaks here.
-/
namespace Go.Proofs.YtbklgijndjpgoaaDoor
open Go.Shelf

def laysLen_ren : Go.Shelf.Ren := ⟨fun | 129 => 86 | n => n, fun | 53 => 26 | 3 => 3 | 4 => 4 | 46 => 109 | 5 => 5 | 9 => 9 | n => n, fun | n => n⟩
theorem laysLen : Go.Proofs.Lays.n129 Tryd.prog laysLen_ren := {
  mixed := by kernel_rfl
  f129 := Tryd.func86.trans (congrArg some (by kernel_rfl))
  t3 := Tryd.underlying3
  a3 := Tryd.isAgg3
  z3 := Tryd.sizeOf3
  v3 := Tryd.zeroValue3
  t4 := Tryd.underlying4
  a4 := Tryd.isAgg4
  z4 := Tryd.sizeOf4
  v4 := Tryd.zeroValue4
  t5 := Tryd.underlying5
  a5 := Tryd.isAgg5
  z5 := Tryd.sizeOf5
  v5 := Tryd.zeroValue5
  t9 := Tryd.underlying9
  a9 := Tryd.isAgg9
  z9 := Tryd.sizeOf9
  v9 := Tryd.zeroValue9
  t46 := Tryd.underlying109
  a46 := Tryd.isAgg109
  z46 := Tryd.sizeOf109
  v46 := Tryd.zeroValue109
  t53 := Tryd.underlying26
  a53 := Tryd.isAgg26
  z53 := Tryd.sizeOf26
  v53 := Tryd.zeroValue26 }
theorem len64_any (x : Int) (w : World) (h0 : 0 ≤ x) (h1 : x ≤ 18446744073709551615) :
    Calls Tryd.prog 86 #[.int .u64 x] w fun e w' => e = .returned (.int .i64 (Lib.bitLen x.toNat)) ∧ w' = w := Any.bits_Len64 laysLen x w h0 h1
end Go.Proofs.YtbklgijndjpgoaaDoor
/-
  vint.groups: a number's bytes.
-/
namespace Go.Proofs.YtbklgijndjpgoaaDoor
open Go.RowKit
set_option maxRecDepth 100000

theorem u64_or_nat (a b : Nat) (ha : a < 18446744073709551616) (hb : b < 18446744073709551616) : bits .or .u64 (a : Int) (b : Int) = ((a ||| b : Nat) : Int) := (bits_nat .u64 64 (by decide) wraps_u64 a b ha hb).2

theorem ofNat_small (m : Nat) (h : m < 256) : (UInt8.ofNat m).toNat = m := by rw [UInt8.toNat_ofNat']; exact Nat.mod_eq_of_lt h
/-- The row behind k rounds. -/
def rowG (n G k : Nat) : List Value := (List.range G).map fun i => if i < k then .int .u8 ((n / 128 ^ i % 128 + 128 : Nat) : Int) else .int .u8 0
theorem rowG_zero (n G : Nat) : rowG n G 0 = (madeCells #[Value.int IntKind.u8 0] G).toList := by
  rw [toList_madeCells_one]
  apply List.ext_getElem?
  intro j
  by_cases h : j < G <;> simp [rowG, h]
theorem rowG_set (n G k : Nat) (h : k < G) : (rowG n G k).set k (.int .u8 ((n / 128 ^ k % 128 + 128 : Nat) : Int)) = rowG n G (k + 1) := by
  apply List.ext_getElem?
  intro j
  rw [List.getElem?_set]
  by_cases hj : k = j
  · subst hj
    simp [rowG, h]
  · rw [if_neg hj]
    by_cases hG : j < G
    · simp only [rowG, List.getElem?_map, List.getElem?_range hG, Option.map_some]
      by_cases hk : j < k
      · rw [if_pos hk, if_pos (by omega)]
      · rw [if_neg hk, if_neg (by omega)]
    · simp [rowG, hG]

theorem rowG_at (n G k i : Nat) (h : i < G) : (rowG n G k)[i]? = some (if i < k then .int .u8 ((n / 128 ^ i % 128 + 128 : Nat) : Int) else .int .u8 0) := by
  simp only [rowG, List.getElem?_map, List.getElem?_range h, Option.map_some]
theorem or_128 : ∀ x : Fin 256, bits BinOp.or IntKind.u8 ((x.val : Nat) : Int) 128 = ((x.val % 128 + 128 : Nat) : Int) := by decide
theorem or_group (n k : Nat) : bits BinOp.or IntKind.u8 ((n : Int) / 2 ^ (7 * k) % 256) 128 = ((n / 128 ^ k % 128 + 128 : Nat) : Int) := by
  have e : ((n : Int) / 2 ^ (7 * k) % 256) = ((n / 128 ^ k % 256 : Nat) : Int) := by
    rw [show (2 : Int) ^ (7 * k) = ((128 ^ k : Nat) : Int) by rw [Int.pow_mul]; simp]
    omega
  rw [e]
  have := or_128 ⟨n / 128 ^ k % 256, Nat.mod_lt _ (by decide)⟩
  simp only at this
  rw [this, Nat.mod_mod_of_dvd _ (by decide)]

theorem rowG_last (n G : Nat) (hG : G = (groupsF 9 n).length) (hp : 1 ≤ G) (hget : ∀ (i : Nat) (h : i < (groupsF 9 n).length), (groupsF 9 n)[i] = UInt8.ofNat (if i + 1 = (groupsF 9 n).length then n / 128 ^ i % 128 else n / 128 ^ i % 128 + 128)) :
    (rowG n G G).set (G - 1) (.int .u8 ((n / 128 ^ (G - 1) % 128 : Nat) : Int)) = (groupsL n).map byteV := by
  apply List.ext_getElem?
  intro j
  rw [List.getElem?_set, List.getElem?_map]
  by_cases hj : j < G
  · have hj' : j < (groupsF 9 n).length := by omega
    rw [show (groupsL n)[j]? = some (groupsF 9 n)[j] from List.getElem?_eq_getElem hj', hget j hj', ← hG]
    have hm : n / 128 ^ j % 128 < 128 := Nat.mod_lt _ (by decide)
    by_cases he : G - 1 = j
    · subst he
      rw [if_pos rfl, if_pos (by simp [rowG]; omega), if_pos (by omega)]
      simp only [Option.map_some, byteV]
      rw [ofNat_small _ (by omega)]
    · rw [if_neg he, rowG_at _ _ _ _ hj, if_pos hj, if_neg (by omega)]
      simp only [Option.map_some, byteV]
      rw [ofNat_small _ (by omega)]
  · have hj' : ¬ j < (groupsF 9 n).length := by omega
    rw [if_neg (by omega), List.getElem?_eq_none (by simp [rowG]; omega), show (groupsL n)[j]? = none from List.getElem?_eq_none (by show (groupsF 9 n).length ≤ j; omega)]
    rfl

set_option maxHeartbeats 4000000 in
theorem groups_any (n : Nat) (w : World) (hn : n < 18446744073709551616) :
    Calls Tryd.prog 77 #[.int .u64 n] w (Bytes w (groupsL n)) := by
  obtain ⟨i0, hi, hz0, hz1, hz2⟩ := info_parts info_byte
  have hlen := groups_len 9 n (Nat.lt_of_lt_of_le hn (by decide)) hn
  have hpos := groups_pos 9 n
  have hle := groups_le 9 n
  have HG := hide (groups_get 9 n (Nat.lt_of_lt_of_le hn (by decide)))
  have hN : (n : Int) ≤ 18446744073709551615 := by omega
  have h0 : (0 : Int) ≤ n := by omega
  go_enter Tryd.func77, Tryd.ntmps77
  have hor : bits BinOp.or IntKind.u64 (n : Int) 1 = ((n ||| 1 : Nat) : Int) := u64_or_nat n 1 hn (by decide)
  have hor1 : ((n ||| 1 : Nat) : Int) ≤ 18446744073709551615 := by have := Nat.or_lt_two_pow (n := 64) hn (show 1 < 2 ^ 64 by decide); omega
  go_wp2_with fail
  refine (len64_any _ _ (by omega) hor1).mono ?_
  rw [Int.toNat_natCast]
  rintro e w0 ⟨rfl, rfl⟩
  obtain ⟨G, hG⟩ : ∃ G, G = (groupsF 9 n).length := ⟨_, rfl⟩
  have hBG : ∃ b : Nat, b = Lib.bitLen (n ||| 1) := ⟨_, rfl⟩
  obtain ⟨b, hb⟩ := hBG
  rw [← hb] at hlen ⊢
  rw [← hG] at hlen hpos hle
  have hq : ((b : Int) + 6) / 7 = (G : Int) := by omega
  have hb64 : (b : Int) ≤ 70 := by omega
  have hG1 : (1 : Int) ≤ G := by omega
  have hG2 : (G : Int) ≤ 10 := by omega
  have HGG := hide hG
  clear hor hor1 hlen hb hG
  go_wp2_with (at_make; refine wpList_make_full _ rfl _ _ 55 rfl w0.heap.size 5 i0 (.int .u8 0) 1 Tryd.underlying55 hi hz0 hz1 _ _ _ _ G rfl rfl hq hq (by rw [hz2]; omega) (by unfold maxLen; omega) (Nat.le_refl _) ?_)
  intro w1 hO hg1
  rw [← rowG_zero n] at hO
  have hB1 : Below w0.heap.size w0 w1 := (Below.refl _ _).grown hg1 (Nat.le_refl _) (fun r e => by cases e)
  clear hq hg1
  go_wp2_with fail
  go_loopw [4, 13] (fun _ i wr => ∃ k : Nat, k ≤ G ∧ i = .int .i64 k ∧ wr.ownsRow w0.heap.size 5 1 (.slice (some ⟨w0.heap.size, 0, none⟩) G G) G (rowG n G k) ∧ Below w0.heap.size w0 wr) (fun _ i _ => G - (intOf i).toNat)
  case atStart => exact ⟨0, Nat.zero_le _, rfl, hO, hB1⟩
  case round =>
    obtain ⟨k, hk, rfl, hOk, hBk⟩ := hrel
    by_cases hlt : (k : Int) < G
    · have hf := hOk.frozenAt k
      have hc : wr.cell? ⟨w0.heap.size, k, none⟩ = some (.int .u8 0) := by
        rw [hOk.cellAt _ (by omega), rowG_at _ _ _ _ (by omega), if_neg (by omega)]
      have HV := hide (or_group n k)
      go_wp2_with fail
      go_roundw
      case rel =>
        obtain ⟨ho, hg⟩ := hOk.stored k (.int .u8 ((n / 128 ^ k % 128 + 128 : Nat) : Int))
        rw [rowG_set n G k (by omega)] at ho
        rw [HV.out]
        exact ⟨k + 1, by omega, rfl, ho, hBk.grown hg hBk.size (fun r e => by cases e; exact Nat.le_refl _)⟩
      case measure => simp [intOf]; omega
    · obtain rfl : k = G := by omega
      have g1 : (0 : Int) ≤ (k : Int) - 1 := by omega
      have g2 : (k : Int) - 1 < k := by omega
      have g3 : ((k : Int) - 1).toNat = k - 1 := by omega
      have hf := hOk.frozenAt (k - 1)
      have hc : wr.cell? ⟨w0.heap.size, k - 1, none⟩ = some (.int .u8 ((n / 128 ^ (k - 1) % 128 + 128 : Nat) : Int)) := by
        rw [hOk.cellAt _ (by omega), rowG_at _ _ _ _ (by omega), if_pos (by omega)]
      have hm : n / 128 ^ (k - 1) % 128 < 128 := Nat.mod_lt _ (by decide)
      obtain ⟨ho, hg⟩ := hOk.stored (k - 1) (.int .u8 ((n / 128 ^ (k - 1) % 128 : Nat) : Int))
      rw [rowG_last n k HGG.out hpos HG.out] at ho
      have HO := hide ho
      have HB := hide (hBk.grown hg hBk.size (fun r e => by cases e; exact Nat.le_refl _))
      clear ho hg
      go_wp2_with fail
      have hl : (groupsL n).length = k := HGG.out.symm
      refine bodyPost_ret (results_tmp rfl _ _ _) rfl ⟨some ⟨w0.heap.size, 0, none⟩, k, by rw [hl]; rfl, ⟨by omega, fun e => by cases e⟩, ?_, HB.out⟩
      exact RdB.own (n := k) (c := k) HO.out
end Go.Proofs.YtbklgijndjpgoaaDoor
/-
  vint.Num and Text put bytes behind others.
-/
namespace Go.Proofs.YtbklgijndjpgoaaDoor
open Go.RowKit
set_option maxRecDepth 100000

theorem cat_three (A B D : Option Addr) (l m r : List UInt8) (c d f : Nat) (w : World) (hA : RdB w w.heap.size A l) (hB : RdB w w.heap.size B m) (hD : RdB w w.heap.size D r) (hl : l.length ≤ 1000000) (hm : m.length ≤ 1000000) (hr : r.length ≤ 1000000) (t : TypeId) :
    Calls Tryd.prog 76 #[.slice (some ⟨w.heap.size, 0, none⟩) 3 3] (w.alloc (.cells #[.slice A l.length c, .slice B m.length d, .slice D r.length f] t)) (Bytes w (l ++ m ++ r)) := by
  have hnew := World.alloc_heap_new w (Obj.cells #[.slice A l.length c, .slice B m.length d, .slice D r.length f] t)
  have hb : Below w.heap.size w (w.alloc (.cells #[.slice A l.length c, .slice B m.length d, .slice D r.length f] t)) := (Below.refl _ w).alloc (Nat.le_refl _) _
  have h := concat_any w.heap.size 3 [(A, l, c), (B, m, d), (D, r, f)] (w.alloc (.cells #[.slice A l.length c, .slice B m.length d, .slice D r.length f] t)) (fun k x hx => by
    rcases k with _ | _ | _ | k
    · simp at hx; subst hx; exact cell_of_row _ _ _ _ _ _ hnew
    · simp at hx; subst hx; exact cell_of_row _ _ _ _ _ _ hnew
    · simp at hx; subst hx; exact cell_of_row _ _ _ _ _ _ hnew
    · simp at hx) (by simp) (fun x hx => by
    simp at hx
    rcases hx with rfl | rfl | rfl
    · exact hA.step hb
    · exact hB.step hb
    · exact hD.step hb) (by simp) (fun x hx => by
    simp at hx
    rcases hx with rfl | rfl | rfl <;> assumption)
  refine h.mono fun e w' hw => ?_
  have e1 : allB [(A, l, c), (B, m, d), (D, r, f)] = l ++ m ++ r := by simp [allB]
  rw [e1] at hw
  exact hw.back hb
theorem groupsL_le (n : Nat) : (groupsL n).length ≤ 10 := groups_le 9 n

set_option maxHeartbeats 1000000 in
theorem putNum_any (A : Option Addr) (l : List UInt8) (c n : Nat) (w : World) (hR : RdB w w.heap.size A l) (hl : l.length ≤ 1000000) (hn : n < 18446744073709551616) :
    Calls Tryd.prog 63 #[.slice A l.length c, .int .u64 n] w (Bytes w (l ++ groupsL n)) := by
  go_enter Tryd.func63, Tryd.ntmps63
  go_wp2_with fail
  refine (groups_any n w hn).mono ?_
  rintro e w1 ⟨G, gc, rfl, _, hG, hB1⟩
  have hR1 := hR.step hB1
  have hgl := groupsL_le n
  go_wp2_with fail
  refine (cat_two A G l (groupsL n) c gc w1 hR1 hG hl (by omega) _).mono ?_
  rintro e w2 hw2
  obtain ⟨D, d, rfl, h2, h3, h4⟩ := hw2.back hB1
  go_wp2_with fail
  refine bodyPost_ret (results_tmp rfl _ _ _) rfl ⟨D, d, by simp only [List.length_append]; rfl, h2, h3, h4⟩

set_option maxHeartbeats 1000000 in
theorem putText_any (A : Option Addr) (l : List UInt8) (c : Nat) (s : ByteArray) (w : World) (hR : RdB w w.heap.size A l) (hl : l.length ≤ 1000000) (hs : s.size ≤ 1000000) :
    Calls Tryd.prog 61 #[.slice A l.length c, .string s] w (Bytes w (l ++ (groupsL s.size ++ toL s))) := by
  have hsl : (toL s).length = s.size := by simp [toL]
  have hsi : (s.size : Int) ≤ 1000000 := by omega
  go_enter Tryd.func61, Tryd.ntmps61
  go_wp2_with fail
  refine (groups_any s.size w (by omega)).mono ?_
  rintro e w1 ⟨G, gc, rfl, _, hG, hB1⟩
  have hR1 := hR.step hB1
  have hgl := groupsL_le s.size
  have hrun := Lib.run_convert_string_bytes (P := Tryd.prog) w1 9 55 5 s Tryd.underlying9 Tryd.underlying55 Tryd.underlying5
  obtain ⟨hM, hBM⟩ := made_bytes w1 s
  have hR2 := hR1.step hBM
  have hG2 := hG.step hBM
  have hB2 := hB1.trans (hBM.mono hB1.size)
  generalize Lib.bytesWorld w1 5 s = w2 at hrun hM hBM hR2 hG2 hB2
  generalize grownCap w1 s.size 0 5 = K at hrun
  go_wp2_with fail
  have hcat := cat_three A G (some ⟨w1.heap.size, 0, none⟩) l (groupsL s.size) (toL s) c gc K w2 hR2 hG2 hM hl (by omega) (by omega) 55
  rw [hsl, List.append_assoc] at hcat
  refine hcat.mono ?_
  rintro e w3 hw3
  obtain ⟨D, d, rfl, h2, h3, h4⟩ := hw3.back hB2
  go_wp2_with fail
  refine bodyPost_ret (results_tmp rfl _ _ _) rfl ⟨D, d, by simp only [List.length_append, hsl]; rfl, h2, h3, h4⟩
end Go.Proofs.YtbklgijndjpgoaaDoor
/-
  vint.word and Sum: half a sum's bytes, and a sum's.
-/
namespace Go.Proofs.YtbklgijndjpgoaaDoor
open Go.RowKit
set_option maxRecDepth 100000

/-- The row behind k rounds: the last k bytes. -/
def rowW (n k : Nat) : List Value := (List.range 8).map fun j => if 8 ≤ j + k then .int .u8 ((n / 256 ^ (7 - j) % 256 : Nat) : Int) else .int .u8 0
theorem rowW_zero (n : Nat) : rowW n 0 = List.replicate 8 (Value.int .u8 0) := by simp [rowW, List.range, List.range.loop]
theorem rowW_at (n k j : Nat) (h : j < 8) : (rowW n k)[j]? = some (if 8 ≤ j + k then .int .u8 ((n / 256 ^ (7 - j) % 256 : Nat) : Int) else .int .u8 0) := by
  simp only [rowW, List.getElem?_map, List.getElem?_range h, Option.map_some]
theorem rowW_set (n k : Nat) (h : k < 8) : (rowW n k).set (7 - k) (.int .u8 ((n / 256 ^ k % 256 : Nat) : Int)) = rowW n (k + 1) := by
  apply List.ext_getElem?
  intro j
  rw [List.getElem?_set]
  by_cases hj : 7 - k = j
  · subst hj
    rw [if_pos rfl, if_pos (by simp [rowW]; omega), rowW_at _ _ _ (by omega), if_pos (by omega), show 7 - (7 - k) = k by omega]
  · rw [if_neg hj]
    by_cases h8 : j < 8
    · rw [rowW_at _ _ _ h8, rowW_at _ _ _ h8]
      by_cases hk : 8 ≤ j + k
      · rw [if_pos hk, if_pos (by omega)]
      · rw [if_neg hk, if_neg (by omega)]
    · simp [rowW, h8]
theorem rowW_full (n : Nat) : rowW n 8 = (wordL n).map byteV := by
  unfold rowW wordL
  rw [List.map_map]
  apply List.map_congr_left
  intro j _
  rw [if_pos (by omega)]
  show _ = byteV (UInt8.ofNat (n / 256 ^ (7 - j) % 256))
  unfold byteV
  rw [ofNat_small _ (Nat.mod_lt _ (by decide))]
theorem div_shift (n k : Nat) : ((n : Int) / 2 ^ (8 * k) % 256) = ((n / 256 ^ k % 256 : Nat) : Int) := by
  rw [show (2 : Int) ^ (8 * k) = ((256 ^ k : Nat) : Int) by rw [Int.pow_mul]; simp]
  omega
/-- Half a sum's cells. -/
def wordCells (n : Nat) : Array Value := (rowW n 8).toArray

set_option maxHeartbeats 4000000 in
theorem half_any (n : Nat) (w : World) (hn : n < 18446744073709551616) :
    Calls Tryd.prog 78 #[.int .u64 n] w fun e w' => e = .returned (.slice (some ⟨w.heap.size, 0, none⟩) 8 8) ∧ w' = w.alloc (.cells (wordCells n) 5) := by
  have hN : (n : Int) ≤ 18446744073709551615 := by omega
  have h0 : (0 : Int) ≤ n := by omega
  have hmk : (Instr.makeSlice 55 (.int .i64 8) (.int .i64 8)).run Tryd.prog w = .ok (.slice (some ⟨w.heap.size, 0, none⟩) 8 8) (w.alloc (.cells (rowW n 0).toArray 5)) := by
    rw [rowW_zero]
    have h : ∀ w : World, (Instr.makeSlice 55 (.int .i64 8) (.int .i64 8)).run Tryd.prog w = .ok (.slice (some ⟨w.heap.size, 0, none⟩) 8 8) (w.alloc (.cells (List.replicate 8 (Value.int .u8 0)).toArray 5)) := fun w => by kernel_rfl
    exact h w
  obtain ⟨wx, hwx⟩ : ∃ wx, wx = w.alloc (.cells (rowW n 0).toArray 5) := ⟨_, rfl⟩
  rw [← hwx] at hmk
  have HX := hide hwx
  clear hwx
  go_enter Tryd.func78, Tryd.ntmps78
  go_wp2_with fail
  go_loopw [4, 8] (fun _ i wr => ∃ k : Nat, k ≤ 8 ∧ i = .int .i64 k ∧ Hid (wr = w.alloc (.cells (rowW n k).toArray 5))) (fun _ i _ => 8 - (intOf i).toNat)
  case atStart => exact ⟨0, by decide, rfl, HX⟩
  case round =>
    obtain ⟨k, hk, rfl, HW⟩ := hrel
    by_cases hlt : (k : Int) < 8
    · have hnew : wr.heap[w.heap.size]? = some (.cells (rowW n k).toArray 5 (0, 0)) := by rw [HW.out]; exact World.alloc_heap_new _ _
      have hc : wr.cell? ⟨w.heap.size, 7 - k, none⟩ = some (.int .u8 0) := by
        rw [cell_of_row _ _ _ _ _ _ hnew]
        rw [List.getElem?_toArray, rowW_at _ _ _ (by omega), if_neg (by omega)]
      have hf : wr.frozen? ⟨w.heap.size, 7 - k, none⟩ = false := frozen_of_row _ _ _ _ _ hnew
      have HV := hide (div_shift n k)
      have g0 : (0 : Int) ≤ 7 - (k : Int) := by omega
      have g1 : (7 : Int) - k < 8 := by omega
      have g2 : ((7 : Int) - k).toNat = 7 - k := by omega
      clear hnew
      go_wp2_with fail
      go_roundw
      case rel =>
        refine ⟨k + 1, by omega, rfl, ?_⟩
        rw [HV.out, HW.out]
        show _ = _
        rw [World.setCell_alloc_at _ _ _ _ _ rfl, ← rowW_set n k (by omega)]
        simp
      case measure => simp [intOf]; omega
    · obtain rfl : k = 8 := by omega
      go_wp2_with fail
      refine bodyPost_ret (results_tmp rfl _ _ _) rfl ⟨rfl, HW.out⟩

theorem wordL_len (n : Nat) : (wordL n).length = 8 := by simp [wordL]
theorem word_rd (W : World) (n : Nat) : RdB (W.alloc (.cells (wordCells n) 5)) (W.alloc (.cells (wordCells n) 5)).heap.size (some ⟨W.heap.size, 0, none⟩) (wordL n) := fun k x hx => by
  refine ⟨_, rfl, by simp, ?_⟩
  have e : ((⟨W.heap.size, 0, none⟩ : Addr).add k) = ⟨W.heap.size, k, none⟩ := by unfold Addr.add; split <;> simp_all
  rw [e, cell_of_row _ _ _ _ _ _ (World.alloc_heap_new W _)]
  unfold wordCells
  rw [List.getElem?_toArray, rowW_full, List.getElem?_map, hx]; rfl
theorem RdB.alloc {W : World} {A : Option Addr} {l : List UInt8} (h : RdB W W.heap.size A l) (o : Obj) : RdB (W.alloc o) (W.alloc o).heap.size A l := h.step ((Below.refl _ W).alloc (Nat.le_refl _) o)
theorem RdB.drew {w : World} {A : Option Addr} {l : List UInt8} (h : RdB w w.heap.size A l) : RdB w.drew w.drew.heap.size A l := h

theorem cat_sum (A B D : Option Addr) (l : List UInt8) (c hi lo : Nat) (w : World) (hA : RdB w w.heap.size A l) (hB : RdB w w.heap.size B (wordL hi)) (hD : RdB w w.heap.size D (wordL lo)) (hl : l.length ≤ 1000000) :
    Calls Tryd.prog 76 #[.slice (some ⟨w.heap.size, 0, none⟩) 3 3] (w.alloc (.cells #[.slice A l.length c, .slice B 8 8, .slice D 8 8] 55)) (Bytes w (l ++ (wordL hi ++ wordL lo))) := by
  have h := cat_three A B D l (wordL hi) (wordL lo) c 8 8 w hA hB hD hl (by rw [wordL_len]; decide) (by rw [wordL_len]; decide) 55
  rw [wordL_len, wordL_len, List.append_assoc] at h
  exact h

theorem cat_sum_at (A B D : Option Addr) (l : List UInt8) (c hi lo N : Nat) (W : World) (hN : W.heap.size = N) (hA : RdB W W.heap.size A l) (hB : RdB W W.heap.size B (wordL hi)) (hD : RdB W W.heap.size D (wordL lo)) (hl : l.length ≤ 1000000) :
    Calls Tryd.prog 76 #[.slice (some ⟨N, 0, none⟩) 3 3] (W.alloc (.cells #[.slice A l.length c, .slice B 8 8, .slice D 8 8] 55)).drew (Bytes W (l ++ (wordL hi ++ wordL lo))) := by
  subst hN
  have h : Calls Tryd.prog 76 #[.slice (some ⟨W.heap.size, 0, none⟩) 3 3] (W.alloc (.cells #[.slice A l.length c, .slice B 8 8, .slice D 8 8] 55)).drew (Bytes W.drew (l ++ (wordL hi ++ wordL lo))) := cat_sum A B D l c hi lo W.drew hA.drew hB.drew hD.drew hl
  exact h.mono fun e w' hh => hh.back (Below.refl _ W).drew

set_option maxHeartbeats 400000 in
theorem putSum_any (A : Option Addr) (l : List UInt8) (c hi lo : Nat) (w : World) (hR : RdB w w.heap.size A l) (hl : l.length ≤ 1000000) (h1 : hi < 18446744073709551616) (h2 : lo < 18446744073709551616) :
    Calls Tryd.prog 64 #[.slice A l.length c, .agg #[.int .u64 hi, .int .u64 lo]] w (Bytes w (l ++ (wordL hi ++ wordL lo))) := by
  have H1 := hide h1
  have H2 := hide h2
  have hb : ∀ X Y : Array Value, Below w.heap.size w (((w.alloc (.cells #[.int .u64 hi, .int .u64 lo] 28)).alloc (.cells X 5)).alloc (.cells Y 5)) := fun X Y =>
    (((Below.refl _ w).alloc (Nat.le_refl _) _).alloc (by simp) _).alloc (by simp; omega) _
  have HA := hide (cat_sum_at A (some ⟨w.heap.size + 1, 0, none⟩) (some ⟨w.heap.size + 1 + 1, 0, none⟩) l c hi lo (w.heap.size + 1 + 1 + 1) (((w.alloc (.cells #[.int .u64 hi, .int .u64 lo] 28)).alloc (.cells (wordCells hi) 5)).alloc (.cells (wordCells lo) 5)) (by simp)
    (((hR.alloc _).alloc _).alloc _)
    (by have := (word_rd (w.alloc (.cells #[.int .u64 hi, .int .u64 lo] 28)) hi).alloc (.cells (wordCells lo) 5); simpa using this)
    (by have := word_rd ((w.alloc (.cells #[.int .u64 hi, .int .u64 lo] 28)).alloc (.cells (wordCells hi) 5)) lo; simpa using this) hl)
  have HB := hide (cat_sum_at A (some ⟨w.heap.size + 1 + 1, 0, none⟩) (some ⟨w.heap.size + 1, 0, none⟩) l c hi lo (w.heap.size + 1 + 1 + 1) (((w.alloc (.cells #[.int .u64 hi, .int .u64 lo] 28)).alloc (.cells (wordCells lo) 5)).alloc (.cells (wordCells hi) 5)) (by simp)
    (((hR.alloc _).alloc _).alloc _)
    (by have := word_rd ((w.alloc (.cells #[.int .u64 hi, .int .u64 lo] 28)).alloc (.cells (wordCells lo) 5)) hi; simpa using this)
    (by have := (word_rd (w.alloc (.cells #[.int .u64 hi, .int .u64 lo] 28)) lo).alloc (.cells (wordCells hi) 5); simpa using this) hl)
  have hb1 := hide (hb (wordCells hi) (wordCells lo))
  have hb2 := hide (hb (wordCells lo) (wordCells hi))
  clear hR h1 h2 hb
  go_enter Tryd.func64, Tryd.ntmps64
  go_wp2_with fail
  go_region_with (first
    | (go_at_call 78; ((with_reducible refine (half_any hi _ H1.out).mono ?_); rintro en w4 ⟨rfl, rfl⟩))
    | (go_at_call 78; ((with_reducible refine (half_any lo _ H2.out).mono ?_); rintro en w4 ⟨rfl, rfl⟩))
    | (go_at_call 76; ((with_reducible refine HA.out.mono ?_); rintro en w5 hw5; have hx := hw5.back hb1.out; obtain ⟨E, ec, rfl, g1, g2, g3⟩ := hx))
    | (go_at_call 76; ((with_reducible refine HB.out.mono ?_); rintro en w5 hw5; have hx := hw5.back hb2.out; obtain ⟨E, ec, rfl, g1, g2, g3⟩ := hx)))
  all_goals
    go_wp2_with fail
    refine bodyPost_ret (results_tmp rfl _ _ _) rfl ⟨E, ec, by simp only [List.length_append, wordL_len]; rfl, g1, g2, g3⟩
end Go.Proofs.YtbklgijndjpgoaaDoor
/-
  A number, a text, a sum that is put lies in a row of the call's own.
-/
namespace Go.Proofs.YtbklgijndjpgoaaDoor
open Go.RowKit
set_option maxRecDepth 100000

theorem ownsRow_lower {w : World} {base base' n size : Nat} {e : TypeId} {v : Value} {xs : List Value} (h : w.ownsRow base e size v n xs) (hb : base' ≤ base) : w.ownsRow base' e size v n xs :=
  ⟨h.1, h.2.imp id fun ⟨g, cap, cur, h1, h2, h3⟩ => ⟨g, cap, cur, h1, Nat.le_trans hb h2, h3⟩⟩
/-- A call's answer: a row of its own, of these bytes. -/
def BytesO (w0 : World) (l : List UInt8) (e : Ending) (w' : World) : Prop :=
  ∃ A c, e = .returned (.slice A l.length c) ∧ w'.ownsRow w0.heap.size 5 1 (.slice A l.length c) l.length (l.map byteV) ∧ RdB w' w'.heap.size A l ∧ Below w0.heap.size w0 w'
theorem BytesO.back {w w1 w' : World} {l : List UInt8} {e : Ending} (h : BytesO w1 l e w') (hb : Below w.heap.size w w1) : BytesO w l e w' := by
  obtain ⟨A, c, h1, h2, h3, h4⟩ := h
  exact ⟨A, c, h1, ownsRow_lower h2 hb.size, h3, hb.trans (h4.mono hb.size)⟩

set_option maxHeartbeats 2000000 in
theorem concat_o (g c : Nat) (L : List (Option Addr × List UInt8 × Nat)) (w : World) (hrow : ∀ k x, L[k]? = some x → w.cell? ⟨g, k, none⟩ = some (.slice x.1 x.2.1.length x.2.2)) (hg : g < w.heap.size)
    (hR : ∀ x ∈ L, RdB w w.heap.size x.1 x.2.1) (hn : L.length ≤ 3) (hs : ∀ x ∈ L, x.2.1.length ≤ 1000000) :
    Calls Tryd.prog 76 #[.slice (some ⟨g, 0, none⟩) L.length c] w (BytesO w (allB L)) := by
  obtain ⟨i0, hi, hz0, hz1, hz2⟩ := info_parts info_byte
  have HR := hide hR
  have HS := hide hs
  have HW := hide hrow
  clear hR hs hrow
  go_enter Tryd.func76, Tryd.ntmps76
  go_wp2_with fail
  go_loopw [3, 11] (fun s i wr => ∃ k : Nat, k ≤ L.length ∧ i = .int .i64 k ∧ s = .int .i64 ((allB (L.take k)).length : Nat) ∧ (allB (L.take k)).length ≤ 1000000 * k ∧ wr = w) (fun _ i _ => L.length - (intOf i).toNat)
  case atStart => exact ⟨0, Nat.zero_le _, rfl, rfl, by simp [allB], rfl⟩
  case round =>
    obtain ⟨k, hk, rfl, rfl, hb, rfl⟩ := hrel
    by_cases hlt : (k : Int) < L.length
    · have hlt' : k < L.length := by omega
      have hx := List.getElem?_eq_getElem hlt'
      have hc := HW.out k _ hx
      have hm := HS.out L[k] (List.getElem_mem hlt')
      have hsn := congrArg List.length (allB_succ L k _ hx)
      rw [List.length_append] at hsn
      have HN := hide hsn
      clear hsn hx
      generalize L[k] = x at hc hm HN
      obtain ⟨xa, xl, xc⟩ := x
      simp only at hc hm HN
      have q1 : (0 : Int) ≤ ((allB (L.take k)).length : Nat) + (xl.length : Nat) := by omega
      have q2 : (((allB (L.take k)).length : Nat) : Int) ≤ 3000000 := by omega
      have q3 : ((xl.length : Nat) : Int) ≤ 1000000 := by omega
      go_wp2_with fail
      go_roundw
      case rel => exact ⟨k + 1, by omega, rfl, by rw [HN.out]; simp, by rw [HN.out]; omega, trivial⟩
      case measure => simp [intOf]; omega
    · have hk' : k = L.length := by omega
      have HE := hide (show (allB (L.take k)).length = (allB L).length by rw [hk', List.take_length])
      have hbl : (allB L).length ≤ 3000000 := by rw [← HE.out]; omega
      rw [HE.out]
      clear hk' hb
      go_wp2_with fail
      refine (grow_any _ _ (by omega)).mono ?_
      rename World => w0
      rintro e w1 ⟨⟨v, rfl, hO⟩, hB1⟩
      clear HE hlt hk
      go_wp2_with fail
      go_loopw [6, 27] (fun s i wr2 => ∃ k : Nat, k ≤ L.length ∧ i = .int .i64 k ∧ wr2.ownsRow w0.heap.size 5 1 s (allB (L.take k)).length ((allB (L.take k)).map byteV) ∧ (allB (L.take k)).length ≤ 1000000 * k ∧ Below w0.heap.size w0 wr2 ) (fun _ i _ => L.length - (intOf i).toNat)
      case atStart => exact ⟨0, Nat.zero_le _, rfl, by simpa [allB] using hO, by simp [allB], hB1⟩
      case round =>
        obtain ⟨k, hk, rfl, hO2, hb, hBa⟩ := hrel
        by_cases hlt : (k : Int) < L.length
        · have hlt' : k < L.length := by omega
          have hx := List.getElem?_eq_getElem hlt'
          have hc := (hBa.cell (p := ⟨g, k, none⟩) hg).trans (HW.out k _ hx)
          have hRx := (HR.out L[k] (List.getElem_mem hlt')).step hBa
          have hm := HS.out L[k] (List.getElem_mem hlt')
          have hsn := allB_succ L k _ hx
          have HN := hide hsn
          clear hsn hx
          generalize L[k] = x at hc hm HN hRx
          obtain ⟨xa, xl, xc⟩ := x
          simp only at hc hm HN hRx
          go_wp2_with (at_builtin; refine wpList_append_bytes rfl _ _ 55 rfl w0.heap.size 5 i0 Tryd.underlying55 hi hz0 hz1 hz2 _ _ _ rfl hO2 xa _ xc _ xl rfl rfl hRx (by unfold maxLen; omega) (by omega) hBa.size ?_)
          intro v' w' hO3 hg3
          go_wp2_with fail
          go_roundw
          case rel => exact ⟨k + 1, by omega, rfl, by rw [HN.out, List.length_append, List.map_append]; exact hO3, by rw [HN.out, List.length_append]; omega, hBa.grown hg3 hBa.size (fun r e => (hO2.lt r e).1)⟩
          case measure => simp [intOf]; omega
        · have hk' : k = L.length := by omega
          have HE := hide (show allB (L.take k) = allB L by rw [hk', List.take_length])
          rw [HE.out] at hO2
          clear hk' hb
          obtain ⟨A, cc, rfl⟩ := ownsRow_slice hO2
          go_wp2_with fail
          refine bodyPost_ret (results_tmp rfl _ _ _) rfl ⟨A, cc, rfl, hO2, RdB.own hO2, hBa⟩

theorem cat_two_o (A B : Option Addr) (l m : List UInt8) (c d : Nat) (w : World) (hA : RdB w w.heap.size A l) (hB : RdB w w.heap.size B m) (hl : l.length ≤ 1000000) (hm : m.length ≤ 1000000) (t : TypeId) :
    Calls Tryd.prog 76 #[.slice (some ⟨w.heap.size, 0, none⟩) 2 2] (w.alloc (.cells #[.slice A l.length c, .slice B m.length d] t)) (BytesO w (l ++ m)) := by
  have hnew := World.alloc_heap_new w (Obj.cells #[.slice A l.length c, .slice B m.length d] t)
  have hb : Below w.heap.size w (w.alloc (.cells #[.slice A l.length c, .slice B m.length d] t)) := (Below.refl _ w).alloc (Nat.le_refl _) _
  have h := concat_o w.heap.size 2 [(A, l, c), (B, m, d)] (w.alloc (.cells #[.slice A l.length c, .slice B m.length d] t)) (fun k x hx => by
    rcases k with _ | _ | k
    · simp at hx; subst hx; exact cell_of_row _ _ _ _ _ _ hnew
    · simp at hx; subst hx; exact cell_of_row _ _ _ _ _ _ hnew
    · simp at hx) (by simp) (fun x hx => by
    simp at hx
    rcases hx with rfl | rfl
    · exact hA.step hb
    · exact hB.step hb) (by simp) (fun x hx => by
    simp at hx
    rcases hx with rfl | rfl <;> assumption)
  refine h.mono fun e w' hw => ?_
  have e1 : allB [(A, l, c), (B, m, d)] = l ++ m := by simp [allB]
  rw [e1] at hw
  exact hw.back hb
theorem cat_three_o (A B D : Option Addr) (l m r : List UInt8) (c d f : Nat) (w : World) (hA : RdB w w.heap.size A l) (hB : RdB w w.heap.size B m) (hD : RdB w w.heap.size D r) (hl : l.length ≤ 1000000) (hm : m.length ≤ 1000000) (hr : r.length ≤ 1000000) (t : TypeId) :
    Calls Tryd.prog 76 #[.slice (some ⟨w.heap.size, 0, none⟩) 3 3] (w.alloc (.cells #[.slice A l.length c, .slice B m.length d, .slice D r.length f] t)) (BytesO w (l ++ m ++ r)) := by
  have hnew := World.alloc_heap_new w (Obj.cells #[.slice A l.length c, .slice B m.length d, .slice D r.length f] t)
  have hb : Below w.heap.size w (w.alloc (.cells #[.slice A l.length c, .slice B m.length d, .slice D r.length f] t)) := (Below.refl _ w).alloc (Nat.le_refl _) _
  have h := concat_o w.heap.size 3 [(A, l, c), (B, m, d), (D, r, f)] (w.alloc (.cells #[.slice A l.length c, .slice B m.length d, .slice D r.length f] t)) (fun k x hx => by
    rcases k with _ | _ | _ | k
    · simp at hx; subst hx; exact cell_of_row _ _ _ _ _ _ hnew
    · simp at hx; subst hx; exact cell_of_row _ _ _ _ _ _ hnew
    · simp at hx; subst hx; exact cell_of_row _ _ _ _ _ _ hnew
    · simp at hx) (by simp) (fun x hx => by
    simp at hx
    rcases hx with rfl | rfl | rfl
    · exact hA.step hb
    · exact hB.step hb
    · exact hD.step hb) (by simp) (fun x hx => by
    simp at hx
    rcases hx with rfl | rfl | rfl <;> assumption)
  refine h.mono fun e w' hw => ?_
  have e1 : allB [(A, l, c), (B, m, d), (D, r, f)] = l ++ m ++ r := by simp [allB]
  rw [e1] at hw
  exact hw.back hb

set_option maxHeartbeats 1000000 in
theorem putNum_o (A : Option Addr) (l : List UInt8) (c n : Nat) (w : World) (hR : RdB w w.heap.size A l) (hl : l.length ≤ 1000000) (hn : n < 18446744073709551616) :
    Calls Tryd.prog 63 #[.slice A l.length c, .int .u64 n] w (BytesO w (l ++ groupsL n)) := by
  go_enter Tryd.func63, Tryd.ntmps63
  go_wp2_with fail
  refine (groups_any n w hn).mono ?_
  rintro e w1 ⟨G, gc, rfl, _, hG, hB1⟩
  have hR1 := hR.step hB1
  have hgl := groupsL_le n
  go_wp2_with fail
  refine (cat_two_o A G l (groupsL n) c gc w1 hR1 hG hl (by omega) _).mono ?_
  rintro e w2 hw2
  obtain ⟨D, d, rfl, h2, h3, h4⟩ := hw2.back hB1
  go_wp2_with fail
  refine bodyPost_ret (results_tmp rfl _ _ _) rfl ⟨D, d, by simp only [List.length_append]; rfl, h2, h3, h4⟩


set_option maxHeartbeats 1000000 in
theorem putText_o (A : Option Addr) (l : List UInt8) (c : Nat) (s : ByteArray) (w : World) (hR : RdB w w.heap.size A l) (hl : l.length ≤ 1000000) (hs : s.size ≤ 1000000) :
    Calls Tryd.prog 61 #[.slice A l.length c, .string s] w (BytesO w (l ++ (groupsL s.size ++ toL s))) := by
  have hsl : (toL s).length = s.size := by simp [toL]
  have hsi : (s.size : Int) ≤ 1000000 := by omega
  go_enter Tryd.func61, Tryd.ntmps61
  go_wp2_with fail
  refine (groups_any s.size w (by omega)).mono ?_
  rintro e w1 ⟨G, gc, rfl, _, hG, hB1⟩
  have hR1 := hR.step hB1
  have hgl := groupsL_le s.size
  have hrun := Lib.run_convert_string_bytes (P := Tryd.prog) w1 9 55 5 s Tryd.underlying9 Tryd.underlying55 Tryd.underlying5
  obtain ⟨hM, hBM⟩ := made_bytes w1 s
  have hR2 := hR1.step hBM
  have hG2 := hG.step hBM
  have hB2 := hB1.trans (hBM.mono hB1.size)
  generalize Lib.bytesWorld w1 5 s = w2 at hrun hM hBM hR2 hG2 hB2
  generalize grownCap w1 s.size 0 5 = K at hrun
  go_wp2_with fail
  have hcat := cat_three_o A G (some ⟨w1.heap.size, 0, none⟩) l (groupsL s.size) (toL s) c gc K w2 hR2 hG2 hM hl (by omega) (by omega) 55
  rw [hsl, List.append_assoc] at hcat
  refine hcat.mono ?_
  rintro e w3 hw3
  obtain ⟨D, d, rfl, h2, h3, h4⟩ := hw3.back hB2
  go_wp2_with fail
  refine bodyPost_ret (results_tmp rfl _ _ _) rfl ⟨D, d, by simp only [List.length_append, hsl]; rfl, h2, h3, h4⟩

theorem cat_sum_o (A B D : Option Addr) (l : List UInt8) (c hi lo : Nat) (w : World) (hA : RdB w w.heap.size A l) (hB : RdB w w.heap.size B (wordL hi)) (hD : RdB w w.heap.size D (wordL lo)) (hl : l.length ≤ 1000000) :
    Calls Tryd.prog 76 #[.slice (some ⟨w.heap.size, 0, none⟩) 3 3] (w.alloc (.cells #[.slice A l.length c, .slice B 8 8, .slice D 8 8] 55)) (BytesO w (l ++ (wordL hi ++ wordL lo))) := by
  have h := cat_three_o A B D l (wordL hi) (wordL lo) c 8 8 w hA hB hD hl (by rw [wordL_len]; decide) (by rw [wordL_len]; decide) 55
  rw [wordL_len, wordL_len, List.append_assoc] at h
  exact h

theorem cat_sum_at_o (A B D : Option Addr) (l : List UInt8) (c hi lo N : Nat) (W : World) (hN : W.heap.size = N) (hA : RdB W W.heap.size A l) (hB : RdB W W.heap.size B (wordL hi)) (hD : RdB W W.heap.size D (wordL lo)) (hl : l.length ≤ 1000000) :
    Calls Tryd.prog 76 #[.slice (some ⟨N, 0, none⟩) 3 3] (W.alloc (.cells #[.slice A l.length c, .slice B 8 8, .slice D 8 8] 55)).drew (BytesO W (l ++ (wordL hi ++ wordL lo))) := by
  subst hN
  have h : Calls Tryd.prog 76 #[.slice (some ⟨W.heap.size, 0, none⟩) 3 3] (W.alloc (.cells #[.slice A l.length c, .slice B 8 8, .slice D 8 8] 55)).drew (BytesO W.drew (l ++ (wordL hi ++ wordL lo))) := cat_sum_o A B D l c hi lo W.drew hA.drew hB.drew hD.drew hl
  exact h.mono fun e w' hh => hh.back (Below.refl _ W).drew

set_option maxHeartbeats 400000 in
theorem putSum_o (A : Option Addr) (l : List UInt8) (c hi lo : Nat) (w : World) (hR : RdB w w.heap.size A l) (hl : l.length ≤ 1000000) (h1 : hi < 18446744073709551616) (h2 : lo < 18446744073709551616) :
    Calls Tryd.prog 64 #[.slice A l.length c, .agg #[.int .u64 hi, .int .u64 lo]] w (BytesO w (l ++ (wordL hi ++ wordL lo))) := by
  have H1 := hide h1
  have H2 := hide h2
  have hb : ∀ X Y : Array Value, Below w.heap.size w (((w.alloc (.cells #[.int .u64 hi, .int .u64 lo] 28)).alloc (.cells X 5)).alloc (.cells Y 5)) := fun X Y =>
    (((Below.refl _ w).alloc (Nat.le_refl _) _).alloc (by simp) _).alloc (by simp; omega) _
  have HA := hide (cat_sum_at_o A (some ⟨w.heap.size + 1, 0, none⟩) (some ⟨w.heap.size + 1 + 1, 0, none⟩) l c hi lo (w.heap.size + 1 + 1 + 1) (((w.alloc (.cells #[.int .u64 hi, .int .u64 lo] 28)).alloc (.cells (wordCells hi) 5)).alloc (.cells (wordCells lo) 5)) (by simp)
    (((hR.alloc _).alloc _).alloc _)
    (by have := (word_rd (w.alloc (.cells #[.int .u64 hi, .int .u64 lo] 28)) hi).alloc (.cells (wordCells lo) 5); simpa using this)
    (by have := word_rd ((w.alloc (.cells #[.int .u64 hi, .int .u64 lo] 28)).alloc (.cells (wordCells hi) 5)) lo; simpa using this) hl)
  have HB := hide (cat_sum_at_o A (some ⟨w.heap.size + 1 + 1, 0, none⟩) (some ⟨w.heap.size + 1, 0, none⟩) l c hi lo (w.heap.size + 1 + 1 + 1) (((w.alloc (.cells #[.int .u64 hi, .int .u64 lo] 28)).alloc (.cells (wordCells lo) 5)).alloc (.cells (wordCells hi) 5)) (by simp)
    (((hR.alloc _).alloc _).alloc _)
    (by have := word_rd ((w.alloc (.cells #[.int .u64 hi, .int .u64 lo] 28)).alloc (.cells (wordCells lo) 5)) hi; simpa using this)
    (by have := (word_rd (w.alloc (.cells #[.int .u64 hi, .int .u64 lo] 28)) lo).alloc (.cells (wordCells hi) 5); simpa using this) hl)
  have hb1 := hide (hb (wordCells hi) (wordCells lo))
  have hb2 := hide (hb (wordCells lo) (wordCells hi))
  clear hR h1 h2 hb
  go_enter Tryd.func64, Tryd.ntmps64
  go_wp2_with fail
  go_region_with (first
    | (go_at_call 78; ((with_reducible refine (half_any hi _ H1.out).mono ?_); rintro en w4 ⟨rfl, rfl⟩))
    | (go_at_call 78; ((with_reducible refine (half_any lo _ H2.out).mono ?_); rintro en w4 ⟨rfl, rfl⟩))
    | (go_at_call 76; ((with_reducible refine HA.out.mono ?_); rintro en w5 hw5; have hx := hw5.back hb1.out; obtain ⟨E, ec, rfl, g1, g2, g3⟩ := hx))
    | (go_at_call 76; ((with_reducible refine HB.out.mono ?_); rintro en w5 hw5; have hx := hw5.back hb2.out; obtain ⟨E, ec, rfl, g1, g2, g3⟩ := hx)))
  all_goals
    go_wp2_with fail
    refine bodyPost_ret (results_tmp rfl _ _ _) rfl ⟨E, ec, by simp only [List.length_append, wordL_len]; rfl, g1, g2, g3⟩

end Go.Proofs.YtbklgijndjpgoaaDoor
