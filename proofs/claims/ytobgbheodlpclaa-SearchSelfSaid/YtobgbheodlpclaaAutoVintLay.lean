/-
  Texts that belong together: Concat, VintMath, VintBytes, VintLay.
-/
import Derived.Test.YtobgbheodlpclaaAutoBytes
import Derived.Lib.BitFns
import Derived.Test.YtobgbheodlpclaaProg
import Derived.Shelf.Strconv.Itoa0
/-
  slices.Grow of nothing, slices.Concat.
-/
namespace Go.Proofs.Ytobgbheodlpclaa
open Go.RowKit
set_option maxRecDepth 100000

set_option maxHeartbeats 1000000 in
/-- slices.Grow of nothing: a row with room. -/
theorem grow_any (n : Nat) (w : World) (hn : n ≤ 100000000) :
    Calls Try.prog 143 #[.slice none 0 0, .int .i64 n] w fun e w' => (∃ v, e = .returned v ∧ w'.ownsRow w.heap.size 5 1 v 0 []) ∧ Below w.heap.size w w' := by
  obtain ⟨i0, hi, hz0, hz1, hz2⟩ := info_parts info_byte
  by_cases h0 : n = 0
  · have h1 : ¬ (0 : Int) < n := by omega
    have h2 : (0 : Int) ≤ n := by omega
    clear h0
    go_enter Try.func143, Try.ntmps143
    go_wp2_with fail
    refine bodyPost_ret (results_tmp rfl _ _ _) rfl ⟨⟨_, rfl, World.ownsRow_nil _ _ _ _⟩, Below.refl _ _⟩
  · have h1 : (0 : Int) < n := by omega
    have h2 : (0 : Int) ≤ n := by omega
    have h3 : (n : Int) ≤ 100000000 := by omega
    have hold : (Builtin.firstCells i0.size 0 (.slice none 0 0)).run Try.prog w.drew = .ok ([] : List Value).toArray w.drew := by simp [Builtin.firstCells]
    have hrz : ∀ ty, (Builtin.append_ #[22, 3] ty #[.slice none 0 0, .int .i64 n]).run Try.prog w =
      .ok (.slice (some ⟨w.heap.size, 0, none⟩) n (grownCap w n 0 5)) (w.drew.alloc (.cells (Builtin.zeroCells (Value.int .u8 0).cells n ++ Builtin.zeroCells (Value.int .u8 0).cells (grownCap w n 0 5 - n)) 5)) := fun ty => by
      have h := Lib.run_append_grow_zeros w 22 3 ty 5 i0 (.int .u8 0) .i64 .i64 Try.underlying22 Try.underlying3 hi hz0 none 0 0 [] hold n (by omega) (by omega) (by omega) (by omega) (by rw [hz2]; omega)
        (by rw [Nat.zero_add]; exact growslice_fits (by omega) (by rw [hz2]; omega))
      simpa using h
    have hG := grownCap_ge w n 0 5
    have hG2 := grownCap_le_maxLen w n 0 5 (by unfold maxLen; omega)
    have hG3 : ((grownCap w n 0 5 : Nat) : Int) ≤ 9223372036854775807 := by unfold maxLen at hG2; omega
    have hG4 : (n : Int) ≤ ((grownCap w n 0 5 : Nat) : Int) := by omega
    have hcs : (Builtin.zeroCells (Value.int .u8 0).cells n ++ Builtin.zeroCells (Value.int .u8 0).cells (grownCap w n 0 5 - n)).size = grownCap w n 0 5 * 1 := by
      simp [Builtin.zeroCells, Value.cells]; omega
    have hown : (w.drew.alloc (.cells (Builtin.zeroCells (Value.int .u8 0).cells n ++ Builtin.zeroCells (Value.int .u8 0).cells (grownCap w n 0 5 - n)) 5)).ownsRow w.heap.size 5 1 (.slice (some ⟨w.heap.size, 0, none⟩) 0 (grownCap w n 0 5)) 0 [] :=
      World.ownsRow_made (base := w.heap.size) (e := 5) (size := 1) w.drew _ _ (Nat.le_refl _) hG2 hcs
    have hB : Below w.heap.size w (w.drew.alloc (.cells (Builtin.zeroCells (Value.int .u8 0).cells n ++ Builtin.zeroCells (Value.int .u8 0).cells (grownCap w n 0 5 - n)) 5)) := (Below.refl _ w).drew.alloc (Nat.le_refl _) _
    have HO := hide hown
    have HB := hide hB
    clear hown hB hcs hold
    generalize hX : w.drew.alloc (.cells (Builtin.zeroCells (Value.int .u8 0).cells n ++ Builtin.zeroCells (Value.int .u8 0).cells (grownCap w n 0 5 - n)) 5) = wx at HO HB hrz
    generalize hGG : grownCap w n 0 5 = G at HO hrz hG3 hG4
    clear hX hGG hG hG2 h0
    go_enter Try.func143, Try.ntmps143
    go_wp2_with (at_builtin; refine Lib.wpList_append_run _ rfl _ _ _ _ rfl _ _ rfl rfl _ _ (hrz _) ?_)
    refine bodyPost_ret (results_tmp rfl _ _ _) rfl ⟨⟨.slice (some ⟨w.heap.size, 0, none⟩) 0 G, rfl, HO.out⟩, HB.out⟩

/-- The bytes of some slices, one behind the other. -/
def allB (L : List (Option Addr × List UInt8 × Nat)) : List UInt8 := L.flatMap (·.2.1)
theorem allB_succ (L : List (Option Addr × List UInt8 × Nat)) (k : Nat) (x : Option Addr × List UInt8 × Nat) (hx : L[k]? = some x) : allB (L.take (k + 1)) = allB (L.take k) ++ x.2.1 := by
  obtain ⟨h, e⟩ := List.getElem?_eq_some_iff.1 hx
  rw [List.take_succ_eq_append_getElem h, e]
  simp [allB]

set_option maxHeartbeats 2000000 in
theorem concat_any (g c : Nat) (L : List (Option Addr × List UInt8 × Nat)) (w : World) (hrow : ∀ k x, L[k]? = some x → w.cell? ⟨g, k, none⟩ = some (.slice x.1 x.2.1.length x.2.2)) (hg : g < w.heap.size)
    (hR : ∀ x ∈ L, RdB w w.heap.size x.1 x.2.1) (hn : L.length ≤ 3) (hs : ∀ x ∈ L, x.2.1.length ≤ 1000000) :
    Calls Try.prog 131 #[.slice (some ⟨g, 0, none⟩) L.length c] w (Bytes w (allB L)) := by
  obtain ⟨i0, hi, hz0, hz1, hz2⟩ := info_parts info_byte
  have HR := hide hR
  have HS := hide hs
  have HW := hide hrow
  clear hR hs hrow
  go_enter Try.func131, Try.ntmps131
  go_wp2_with fail
  go_loopw [3, 11] (fun s i wr => ∃ k : Nat, k ≤ L.length ∧ i = .int .i64 k ∧ s = .int .i64 ((allB (L.take k)).length : Nat) ∧ (allB (L.take k)).length ≤ 1000000 * k ∧ wr = w) (fun _ i _ => L.length - (intOf i).toNat)
  case atStart => exact ⟨0, Nat.zero_le _, rfl, rfl, by simp [allB], rfl⟩
  case round =>
    obtain ⟨k, hk, rfl, rfl, hb, rfl⟩ := hrel
    by_cases hlt : (k : Int) < L.length
    · have hlt' : k < L.length := by omega
      have hx := List.getElem?_eq_getElem hlt'
      have hc := HW.out k _ hx
      have hm := HS.out L[k] (List.getElem_mem hlt')
      have hsn := congrArg List.length (allB_succ L k _ hx)
      rw [List.length_append] at hsn
      have HN := hide hsn
      clear hsn hx
      generalize L[k] = x at hc hm HN
      obtain ⟨xa, xl, xc⟩ := x
      simp only at hc hm HN
      have q1 : (0 : Int) ≤ ((allB (L.take k)).length : Nat) + (xl.length : Nat) := by omega
      have q2 : (((allB (L.take k)).length : Nat) : Int) ≤ 3000000 := by omega
      have q3 : ((xl.length : Nat) : Int) ≤ 1000000 := by omega
      go_wp2_with fail
      go_roundw
      case rel => exact ⟨k + 1, by omega, rfl, by rw [HN.out]; simp, by rw [HN.out]; omega, trivial⟩
      case measure => simp [intOf]; omega
    · have hk' : k = L.length := by omega
      have HE := hide (show (allB (L.take k)).length = (allB L).length by rw [hk', List.take_length])
      have hbl : (allB L).length ≤ 3000000 := by rw [← HE.out]; omega
      rw [HE.out]
      clear hk' hb
      go_wp2_with fail
      refine (grow_any _ _ (by omega)).mono ?_
      rename World => w0
      rintro e w1 ⟨⟨v, rfl, hO⟩, hB1⟩
      clear HE hlt hk
      go_wp2_with fail
      go_loopw [6, 27] (fun s i wr2 => ∃ k : Nat, k ≤ L.length ∧ i = .int .i64 k ∧ wr2.ownsRow w0.heap.size 5 1 s (allB (L.take k)).length ((allB (L.take k)).map byteV) ∧ (allB (L.take k)).length ≤ 1000000 * k ∧ Below w0.heap.size w0 wr2 ) (fun _ i _ => L.length - (intOf i).toNat)
      case atStart => exact ⟨0, Nat.zero_le _, rfl, by simpa [allB] using hO, by simp [allB], hB1⟩
      case round =>
        obtain ⟨k, hk, rfl, hO2, hb, hBa⟩ := hrel
        by_cases hlt : (k : Int) < L.length
        · have hlt' : k < L.length := by omega
          have hx := List.getElem?_eq_getElem hlt'
          have hc := (hBa.cell (p := ⟨g, k, none⟩) hg).trans (HW.out k _ hx)
          have hRx := (HR.out L[k] (List.getElem_mem hlt')).step hBa
          have hm := HS.out L[k] (List.getElem_mem hlt')
          have hsn := allB_succ L k _ hx
          have HN := hide hsn
          clear hsn hx
          generalize L[k] = x at hc hm HN hRx
          obtain ⟨xa, xl, xc⟩ := x
          simp only at hc hm HN hRx
          go_wp2_with (at_builtin; refine wpList_append_bytes rfl _ _ 22 rfl w0.heap.size 5 i0 Try.underlying22 hi hz0 hz1 hz2 _ _ _ rfl hO2 xa _ xc _ xl rfl rfl hRx (by unfold maxLen; omega) (by omega) hBa.size ?_)
          intro v' w' hO3 hg3
          go_wp2_with fail
          go_roundw
          case rel => exact ⟨k + 1, by omega, rfl, by rw [HN.out, List.length_append, List.map_append]; exact hO3, by rw [HN.out, List.length_append]; omega, hBa.grown hg3 hBa.size (fun r e => (hO2.lt r e).1)⟩
          case measure => simp [intOf]; omega
        · have hk' : k = L.length := by omega
          have HE := hide (show allB (L.take k) = allB L by rw [hk', List.take_length])
          rw [HE.out] at hO2
          clear hk' hb
          obtain ⟨A, cc, rfl⟩ := ownsRow_slice hO2
          go_wp2_with fail
          refine bodyPost_ret (results_tmp rfl _ _ _) rfl ⟨A, cc, rfl, ownsRow_caps hO2, RdB.own hO2, hBa⟩
theorem cat_two (A B : Option Addr) (l m : List UInt8) (c d : Nat) (w : World) (hA : RdB w w.heap.size A l) (hB : RdB w w.heap.size B m) (hl : l.length ≤ 1000000) (hm : m.length ≤ 1000000) (t : TypeId) :
    Calls Try.prog 131 #[.slice (some ⟨w.heap.size, 0, none⟩) 2 2] (w.alloc (.cells #[.slice A l.length c, .slice B m.length d] t)) (Bytes w (l ++ m)) := by
  have hnew := World.alloc_heap_new w (Obj.cells #[.slice A l.length c, .slice B m.length d] t)
  have hb : Below w.heap.size w (w.alloc (.cells #[.slice A l.length c, .slice B m.length d] t)) := (Below.refl _ w).alloc (Nat.le_refl _) _
  have h := concat_any w.heap.size 2 [(A, l, c), (B, m, d)] (w.alloc (.cells #[.slice A l.length c, .slice B m.length d] t)) (fun k x hx => by
    rcases k with _ | _ | k
    · simp at hx; subst hx; exact cell_of_row _ _ _ _ _ _ hnew
    · simp at hx; subst hx; exact cell_of_row _ _ _ _ _ _ hnew
    · simp at hx) (by simp) (fun x hx => by
    simp at hx
    rcases hx with rfl | rfl
    · exact hA.step hb
    · exact hB.step hb) (by simp) (fun x hx => by
    simp at hx
    rcases hx with rfl | rfl <;> assumption)
  refine h.mono fun e w' hw => ?_
  have e1 : allB [(A, l, c), (B, m, d)] = l ++ m := by simp [allB]
  rw [e1] at hw
  exact hw.back hb
end Go.Proofs.Ytobgbheodlpclaa
/-
  Numbers as groups of seven bits: plain mathematics.
-/
namespace Go.Proofs.Ytobgbheodlpclaa
open Go
/-- A number's bytes. -/
def groupsF : Nat → Nat → List UInt8
  | 0, n => [UInt8.ofNat n]
  | f + 1, n => if n < 128 then [UInt8.ofNat n] else UInt8.ofNat (n % 128 + 128) :: groupsF f (n / 128)
def groupsL (n : Nat) : List UInt8 := groupsF 9 n

theorem bitLen_or (m : Nat) (h1 : 1 ≤ m) (h : m < 2 ^ 64) : Lib.bitLen (m ||| 1) = Lib.bitLen m := by
  have hor : m ||| 1 < 2 ^ 64 := Nat.or_lt_two_pow h (by decide)
  have hd : (m ||| 1) / 2 = m / 2 := by
    rw [← Nat.shiftRight_eq_div_pow _ 1, ← Nat.shiftRight_eq_div_pow _ 1, Nat.shiftRight_or_distrib]
    show m >>> 1 ||| 0 = _
    simp
  have hne : m ||| 1 ≠ 0 := by
    have : 1 ≤ m ||| 1 := Nat.right_le_or
    omega
  rw [Lib.bitLen_half _ hne hor, Lib.bitLen_half m (by omega) h, hd]
theorem or_div (n : Nat) : (n ||| 1) / 128 = n / 128 := by
  rw [← Nat.shiftRight_eq_div_pow _ 7, ← Nat.shiftRight_eq_div_pow _ 7, Nat.shiftRight_or_distrib]
  show n >>> 7 ||| 0 = _
  simp
theorem small_len : ∀ n : Fin 128, (Lib.bitLen (n.val ||| 1) + 6) / 7 = 1 := by decide +kernel
theorem groups_len : ∀ (f n : Nat), n < 128 ^ (f + 1) → n < 2 ^ 64 → (groupsF f n).length = (Lib.bitLen (n ||| 1) + 6) / 7
  | 0, n, h, _ => by
    rw [small_len ⟨n, by omega⟩]; rfl
  | f + 1, n, h, h64 => by
    unfold groupsF
    split
    · rename_i hn
      rw [small_len ⟨n, hn⟩]; rfl
    · rename_i hn
      have hor : n ||| 1 < 2 ^ 64 := Nat.or_lt_two_pow h64 (by decide)
      have hle : n ≤ n ||| 1 := Nat.left_le_or
      have hd : n / 128 < 128 ^ (f + 1) := by rw [Nat.div_lt_iff_lt_mul (by decide)]; rw [Nat.pow_succ] at h; exact h
      rw [List.length_cons, groups_len f (n / 128) hd (by omega), Lib.bitLen_shift 7 (n ||| 1) (by omega) hor]
      show _ = (7 + Lib.bitLen ((n ||| 1) / 128) + 6) / 7
      rw [or_div, bitLen_or (n / 128) (by omega) (by omega)]
      omega
theorem groups_get : ∀ (f n : Nat), n < 128 ^ (f + 1) → ∀ i, (h : i < (groupsF f n).length) →
    (groupsF f n)[i] = UInt8.ofNat (if i + 1 = (groupsF f n).length then n / 128 ^ i % 128 else n / 128 ^ i % 128 + 128)
  | 0, n, hn, i, h => by
    have : i = 0 := by simp [groupsF] at h; exact h
    subst this
    have : n < 128 := by simpa using hn
    simp [groupsF, Nat.mod_eq_of_lt this]
  | f + 1, n, hn, i, h => by
    by_cases h128 : n < 128
    · have e : groupsF (f + 1) n = [UInt8.ofNat n] := by unfold groupsF; rw [if_pos h128]
      simp only [e] at h ⊢
      have : i = 0 := by simpa using h
      subst this
      simp [Nat.mod_eq_of_lt h128]
    · have hd : n / 128 < 128 ^ (f + 1) := by rw [Nat.div_lt_iff_lt_mul (by decide)]; rw [Nat.pow_succ] at hn; exact hn
      have e : groupsF (f + 1) n = UInt8.ofNat (n % 128 + 128) :: groupsF f (n / 128) := by
        conv => lhs; unfold groupsF
        rw [if_neg h128]
      have hpos : 0 < (groupsF f (n / 128)).length := by
        cases f <;> unfold groupsF
        · simp
        · split <;> simp
      simp only [e] at h ⊢
      cases i with
      | zero =>
        rw [if_neg (by rw [List.length_cons]; omega)]
        simp
      | succ j =>
        have ih := groups_get f (n / 128) hd j (by simpa using h)
        simp only [List.getElem_cons_succ, ih, List.length_cons]
        rw [Nat.div_div_eq_div_mul, Nat.pow_succ, Nat.mul_comm 128]
        congr 1
        simp only [Nat.add_right_cancel_iff]
theorem groups_pos (f n : Nat) : 1 ≤ (groupsF f n).length := by
  cases f <;> unfold groupsF
  · simp
  · split <;> simp
theorem groups_le : ∀ (f n : Nat), (groupsF f n).length ≤ f + 1
  | 0, n => by simp [groupsF]
  | f + 1, n => by
    unfold groupsF
    split
    · simp
    · have := groups_le f (n / 128); simp; omega
/-- Half a sum's bytes, the highest first. -/
def wordL (w : Nat) : List UInt8 := (List.range 8).map fun j => UInt8.ofNat (w / 256 ^ (7 - j) % 256)
end Go.Proofs.Ytobgbheodlpclaa
/-
  Slices of bytes, slices.Grow of nothing, slices.Concat: what Bytes and Concat say (this text only brings them together with the numbers' groups).
-/

/-
  The numbers of this dump at which the library's text of math/bits.Len64 lies: so its contract speaks here.
-/
namespace Go.Proofs.Ytobgbheodlpclaa
open Go.Shelf

def laysLen_ren : Go.Shelf.Ren := ⟨fun | 129 => 144 | n => n, fun | 53 => 26 | 3 => 3 | 4 => 4 | 46 => 205 | 5 => 5 | 9 => 9 | n => n, fun | n => n⟩
theorem laysLen : Go.Proofs.Lays.n129 Try.prog laysLen_ren := {
  mixed := by kernel_rfl
  f129 := Try.func144.trans (congrArg some (by kernel_rfl))
  t3 := Try.underlying3
  a3 := Try.isAgg3
  z3 := Try.sizeOf3
  v3 := Try.zeroValue3
  t4 := Try.underlying4
  a4 := Try.isAgg4
  z4 := Try.sizeOf4
  v4 := Try.zeroValue4
  t5 := Try.underlying5
  a5 := Try.isAgg5
  z5 := Try.sizeOf5
  v5 := Try.zeroValue5
  t9 := Try.underlying9
  a9 := Try.isAgg9
  z9 := Try.sizeOf9
  v9 := Try.zeroValue9
  t46 := Try.underlying205
  a46 := Try.isAgg205
  z46 := Try.sizeOf205
  v46 := Try.zeroValue205
  t53 := Try.underlying26
  a53 := Try.isAgg26
  z53 := Try.sizeOf26
  v53 := Try.zeroValue26 }
theorem len64_any (x : Int) (w : World) (h0 : 0 ≤ x) (h1 : x ≤ 18446744073709551615) :
    Calls Try.prog 144 #[.int .u64 x] w fun e w' => e = .returned (.int .i64 (Lib.bitLen x.toNat)) ∧ w' = w := Any.bits_Len64 laysLen x w h0 h1
end Go.Proofs.Ytobgbheodlpclaa
