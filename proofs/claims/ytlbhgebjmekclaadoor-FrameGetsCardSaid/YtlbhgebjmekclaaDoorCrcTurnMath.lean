/-
  What a mask does: byte by byte; twice it does nothing; and no sealed text that it changed is a sealed one.
-/
import Derived.Test.YtlbhgebjmekclaaDoorCrcTurn
import Derived.Test.YtlbhgebjmekclaaDoorCrcOpen
namespace Go.Proofs.YtlbhgebjmekclaaDoor
set_option maxRecDepth 100000

/-- What a mask lays over the byte at a place, its first k bytes. -/
def maskK (p : Int) (m : List UInt8) (k : Nat) (j : Nat) : UInt8 := if p ≤ j ∧ (j : Int) < p + k then m.getD ((j : Int) - p).toNat 0 else 0
theorem u8_xor_zero (x : UInt8) : x ^^^ 0 = x := by simp
theorem turnAt_get (l : List UInt8) (q : Int) (m : UInt8) (j : Nat) (hj : j < l.length) : (turnAt l q m)[j]? = some (l[j] ^^^ (if q = j then m else 0)) := by
  unfold turnAt
  split
  · rename_i h
    by_cases he : q = j
    · subst he
      rw [if_pos rfl, Int.toNat_natCast, List.getElem?_set_self hj, List.getD_eq_getElem?_getD, List.getElem?_eq_getElem hj]; rfl
    · rw [if_neg he, List.getElem?_set_ne (by omega), List.getElem?_eq_getElem hj, u8_xor_zero]
  · rename_i h
    rw [if_neg (by omega), List.getElem?_eq_getElem hj, u8_xor_zero]
theorem turnK_get (l : List UInt8) (p : Int) (m : List UInt8) (j : Nat) (hj : j < l.length) : ∀ k, (turnK l p m k)[j]? = some (l[j] ^^^ maskK p m k j)
  | 0 => by
    have : maskK p m 0 j = 0 := by unfold maskK; rw [if_neg (by omega)]
    rw [this, u8_xor_zero]
    exact List.getElem?_eq_getElem hj
  | k + 1 => by
    have ih := turnK_get l p m j hj k
    have hj2 : j < (turnK l p m k).length := by rw [turnK_len]; exact hj
    rw [turnK, turnAt_get _ _ _ j hj2]
    rw [List.getElem?_eq_getElem hj2] at ih
    injection ih with ih
    rw [ih, UInt8.xor_assoc]
    congr 2
    unfold maskK
    by_cases h1 : p ≤ j ∧ (j : Int) < p + k
    · rw [if_pos h1, if_neg (by omega), if_pos (by omega), u8_xor_zero]
    · rw [if_neg h1, UInt8.zero_xor]
      by_cases h2 : p + (k : Int) = j
      · rw [if_pos h2, if_pos (by omega), show ((j : Int) - p).toNat = k by omega]
      · rw [if_neg h2, if_neg (by omega)]
theorem turnL_len (l : List UInt8) (p : Int) (mask : Nat) : (turnL l p mask).length = l.length := turnK_len _ _ _ _
theorem turnL_get (l : List UInt8) (p : Int) (mask : Nat) (j : Nat) (hj : j < l.length) : (turnL l p mask)[j]? = some (l[j] ^^^ maskK p (le4 mask) 4 j) := turnK_get l p _ j hj 4
theorem turn_twice (l : List UInt8) (p : Int) (mask : Nat) : turnL (turnL l p mask) p mask = l := by
  apply List.ext_getElem?
  intro j
  by_cases hj : j < l.length
  · have hj2 : j < (turnL l p mask).length := by rw [turnL_len]; exact hj
    have h1 := turnL_get l p mask j hj
    rw [List.getElem?_eq_getElem hj2] at h1
    injection h1 with h1
    rw [turnL_get _ p mask j hj2, h1, UInt8.xor_assoc, UInt8.xor_self, u8_xor_zero, List.getElem?_eq_getElem hj]
  · rw [List.getElem?_eq_none (by rw [turnL_len, turnL_len]; omega), List.getElem?_eq_none (by omega)]

/-- Bytes as a number, the lowest first. -/
def cnumL : List UInt8 → Nat
  | [] => 0
  | x :: l => x.toNat + 256 * cnumL l
theorem byte_xor (x q : Nat) (hx : x < 256) : x + 256 * q = x ^^^ (q * 256) := by
  have h : (q <<< 8) ^^^ x = (q <<< 8) + x := by
    rw [Nat.shiftLeft_add_eq_or_of_lt (by omega)]
    apply Nat.eq_of_testBit_eq
    intro i
    rw [Nat.testBit_xor, Nat.testBit_or, Nat.testBit_shiftLeft]
    by_cases hi : i < 8
    · have : ¬ (8 ≤ i) := by omega
      simp [this]
    · have hz : x.testBit i = false := Nat.testBit_lt_two_pow (by
        have : 2 ^ 8 ≤ 2 ^ i := Nat.pow_le_pow_right (by decide) (by omega)
        omega)
      rw [hz]; simp
  rw [Nat.shiftLeft_eq] at h
  rw [Nat.xor_comm, h]; omega
theorem bits8_high (q : Nat) : bitsN 8 (q * 256) = q := by
  rw [show (8 : Nat) = 4 + 4 from rfl, bitsN_add, show q * 256 = q * 16 * 16 by omega, bits_high, bits_high]
theorem bitsN_mul (k j s : Nat) : bitsN (k * 8) (bitsN (j * 8) s) = bitsN ((k + j) * 8) s := by rw [← bitsN_add, Nat.add_mul]
theorem moreN_num (l : List UInt8) : ∀ s, moreN s l = bitsN (l.length * 8) (s ^^^ cnumL l) := by
  induction l with
  | nil => intro s; show s = s ^^^ 0; rw [Nat.xor_zero]
  | cons x l ih =>
    intro s
    have hx := x.toNat_lt
    show moreN (bitsN 8 (s ^^^ x.toNat)) l = _
    rw [ih]
    show _ = bitsN ((l.length + 1) * 8) (s ^^^ (x.toNat + 256 * cnumL l))
    rw [byte_xor _ _ (by omega), ← Nat.xor_assoc, ← bitsN_mul l.length 1, Nat.one_mul, bitsN_xor 8 (s ^^^ x.toNat) (cnumL l * 256), bits8_high]
theorem bitN_zero (s : Nat) (h : s < 4294967296) (h0 : bitN s = 0) : s = 0 := by
  unfold bitN at h0
  split at h0
  · have e : s / 2 = 3988292384 := by
      have := congrArg (· ^^^ 3988292384) h0
      simpa [Nat.xor_assoc] using this
    omega
  · omega
theorem bitsN_zero (k s : Nat) (h : s < 4294967296) (h0 : bitsN k s = 0) : s = 0 := by
  induction k with
  | zero => exact h0
  | succ k ih => exact ih (bitN_zero _ (bitsN_lt k s h) h0)
theorem bits_of_zero : ∀ k, bitsN k 0 = 0
  | 0 => rfl
  | k + 1 => by show bitN (bitsN k 0) = 0; rw [bits_of_zero k]; rfl
theorem cnumL_zero (l : List UInt8) (h : ∀ x ∈ l, x = 0) : cnumL l = 0 := by
  induction l with
  | nil => rfl
  | cons x l ih =>
    show x.toNat + 256 * cnumL l = 0
    rw [ih (fun y hy => h y (List.mem_cons_of_mem _ hy)), h x (List.mem_cons_self ..)]; rfl
theorem cnumL_lt (l : List UInt8) : cnumL l < 256 ^ l.length := by
  induction l with
  | nil => decide
  | cons x l ih =>
    have hx := x.toNat_lt
    show x.toNat + 256 * cnumL l < 256 ^ (l.length + 1)
    rw [Nat.pow_succ]; omega
theorem moreN_apart (a b : List UInt8) (hl : a.length = b.length) : ∀ s t, moreN s a ^^^ moreN t b = moreN (s ^^^ t) (List.zipWith (· ^^^ ·) a b) := by
  induction a generalizing b with
  | nil =>
    intro s t
    cases b with
    | nil => rfl
    | cons _ _ => simp at hl
  | cons x a ih =>
    intro s t
    cases b with
    | nil => simp at hl
    | cons y b =>
      show moreN (bitsN 8 (s ^^^ x.toNat)) a ^^^ moreN (bitsN 8 (t ^^^ y.toNat)) b = moreN (bitsN 8 (s ^^^ t ^^^ (x ^^^ y).toNat)) (List.zipWith (· ^^^ ·) a b)
      rw [ih b (by simpa using hl), ← bitsN_xor, UInt8.toNat_xor]
      congr 2
      rw [Nat.xor_assoc, Nat.xor_assoc, ← Nat.xor_assoc x.toNat, Nat.xor_comm x.toNat, Nat.xor_assoc t]
/-- Bytes that are zero but within four running are found. -/
theorem moreN_found : ∀ (e : List UInt8) (q : Int), (∀ (j : Nat) (x : UInt8), e[j]? = some x → x ≠ 0 → q ≤ j ∧ (j : Int) < q + 4) → (∃ x ∈ e, x ≠ 0) → moreN 0 e ≠ 0
  | [], _, _, h => by obtain ⟨x, hx, _⟩ := h; simp at hx
  | x :: e, q, hw, h => by
    by_cases hx : x = 0
    · subst hx
      have h1 : moreN 0 (0 :: e) = moreN 0 e := rfl
      rw [h1]
      refine moreN_found e (q - 1) (fun j y hy hn => ?_) ?_
      · have := hw (j + 1) y (by simpa using hy) hn
        omega
      · obtain ⟨y, hy, hn⟩ := h
        rcases List.mem_cons.1 hy with rfl | hy
        · exact absurd rfl hn
        · exact ⟨y, hy, hn⟩
    · have h0 := hw 0 x rfl hx
      have hz : ∀ y ∈ (x :: e).drop 4, y = 0 := fun y hy => by
        obtain ⟨j, hj⟩ := List.mem_iff_getElem?.1 hy
        rw [List.getElem?_drop] at hj
        by_cases hn : y = 0
        · exact hn
        · have := hw (4 + j) y hj hn
          omega
      intro hc
      rw [← List.take_append_drop 4 (x :: e)] at hc
      have ha : moreN 0 ((x :: e).take 4 ++ (x :: e).drop 4) = moreN (moreN 0 ((x :: e).take 4)) ((x :: e).drop 4) := by unfold moreN; rw [List.foldl_append]
      rw [ha, moreN_num, cnumL_zero _ hz, Nat.xor_zero] at hc
      have hlt : moreN 0 ((x :: e).take 4) < 4294967296 := moreN_lt _ _ (by decide)
      have hc2 := bitsN_zero _ _ hlt hc
      rw [moreN_num, Nat.zero_xor] at hc2
      have hn4 : cnumL ((x :: e).take 4) < 4294967296 := by
        have h1 := cnumL_lt ((x :: e).take 4)
        have h2 : ((x :: e).take 4).length ≤ 4 := by simp; omega
        have h3 : 256 ^ ((x :: e).take 4).length ≤ 256 ^ 4 := Nat.pow_le_pow_right (by decide) h2
        have h4 : (256 : Nat) ^ 4 = 4294967296 := by decide
        omega
      have hc3 := bitsN_zero _ _ hn4 hc2
      have : cnumL ((x :: e).take 4) = x.toNat + 256 * cnumL (e.take 3) := rfl
      apply hx
      apply UInt8.toNat_inj.1
      show x.toNat = 0
      omega
theorem num_le4 (n : Nat) (h : n < 4294967296) : cnumL (le4 n) = n := by
  have e : ∀ x : Nat, (UInt8.ofNat (x % 256)).toNat = x % 256 := fun x => by
    rw [UInt8.toNat_ofNat', Nat.mod_eq_of_lt (by omega)]
  show (UInt8.ofNat (n / 1 % 256)).toNat + 256 * ((UInt8.ofNat (n / 256 % 256)).toNat + 256 * ((UInt8.ofNat (n / 65536 % 256)).toNat + 256 * ((UInt8.ofNat (n / 16777216 % 256)).toNat + 256 * 0))) = n
  rw [e, e, e, e]; omega
theorem seal_rest (l : List UInt8) : moreN 4294967295 (sealL l) = bitsN 32 4294967295 := by
  have hst := moreN_lt l 4294967295 (by decide)
  unfold sealL
  rw [moreN_app, moreN_num (le4 (crcL l)), num_le4 _ (crcL_lt l)]
  unfold crcL
  rw [← xor_ones _ hst, Nat.xor_comm 4294967295, ← Nat.xor_assoc, Nat.xor_self, Nat.zero_xor]; rfl
/-- A SEALED TEXT THAT WAS TURNED, AND CHANGED BY IT, IS NOT OPENED. -/
theorem open_turned (l : List UInt8) (p : Int) (mask : Nat) (h : turnL (sealL l) p mask ≠ sealL l) : openL (turnL (sealL l) p mask) = ([], 12) := by
  have hlen : (turnL (sealL l) p mask).length = l.length + 4 := by rw [turnL_len]; unfold sealL; rw [List.length_append]; rfl
  unfold openL
  rw [if_neg (by omega), if_neg]
  intro hs
  have hR : moreN 4294967295 (turnL (sealL l) p mask) = bitsN 32 4294967295 := by rw [← hs]; exact seal_rest _
  have hx := moreN_apart (turnL (sealL l) p mask) (sealL l) (turnL_len _ _ _) 4294967295 4294967295
  rw [hR, seal_rest, Nat.xor_self, Nat.xor_self] at hx
  have hz : ∀ j y, (List.zipWith (· ^^^ ·) (turnL (sealL l) p mask) (sealL l))[j]? = some y → y = maskK p (le4 mask) 4 j := fun j y hy => by
    rw [List.getElem?_zipWith] at hy
    by_cases hj : j < (sealL l).length
    · rw [turnL_get _ p mask j hj, List.getElem?_eq_getElem hj] at hy
      simp only [Option.some.injEq] at hy
      rw [← hy, UInt8.xor_comm, ← UInt8.xor_assoc, UInt8.xor_self, UInt8.zero_xor]
    · rw [List.getElem?_eq_none (l := sealL l) (by omega)] at hy
      cases h1 : (turnL (sealL l) p mask)[j]? <;> rw [h1] at hy <;> simp at hy
  refine moreN_found (List.zipWith (· ^^^ ·) (turnL (sealL l) p mask) (sealL l)) p (fun j y hy hn => ?_) ?_ hx.symm
  · have e := hz j y hy
    unfold maskK at e
    split at e
    · rename_i hj; exact ⟨hj.1, hj.2⟩
    · exact absurd e hn
  · refine Classical.byContradiction fun hno => h ?_
    apply List.ext_getElem?
    intro j
    by_cases hj : j < (sealL l).length
    · have hj2 : j < (List.zipWith (· ^^^ ·) (turnL (sealL l) p mask) (sealL l)).length := by rw [List.length_zipWith, turnL_len, Nat.min_self]; exact hj
      have e := hz j _ (List.getElem?_eq_getElem hj2)
      have e0 : (List.zipWith (· ^^^ ·) (turnL (sealL l) p mask) (sealL l))[j] = 0 := Classical.byContradiction fun hne => hno ⟨_, List.getElem_mem hj2, hne⟩
      rw [turnL_get _ p mask j hj, ← e, e0, u8_xor_zero, List.getElem?_eq_getElem hj]
    · rw [List.getElem?_eq_none (by rw [turnL_len]; omega), List.getElem?_eq_none (by omega)]
end Go.Proofs.YtlbhgebjmekclaaDoor
