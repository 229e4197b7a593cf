/-
  Texts that belong together: GlobMath, GlobWords, GlobSpec, GlobLeaf.
-/
import Derived.Test.YteoafohebgfjdaaGreatDoorAutoBytes
import Derived.WalkKit
import Derived.Deep.QuietTactic
import Derived.Lib.Strings
import Derived.Test.YteoafohebgfjdaaGreatDoorProg
import Derived.WalkSpells
import Derived.WalkLawsBesides
import Derived.BigQuiet
/-
  Plain facts on sets of bytes as four words, and on patterns. Nothing of a program stands here.
-/
namespace Go.Proofs.YteoafohebgfjdaaGreatDoor

/-- The number whose bit j (below n) is P (o + j). -/
def wdn (P : Nat → Bool) (o : Nat) : Nat → Nat
  | 0 => 0
  | n + 1 => wdn P o n + (if P (o + n) then 2 ^ n else 0)

theorem wdn_lt (P : Nat → Bool) (o n : Nat) : wdn P o n < 2 ^ n := by
  induction n with
  | zero => simp [wdn]
  | succ n ih =>
    have : 2 ^ (n + 1) = 2 ^ n + 2 ^ n := by rw [Nat.pow_succ]; omega
    unfold wdn
    split <;> omega

theorem wdn_bit (P : Nat → Bool) (o n j : Nat) : (wdn P o n).testBit j = (decide (j < n) && P (o + j)) := by
  induction n with
  | zero => simp [wdn]
  | succ n ih =>
    unfold wdn
    have hlt := wdn_lt P o n
    by_cases hp : P (o + n) = true
    · rw [if_pos hp]
      rw [Nat.add_comm]
      by_cases hj : j < n
      · rw [Nat.testBit_two_pow_add_gt hj, ih]
        have : j < n + 1 := by omega
        simp [hj, this]
      · by_cases he : j = n
        · subst he
          rw [Nat.testBit_two_pow_add_eq, Nat.testBit_lt_two_pow hlt]
          simp [hp]
        · have h2 : 2 ^ n + wdn P o n < 2 ^ j := by
            have h3 : 2 ^ (n + 1) ≤ 2 ^ j := Nat.pow_le_pow_right (by omega) (by omega)
            have : 2 ^ (n + 1) = 2 ^ n + 2 ^ n := by rw [Nat.pow_succ]; omega
            omega
          rw [Nat.testBit_lt_two_pow h2]
          have : ¬ j < n + 1 := by omega
          simp [this]
    · rw [if_neg hp, Nat.add_zero, ih]
      by_cases he : j = n
      · subst he; simp [hp]
      · have : (j < n) ↔ (j < n + 1) := by omega
        simp [this]

/-- The k-th word of a set. -/
def wd (P : Nat → Bool) (k : Nat) : Nat := wdn P (64 * k) 64

theorem wd_lt (P : Nat → Bool) (k : Nat) : wd P k < 18446744073709551616 := wdn_lt P (64 * k) 64
theorem wd_bit (P : Nat → Bool) (k j : Nat) : (wd P k).testBit j = (decide (j < 64) && P (64 * k + j)) := wdn_bit P _ _ _

theorem wd_congr {P Q : Nat → Bool} {k : Nat} (h : ∀ j, j < 64 → P (64 * k + j) = Q (64 * k + j)) : wd P k = wd Q k := by
  apply Nat.eq_of_testBit_eq
  intro j
  rw [wd_bit, wd_bit]
  by_cases hj : j < 64
  · simp [hj, h j hj]
  · simp [hj]

theorem wd_or (P Q : Nat → Bool) (k : Nat) : wd P k ||| wd Q k = wd (fun x => P x || Q x) k := by
  apply Nat.eq_of_testBit_eq
  intro j
  rw [Nat.testBit_or, wd_bit, wd_bit, wd_bit]
  by_cases hj : j < 64 <;> simp [hj]

theorem wd_andNot (P Q : Nat → Bool) (k : Nat) : wd P k &&& (18446744073709551615 - wd Q k) = wd (fun x => P x && !Q x) k := by
  apply Nat.eq_of_testBit_eq
  intro j
  have e : 18446744073709551615 - wd Q k = 2 ^ 64 - (wd Q k + 1) := by omega
  rw [e, Nat.testBit_and, Nat.testBit_two_pow_sub_succ (wd_lt Q k), wd_bit, wd_bit, wd_bit]
  by_cases hj : j < 64 <;> simp [hj]

/-- One byte more. -/
theorem wd_set (P : Nat → Bool) (k j : Nat) (hj : j < 64) : wd P k ||| 2 ^ j = wd (fun x => P x || x == 64 * k + j) k := by
  apply Nat.eq_of_testBit_eq
  intro i
  rw [Nat.testBit_or, wd_bit, wd_bit, Nat.testBit_two_pow]
  by_cases hi : i < 64
  · by_cases he : i = j
    · subst he; simp [hi]
    · have : ¬ j = i := fun h => he h.symm
      simp [hi, he, this]
  · have : ¬ j = i := by omega
    simp [hi, this]

theorem wd_has (P : Nat → Bool) (b : Nat) : (wd P (b / 64) / 2 ^ (b % 64)) % 2 = if P b then 1 else 0 := by
  have h := wd_bit P (b / 64) (b % 64)
  have hlt : b % 64 < 64 := Nat.mod_lt _ (by omega)
  have e : 64 * (b / 64) + b % 64 = b := Nat.div_add_mod b 64
  rw [e] at h
  simp only [hlt, decide_true, Bool.true_and] at h
  rw [Nat.testBit_eq_decide_div_mod_eq] at h
  by_cases hp : P b = true
  · rw [hp] at h; simpa [hp] using h
  · have hp' : P b = false := by simpa using hp
    rw [hp'] at h
    simp only [decide_eq_false_iff_not] at h
    simp [hp']; omega
end Go.Proofs.YteoafohebgfjdaaGreatDoor
/-
  A set of bytes as four words in memory: what the operations on words make of it.
-/
namespace Go.Proofs.YteoafohebgfjdaaGreatDoor
open Go.RowKit

def spanP (a k : Nat) : Nat → Bool := fun x => decide (a ≤ x) && decide (x < k)
def inNameP : Nat → Bool := fun x => spanP 0 256 x && !spanP 47 48 x
def setV (P : Nat → Bool) : Array Value := #[.int .u64 (wd P 0 : Nat), .int .u64 (wd P 1 : Nat), .int .u64 (wd P 2 : Nat), .int .u64 (wd P 3 : Nat)]

theorem setV_congr {P Q : Nat → Bool} (h : ∀ x, x < 256 → P x = Q x) : setV P = setV Q := by
  unfold setV
  rw [wd_congr (k := 0) (fun j hj => h _ (by omega)), wd_congr (k := 1) (fun j hj => h _ (by omega)), wd_congr (k := 2) (fun j hj => h _ (by omega)), wd_congr (k := 3) (fun j hj => h _ (by omega))]

theorem wd_empty (k : Nat) : wd (fun _ => false) k = 0 := by
  apply Nat.eq_of_testBit_eq
  intro j
  rw [wd_bit]; simp

theorem setV_empty {P : Nat → Bool} (h : ∀ x, P x = false) : #[Value.int IntKind.u64 0, Value.int IntKind.u64 0, Value.int IntKind.u64 0, Value.int IntKind.u64 0] = setV P := by
  rw [setV_congr (Q := fun _ => false) (fun x _ => h x)]
  unfold setV
  simp [wd_empty]

theorem World.setCell_drewN' (w : World) (n : Nat) (a : Addr) (v : Value) : (w.drewN n).setCell a v = (w.setCell a v).drewN n := rfl
theorem World.alloc_drewN' (w : World) (n : Nat) (o : Obj) : (w.drewN n).alloc o = (w.alloc o).drewN n := rfl
theorem below_drew {B : Nat} {a w : World} (h : Below B a w) : Below B a w.drew := ⟨h.os, h.tape, h.output, h.size, h.block⟩
theorem setLast (W : World) (c : Array Value) (t n i m : Nat) (v : Value) (hm : m = W.heap.size) :
    ((W.alloc (.cells c t)).drewN n).setCell ⟨m, i, none⟩ v = (W.alloc (.cells (c.setIfInBounds i v) t)).drewN n := by
  rw [World.setCell_drewN', World.setCell_alloc_at _ _ _ _ _ hm]

/-- The words of P, the first k of them R's. -/
def mixV (k : Nat) (P R : Nat → Bool) : Array Value :=
  #[.int .u64 ((if 0 < k then wd R 0 else wd P 0 : Nat) : Int), .int .u64 ((if 1 < k then wd R 1 else wd P 1 : Nat) : Int), .int .u64 ((if 2 < k then wd R 2 else wd P 2 : Nat) : Int), .int .u64 ((if 3 < k then wd R 3 else wd P 3 : Nat) : Int)]
theorem mixV_0 (P R : Nat → Bool) : mixV 0 P R = #[.int .u64 (wd P 0 : Nat), .int .u64 (wd P 1 : Nat), .int .u64 (wd P 2 : Nat), .int .u64 (wd P 3 : Nat)] := rfl
theorem mixV_1 (P R : Nat → Bool) : mixV 1 P R = #[.int .u64 (wd R 0 : Nat), .int .u64 (wd P 1 : Nat), .int .u64 (wd P 2 : Nat), .int .u64 (wd P 3 : Nat)] := rfl
theorem mixV_2 (P R : Nat → Bool) : mixV 2 P R = #[.int .u64 (wd R 0 : Nat), .int .u64 (wd R 1 : Nat), .int .u64 (wd P 2 : Nat), .int .u64 (wd P 3 : Nat)] := rfl
theorem mixV_3 (P R : Nat → Bool) : mixV 3 P R = #[.int .u64 (wd R 0 : Nat), .int .u64 (wd R 1 : Nat), .int .u64 (wd R 2 : Nat), .int .u64 (wd P 3 : Nat)] := rfl
theorem mixV_4 (P R : Nat → Bool) : mixV 4 P R = #[.int .u64 (wd R 0 : Nat), .int .u64 (wd R 1 : Nat), .int .u64 (wd R 2 : Nat), .int .u64 (wd R 3 : Nat)] := rfl

theorem word_or (P Q : Nat → Bool) (i : Nat) : bits BinOp.or IntKind.u64 (wd P i : Nat) (wd Q i : Nat) = ((wd (fun x => P x || Q x) i : Nat) : Int) := by
  rw [u64_or_nat _ _ (wd_lt P i) (wd_lt Q i), wd_or]
theorem word_andNot (P Q : Nat → Bool) (i : Nat) : bits BinOp.andNot IntKind.u64 (wd P i : Nat) (wd Q i : Nat) = ((wd (fun x => P x && !Q x) i : Nat) : Int) := by
  rw [u64_andNot_nat _ _ (wd_lt P i) (wd_lt Q i), wd_andNot]

theorem word_set (P : Nat → Bool) (i k : Nat) (hk : k / 64 = i) : bits BinOp.or IntKind.u64 (wd P i : Nat) (IntKind.u64.wrap (2 ^ (k % 64))) = ((wd (fun x => P x || x == k) i : Nat) : Int) := by
  have hj : k % 64 < 64 := Nat.mod_lt _ (by omega)
  have hp : 2 ^ (k % 64) < 18446744073709551616 := Nat.lt_of_lt_of_le (Nat.pow_lt_pow_right (by omega) hj) (by decide)
  have e : IntKind.u64.wrap (2 ^ (k % 64)) = ((2 ^ (k % 64) : Nat) : Int) := by
    rw [IntKind.wrap_u64]
    have : ((2 : Int) ^ (k % 64)) = ((2 ^ (k % 64) : Nat) : Int) := by simp
    rw [this]
    exact Int.emod_eq_of_lt (Int.natCast_nonneg _) (by omega)
  rw [e, u64_or_nat _ _ (wd_lt P i) hp, wd_set P i _ hj]
  have : 64 * i + k % 64 = k := by omega
  rw [this]

theorem word_other (P : Nat → Bool) (i k : Nat) (hk : k / 64 ≠ i) : wd (fun x => P x || x == k) i = wd P i := by
  apply wd_congr
  intro j hj
  have : ¬ (64 * i + j = k) := by omega
  simp [this]

theorem span_grow (a k : Nat) (h : a ≤ k) : spanP a (k + 1) = fun x => spanP a k x || x == k := by
  funext x
  unfold spanP
  by_cases h1 : x = k
  · subst h1; simp [h]
  · have : (x < k + 1) ↔ (x < k) := by omega
    simp [h1, this]

theorem span_store (a k i : Nat) (h : a ≤ k) (hk : k / 64 = i) (hi : i < 4) :
    (setV (spanP a k)).setIfInBounds i (.int .u64 (bits BinOp.or IntKind.u64 (wd (spanP a k) i : Nat) (IntKind.u64.wrap (2 ^ (k % 64))))) = setV (spanP a (k + 1)) := by
  rw [word_set _ _ _ hk, span_grow a k h]
  have hq : i = 0 ∨ i = 1 ∨ i = 2 ∨ i = 3 := by omega
  unfold setV
  rcases hq with e | e | e | e <;> subst e
  · rw [word_other _ 1 k (by omega), word_other _ 2 k (by omega), word_other _ 3 k (by omega)]; rfl
  · rw [word_other _ 0 k (by omega), word_other _ 2 k (by omega), word_other _ 3 k (by omega)]; rfl
  · rw [word_other _ 0 k (by omega), word_other _ 1 k (by omega), word_other _ 3 k (by omega)]; rfl
  · rw [word_other _ 0 k (by omega), word_other _ 1 k (by omega), word_other _ 2 k (by omega)]; rfl

theorem word_has (P : Nat → Bool) (b : Nat) : (bits BinOp.and IntKind.u64 (((wd P (b / 64) : Nat) : Int) / 2 ^ (b % 64)) 1 == 1) = P b := by
  have h := wd_has P b
  have e1 : ((1 : Nat) : Int) = 1 := rfl
  have e2 : ((wd P (b / 64) : Nat) : Int) / 2 ^ (b % 64) = ((wd P (b / 64) / 2 ^ (b % 64) : Nat) : Int) := by
    rw [Int.natCast_ediv, Int.natCast_pow]; rfl
  rw [e2, ← e1, u64_and_nat _ _ (Nat.lt_of_le_of_lt (Nat.div_le_self _ _) (wd_lt P _)) (by decide), Nat.and_one_is_mod, h]
  cases P b <;> rfl
end Go.Proofs.YteoafohebgfjdaaGreatDoor
/-
  What a pattern's text is read as, and which texts are a pattern's: plain functions on lists of bytes. Nothing of a program stands here.
-/
namespace Go.Proofs.YteoafohebgfjdaaGreatDoor

def memb (c : UInt8) : Bool := !(c == 93 || c == 91 || c == 47 || c == 92)

/-- The members of a class from place i on: what they stand for, and where the closing bracket is. -/
def cls (P : Nat → Bool) (fst : Bool) (i : Nat) : List UInt8 → Option ((Nat → Bool) × Nat)
  | [] => none
  | c :: r =>
    if c == 93 && !fst then some (P, i)
    else if !memb c then none
    else match r with
      | d :: e :: r' =>
        if d == 45 && e != 93 then
          (if !memb e || decide (e < c) then none else cls (fun x => P x || spanP c.toNat (e.toNat + 1) x) false (i + 3) r')
        else cls (fun x => P x || spanP c.toNat (c.toNat + 1) x) false (i + 1) (d :: e :: r')
      | [d] => cls (fun x => P x || spanP c.toNat (c.toNat + 1) x) false (i + 1) [d]
      | [] => none

def emptyP : Nat → Bool := fun _ => false

/-- A class, from its bracket on. -/
def classOf (L : List UInt8) : Option ((Bool × (Nat → Bool)) × Nat) :=
  let no := Lib.hasPrefix (L.drop 1) [33]
  let b := if no then 2 else 1
  match cls emptyP true b (L.drop b) with
  | none => none
  | some (P, i) => some ((false, fun x => (if no then spanP 0 256 x && !P x else P x) && !spanP 47 48 x), i + 1)

/-- The part that a text begins with, and how many bytes it has. -/
def firstOf (L : List UInt8) : Option ((Bool × (Nat → Bool)) × Nat) :=
  match L with
  | [] => none
  | c :: r =>
    if Lib.hasPrefix (c :: r) [42, 42] then some ((true, spanP 0 256), 2)
    else if c == 42 then some ((true, inNameP), 1)
    else if c == 63 then some ((false, inNameP), 1)
    else if c == 91 then classOf (c :: r)
    else if c == 92 then (match r with | [] => none | d :: _ => some ((false, spanP d.toNat (d.toNat + 1)), 2))
    else some ((false, spanP c.toNat (c.toNat + 1)), 1)

theorem drop_cons (s : ByteArray) (i : Nat) (h : i < s.size) : s.data.toList.drop i = s[i] :: s.data.toList.drop (i + 1) := by
  have h' : i < s.data.toList.length := by simpa using h
  rw [List.drop_eq_getElem_cons h']
  rfl

theorem u8_ne {a b : UInt8} (h : (a.toNat : Int) ≠ b.toNat) : (a == b) = false := by
  rw [beq_eq_false_iff_ne]
  intro e
  subst e
  exact h rfl
theorem u8_eq {a b : UInt8} (h : (a.toNat : Int) = b.toNat) : a = b := UInt8.toNat_inj.1 (by omega)
theorem u8_lt {a b : UInt8} : a < b ↔ a.toNat < b.toNat := UInt8.lt_iff_toNat_lt

/-- Do three bytes stand there that are two with a sign between? -/
def isRange (s : ByteArray) (k : Nat) : Bool := if h : k + 2 < s.size then (s[k + 1].toNat : Int) == 45 && !((s[k + 2].toNat : Int) == 93) else false
theorem isRange_no {s : ByteArray} {k : Nat} (h : isRange s k = false) (h2 : k + 2 < s.size) (h45 : (s[k + 1].toNat : Int) = 45) : (s[k + 2].toNat : Int) = 93 := by
  unfold isRange at h
  rw [dif_pos h2, h45] at h
  simpa using h
theorem isRange_yes {s : ByteArray} {k : Nat} (h : isRange s k = true) : ∃ h2 : k + 2 < s.size, (s[k + 1].toNat : Int) = 45 ∧ (s[k + 2].toNat : Int) ≠ 93 := by
  unfold isRange at h
  by_cases h2 : k + 2 < s.size
  · rw [dif_pos h2] at h
    exact ⟨h2, by simpa using h⟩
  · rw [dif_neg h2] at h
    cases h

section
variable {s : ByteArray} {i : Nat} {P : Nat → Bool}
theorem cls_shut (h : i < s.size) (h1 : (s[i].toNat : Int) = 93) : cls P false i (s.data.toList.drop i) = some (P, i) := by
  have e : s[i] = 93 := u8_eq h1
  rw [drop_cons s i h, e, cls.eq_def]
  rfl
theorem cls_end {f : Bool} : cls P f s.size (s.data.toList.drop s.size) = none := by
  rw [List.drop_of_length_le (by simp)]
  rfl
theorem cls_first (h : i < s.size) (h1 : (s[i].toNat : Int) = 93) : cls P true i (s.data.toList.drop i) = none := by
  have e : s[i] = 93 := u8_eq h1
  rw [drop_cons s i h, e, cls.eq_def]
  rfl
theorem cls_bad {f : Bool} (h : i < s.size) (h1 : (s[i].toNat : Int) ≠ 93) (hm : memb s[i] = false) : cls P f i (s.data.toList.drop i) = none := by
  rw [drop_cons s i h, cls.eq_def]
  simp only [u8_ne (b := 93) h1, hm]
  rfl
theorem cls_range {f : Bool} (h : i + 2 < s.size) (h1 : (s[i].toNat : Int) ≠ 93) (hm : memb s[i] = true) (h2 : (s[i + 1].toNat : Int) = 45) (h3 : (s[i + 2].toNat : Int) ≠ 93)
    (hm2 : memb s[i + 2] = true) (hlt : ¬ s[i + 2].toNat < s[i].toNat) :
    cls P f i (s.data.toList.drop i) = cls (fun x => P x || spanP s[i].toNat (s[i + 2].toNat + 1) x) false (i + 3) (s.data.toList.drop (i + 3)) := by
  have e : s[i + 1] = 45 := u8_eq h2
  have hl : decide (s[i + 2] < s[i]) = false := by rw [decide_eq_false_iff_not, u8_lt]; exact hlt
  rw [drop_cons s i (by omega), drop_cons s (i + 1) (by omega), drop_cons s (i + 1 + 1) (by omega), e, cls.eq_def]
  simp only [u8_ne (b := 93) h1, hm, bne, u8_ne (b := 93) h3, hm2, hl]
  rfl
theorem cls_range_bad {f : Bool} (h : i + 2 < s.size) (h1 : (s[i].toNat : Int) ≠ 93) (hm : memb s[i] = true) (h2 : (s[i + 1].toNat : Int) = 45) (h3 : (s[i + 2].toNat : Int) ≠ 93)
    (hb : memb s[i + 2] = false ∨ s[i + 2].toNat < s[i].toNat) :
    cls P f i (s.data.toList.drop i) = none := by
  have e : s[i + 1] = 45 := u8_eq h2
  have hl : (!memb s[i + 2] || decide (s[i + 2] < s[i])) = true := by
    rcases hb with hb | hb
    · rw [hb]; rfl
    · rw [decide_eq_true (u8_lt.2 hb), Bool.or_true]
  rw [drop_cons s i (by omega), drop_cons s (i + 1) (by omega), drop_cons s (i + 1 + 1) (by omega), e, cls.eq_def]
  simp only [u8_ne (b := 93) h1, hm, bne, u8_ne (b := 93) h3, hl]
  rfl
theorem cls_one {f : Bool} (h : i < s.size) (h1 : (s[i].toNat : Int) ≠ 93) (hm : memb s[i] = true)
    (hn : ∀ h2 : i + 2 < s.size, (s[i + 1].toNat : Int) = 45 → (s[i + 2].toNat : Int) = 93) :
    cls P f i (s.data.toList.drop i) = cls (fun x => P x || spanP s[i].toNat (s[i].toNat + 1) x) false (i + 1) (s.data.toList.drop (i + 1)) := by
  rw [drop_cons s i h, cls.eq_def]
  simp only [u8_ne (b := 93) h1, hm]
  by_cases ha : i + 1 < s.size
  · rw [drop_cons s (i + 1) ha]
    by_cases hb : i + 2 < s.size
    · rw [drop_cons s (i + 1 + 1) hb]
      by_cases hc : (s[i + 1].toNat : Int) = 45
      · have e : s[i + 2] = 93 := u8_eq (hn hb hc)
        simp [e]
      · simp [u8_ne (b := 45) hc]
    · rw [List.drop_of_length_le (i := i + 1 + 1) (by simp; omega)]
      rfl
  · rw [List.drop_of_length_le (i := i + 1) (by simp; omega)]
    rfl
end
end Go.Proofs.YteoafohebgfjdaaGreatDoor

namespace Go.Proofs.YteoafohebgfjdaaGreatDoor
open Go.RowKit

def memB (n : Int) : Bool := !(n == 93) && !(n == 91) && !(n == 47) && !(n == 92)

set_option maxHeartbeats 400000 in
theorem member_any (n : Int) (w : World) :
    Calls Tryz.prog 139 #[.int .u8 n] w fun e w' => e = .returned (.bool (memB n)) ∧ w = w' := by
  by_cases h1 : n = 93
  · subst h1; go_enter Tryz.func139, Tryz.ntmps139; go_wp2; go_ret; exact ⟨rfl, rfl⟩
  by_cases h2 : n = 91
  · subst h2; go_enter Tryz.func139, Tryz.ntmps139; go_wp2; go_ret; exact ⟨rfl, rfl⟩
  by_cases h3 : n = 47
  · subst h3; go_enter Tryz.func139, Tryz.ntmps139; go_wp2; go_ret; exact ⟨rfl, rfl⟩
  by_cases h4 : n = 92
  · subst h4; go_enter Tryz.func139, Tryz.ntmps139; go_wp2; go_ret; exact ⟨rfl, rfl⟩
  go_enter Tryz.func139, Tryz.ntmps139
  go_wp2
  go_ret
  exact ⟨by simp [memB, h1, h2, h3, h4], rfl⟩

attribute [local go_sem] World.setCell_drewN' World.alloc_drewN'
set_option maxHeartbeats 400000 in
theorem span_any (a b : Nat) (w : World) (ha : (a : Int) < 256) (hb : (b : Int) < 256) :
    Calls Tryz.prog 135 #[.int .u8 a, .int .u8 b] w fun e w' => e = .returned (.agg (setV (spanP a (b + 1)))) ∧ Below w.heap.size w w' := by
  go_enter Tryz.func135, Tryz.ntmps135
  go_wp2
  go_loopw [6] (fun i wr => ∃ k n : Nat, i = .int .i64 k ∧ a ≤ k ∧ k ≤ 256 ∧ (k ≤ a ∨ k ≤ b + 1) ∧ wr = ((w.alloc (Obj.cells #[Value.int IntKind.u64 0, Value.int IntKind.u64 0, Value.int IntKind.u64 0, Value.int IntKind.u64 0] 132)).alloc (.cells (setV (spanP a k)) 132)).drewN n) (fun i _ => 256 - (intOf i).toNat)
  case atStart =>
    refine ⟨a, 0, ?_, by omega, by omega, by omega, ?_⟩
    · rfl
    · rw [setV_empty (P := spanP a a) (fun x => by unfold spanP; by_cases h : a ≤ x <;> simp [h])]; rfl
  case round =>
    obtain ⟨k, n, rfl, h1, h2, h3, rfl⟩ := hrel
    by_cases hk : (k : Int) ≤ b
    · have hq : k < 64 ∨ (64 ≤ k ∧ k < 128) ∨ (128 ≤ k ∧ k < 192) ∨ (192 ≤ k ∧ k < 256) := by omega
      have hs := hide (span_store a k (k / 64) h1 rfl (by omega))
      rcases hq with hq | hq | hq | hq
      · have e : (k : Int) / 64 = 0 := by omega
        have e' : k / 64 = 0 := by omega
        rw [e'] at hs
        unfold setV
        go_wp2
        go_region
        all_goals go_wp2
        refine ⟨⟨k + 1, n + 1, by go_num, by omega, by omega, by omega, ?_⟩, by simp [intOf]; omega⟩
        have hs' := hs.out
        clear hs e e'
        exact congrArg (fun c => ((w.alloc _).alloc (Obj.cells c _)).drewN (n + 1)) hs'
      · have e : (k : Int) / 64 = 1 := by omega
        have e' : k / 64 = 1 := by omega
        rw [e'] at hs
        unfold setV
        go_wp2
        go_region
        all_goals go_wp2
        refine ⟨⟨k + 1, n + 1, by go_num, by omega, by omega, by omega, ?_⟩, by simp [intOf]; omega⟩
        have hs' := hs.out
        clear hs e e'
        exact congrArg (fun c => ((w.alloc _).alloc (Obj.cells c _)).drewN (n + 1)) hs'
      · have e : (k : Int) / 64 = 2 := by omega
        have e' : k / 64 = 2 := by omega
        rw [e'] at hs
        unfold setV
        go_wp2
        go_region
        all_goals go_wp2
        refine ⟨⟨k + 1, n + 1, by go_num, by omega, by omega, by omega, ?_⟩, by simp [intOf]; omega⟩
        have hs' := hs.out
        clear hs e e'
        exact congrArg (fun c => ((w.alloc _).alloc (Obj.cells c _)).drewN (n + 1)) hs'
      · have e : (k : Int) / 64 = 3 := by omega
        have e' : k / 64 = 3 := by omega
        rw [e'] at hs
        unfold setV
        go_wp2
        go_region
        all_goals go_wp2
        refine ⟨⟨k + 1, n + 1, by go_num, by omega, by omega, by omega, ?_⟩, by simp [intOf]; omega⟩
        have hs' := hs.out
        clear hs e e'
        exact congrArg (fun c => ((w.alloc _).alloc (Obj.cells c _)).drewN (n + 1)) hs'
    · have e : spanP a k = spanP a (b + 1) := by
        have : k = b + 1 ∨ b + 1 ≤ a ∧ k = a := by omega
        rcases this with e | ⟨e, e'⟩
        · rw [e]
        · subst e'; funext x; unfold spanP; by_cases hx : k ≤ x
          · have h1 : ¬ x < k := by omega
            have h2 : ¬ x < b + 1 := by omega
            simp [h1, h2]
          · simp [hx]
      rw [e]
      unfold setV
      go_wp2
      refine bodyPost_ret (v := .agg (setV (spanP a (b + 1)))) (by simp [results, Tryz.results135, go_sem]; rfl) rfl ⟨rfl, ?_⟩
      exact below_drewN (((Below.refl _ _).alloc (Nat.le_refl _) _).alloc (by simp) _) _
set_option maxHeartbeats 400000 in
theorem with_any (P Q : Nat → Bool) (w : World) :
    Calls Tryz.prog 140 #[.agg (setV P), .agg (setV Q)] w fun e w' => e = .returned (.agg (setV (fun x => P x || Q x))) ∧ Below w.heap.size w w' := by
  obtain ⟨R, hR⟩ : ∃ R : Nat → Bool, R = fun x => P x || Q x := ⟨_, rfl⟩
  rw [← hR]
  have H := hide hR
  clear hR
  unfold setV
  go_enter Tryz.func140, Tryz.ntmps140
  go_wp2
  go_loopw [6] (fun i wr => ∃ k n : Nat, i = .int .i64 k ∧ k ≤ 4 ∧ wr = (((w.alloc (.cells (mixV k P R) 132)).alloc (Obj.cells #[.int .u64 (wd Q 0 : Nat), .int .u64 (wd Q 1 : Nat), .int .u64 (wd Q 2 : Nat), .int .u64 (wd Q 3 : Nat)] 132)).alloc (Obj.cells #[Value.int IntKind.u64 0, Value.int IntKind.u64 0, Value.int IntKind.u64 0, Value.int IntKind.u64 0] 132)).drewN n) (fun i _ => 4 - (intOf i).toNat)
  case atStart => exact ⟨0, 0, rfl, by omega, rfl⟩
  case round =>
    obtain ⟨k, n, rfl, h1, rfl⟩ := hrel
    have hq : k = 0 ∨ k = 1 ∨ k = 2 ∨ k = 3 ∨ k = 4 := by omega
    rcases hq with rfl | rfl | rfl | rfl | rfl
    · rw [mixV_0]
      go_wp2
      go_region
      all_goals go_wp2
      refine ⟨⟨1, n + 1, by go_num, by omega, ?_⟩, by simp [intOf]⟩
      rw [mixV_1, word_or]
      cases H.out
      rfl
    · rw [mixV_1]
      go_wp2
      go_region
      all_goals go_wp2
      refine ⟨⟨2, n + 1, by go_num, by omega, ?_⟩, by simp [intOf]⟩
      rw [mixV_2, word_or]
      cases H.out
      rfl
    · rw [mixV_2]
      go_wp2
      go_region
      all_goals go_wp2
      refine ⟨⟨3, n + 1, by go_num, by omega, ?_⟩, by simp [intOf]⟩
      rw [mixV_3, word_or]
      cases H.out
      rfl
    · rw [mixV_3]
      go_wp2
      go_region
      all_goals go_wp2
      refine ⟨⟨4, n + 1, by go_num, by omega, ?_⟩, by simp [intOf]⟩
      rw [mixV_4, word_or]
      cases H.out
      rfl
    · rw [mixV_4]
      go_wp2
      refine bodyPost_ret (v := .agg (setV R)) (by simp [results, Tryz.results140, go_sem]; rfl) rfl ⟨rfl, ?_⟩
      exact below_drewN ((((Below.refl _ _).alloc (Nat.le_refl _) _).alloc (by simp) _).alloc (by simp; omega) _) _

set_option maxHeartbeats 400000 in
theorem without_any (P Q : Nat → Bool) (w : World) :
    Calls Tryz.prog 138 #[.agg (setV P), .agg (setV Q)] w fun e w' => e = .returned (.agg (setV (fun x => P x && !Q x))) ∧ Below w.heap.size w w' := by
  obtain ⟨R, hR⟩ : ∃ R : Nat → Bool, R = fun x => P x && !Q x := ⟨_, rfl⟩
  rw [← hR]
  have H := hide hR
  clear hR
  unfold setV
  go_enter Tryz.func138, Tryz.ntmps138
  go_wp2
  go_loopw [6] (fun i wr => ∃ k n : Nat, i = .int .i64 k ∧ k ≤ 4 ∧ wr = (((w.alloc (.cells (mixV k P R) 132)).alloc (Obj.cells #[.int .u64 (wd Q 0 : Nat), .int .u64 (wd Q 1 : Nat), .int .u64 (wd Q 2 : Nat), .int .u64 (wd Q 3 : Nat)] 132)).alloc (Obj.cells #[Value.int IntKind.u64 0, Value.int IntKind.u64 0, Value.int IntKind.u64 0, Value.int IntKind.u64 0] 132)).drewN n) (fun i _ => 4 - (intOf i).toNat)
  case atStart => exact ⟨0, 0, rfl, by omega, rfl⟩
  case round =>
    obtain ⟨k, n, rfl, h1, rfl⟩ := hrel
    have hq : k = 0 ∨ k = 1 ∨ k = 2 ∨ k = 3 ∨ k = 4 := by omega
    rcases hq with rfl | rfl | rfl | rfl | rfl
    · rw [mixV_0]
      go_wp2
      go_region
      all_goals go_wp2
      refine ⟨⟨1, n + 1, by go_num, by omega, ?_⟩, by simp [intOf]⟩
      rw [mixV_1, word_andNot]
      cases H.out
      rfl
    · rw [mixV_1]
      go_wp2
      go_region
      all_goals go_wp2
      refine ⟨⟨2, n + 1, by go_num, by omega, ?_⟩, by simp [intOf]⟩
      rw [mixV_2, word_andNot]
      cases H.out
      rfl
    · rw [mixV_2]
      go_wp2
      go_region
      all_goals go_wp2
      refine ⟨⟨3, n + 1, by go_num, by omega, ?_⟩, by simp [intOf]⟩
      rw [mixV_3, word_andNot]
      cases H.out
      rfl
    · rw [mixV_3]
      go_wp2
      go_region
      all_goals go_wp2
      refine ⟨⟨4, n + 1, by go_num, by omega, ?_⟩, by simp [intOf]⟩
      rw [mixV_4, word_andNot]
      cases H.out
      rfl
    · rw [mixV_4]
      go_wp2
      refine bodyPost_ret (v := .agg (setV R)) (by simp [results, Tryz.results138, go_sem]; rfl) rfl ⟨rfl, ?_⟩
      exact below_drewN ((((Below.refl _ _).alloc (Nat.le_refl _) _).alloc (by simp) _).alloc (by simp; omega) _) _

set_option maxHeartbeats 400000 in
theorem has_any (P : Nat → Bool) (b : Nat) (hb : (b : Int) < 256) (w : World) :
    Calls Tryz.prog 137 #[.agg (setV P), .int .u8 b] w fun e w' => e = .returned (.bool (P b)) ∧ Below w.heap.size w w' := by
  have hq : b < 64 ∨ (64 ≤ b ∧ b < 128) ∨ (128 ≤ b ∧ b < 192) ∨ (192 ≤ b ∧ b < 256) := by omega
  have H := hide (word_has P b)
  unfold setV
  rcases hq with hq | hq | hq | hq
  · have e : (b : Int) / 64 = 0 := by omega
    have e' : b / 64 = 0 := by omega
    rw [e'] at H
    go_enter Tryz.func137, Tryz.ntmps137
    go_wp2
    go_ret
    refine ⟨?_, (Below.refl _ _).alloc (Nat.le_refl _) _⟩
    exact congrArg (fun x => Ending.returned (.bool x)) H.out
  · have e : (b : Int) / 64 = 1 := by omega
    have e' : b / 64 = 1 := by omega
    rw [e'] at H
    go_enter Tryz.func137, Tryz.ntmps137
    go_wp2
    go_ret
    refine ⟨?_, (Below.refl _ _).alloc (Nat.le_refl _) _⟩
    exact congrArg (fun x => Ending.returned (.bool x)) H.out
  · have e : (b : Int) / 64 = 2 := by omega
    have e' : b / 64 = 2 := by omega
    rw [e'] at H
    go_enter Tryz.func137, Tryz.ntmps137
    go_wp2
    go_ret
    refine ⟨?_, (Below.refl _ _).alloc (Nat.le_refl _) _⟩
    exact congrArg (fun x => Ending.returned (.bool x)) H.out
  · have e : (b : Int) / 64 = 3 := by omega
    have e' : b / 64 = 3 := by omega
    rw [e'] at H
    go_enter Tryz.func137, Tryz.ntmps137
    go_wp2
    go_ret
    refine ⟨?_, (Below.refl _ _).alloc (Nat.le_refl _) _⟩
    exact congrArg (fun x => Ending.returned (.bool x)) H.out

set_option maxHeartbeats 400000 in
theorem slHasPrefix_any (s p : ByteArray) (w : World) :
    Calls Tryz.prog 102 #[.string s, .string p] w fun e w' => e = .returned (.bool (Lib.hasPrefix s.data.toList p.data.toList)) ∧ w = w' := by
  rw [← Lib.hasPrefix_of_take, ← Lib.size_eq, ← Lib.size_eq]
  go_enter Tryz.func102, Tryz.ntmps102
  go_wp2
  · rename_i h
    go_ret
    refine ⟨?_, rfl⟩
    show Ending.returned (Value.bool ((s.extract 0 p.size).toList == p.toList)) = _
    rw [Lib.extract_toList, Lib.toList_data]
    simp [h]
  · rename_i h
    go_ret
    refine ⟨?_, rfl⟩
    show Ending.returned (Value.bool false) = _
    simp [h]

set_option maxHeartbeats 400000 in
theorem hasPrefix_any (s p : ByteArray) (w : World) :
    Calls Tryz.prog 131 #[.string s, .string p] w fun e w' => e = .returned (.bool (Lib.hasPrefix s.data.toList p.data.toList)) ∧ w = w' := by
  go_enter Tryz.func131, Tryz.ntmps131
  go_wp2_with (go_at_call 102; refine (slHasPrefix_any _ _ _).mono ?_; rintro e w' ⟨rfl, rfl⟩)
  go_ret
  exact ⟨rfl, rfl⟩
end Go.Proofs.YteoafohebgfjdaaGreatDoor
