/-
  What a pattern's text is read as, and which texts are a pattern's: plain functions on lists of bytes. Nothing of a program stands here.
-/
import Derived.Test.YtmdlefagkfkenabGlobWords
namespace Go.Proofs.Ytmdlefagkfkenab

def memb (c : UInt8) : Bool := !(c == 93 || c == 91 || c == 47 || c == 92)

/-- The members of a class from place i on: what they stand for, and where the closing bracket is. -/
def cls (P : Nat → Bool) (fst : Bool) (i : Nat) : List UInt8 → Option ((Nat → Bool) × Nat)
  | [] => none
  | c :: r =>
    if c == 93 && !fst then some (P, i)
    else if !memb c then none
    else match r with
      | d :: e :: r' =>
        if d == 45 && e != 93 then
          (if !memb e || decide (e < c) then none else cls (fun x => P x || spanP c.toNat (e.toNat + 1) x) false (i + 3) r')
        else cls (fun x => P x || spanP c.toNat (c.toNat + 1) x) false (i + 1) (d :: e :: r')
      | [d] => cls (fun x => P x || spanP c.toNat (c.toNat + 1) x) false (i + 1) [d]
      | [] => none

def emptyP : Nat → Bool := fun _ => false

/-- A class, from its bracket on. -/
def classOf (L : List UInt8) : Option ((Bool × (Nat → Bool)) × Nat) :=
  let no := Lib.hasPrefix (L.drop 1) [33]
  let b := if no then 2 else 1
  match cls emptyP true b (L.drop b) with
  | none => none
  | some (P, i) => some ((false, fun x => (if no then spanP 0 256 x && !P x else P x) && !spanP 47 48 x), i + 1)

/-- The part that a text begins with, and how many bytes it has. -/
def firstOf (L : List UInt8) : Option ((Bool × (Nat → Bool)) × Nat) :=
  match L with
  | [] => none
  | c :: r =>
    if Lib.hasPrefix (c :: r) [42, 42] then some ((true, spanP 0 256), 2)
    else if c == 42 then some ((true, inNameP), 1)
    else if c == 63 then some ((false, inNameP), 1)
    else if c == 91 then classOf (c :: r)
    else if c == 92 then (match r with | [] => none | d :: _ => some ((false, spanP d.toNat (d.toNat + 1)), 2))
    else some ((false, spanP c.toNat (c.toNat + 1)), 1)

theorem drop_cons (s : ByteArray) (i : Nat) (h : i < s.size) : s.data.toList.drop i = s[i] :: s.data.toList.drop (i + 1) := by
  have h' : i < s.data.toList.length := by simpa using h
  rw [List.drop_eq_getElem_cons h']
  rfl

theorem u8_ne {a b : UInt8} (h : (a.toNat : Int) ≠ b.toNat) : (a == b) = false := by
  rw [beq_eq_false_iff_ne]
  intro e
  subst e
  exact h rfl
theorem u8_eq {a b : UInt8} (h : (a.toNat : Int) = b.toNat) : a = b := UInt8.toNat_inj.1 (by omega)
theorem u8_lt {a b : UInt8} : a < b ↔ a.toNat < b.toNat := UInt8.lt_iff_toNat_lt

/-- Do three bytes stand there that are two with a sign between? -/
def isRange (s : ByteArray) (k : Nat) : Bool := if h : k + 2 < s.size then (s[k + 1].toNat : Int) == 45 && !((s[k + 2].toNat : Int) == 93) else false
theorem isRange_no {s : ByteArray} {k : Nat} (h : isRange s k = false) (h2 : k + 2 < s.size) (h45 : (s[k + 1].toNat : Int) = 45) : (s[k + 2].toNat : Int) = 93 := by
  unfold isRange at h
  rw [dif_pos h2, h45] at h
  simpa using h
theorem isRange_yes {s : ByteArray} {k : Nat} (h : isRange s k = true) : ∃ h2 : k + 2 < s.size, (s[k + 1].toNat : Int) = 45 ∧ (s[k + 2].toNat : Int) ≠ 93 := by
  unfold isRange at h
  by_cases h2 : k + 2 < s.size
  · rw [dif_pos h2] at h
    exact ⟨h2, by simpa using h⟩
  · rw [dif_neg h2] at h
    cases h

section
variable {s : ByteArray} {i : Nat} {P : Nat → Bool}
theorem cls_shut (h : i < s.size) (h1 : (s[i].toNat : Int) = 93) : cls P false i (s.data.toList.drop i) = some (P, i) := by
  have e : s[i] = 93 := u8_eq h1
  rw [drop_cons s i h, e, cls.eq_def]
  rfl
theorem cls_end {f : Bool} : cls P f s.size (s.data.toList.drop s.size) = none := by
  rw [List.drop_of_length_le (by simp)]
  rfl
theorem cls_first (h : i < s.size) (h1 : (s[i].toNat : Int) = 93) : cls P true i (s.data.toList.drop i) = none := by
  have e : s[i] = 93 := u8_eq h1
  rw [drop_cons s i h, e, cls.eq_def]
  rfl
theorem cls_bad {f : Bool} (h : i < s.size) (h1 : (s[i].toNat : Int) ≠ 93) (hm : memb s[i] = false) : cls P f i (s.data.toList.drop i) = none := by
  rw [drop_cons s i h, cls.eq_def]
  simp only [u8_ne (b := 93) h1, hm]
  rfl
theorem cls_range {f : Bool} (h : i + 2 < s.size) (h1 : (s[i].toNat : Int) ≠ 93) (hm : memb s[i] = true) (h2 : (s[i + 1].toNat : Int) = 45) (h3 : (s[i + 2].toNat : Int) ≠ 93)
    (hm2 : memb s[i + 2] = true) (hlt : ¬ s[i + 2].toNat < s[i].toNat) :
    cls P f i (s.data.toList.drop i) = cls (fun x => P x || spanP s[i].toNat (s[i + 2].toNat + 1) x) false (i + 3) (s.data.toList.drop (i + 3)) := by
  have e : s[i + 1] = 45 := u8_eq h2
  have hl : decide (s[i + 2] < s[i]) = false := by rw [decide_eq_false_iff_not, u8_lt]; exact hlt
  rw [drop_cons s i (by omega), drop_cons s (i + 1) (by omega), drop_cons s (i + 1 + 1) (by omega), e, cls.eq_def]
  simp only [u8_ne (b := 93) h1, hm, bne, u8_ne (b := 93) h3, hm2, hl]
  rfl
theorem cls_range_bad {f : Bool} (h : i + 2 < s.size) (h1 : (s[i].toNat : Int) ≠ 93) (hm : memb s[i] = true) (h2 : (s[i + 1].toNat : Int) = 45) (h3 : (s[i + 2].toNat : Int) ≠ 93)
    (hb : memb s[i + 2] = false ∨ s[i + 2].toNat < s[i].toNat) :
    cls P f i (s.data.toList.drop i) = none := by
  have e : s[i + 1] = 45 := u8_eq h2
  have hl : (!memb s[i + 2] || decide (s[i + 2] < s[i])) = true := by
    rcases hb with hb | hb
    · rw [hb]; rfl
    · rw [decide_eq_true (u8_lt.2 hb), Bool.or_true]
  rw [drop_cons s i (by omega), drop_cons s (i + 1) (by omega), drop_cons s (i + 1 + 1) (by omega), e, cls.eq_def]
  simp only [u8_ne (b := 93) h1, hm, bne, u8_ne (b := 93) h3, hl]
  rfl
theorem cls_one {f : Bool} (h : i < s.size) (h1 : (s[i].toNat : Int) ≠ 93) (hm : memb s[i] = true)
    (hn : ∀ h2 : i + 2 < s.size, (s[i + 1].toNat : Int) = 45 → (s[i + 2].toNat : Int) = 93) :
    cls P f i (s.data.toList.drop i) = cls (fun x => P x || spanP s[i].toNat (s[i].toNat + 1) x) false (i + 1) (s.data.toList.drop (i + 1)) := by
  rw [drop_cons s i h, cls.eq_def]
  simp only [u8_ne (b := 93) h1, hm]
  by_cases ha : i + 1 < s.size
  · rw [drop_cons s (i + 1) ha]
    by_cases hb : i + 2 < s.size
    · rw [drop_cons s (i + 1 + 1) hb]
      by_cases hc : (s[i + 1].toNat : Int) = 45
      · have e : s[i + 2] = 93 := u8_eq (hn hb hc)
        simp [e]
      · simp [u8_ne (b := 45) hc]
    · rw [List.drop_of_length_le (i := i + 1 + 1) (by simp; omega)]
      rfl
  · rw [List.drop_of_length_le (i := i + 1) (by simp; omega)]
    rfl
end
end Go.Proofs.Ytmdlefagkfkenab
