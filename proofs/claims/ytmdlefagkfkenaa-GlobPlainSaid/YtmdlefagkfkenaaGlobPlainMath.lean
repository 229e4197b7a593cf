/-
  A text without signs, and one with each sign behind a backslash, is a pattern of itself alone.
-/
import Derived.Test.YtmdlefagkfkenaaGlobAcc
import Derived.Test.YtmdlefagkfkenaaGlobSmall
namespace Go.Proofs.Ytmdlefagkfkenaa

/-- Each sign behind a backslash. -/
def esc1 (c : UInt8) : List UInt8 := if sign c then [92, c] else [c]
def escL (L : List UInt8) : List UInt8 := L.flatMap esc1
def single (c : UInt8) : GPart := (false, spanP c.toNat (c.toNat + 1))

theorem escL_cons (c : UInt8) (r : List UInt8) : escL (c :: r) = esc1 c ++ escL r := rfl
theorem escL_snoc (L : List UInt8) (c : UInt8) : escL (L ++ [c]) = escL L ++ esc1 c := by simp [escL]
theorem escL_len (L : List UInt8) : (escL L).length ≤ 2 * L.length := by
  induction L with
  | nil => simp [escL]
  | cons c r ih =>
    rw [escL_cons, List.length_append, List.length_cons]
    have : (esc1 c).length ≤ 2 := by unfold esc1; split <;> simp
    omega

theorem first_esc (c : UInt8) (r : List UInt8) : firstOf (92 :: c :: r) = some (single c, 2) := rfl
theorem first_plain (c : UInt8) (r : List UInt8) (h : sign c = false) : firstOf (c :: r) = some (single c, 1) := by
  unfold sign at h
  simp only [Bool.or_eq_false_iff] at h
  obtain ⟨⟨⟨h1, h2⟩, h3⟩, h4⟩ := h
  have hp : Lib.hasPrefix (c :: r) [42, 42] = false := by
    have e : ((42 : UInt8) == c) = false := by
      rw [beq_eq_false_iff_ne] at h1 ⊢
      exact fun e => h1 e.symm
    show ((42 : UInt8) == c && List.isPrefixOf [42] r) = false
    rw [e]
    rfl
  unfold firstOf
  simp only [hp, h1, h2, h3, h4, Bool.false_eq_true, if_false]
  rfl

theorem parse_esc (L : List UInt8) : parseOf (escL L) = some (L.map single) := by
  induction L with
  | nil => rfl
  | cons c r ih =>
    rw [escL_cons]
    unfold esc1
    cases h : sign c with
    | true =>
      rw [if_pos rfl]
      show parseOf (92 :: c :: escL r) = _
      rw [parseOf_step (first_esc c (escL r))]
      show (parseOf (escL r)).map _ = _
      rw [ih]
      rfl
    | false =>
      rw [if_neg (by simp)]
      show parseOf (c :: escL r) = _
      rw [parseOf_step (first_plain c (escL r) h)]
      show (parseOf (escL r)).map _ = _
      rw [ih]
      rfl

theorem esc_plain (L : List UInt8) (h : L.any sign = false) : escL L = L := by
  induction L with
  | nil => rfl
  | cons c r ih =>
    simp only [List.any_cons, Bool.or_eq_false_iff] at h
    rw [escL_cons, ih h.2]
    unfold esc1
    rw [h.1]
    rfl

theorem acc_single (L : List UInt8) : ∀ u : List UInt8, acc (L.map single) u = (u == L) := by
  induction L with
  | nil => intro u; cases u <;> rfl
  | cons c r ih =>
    intro u
    cases u with
    | nil => rfl
    | cons d v =>
      show (spanP c.toNat (c.toNat + 1) d.toNat && acc (r.map single) v) = ((d :: v) == (c :: r))
      rw [ih v, List.cons_beq_cons]
      congr 1
      unfold spanP
      rw [Bool.eq_iff_iff]
      simp only [Bool.and_eq_true, decide_eq_true_eq, beq_iff_eq, ← UInt8.toNat_inj]
      omega

/-- What the function Match answers of a text in which each sign is behind a backslash. -/
theorem globM_esc (q s u : ByteArray) (hq : q.data.toList = escL s.data.toList) (hs : s.size ≤ 32) : globM q u = (u.data.toList == s.data.toList) := by
  have hl := escL_len s.data.toList
  rw [← hq, ← Lib.size_eq, ← Lib.size_eq] at hl
  rw [globM_acc, if_neg (by omega), hq, parse_esc]
  exact acc_single _ _
end Go.Proofs.Ytmdlefagkfkenaa
