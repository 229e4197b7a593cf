/-
  What a whole pattern's text is read as. Nothing of a program stands here.
-/
import Derived.Test.YthlalmehcpionaaDoorGlobA
namespace Go.Proofs.YthlalmehcpionaaDoor

theorem cls_le (P : Nat → Bool) (f : Bool) (i : Nat) (l : List UInt8) (Q : Nat → Bool) (j : Nat) (h : cls P f i l = some (Q, j)) : i ≤ j ∧ j < i + l.length := by
  induction P, f, i, l using cls.induct generalizing Q j with
  | case1 => rw [cls.eq_def] at h; cases h
  | case2 P f i c r hc =>
    rw [cls.eq_def] at h
    simp only [hc, if_true, Option.some.injEq, Prod.mk.injEq] at h
    simp only [List.length_cons]
    omega
  | case3 P f i c r hc hm =>
    rw [cls.eq_def] at h
    simp only [hc, hm, if_true, Bool.false_eq_true, if_false] at h
    cases h
  | case4 P f i c hc hm d e r' hd hb =>
    rw [cls.eq_def] at h
    simp only [hc, hm, hd, hb, if_true, Bool.false_eq_true, if_false] at h
    cases h
  | case5 P f i c hc hm d e r' hd hb ih =>
    rw [cls.eq_def] at h
    simp only [hc, hm, hd, hb, if_true, Bool.false_eq_true, if_false] at h
    have := ih _ _ h
    simp only [List.length_cons]
    omega
  | case6 P f i c hc hm d e r' hd ih =>
    rw [cls.eq_def] at h
    simp only [hc, hm, hd, Bool.false_eq_true, if_false] at h
    have := ih _ _ h
    simp only [List.length_cons] at this ⊢
    omega
  | case7 P f i c hc hm d ih =>
    rw [cls.eq_def] at h
    simp only [hc, hm, Bool.false_eq_true, if_false] at h
    have := ih _ _ h
    simp only [List.length_cons] at this ⊢
    omega
  | case8 P f i c hc hm =>
    rw [cls.eq_def] at h
    simp only [hc, hm, Bool.false_eq_true, if_false] at h
    cases h

theorem classOf_le (L : List UInt8) (p : Bool × (Nat → Bool)) (n : Nat) (h : classOf L = some (p, n)) : 1 ≤ n ∧ n ≤ L.length := by
  unfold classOf at h
  simp only at h
  split at h
  · cases h
  · rename_i Q i hc
    have := cls_le _ _ _ _ _ _ hc
    simp only [Option.some.injEq, Prod.mk.injEq] at h
    simp only [List.length_drop] at this
    omega

theorem firstOf_le (L : List UInt8) (p : Bool × (Nat → Bool)) (n : Nat) (h : firstOf L = some (p, n)) : 1 ≤ n ∧ n ≤ L.length := by
  unfold firstOf at h
  split at h
  · cases h
  · rename_i c r
    split at h
    · rename_i hp
      simp only [Option.some.injEq, Prod.mk.injEq] at h
      rcases r with _ | ⟨d, r⟩
      · simp [Lib.hasPrefix] at hp
      · simp only [List.length_cons]; omega
    · split at h
      · simp only [Option.some.injEq, Prod.mk.injEq] at h
        simp only [List.length_cons]; omega
      · split at h
        · simp only [Option.some.injEq, Prod.mk.injEq] at h
          simp only [List.length_cons]; omega
        · split at h
          · exact classOf_le _ _ _ h
          · split at h
            · split at h
              · cases h
              · simp only [Option.some.injEq, Prod.mk.injEq] at h
                simp only [List.length_cons]; omega
            · simp only [Option.some.injEq, Prod.mk.injEq] at h
              simp only [List.length_cons]; omega

/-- The parts of a text, in at most k steps. -/
def parseN : Nat → List UInt8 → Option (List (Bool × (Nat → Bool)))
  | _, [] => some []
  | 0, _ :: _ => none
  | k + 1, c :: r =>
    match firstOf (c :: r) with
    | none => none
    | some (p, n) => (parseN k ((c :: r).drop n)).map (p :: ·)

/-- The parts of a text. -/
def parseOf (L : List UInt8) : Option (List (Bool × (Nat → Bool))) := parseN L.length L

theorem parseN_any (k : Nat) : ∀ (L : List UInt8) (m : Nat), L.length ≤ k → L.length ≤ m → parseN k L = parseN m L := by
  induction k with
  | zero =>
    intro L m hk hm
    have : L = [] := List.length_eq_zero_iff.1 (by omega)
    subst this
    cases m <;> rfl
  | succ k ih =>
    intro L m hk hm
    cases L with
    | nil => cases m <;> rfl
    | cons c r =>
      cases m with
      | zero => simp at hm
      | succ m =>
        unfold parseN
        cases hf : firstOf (c :: r) with
        | none => rfl
        | some pn =>
          obtain ⟨p, n⟩ := pn
          have hn := firstOf_le _ _ _ hf
          simp only
          rw [ih ((c :: r).drop n) m (by rw [List.length_drop]; simp only [List.length_cons] at *; omega) (by rw [List.length_drop]; simp only [List.length_cons] at *; omega)]

theorem parseN_cons (k : Nat) (c : UInt8) (r : List UInt8) : parseN (k + 1) (c :: r) = match firstOf (c :: r) with | none => none | some (p, n) => (parseN k ((c :: r).drop n)).map (p :: ·) := by rw [parseN]
theorem parseOf_nil : parseOf [] = some [] := rfl
theorem parseOf_bad {L : List UInt8} (h0 : L ≠ []) (h : firstOf L = none) : parseOf L = none := by
  cases L with
  | nil => exact absurd rfl h0
  | cons c r => unfold parseOf; rw [List.length_cons]; unfold parseN; rw [h]
theorem parseOf_step {L : List UInt8} {p : Bool × (Nat → Bool)} {n : Nat} (h : firstOf L = some (p, n)) : parseOf L = (parseOf (L.drop n)).map (p :: ·) := by
  cases L with
  | nil => cases h
  | cons c r =>
    have hn := firstOf_le _ _ _ h
    show parseN (r.length + 1) (c :: r) = (parseN ((c :: r).drop n).length ((c :: r).drop n)).map (p :: ·)
    rw [parseN_cons, h]
    simp only
    rw [parseN_any r.length ((c :: r).drop n) ((c :: r).drop n).length (by rw [List.length_drop]; simp only [List.length_cons] at *; omega) (Nat.le_refl _)]
end Go.Proofs.YthlalmehcpionaaDoor
