/-
  Lines and what is read of them (plain).
-/
import Derived.Test.YtggdndmjfbiaiaaDoorJnSeq
namespace Go.Proofs.YtggdndmjfbiaiaaDoor
set_option maxRecDepth 100000

theorem lines_feed : ∀ (x y : List UInt8), (∀ c ∈ x, c ≠ 10) → linesL (x ++ 10 :: y) = (x ++ [10]) :: linesL y
  | [], y, _ => rfl
  | c :: x, y, h => by
    have hc : (c == 10) = false := by simpa using h c List.mem_cons_self
    rw [List.cons_append, linesL.eq_def]
    simp only [hc, Bool.false_eq_true, if_false]
    rw [lines_feed x y (fun d hd => h d (List.mem_cons_of_mem _ hd))]
    rfl
theorem lines_bare : ∀ (x : List UInt8), (∀ c ∈ x, c ≠ 10) → x ≠ [] → linesL x = [x]
  | [], _, h => absurd rfl h
  | c :: x, h, _ => by
    have hc : (c == 10) = false := by simpa using h c List.mem_cons_self
    rw [linesL.eq_def]
    simp only [hc, Bool.false_eq_true, if_false]
    cases x with
    | nil => rfl
    | cons d r => rw [lines_bare (d :: r) (fun e he => h e (List.mem_cons_of_mem _ he)) (by simp)]
/-- Of what has no line feed nothing is read. -/
theorem read_bare {x : List UInt8} (h : ∀ c ∈ x, c ≠ 10) : readJ (linesL x) = [] := by
  by_cases hx : x = []
  · subst hx; rfl
  · rw [lines_bare x h hx, readJ_no (recJ_last (fun e => by
      have := List.mem_of_getLast? e
      exact h 10 this rfl))]
theorem line_plain {k n : Int} (h : OkJ k n) : ∃ x, lineJ k n = x ++ [10] ∧ ∀ c ∈ x, c ≠ 10 := by
  refine ⟨wordJ k ++ 32 :: Lib.itoa n, by rw [lineJ_ok h]; simp, fun c hc => ?_⟩
  rcases List.mem_append.1 hc with hc | hc
  · exact (wordJ_plain k c hc).2
  · rcases List.mem_cons.1 hc with rfl | hc
    · decide
    · have := itoaJ_digits h.2.2.1 c hc
      intro e
      rw [e] at this
      have h10 : (10 : UInt8).toNat = 10 := rfl
      omega
/-- A record's line, and what stands behind it. -/
theorem read_line {k n : Int} (h : OkJ k n) (y : List UInt8) : readJ (linesL (lineJ k n ++ y)) = (k, n) :: readJ (linesL y) := by
  obtain ⟨x, hx, hp⟩ := line_plain h
  rw [show lineJ k n ++ y = x ++ 10 :: y by rw [hx]; simp, lines_feed x y hp, ← hx, readJ_yes (recJ_line h)]
/-- Of a front of a text the first ones are read. -/
theorem read_front : ∀ (n : Nat) (s : List UInt8) (k : Nat), s.length ≤ n → readJ (linesL (s.take k)) <+: readJ (linesL s) := by
  intro n
  induction n with
  | zero =>
    intro s k hs
    have : s = [] := List.length_eq_zero_iff.1 (by omega)
    subst this
    simp
  | succ n ih =>
    intro s k hs
    by_cases hb : ∀ c ∈ s, c ≠ 10
    · rw [read_bare (fun c hc => hb c (List.mem_of_mem_take hc))]
      exact List.nil_prefix
    · obtain ⟨x, y, rfl, hx⟩ : ∃ x y, s = x ++ 10 :: y ∧ ∀ c ∈ x, c ≠ 10 := by
        clear ih hs
        induction s with
        | nil => exact absurd (fun c hc => by cases hc) hb
        | cons c r ihr =>
          by_cases hc : c = 10
          · exact ⟨[], r, by rw [hc]; rfl, fun _ h => by cases h⟩
          · obtain ⟨x, y, e, h⟩ := ihr (fun hr => hb (fun d hd => by
              rcases List.mem_cons.1 hd with rfl | hd
              · exact hc
              · exact hr d hd))
            exact ⟨c :: x, y, by rw [e]; rfl, fun d hd => by
              rcases List.mem_cons.1 hd with rfl | hd
              · exact hc
              · exact h d hd⟩
      rw [lines_feed x y hx]
      by_cases hk : k ≤ x.length
      · rw [List.take_append_of_le_length hk, read_bare (fun c hc => hx c (List.mem_of_mem_take hc))]
        exact List.nil_prefix
      · have e : (x ++ 10 :: y).take k = x ++ 10 :: y.take (k - x.length - 1) := by
          rw [List.take_append, List.take_of_length_le (by omega)]
          congr 1
          rw [show k - x.length = (k - x.length - 1) + 1 by omega]
          rfl
        rw [e, lines_feed x _ hx]
        cases hr : recJ (x ++ [10]) with
        | none => rw [readJ_no hr]; exact List.nil_prefix
        | some p =>
          rw [readJ_yes hr, readJ_yes hr]
          obtain ⟨t, ht⟩ := ih y (k - x.length - 1) (by simp at hs; omega)
          exact ⟨t, by rw [← ht]; rfl⟩
end Go.Proofs.YtggdndmjfbiaiaaDoor
