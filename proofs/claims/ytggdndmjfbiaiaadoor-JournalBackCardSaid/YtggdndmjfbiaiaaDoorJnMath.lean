/-
  Records' lines, over plain lists of bytes: a number's digits, read back; which record a line is of.
-/
import Derived.Lib.ItoaNum
import Derived.Lib.AtoiAll
namespace Go.Proofs.YtggdndmjfbiaiaaDoor
set_option maxRecDepth 100000

/-- A kind's word. -/
def wordJ (k : Int) : List UInt8 := if k = 1 then [115, 116, 97, 114, 116] else if k = 2 then [112, 108, 97, 110] else if k = 3 then [100, 105, 100] else if k = 4 then [101, 110, 100] else []
/-- Which records have a line. -/
def OkJ (k n : Int) : Prop := 1 ≤ k ∧ k ≤ 4 ∧ 0 ≤ n ∧ n ≤ 2147483647
instance (k n : Int) : Decidable (OkJ k n) := by unfold OkJ; exact inferInstance
/-- A record's line; nothing, if it has none. -/
def lineJ (k n : Int) : List UInt8 := if OkJ k n then wordJ k ++ 32 :: (Lib.itoa n ++ [10]) else []

theorem okJ_cases {k n : Int} (h : OkJ k n) : k = 1 ∨ k = 2 ∨ k = 3 ∨ k = 4 := by unfold OkJ at h; omega
theorem wordJ_out {k : Int} (h : k < 1 ∨ 4 < k) : wordJ k = [] := by
  unfold wordJ
  simp [show ¬ k = 1 by omega, show ¬ k = 2 by omega, show ¬ k = 3 by omega, show ¬ k = 4 by omega]
theorem wordJ_ne {k : Int} (h1 : 1 ≤ k) (h4 : k ≤ 4) : wordJ k ≠ [] := by
  have : k = 1 ∨ k = 2 ∨ k = 3 ∨ k = 4 := by omega
  rcases this with rfl | rfl | rfl | rfl <;> decide
theorem wordJ_plain (k : Int) : ∀ c ∈ wordJ k, c ≠ 32 ∧ c ≠ 10 := by
  by_cases h : 1 ≤ k ∧ k ≤ 4
  · have : k = 1 ∨ k = 2 ∨ k = 3 ∨ k = 4 := by omega
    rcases this with rfl | rfl | rfl | rfl <;> decide
  · rw [wordJ_out (by omega)]; simp
theorem wordJ_len (k : Int) : (wordJ k).length ≤ 5 := by
  by_cases h : 1 ≤ k ∧ k ≤ 4
  · have : k = 1 ∨ k = 2 ∨ k = 3 ∨ k = 4 := by omega
    rcases this with rfl | rfl | rfl | rfl <;> decide
  · rw [wordJ_out (by omega)]; simp
theorem wordJ_inj {k j : Int} (h1 : 1 ≤ k) (h4 : k ≤ 4) (e : wordJ k = wordJ j) : k = j := by
  by_cases hj : 1 ≤ j ∧ j ≤ 4
  · have a : k = 1 ∨ k = 2 ∨ k = 3 ∨ k = 4 := by omega
    have b : j = 1 ∨ j = 2 ∨ j = 3 ∨ j = 4 := by omega
    rcases a with rfl | rfl | rfl | rfl <;> rcases b with rfl | rfl | rfl | rfl <;> first | rfl | (exact absurd e (by decide))
  · exact absurd (e.trans (wordJ_out (by omega))) (wordJ_ne h1 h4)

/-! ### Digits -/

theorem digit_small {u : Nat} (h : u < 10) : (UInt8.ofNat (48 + u)).toNat = 48 + u := by rw [UInt8.toNat_ofNat', Nat.mod_eq_of_lt (by omega)]
theorem dec_digits (u : Nat) : ∀ c ∈ Lib.decDigits u, 48 ≤ c.toNat ∧ c.toNat ≤ 57 := by
  induction u using Nat.strongRecOn with
  | _ u ih =>
    intro c hc
    by_cases h : u < 10
    · rw [Lib.decDigits, dif_pos h] at hc
      simp only [List.mem_singleton] at hc
      subst hc
      rw [digit_small h]; omega
    · rw [Lib.decDigits, dif_neg h] at hc
      rcases List.mem_append.1 hc with hc | hc
      · exact ih (u / 10) (by omega) c hc
      · simp only [List.mem_singleton] at hc
        subst hc
        rw [digit_small (by omega)]; omega
/-- What digits come to, behind what stood ahead of them. -/
def valJ (a : Nat) (l : List UInt8) : Nat := l.foldl (fun a c => a * 10 + (c.toNat - 48)) a
theorem val_snoc (a : Nat) (l : List UInt8) (c : UInt8) : valJ a (l ++ [c]) = valJ a l * 10 + (c.toNat - 48) := by simp [valJ]
theorem val_dec (u : Nat) : valJ 0 (Lib.decDigits u) = u := by
  induction u using Nat.strongRecOn with
  | _ u ih =>
    by_cases h : u < 10
    · rw [Lib.decDigits, dif_pos h]
      show 0 * 10 + ((UInt8.ofNat (48 + u)).toNat - 48) = u
      rw [digit_small h]; omega
    · rw [Lib.decDigits, dif_neg h, val_snoc, ih (u / 10) (by omega), digit_small (by omega)]; omega
theorem parse_snoc (c : UInt8) : ∀ (l : List UInt8) (a v : Nat), Lib.parseUint10 a l = .ok v → Lib.parseUint10 a (l ++ [c]) = Lib.parseUint10 v [c]
  | [], a, v, h => by
    simp only [Lib.parseUint10] at h
    injection h with h
    rw [h]; rfl
  | d :: l, a, v, h => by
    rw [List.cons_append]
    simp only [Lib.parseUint10] at h ⊢
    split at h
    · rename_i h1
      rw [if_pos h1]
      split at h
      · cases h
      · rename_i h2
        rw [if_neg h2]
        split at h
        · cases h
        · rename_i h3
          rw [if_neg h3]
          exact parse_snoc c l _ v h
    · cases h
theorem parse_dec (u : Nat) (hu : u ≤ 1000000000000000000) : Lib.parseUint10 0 (Lib.decDigits u) = .ok u := by
  induction u using Nat.strongRecOn with
  | _ u ih =>
    have one : ∀ a d : Nat, a ≤ 1000000000000000000 → d < 10 → Lib.parseUint10 a [UInt8.ofNat (48 + d)] = .ok (a * 10 + d) := by
      intro a d ha hd
      simp only [Lib.parseUint10, digit_small hd]
      rw [if_pos (by omega), if_neg (by omega), if_neg (by omega), show 48 + d - 48 = d from by omega]
    by_cases h : u < 10
    · rw [Lib.decDigits, dif_pos h, one 0 u (by omega) h]; simp
    · rw [Lib.decDigits, dif_neg h, parse_snoc _ _ _ _ (ih (u / 10) (by omega) (by omega)), one _ _ (by omega) (by omega)]
      congr 1; omega
theorem dec_ne (u : Nat) : Lib.decDigits u ≠ [] := by
  rw [Lib.decDigits]
  split <;> simp
theorem dec_len : ∀ (k u : Nat), u < 10 ^ (k + 1) → (Lib.decDigits u).length ≤ k + 1
  | 0, u, h => by
    rw [Lib.decDigits, dif_pos (by simpa using h)]; simp
  | k + 1, u, h => by
    by_cases h1 : u < 10
    · rw [Lib.decDigits, dif_pos h1]; simp
    · rw [Lib.decDigits, dif_neg h1]
      have := dec_len k (u / 10) (by rw [Nat.pow_succ] at h; omega)
      simp; omega
theorem itoa_dec {n : Int} (h : 0 ≤ n) : Lib.itoa n = Lib.decDigits n.toNat := by unfold Lib.itoa; rw [if_neg (by omega)]
/-- The number that a text is taken as. -/
def atoiJ (l : List UInt8) : Int := match Lib.atoiAll l with
  | .ok v => v
  | .range => Lib.atoiSat l
  | _ => 0
theorem itoaJ_back {n : Int} (h0 : 0 ≤ n) (h1 : n ≤ 2147483647) : atoiJ (Lib.itoa n) = n := by
  rw [itoa_dec h0]
  obtain ⟨u, rfl⟩ : ∃ u : Nat, n = u := ⟨n.toNat, by omega⟩
  simp only [Int.toNat_natCast]
  have hp := parse_dec u (by omega)
  have hd := dec_digits u
  have hne := dec_ne u
  have hall : Lib.atoiAll (Lib.decDigits u) = .ok (u : Int) := by
    cases hx : Lib.decDigits u with
    | nil => exact absurd hx hne
    | cons c r =>
      have hc := hd c (by rw [hx]; exact List.mem_cons_self)
      rw [hx] at hp
      unfold Lib.atoiAll Lib.parseMag
      simp only [show ¬ c.toNat = 43 by omega, show ¬ c.toNat = 45 by omega, or_self, if_false]
      rw [if_neg (by simp), hp]
      simp only [not_false_eq_true, true_and, false_and, if_false]
      rw [if_neg (by omega)]
  unfold atoiJ
  rw [hall]
theorem itoaJ_digits {n : Int} (h : 0 ≤ n) : ∀ c ∈ Lib.itoa n, 48 ≤ c.toNat ∧ c.toNat ≤ 57 := by rw [itoa_dec h]; exact dec_digits _
theorem itoaJ_len {n : Int} (h0 : 0 ≤ n) (h1 : n ≤ 2147483647) : 1 ≤ (Lib.itoa n).length ∧ (Lib.itoa n).length ≤ 10 := by
  rw [itoa_dec h0]
  exact ⟨List.length_pos_iff.2 (dec_ne _), dec_len 9 _ (by omega)⟩
theorem itoaJ_val {n : Int} (h : 0 ≤ n) : ((valJ 0 (Lib.itoa n) : Nat) : Int) = n := by rw [itoa_dec h, val_dec]; omega

/-! ### Lines -/

theorem lineJ_ok {k n : Int} (h : OkJ k n) : lineJ k n = wordJ k ++ 32 :: (Lib.itoa n ++ [10]) := by unfold lineJ; rw [if_pos h]
theorem lineJ_no {k n : Int} (h : ¬ OkJ k n) : lineJ k n = [] := by unfold lineJ; rw [if_neg h]
theorem lineJ_ne {k n : Int} : lineJ k n ≠ [] ↔ OkJ k n := by
  by_cases h : OkJ k n
  · rw [lineJ_ok h]; simp [h]
  · rw [lineJ_no h]; simp [h]
theorem lineJ_len (k n : Int) : (lineJ k n).length ≤ 17 := by
  by_cases h : OkJ k n
  · rw [lineJ_ok h]
    have h1 := wordJ_len k
    have h2 := (itoaJ_len h.2.2.1 h.2.2.2).2
    simp; omega
  · rw [lineJ_no h]; simp
theorem split_at_blank : ∀ (a b : List UInt8) (x y : List UInt8), (∀ c ∈ a, c ≠ 32) → (∀ c ∈ b, c ≠ 32) → a ++ 32 :: x = b ++ 32 :: y → a = b ∧ x = y
  | [], [], x, y, _, _, h => ⟨rfl, by simpa using h⟩
  | [], d :: b, x, y, _, hb, h => by
    simp only [List.nil_append, List.cons_append, List.cons.injEq] at h
    exact absurd h.1.symm (hb d List.mem_cons_self)
  | c :: a, [], x, y, ha, _, h => by
    simp only [List.nil_append, List.cons_append, List.cons.injEq] at h
    exact absurd h.1 (ha c List.mem_cons_self)
  | c :: a, d :: b, x, y, ha, hb, h => by
    simp only [List.cons_append, List.cons.injEq] at h
    obtain ⟨h1, h2⟩ := split_at_blank a b x y (fun e he => ha e (List.mem_cons_of_mem _ he)) (fun e he => hb e (List.mem_cons_of_mem _ he)) h.2
    exact ⟨by rw [h.1, h1], h2⟩
theorem lineJ_inj {k n j m : Int} (h : OkJ k n) (e : lineJ k n = lineJ j m) : k = j ∧ n = m := by
  have hj : OkJ j m := lineJ_ne.1 (by rw [← e]; exact lineJ_ne.2 h)
  rw [lineJ_ok h, lineJ_ok hj] at e
  obtain ⟨h1, h2⟩ := split_at_blank _ _ _ _ (fun c hc => (wordJ_plain k c hc).1) (fun c hc => (wordJ_plain j c hc).1) e
  refine ⟨wordJ_inj h.1 h.2.1 h1, ?_⟩
  have h3 := List.append_cancel_right h2
  rw [← itoaJ_val h.2.2.1, ← itoaJ_val hj.2.2.1, h3]
/-! ### What a line begins with -/

/-- Does a line begin with a kind's word and a blank? -/
def preJ (k : Int) : List UInt8 := wordJ k ++ [32]
/-- Without a line feed at its end. -/
def trimJ (l : List UInt8) : List UInt8 := if l.getLast? = some 10 then l.dropLast else l
/-- The number that would stand in a line of a kind. -/
def numJ (k : Int) (x : List UInt8) : Int := atoiJ (trimJ (x.drop (preJ k).length))
theorem pre_line {k n : Int} (h : OkJ k n) : preJ k <+: lineJ k n := ⟨Lib.itoa n ++ [10], by rw [lineJ_ok h, preJ]; simp⟩
theorem num_line {k n : Int} (h : OkJ k n) : numJ k (lineJ k n) = n := by
  have e : (lineJ k n).drop (preJ k).length = Lib.itoa n ++ [10] := by
    rw [lineJ_ok h, show wordJ k ++ 32 :: (Lib.itoa n ++ [10]) = preJ k ++ (Lib.itoa n ++ [10]) by simp [preJ]]
    exact List.drop_left
  unfold numJ
  rw [e]
  have e2 : trimJ (Lib.itoa n ++ [10]) = Lib.itoa n := by
    unfold trimJ
    rw [if_pos (by simp)]
    simp
  rw [e2, itoaJ_back h.2.2.1 h.2.2.2]
/-- Is a line of a kind? -/
def isJ (k : Int) (x : List UInt8) : Bool := decide (OkJ k (numJ k x)) && decide (lineJ k (numJ k x) = x)
theorem is_line {k n : Int} (h : OkJ k n) : isJ k (lineJ k n) = true := by unfold isJ; rw [num_line h]; simp [h]
theorem is_some {k : Int} {x : List UInt8} (h : isJ k x = true) : OkJ k (numJ k x) ∧ x = lineJ k (numJ k x) := by
  unfold isJ at h
  simp only [Bool.and_eq_true, decide_eq_true_eq] at h
  exact ⟨h.1, h.2.symm⟩
/-- The record of a line, if it is one's. -/
def recJ (x : List UInt8) : Option (Int × Int) := if isJ 1 x then some (1, numJ 1 x) else if isJ 2 x then some (2, numJ 2 x) else if isJ 3 x then some (3, numJ 3 x) else if isJ 4 x then some (4, numJ 4 x) else none
theorem recJ_some {x : List UInt8} {p : Int × Int} (h : recJ x = some p) : OkJ p.1 p.2 ∧ x = lineJ p.1 p.2 := by
  unfold recJ at h
  split at h
  · rename_i h1; injection h with h; subst h; exact is_some h1
  · split at h
    · rename_i h1; injection h with h; subst h; exact is_some h1
    · split at h
      · rename_i h1; injection h with h; subst h; exact is_some h1
      · split at h
        · rename_i h1; injection h with h; subst h; exact is_some h1
        · cases h
theorem recJ_line {k n : Int} (h : OkJ k n) : recJ (lineJ k n) = some (k, n) := by
  cases hx : recJ (lineJ k n) with
  | some p =>
    obtain ⟨h1, h2⟩ := lineJ_inj h (recJ_some hx).2
    rw [h1, h2]
  | none =>
    have hi := is_line h
    unfold recJ at hx
    rcases okJ_cases h with rfl | rfl | rfl | rfl
    all_goals
      rw [hi] at hx
      simp only [if_true] at hx
      (repeat' split at hx) <;> cases hx
theorem recJ_none {x : List UInt8} (h : ∀ k n, OkJ k n → x ≠ lineJ k n) : recJ x = none := by
  cases hx : recJ x with
  | none => rfl
  | some p => exact absurd (recJ_some hx).2 (h _ _ (recJ_some hx).1)
theorem recJ_last {x : List UInt8} (h : x.getLast? ≠ some 10) : recJ x = none :=
  recJ_none fun k n hk e => h (by rw [e, lineJ_ok hk, show wordJ k ++ 32 :: (Lib.itoa n ++ [10]) = (wordJ k ++ 32 :: Lib.itoa n) ++ [10] by simp, List.getLast?_concat])
/-- The records of lines, as long as each is one's. -/
def readJ : List (List UInt8) → List (Int × Int)
  | [] => []
  | x :: t => match recJ x with
    | none => []
    | some p => p :: readJ t
theorem readJ_no {x : List UInt8} {t : List (List UInt8)} (h : recJ x = none) : readJ (x :: t) = [] := by simp only [readJ, h]
theorem readJ_yes {x : List UInt8} {t : List (List UInt8)} {p : Int × Int} (h : recJ x = some p) : readJ (x :: t) = p :: readJ t := by simp only [readJ, h]

/-- A line that doesn't begin so, or that another one is of, is no line of this kind. -/
theorem no_kind {k : Int} {x : List UInt8} (h : ¬ preJ k <+: x ∨ lineJ k (numJ k x) ≠ x) : ∀ n, OkJ k n → x ≠ lineJ k n := by
  rintro n hk rfl
  rcases h with h | h
  · exact h (pre_line hk)
  · rw [num_line hk] at h; exact h rfl
theorem not_below {x : List UInt8} {i : Int} (h : ∀ k n, OkJ k n → x = lineJ k n → i ≤ k) (hi : ∀ n, OkJ i n → x ≠ lineJ i n) : ∀ k n, OkJ k n → x = lineJ k n → i + 1 ≤ k := by
  intro k n hk e
  have h1 := h k n hk e
  rcases Int.lt_or_le i k with h2 | h2
  · omega
  · have : k = i := by omega
    subst this
    exact absurd e (hi n hk)
theorem rec_out {x : List UInt8} (h : ∀ k n, OkJ k n → x = lineJ k n → 5 ≤ k) : recJ x = none :=
  recJ_none fun k n hk e => by have h1 := h k n hk e; have h2 := hk.2.1; omega
end Go.Proofs.YtggdndmjfbiaiaaDoor
