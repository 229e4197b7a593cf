/-
  What the reference's one finds in a line: its first blank, and the number behind it (plain).
-/
import Derived.Test.YtggdndmjfbiaiaaDoorJnMath
namespace Go.Proofs.YtggdndmjfbiaiaaDoor
set_option maxRecDepth 100000

theorem one_at {x : List UInt8} {a : Nat} {j n : Int} (hok : OkJ j n) (hx : x = lineJ j n) (h1 : ∀ c ∈ x.take a, c ≠ 32) (h2 : a = x.length ∨ x[a]? = some 32) : a = (wordJ j).length := by
  rw [lineJ_ok hok] at hx
  have hb : x[(wordJ j).length]? = some 32 := by rw [hx]; simp
  have hl : (wordJ j).length < x.length := (List.getElem?_eq_some_iff.1 hb).1
  rcases Nat.lt_trichotomy a (wordJ j).length with h | h | h
  · rcases h2 with h2 | h2
    · omega
    · rw [hx, List.getElem?_append_left h] at h2
      exact absurd rfl ((wordJ_plain j 32 (List.mem_of_getElem? h2)).1)
  · exact h
  · have hm : (x.take a)[(wordJ j).length]? = some 32 := by rw [List.getElem?_take_of_lt h]; exact hb
    exact absurd rfl (h1 32 (List.mem_of_getElem? hm))
theorem one_rest {x : List UInt8} {a : Nat} {j n : Int} (hok : OkJ j n) (hx : x = lineJ j n) (ha : a = (wordJ j).length) : x.drop (a + 1) = Lib.itoa n ++ [10] ∧ x.length = a + 1 + ((Lib.itoa n).length + 1) := by
  rw [lineJ_ok hok, show wordJ j ++ 32 :: (Lib.itoa n ++ [10]) = (wordJ j ++ [32]) ++ (Lib.itoa n ++ [10]) by simp] at hx
  subst ha
  constructor
  · rw [hx]
    exact List.drop_left' (by simp)
  · rw [hx]; simp; omega
/-- What stands from behind the blank to i. -/
def segJ (x : List UInt8) (a i : Nat) : List UInt8 := (x.drop (a + 1)).take (i - (a + 1))
theorem seg_start (x : List UInt8) (a : Nat) : segJ x a (a + 1) = [] := by unfold segJ; rw [Nat.sub_self, List.take_zero]
theorem seg_step {x : List UInt8} {a i : Nat} {c : UInt8} (h : a + 1 ≤ i) (hc : x[i]? = some c) : segJ x a (i + 1) = segJ x a i ++ [c] := by
  unfold segJ
  rw [show i + 1 - (a + 1) = (i - (a + 1)) + 1 by omega, List.take_add_one]
  congr 1
  rw [List.getElem?_drop, show a + 1 + (i - (a + 1)) = i by omega, hc]
  rfl
theorem one_digit {x : List UInt8} {a i : Nat} {c : UInt8} {j n : Int} (hok : OkJ j n) (hx : x = lineJ j n) (ha : a = (wordJ j).length) (h1 : a + 1 ≤ i) (h2 : i + 1 < x.length) (hc : x[i]? = some c) : 48 ≤ c.toNat ∧ c.toNat ≤ 57 := by
  obtain ⟨e, hl⟩ := one_rest hok hx ha
  have hd : (x.drop (a + 1))[i - (a + 1)]? = some c := by rw [List.getElem?_drop, show a + 1 + (i - (a + 1)) = i by omega, hc]
  rw [e, List.getElem?_append_left (by omega)] at hd
  exact itoaJ_digits hok.2.2.1 c (List.mem_of_getElem? hd)
theorem one_num {x : List UInt8} {a i : Nat} {j n : Int} (hok : OkJ j n) (hx : x = lineJ j n) (ha : a = (wordJ j).length) (h1 : a + 1 ≤ i) (h2 : x.length ≤ i + 1 ∨ a + 11 ≤ i) (h3 : i = a + 1 ∨ i + 1 ≤ x.length) : n = (valJ 0 (segJ x a i) : Nat) := by
  obtain ⟨e, hl⟩ := one_rest hok hx ha
  obtain ⟨l1, l2⟩ := itoaJ_len hok.2.2.1 hok.2.2.2
  have hi : i - (a + 1) = (Lib.itoa n).length := by omega
  have es : segJ x a i = Lib.itoa n := by
    unfold segJ
    rw [e, hi]
    exact List.take_left
  rw [es, itoaJ_val hok.2.2.1]
theorem val_bound : ∀ (l : List UInt8) (a k : Nat), (∀ c ∈ l, 48 ≤ c.toNat ∧ c.toNat ≤ 57) → a < 10 ^ k → valJ a l < 10 ^ (k + l.length)
  | [], a, k, _, h => by simpa [valJ] using h
  | c :: l, a, k, hd, h => by
    have hc := hd c List.mem_cons_self
    have := val_bound l (a * 10 + (c.toNat - 48)) (k + 1) (fun d h => hd d (List.mem_cons_of_mem _ h)) (by rw [Nat.pow_succ]; omega)
    show valJ (a * 10 + (c.toNat - 48)) l < _
    rw [List.length_cons, show k + (l.length + 1) = k + 1 + l.length by omega]
    exact this
end Go.Proofs.YtggdndmjfbiaiaaDoor
