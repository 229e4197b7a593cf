/-
  Lines and rules, back and forth.
-/
import Derived.Test.YthlalmehcpionaaDoorRefParseR
import Derived.Test.YthlalmehcpionaaDoorRefSameR
import Derived.Test.YthlalmehcpionaaDoorRuleText
namespace Go.Proofs.YthlalmehcpionaaDoor
open Go.RowKit
set_option maxRecDepth 100000

theorem toL_inj2 {a b : ByteArray} (h : toL a = toL b) : a = b := by
  unfold toL at h
  apply ByteArray.ext
  exact Array.ext' h
theorem rulesL_inj : ∀ {a b : List (Bool × ByteArray)}, rulesL a = rulesL b → a = b
  | [], [], _ => rfl
  | [], _ :: _, h => by simp [rulesL] at h
  | _ :: _, [], h => by simp [rulesL] at h
  | (k, x) :: a, (m, y) :: b, h => by
    have h1 : (k, toL x) :: rulesL a = (m, toL y) :: rulesL b := h
    injection h1 with h2 h3
    injection h2 with h4 h5
    rw [h4, toL_inj2 h5, rulesL_inj h3]
theorem lines_flat (l : List UInt8) : (linesL l).flatten = l := by
  induction l with
  | nil => rfl
  | cons c r ih =>
    unfold linesL
    split
    · rename_i h
      have e : c = 10 := by simpa using h
      rw [e]
      simp [ih]
    · cases hl : linesL r with
      | nil => rw [hl] at ih; simp at ih; subst ih; rfl
      | cons h t => rw [hl] at ih; simp at ih ⊢; exact ih
theorem line_one {x : List UInt8} (h : oneE x = 0) : lineL (oneR x) = x := by
  by_cases hc : x.getLast? = some 10 ∧ 3 ≤ x.length ∧ (x[0]? = some 43 ∨ x[0]? = some 45) ∧ x[1]? = some 32
  · obtain ⟨h1, h2, h3, h4⟩ := hc
    match x, h2, h3, h4, h1 with
    | a :: b :: r, h2, h3, h4, h1 =>
      have hr : r ≠ [] := fun e => by subst e; simp at h2
      have e4 : b = 32 := by simpa using h4
      have e3 : a = 43 ∨ a = 45 := by simpa using h3
      have e1 : r.getLast? = some 10 := by
        cases r with
        | nil => exact absurd rfl hr
        | cons c t => simpa using h1
      have e5 : r.dropLast ++ [10] = r := by
        have h6 := List.dropLast_concat_getLast hr
        rw [List.getLast?_eq_some_getLast hr] at e1
        injection e1 with e1
        rw [e1] at h6
        exact h6
      have e6 : (a :: b :: r).dropLast.drop 2 = r.dropLast := by
        cases r with
        | nil => exact absurd rfl hr
        | cons c t => rfl
      subst e4
      unfold lineL oneR
      simp only [e6, e5]
      rcases e3 with rfl | rfl <;> rfl
  · rw [oneE_bad hc] at h; cases h
theorem parse_all : ∀ (k : Nat) (T : List (List UInt8)), (parseE k T).2 = 0 → ∀ x ∈ T, oneE x = 0
  | _, [], _, x, hx => by cases hx
  | k, y :: t, h, x, hx => by
    by_cases hk : k = 16
    · rw [parse_full hk] at h; cases h
    · by_cases hy : oneE y = 0
      · rw [parse_good hk hy] at h
        rcases List.mem_cons.1 hx with rfl | hx
        · exact hy
        · exact parse_all _ t h x hx
      · rw [parse_bad hk hy] at h
        exact absurd h hy
theorem texts_back {S : List UInt8} (h : (parseE 0 (linesL S)).2 = 0) : textsL ((linesL S).map oneR) = S := by
  have h1 := parse_all 0 _ h
  have h2 : ∀ T : List (List UInt8), (∀ x ∈ T, oneE x = 0) → textsL (T.map oneR) = T.flatten := by
    intro T hT
    induction T with
    | nil => rfl
    | cons x t ih =>
      show lineL (oneR x) ++ textsL (t.map oneR) = x ++ t.flatten
      rw [line_one (hT x (by simp)), ih (fun y hy => hT y (by simp [hy]))]
  rw [h2 _ h1, lines_flat]
/-- Is there a line feed in it? -/
def feedL (p : List UInt8) : Bool := p.any (· == 10)
theorem lines_line : ∀ (u rest : List UInt8), feedL u = false → linesL (u ++ 10 :: rest) = (u ++ [10]) :: linesL rest
  | [], rest, _ => by simp [linesL]
  | c :: u, rest, h => by
    unfold feedL at h
    rw [List.any_cons, Bool.or_eq_false_iff] at h
    have ih := lines_line u rest h.2
    rw [List.cons_append, linesL.eq_def]
    simp only [h.1, ih]
    rfl
theorem line_head (r : Bool × List UInt8) : lineL r = ((if r.1 then 43 else 45) :: 32 :: r.2) ++ [10] := by unfold lineL; simp
theorem lines_texts : ∀ L : List (Bool × List UInt8), (L.any fun r => feedL r.2) = false → linesL (textsL L) = L.map lineL
  | [], _ => rfl
  | r :: t, h => by
    rw [List.any_cons, Bool.or_eq_false_iff] at h
    have ih := lines_texts t h.2
    show linesL (lineL r ++ textsL t) = lineL r :: t.map lineL
    have e : lineL r ++ textsL t = ((if r.1 then 43 else 45) :: 32 :: r.2) ++ 10 :: textsL t := by rw [line_head]; simp
    have hf : feedL ((if r.1 then 43 else 45) :: 32 :: r.2) = false := by
      unfold feedL at h ⊢
      rw [List.any_cons, List.any_cons, h.1]
      cases r.1 <;> rfl
    rw [e, lines_line _ _ hf, ← line_head, ih]
theorem one_line (r : Bool × List UInt8) : oneE (lineL r) = checkL r.2 ∧ oneR (lineL r) = r := by
  have hl : lineL r = ((if r.1 then 43 else 45) :: 32 :: r.2) ++ [10] := line_head r
  have hd : (lineL r).dropLast.drop 2 = r.2 := by rw [hl, List.dropLast_concat]; rfl
  have h0 : (lineL r)[0]? = some (if r.1 then 43 else 45) := rfl
  constructor
  · rw [oneE_ok ⟨by rw [hl, List.getLast?_concat], by rw [hl]; simp, by rw [h0]; cases r.1 <;> simp, rfl⟩, hd]
  · unfold oneR
    rw [hd, h0]
    obtain ⟨a, b⟩ := r
    cases a <;> rfl
theorem bad_none : ∀ L : List (Bool × List UInt8), firstBad L = 0 → ∀ r ∈ L, checkL r.2 = 0
  | [], _, r, hr => by cases hr
  | q :: t, h, r, hr => by
    unfold firstBad at h
    split at h
    · rename_i hq
      rcases List.mem_cons.1 hr with rfl | hr
      · exact hq
      · exact bad_none t h r hr
    · rename_i hq; exact absurd h hq
theorem parse_lines : ∀ (L : List (Bool × List UInt8)) (k : Nat), (∀ r ∈ L, checkL r.2 = 0) → k + L.length ≤ 16 → parseE k (L.map lineL) = (0, 0)
  | [], _, _, _ => rfl
  | r :: t, k, h, hk => by
    simp at hk
    show parseE k (lineL r :: t.map lineL) = (0, 0)
    rw [parse_good (by omega) (by rw [(one_line r).1]; exact h r (by simp)), parse_lines t (k + 1) (fun q hq => h q (by simp [hq])) (by omega)]
theorem parse_back {L : List (Bool × List UInt8)} (hf : (L.any fun r => feedL r.2) = false) (hc : checkAllL L = 0) : parseE 0 (linesL (textsL L)) = (0, 0) ∧ (linesL (textsL L)).map oneR = L := by
  unfold checkAllL at hc
  split at hc
  · cases hc
  · rename_i h16
    rw [lines_texts L hf]
    refine ⟨parse_lines L 0 (bad_none L hc) (by omega), ?_⟩
    rw [List.map_map]
    have : ∀ M : List (Bool × List UInt8), M.map (oneR ∘ lineL) = M := by
      intro M
      induction M with
      | nil => rfl
      | cons r t ih => rw [List.map_cons, ih]; show oneR (lineL r) :: t = _; rw [(one_line r).2]
    exact this L
theorem texts_len : ∀ l : List (Bool × ByteArray), (∀ r ∈ l, r.2.size ≤ 100) → (textsL (rulesL l)).length ≤ 103 * l.length
  | [], _ => Nat.le_refl _
  | r :: t, h => by
    have ih := texts_len t (fun q hq => h q (by simp [hq]))
    have h1 := h r (by simp)
    show (lineL (r.1, toL r.2) ++ textsL (rulesL t)).length ≤ _
    rw [List.length_append, line_len, size_toL]
    simp
    omega
theorem small_texts {l : List (Bool × ByteArray)} (h : smallL l = true) : (textsL (rulesL l)).length ≤ 2060 := by
  unfold smallL at h
  rw [Bool.and_eq_true, decide_eq_true_eq, List.all_eq_true] at h
  have h1 := texts_len l (fun r hr => of_decide_eq_true (h.2 r hr))
  omega
end Go.Proofs.YthlalmehcpionaaDoor
