/-
  Edits' words and lines, over plain lists of bytes.
-/
import Derived.Lib.ItoaNum
import Derived.Lib.AtoiAll
import Derived.Lib.Join
import Derived.Lib.IndexLaws
namespace Go.Proofs.YtlohoamhgioheaaDoor
set_option maxRecDepth 100000

/-- A kind's word. -/
def wordL (k : Int) : List UInt8 :=
  if k = 1 then [99, 111, 112, 121] else if k = 2 then [100, 101, 108, 116, 97] else if k = 3 then [102, 101, 116, 99, 104] else if k = 4 then [108, 105, 110, 107] else if k = 5 then [115, 116, 111, 119] else
  if k = 6 then [109, 111, 118, 101] else if k = 7 then [109, 107, 100, 105, 114] else if k = 8 then [114, 101, 109, 111, 118, 101] else if k = 9 then [109, 101, 116, 97] else []
/-- The kind of a word; 0 of others. -/
def kindL (w : List UInt8) : Int :=
  if w = [99, 111, 112, 121] then 1 else if w = [100, 101, 108, 116, 97] then 2 else if w = [102, 101, 116, 99, 104] then 3 else if w = [108, 105, 110, 107] then 4 else if w = [115, 116, 111, 119] then 5 else
  if w = [109, 111, 118, 101] then 6 else if w = [109, 107, 100, 105, 114] then 7 else if w = [114, 101, 109, 111, 118, 101] then 8 else if w = [109, 101, 116, 97] then 9 else 0
/-- Which kinds have which fields. -/
def hasF (k : Int) : Bool := k == 1 || k == 2 || k == 5 || k == 6 || k == 8
def hasT (k : Int) : Bool := k == 1 || k == 2 || k == 3 || k == 4 || k == 5 || k == 6 || k == 7 || k == 9
def hasN (k : Int) : Bool := k == 2 || k == 3 || k == 4 || k == 9
theorem kinds_cases {k : Int} (h : wordL k ≠ []) : k = 1 ∨ k = 2 ∨ k = 3 ∨ k = 4 ∨ k = 5 ∨ k = 6 ∨ k = 7 ∨ k = 8 ∨ k = 9 := by
  by_cases h1 : 1 ≤ k
  · by_cases h2 : k ≤ 9
    · omega
    · exact absurd (by unfold wordL; simp [show ¬ k = 1 by omega, show ¬ k = 2 by omega, show ¬ k = 3 by omega, show ¬ k = 4 by omega, show ¬ k = 5 by omega, show ¬ k = 6 by omega, show ¬ k = 7 by omega, show ¬ k = 8 by omega, show ¬ k = 9 by omega]) h
  · exact absurd (by unfold wordL; simp [show ¬ k = 1 by omega, show ¬ k = 2 by omega, show ¬ k = 3 by omega, show ¬ k = 4 by omega, show ¬ k = 5 by omega, show ¬ k = 6 by omega, show ¬ k = 7 by omega, show ¬ k = 8 by omega, show ¬ k = 9 by omega]) h
theorem word_out {k : Int} (h : k < 1 ∨ 9 < k) : wordL k = [] := by
  by_cases h0 : wordL k = []
  · exact h0
  · rcases kinds_cases h0 with rfl | rfl | rfl | rfl | rfl | rfl | rfl | rfl | rfl <;> omega
theorem word_ne {k : Int} (h1 : 1 ≤ k) (h9 : k ≤ 9) : wordL k ≠ [] := by
  have : k = 1 ∨ k = 2 ∨ k = 3 ∨ k = 4 ∨ k = 5 ∨ k = 6 ∨ k = 7 ∨ k = 8 ∨ k = 9 := by omega
  rcases this with rfl | rfl | rfl | rfl | rfl | rfl | rfl | rfl | rfl <;> decide
theorem kind_word {k : Int} (h : wordL k ≠ []) : kindL (wordL k) = k := by
  rcases kinds_cases h with rfl | rfl | rfl | rfl | rfl | rfl | rfl | rfl | rfl <;> decide
theorem word_blank (k : Int) : ∀ c ∈ wordL k, c ≠ 32 := by
  by_cases h : wordL k = []
  · rw [h]; simp
  · rcases kinds_cases h with rfl | rfl | rfl | rfl | rfl | rfl | rfl | rfl | rfl <;> decide
theorem word_inj {k j : Int} (h : wordL k ≠ []) (e : wordL k = wordL j) : k = j := by
  rw [← kind_word h, e, kind_word (e ▸ h)]
/-- What stands ahead of the first blank, and behind it. -/
def headW : List UInt8 → List UInt8
  | [] => []
  | c :: r => if c == 32 then [] else c :: headW r
def tailW : List UInt8 → List UInt8
  | [] => []
  | c :: r => if c == 32 then r else tailW r
theorem head_app : ∀ (x r : List UInt8), (∀ c ∈ x, c ≠ 32) → headW (x ++ 32 :: r) = x ∧ tailW (x ++ 32 :: r) = r
  | [], r, _ => ⟨rfl, rfl⟩
  | c :: x, r, h => by
    obtain ⟨h1, h2⟩ := head_app x r (fun d hd => h d (List.mem_cons_of_mem _ hd))
    have hc : (c == 32) = false := by simpa using h c List.mem_cons_self
    constructor
    · rw [List.cons_append]; unfold headW; rw [hc, h1]; rfl
    · rw [List.cons_append]; unfold tailW; rw [hc, h2]; rfl
theorem head_all : ∀ (x : List UInt8), (∀ c ∈ x, c ≠ 32) → headW x = x ∧ tailW x = []
  | [], _ => ⟨rfl, rfl⟩
  | c :: x, h => by
    obtain ⟨h1, h2⟩ := head_all x (fun d hd => h d (List.mem_cons_of_mem _ hd))
    have hc : (c == 32) = false := by simpa using h c List.mem_cons_self
    constructor
    · unfold headW; rw [hc, h1]; rfl
    · unfold tailW; rw [hc, h2]; rfl
theorem head_none : ∀ (l : List UInt8), Lib.indexByte l 32 = -1 → headW l = l ∧ tailW l = []
  | l, h => head_all l (fun c hc e => by
    obtain ⟨k, hk⟩ := List.getElem?_of_mem hc
    exact Lib.indexByte_none h k (by rw [hk, e]))
theorem head_some (l : List UInt8) (o : Nat) (h : Lib.indexByte l 32 = o) : headW l = l.take o ∧ tailW l = l.drop (o + 1) := by
  obtain ⟨h1, h2⟩ := Lib.indexByte_some h
  have hlt := (List.getElem?_eq_some_iff.1 h1).1
  have e : l = l.take o ++ 32 :: l.drop (o + 1) := by
    have h3 := (List.getElem?_eq_some_iff.1 h1).2
    rw [← h3, List.getElem_cons_drop, List.take_append_drop]
  have hb : ∀ c ∈ l.take o, c ≠ 32 := fun c hc e => by
    obtain ⟨k, hk⟩ := List.getElem?_of_mem hc
    have hk' := (List.getElem?_eq_some_iff.1 hk).1
    rw [List.length_take] at hk'
    rw [List.getElem?_take_of_lt (by omega)] at hk
    exact h2 k (by omega) (by rw [hk, e])
  have := head_app (l.take o) (l.drop (o + 1)) hb
  rw [← e] at this
  exact this
theorem head_len : ∀ l : List UInt8, (headW l).length ≤ l.length ∧ (tailW l).length ≤ l.length
  | [] => ⟨Nat.le_refl _, Nat.le_refl _⟩
  | c :: r => by
    obtain ⟨h1, h2⟩ := head_len r
    constructor
    · unfold headW; split <;> simp <;> omega
    · unfold tailW; split <;> simp <;> omega
/-- The number that a text is taken as. -/
def atoiN (l : List UInt8) : Int := match Lib.atoiAll l with
  | .ok v => v
  | .range => Lib.atoiSat l
  | _ => 0
theorem digits_all : ∀ n < 512, atoiN (Lib.itoa (n : Nat)) = (n : Nat) ∧ (∀ c ∈ Lib.itoa (n : Nat), c ≠ 32) ∧ (Lib.itoa (n : Nat)).length ≤ 3 := by decide +kernel
theorem itoa_back {n : Int} (h0 : 0 ≤ n) (h1 : n ≤ 511) : atoiN (Lib.itoa n) = n ∧ (∀ c ∈ Lib.itoa n, c ≠ 32) ∧ (Lib.itoa n).length ≤ 3 := by
  obtain ⟨m, rfl⟩ : ∃ m : Nat, n = m := ⟨n.toNat, by omega⟩
  exact digits_all m (by omega)
/-- An edit. -/
structure Ed where
  k : Int
  f : List UInt8
  t : List UInt8
  n : Int
/-- An edit's fields, in the order of its line. -/
def partsE (e : Ed) : List (List UInt8) := wordL e.k :: ((if hasF e.k then [e.f] else []) ++ (if hasT e.k then [e.t] else []) ++ (if hasN e.k then [Lib.itoa e.n] else []))
/-- The edit that a line would be of. -/
def guessE (l : List UInt8) : Ed :=
  ⟨kindL (headW l), if hasF (kindL (headW l)) then headW (tailW l) else [],
    if hasT (kindL (headW l)) then headW (if hasF (kindL (headW l)) then tailW (tailW l) else tailW l) else [],
    if hasN (kindL (headW l)) then atoiN (headW (if hasT (kindL (headW l)) then tailW (if hasF (kindL (headW l)) then tailW (tailW l) else tailW l) else (if hasF (kindL (headW l)) then tailW (tailW l) else tailW l))) else 0⟩
/-- What holds of right edits, as far as reading them goes. -/
structure Okay (e : Ed) : Prop where
  w : wordL e.k ≠ []
  f : ∀ c ∈ e.f, c ≠ 32
  t : ∀ c ∈ e.t, c ≠ 32
  nf : hasF e.k = false → e.f = []
  nt : hasT e.k = false → e.t = []
  nn : hasN e.k = false → e.n = 0
  n0 : 0 ≤ e.n
  n1 : e.n ≤ 511
theorem parts_two (w x : List UInt8) : Lib.join [w, x] [32] = w ++ 32 :: x := by rw [Lib.join_cons]; simp [Lib.joinTail]
theorem parts_three (w x y : List UInt8) : Lib.join [w, x, y] [32] = w ++ 32 :: (x ++ 32 :: y) := by rw [Lib.join_cons]; simp [Lib.joinTail]
theorem parts_four (w x y z : List UInt8) : Lib.join [w, x, y, z] [32] = w ++ 32 :: (x ++ 32 :: (y ++ 32 :: z)) := by rw [Lib.join_cons]; simp [Lib.joinTail]
theorem guess_line {e : Ed} (h : Okay e) : guessE (Lib.join (partsE e) [32]) = e := by
  obtain ⟨k, f, t, n⟩ := e
  obtain ⟨hw, hf, ht, nf, nt, nn, n0, n1⟩ := h
  obtain ⟨hb, hn, _⟩ := itoa_back n0 n1
  have hwb := word_blank k
  have hk := kind_word hw
  simp only at hw hf ht nf nt nn n0 n1 hb hn hk
  have hF : ∀ r, headW (f ++ 32 :: r) = f ∧ tailW (f ++ 32 :: r) = r := fun r => head_app f r hf
  have hT : ∀ r, headW (t ++ 32 :: r) = t ∧ tailW (t ++ 32 :: r) = r := fun r => head_app t r ht
  have hW : ∀ r, headW (wordL k ++ 32 :: r) = wordL k ∧ tailW (wordL k ++ 32 :: r) = r := fun r => head_app _ r hwb
  have hN := head_all _ hn
  have hF2 := head_all _ hf
  have hT2 := head_all _ ht
  unfold partsE
  simp only
  generalize hWd : wordL k = W at *
  rcases kinds_cases (by rw [hWd]; exact hw) with rfl | rfl | rfl | rfl | rfl | rfl | rfl | rfl | rfl
  all_goals
    simp only [hasF, hasT, hasN] at nf nt nn ⊢
    simp at nf nt nn
    try subst nf
    try subst nt
    try subst nn
    simp [parts_two, parts_three, parts_four, guessE, hW, hk, hasF, hasT, hasN, hF, hT, hN.1, hF2.1, hT2.1, hb]
/-- A text's words, parted at each blank. -/
def wordsW : List UInt8 → List (List UInt8)
  | [] => [[]]
  | c :: r => if c == 32 then [] :: wordsW r else match wordsW r with
    | [] => [[c]]
    | h :: t => (c :: h) :: t
theorem words_app : ∀ (x r : List UInt8), (∀ c ∈ x, c ≠ 32) → wordsW (x ++ 32 :: r) = x :: wordsW r
  | [], r, _ => rfl
  | c :: x, r, h => by
    have hc : (c == 32) = false := by simpa using h c List.mem_cons_self
    rw [List.cons_append]
    conv => lhs; unfold wordsW
    rw [hc, words_app x r (fun d hd => h d (List.mem_cons_of_mem _ hd))]
    rfl
theorem words_all : ∀ (x : List UInt8), (∀ c ∈ x, c ≠ 32) → wordsW x = [x]
  | [], _ => rfl
  | c :: x, h => by
    have hc : (c == 32) = false := by simpa using h c List.mem_cons_self
    conv => lhs; unfold wordsW
    rw [hc, words_all x (fun d hd => h d (List.mem_cons_of_mem _ hd))]
    rfl
theorem words_join : ∀ (x : List UInt8) (l : List (List UInt8)), (∀ y ∈ x :: l, ∀ c ∈ y, c ≠ 32) → wordsW (Lib.join (x :: l) [32]) = x :: l
  | x, [], h => by rw [Lib.join_one]; exact words_all x (h x List.mem_cons_self)
  | x, y :: l, h => by
    have e : Lib.join (x :: y :: l) [32] = x ++ 32 :: Lib.join (y :: l) [32] := by rw [Lib.join_cons, Lib.join_cons]; simp [Lib.joinTail]
    rw [e, words_app x _ (h x List.mem_cons_self), words_join y l (fun z hz => h z (List.mem_cons_of_mem _ hz))]
theorem parts_blank {e : Ed} (h : Okay e) : ∀ y ∈ partsE e, ∀ c ∈ y, c ≠ 32 := by
  intro y hy
  unfold partsE at hy
  simp only [List.mem_cons, List.mem_append] at hy
  rcases hy with rfl | (hy | hy) | hy
  · exact word_blank _
  · split at hy
    · simp at hy; subst hy; exact h.f
    · cases hy
  · split at hy
    · simp at hy; subst hy; exact h.t
    · cases hy
  · split at hy
    · simp at hy; subst hy; exact (itoa_back h.n0 h.n1).2.1
    · cases hy
theorem words_line {e : Ed} (h : Okay e) : wordsW (Lib.join (partsE e) [32]) = partsE e := words_join _ _ (parts_blank h)
end Go.Proofs.YtlohoamhgioheaaDoor
