/-
  Tokens' bytes are read back, and what is read has just these bytes.
-/
import Derived.Test.YteaagmlejoiehaaTkGetAll
import Derived.Test.YteaagmlejoiehaaVintBackMath
import Derived.Test.YteaagmlejoiehaaVintOnceMath
namespace Go.Proofs.Yteaagmlejoiehaa
open Go.RowKit
set_option maxRecDepth 100000

theorem putO_right : ∀ (q : List Tk) (o : List UInt8), (∀ t ∈ q, rightT t = true) → putO o q = some (o ++ q.flatMap tokB)
  | [], o, _ => by simp [putO]
  | t :: q, o, h => by
    unfold putO
    rw [if_pos (h t List.mem_cons_self), putO_right q _ (fun a ha => h a (List.mem_cons_of_mem _ ha))]
    simp
theorem putO_none : ∀ (q : List Tk) (o : List UInt8), ¬ (∀ t ∈ q, rightT t = true) → putO o q = none
  | [], o, h => absurd (by simp) h
  | t :: q, o, h => by
    unfold putO
    by_cases ht : rightT t = true
    · rw [if_pos ht]
      refine putO_none q _ (fun hq => h ?_)
      intro a ha
      rcases List.mem_cons.1 ha with rfl | ha
      · exact ht
      · exact hq a ha
    · rw [if_neg ht]
theorem putT_right {q : List Tk} (h : ∀ t ∈ q, rightT t = true) : putT q = q.flatMap tokB := by
  unfold putT; rw [putO_right q [] h]; simp
theorem flat_len : ∀ (q : List Tk), (∀ t ∈ q, rightT t = true) → (q.flatMap tokB).length ≤ q.length * 17000
  | [], _ => by simp
  | t :: q, h => by
    have h1 := tokB_len (h t List.mem_cons_self)
    have h2 := flat_len q (fun a ha => h a (List.mem_cons_of_mem _ ha))
    rw [List.flatMap_cons, List.length_append, List.length_cons]; omega
theorem putT_len (q : List Tk) : (putT q).length ≤ q.length * 17000 := by
  by_cases h : ∀ t ∈ q, rightT t = true
  · rw [putT_right h]; exact flat_len q h
  · unfold putT; rw [putO_none q [] h]; simp

theorem readN_once (l : List UInt8) (m : Nat) (h : (readN l 0 m).2.2 = 0) : l = groupsL (readN l 0 m).1 ++ (readN l 0 m).2.1 := by
  obtain ⟨r, hr⟩ : ∃ r, r = numL l := ⟨_, rfl⟩
  obtain ⟨x, z, er⟩ := r
  unfold readN at h ⊢
  rw [← hr] at h ⊢
  rw [if_neg (by simp)] at h ⊢
  split at h
  · rename_i h1; exact absurd h h1
  · rename_i h1
    rw [if_neg h1]
    split at h
    · cases h
    · rename_i h2
      rw [if_neg h2]
      have h0 : er = 0 := by simpa using h1
      subst h0
      obtain ⟨y, e1, _, e3, _⟩ := numF_once l 0 0 x z (by decide) hr.symm
      have ey : x = y := by omega
      have e4 : groupsL x = l.take z := by rw [ey]; simpa [groupsL] using e3
      show l = groupsL x ++ l.drop z
      rw [e4, List.take_append_drop]
theorem readT_once (l : List UInt8) (e m : Nat) (h : (readT l e m).2.2 = 0) : e = 0 ∧ l = (groupsL (readT l e m).1.length ++ (readT l e m).1) ++ (readT l e m).2.1 := by
  by_cases he : e = 0
  · subst he
    refine ⟨rfl, ?_⟩
    have h1 := readN_once l m
    unfold readT textOf at h ⊢
    generalize readN l 0 m = r at h h1 ⊢
    obtain ⟨n, l1, e1⟩ := r
    simp only at h h1 ⊢
    split at h
    · rename_i h2; exact absurd h h2
    · rename_i h2
      rw [if_neg h2]
      split at h
      · cases h
      · rename_i h3
        rw [if_neg h3]
        have h4 := h1 (by simpa using h2)
        show l = (groupsL (l1.take n).length ++ l1.take n) ++ l1.drop n
        rw [List.length_take, Nat.min_eq_left (by omega), List.append_assoc, List.take_append_drop]
        exact h4
  · exfalso
    unfold readT textOf at h
    rw [readN_err _ _ _ he] at h
    simp only at h
    rw [if_pos he] at h
    exact he h
theorem readN_once' (l : List UInt8) (e m : Nat) (h : (readN l e m).2.2 = 0) : e = 0 ∧ l = groupsL (readN l e m).1 ++ (readN l e m).2.1 := by
  by_cases he : e = 0
  · subst he; exact ⟨rfl, readN_once l m h⟩
  · rw [readN_err _ _ _ he] at h; exact absurd h he
theorem readK_once (l : List UInt8) (h : (readK l).2.2 = 0) : l = tokB (readK l).1 ++ (readK l).2.1 := by
  have h1 := readN_once l 4097
  unfold readK at h ⊢
  generalize readN l 0 4097 = r at h h1 ⊢
  obtain ⟨n, l1, e1⟩ := r
  simp only at h h1 ⊢
  by_cases hn : n = 0
  · rw [if_neg (by simpa using hn)] at h ⊢
    obtain ⟨he, h2⟩ := readT_once l1 e1 16384 h
    have h3 := h1 he
    rw [tokB_lit]
    show l = (groupsL 0 ++ (groupsL (readT l1 e1 16384).1.length ++ (readT l1 e1 16384).1)) ++ (readT l1 e1 16384).2.1
    rw [hn] at h3
    rw [List.append_assoc, ← h2]
    exact h3
  · rw [if_pos hn] at h ⊢
    obtain ⟨he, h2⟩ := readN_once' l1 e1 4097 h
    have h3 := h1 he
    rw [tokB_blocks hn]
    show l = (groupsL n ++ groupsL (readN l1 e1 4097).1) ++ (readN l1 e1 4097).2.1
    rw [List.append_assoc, ← h2]
    exact h3
theorem getF_once : ∀ (f : Nat) (o : List Tk) (m : List UInt8), m.length ≤ f → (getF f o m).2 = 0 → ∃ q, (getF f o m).1 = o ++ q ∧ (∀ t ∈ q, rightT t = true) ∧ m = q.flatMap tokB
  | 0, o, m, hm, _ => ⟨[], by simp [getF], by simp, by simpa using List.eq_nil_of_length_eq_zero (by omega)⟩
  | f + 1, o, m, hm, h => by
    unfold getF at h ⊢
    by_cases h0 : m.length = 0
    · rw [if_pos h0]
      exact ⟨[], by simp, by simp, by simpa using List.eq_nil_of_length_eq_zero h0⟩
    · rw [if_neg h0] at h ⊢
      by_cases he : (readK m).2.2 = 0
      · rw [if_neg (by simpa using he)] at h ⊢
        by_cases hr : rightT (readK m).1 = true
        · rw [if_pos hr] at h ⊢
          obtain ⟨q, h1, h2, h3⟩ := getF_once f _ _ (by have := readK_less m he; omega) h
          refine ⟨(readK m).1 :: q, by rw [h1]; simp, ?_, ?_⟩
          · intro t ht
            rcases List.mem_cons.1 ht with rfl | ht
            · exact hr
            · exact h2 t ht
          · rw [List.flatMap_cons, ← h3]
            exact readK_once m he
        · rw [if_neg hr] at h; cases h
      · rw [if_pos he] at h
        exact absurd h he
theorem getT_once (l : List UInt8) (h : (getT l).2 = 0) : putT (getT l).1 = l := by
  obtain ⟨q, h1, h2, h3⟩ := getF_once l.length [] l (Nat.le_refl _) h
  show putT (getF l.length [] l).1 = l
  rw [h1, List.nil_append, putT_right h2, ← h3]

theorem size_zero {s : ByteArray} (h : s.size = 0) : s = ⟨#[]⟩ := by
  obtain ⟨⟨l⟩⟩ := s
  have : l = [] := by simpa [ByteArray.size] using h
  rw [this]
theorem readK_back (t : Tk) (r : List UInt8) (h : rightT t = true) : readK (tokB t ++ r) = (t, r, 0) := by
  rcases right_cases h with ⟨h1, h2, h3, h4⟩ | ⟨h1, h2, h3, h4⟩
  · obtain ⟨fr, many, data⟩ := t
    simp only at h1 h2 h3 h4
    subst h1 h2
    rw [tokB_lit, List.append_assoc]
    unfold readK
    rw [readN_back 0 4097 _ (by decide) (by decide)]
    simp only
    rw [if_neg (by simp), readT_back data 16384 r (by omega) (by omega)]
    rfl
  · obtain ⟨fr, many, data⟩ := t
    simp only at h1 h2 h3 h4
    obtain ⟨m, rfl⟩ : ∃ m : Nat, many = m := ⟨many.toNat, by omega⟩
    obtain ⟨f, rfl⟩ : ∃ f : Nat, fr = f := ⟨fr.toNat, by omega⟩
    rw [tokB_blocks (by omega), List.append_assoc]
    unfold readK
    rw [readN_back m 4097 _ (by omega) (by omega)]
    simp only
    rw [if_pos (by omega), readN_back f 4097 _ (by omega) (by omega)]
    rw [size_zero h4]
theorem groupsL_pos (n : Nat) : 1 ≤ (groupsL n).length := groups_pos 9 n
theorem tokB_pos (t : Tk) : 1 ≤ (tokB t).length := by
  unfold tokB
  rw [List.length_append]
  have := groupsL_pos t.many.toNat
  omega
theorem getF_back : ∀ (q : List Tk) (f : Nat) (o : List Tk), (∀ t ∈ q, rightT t = true) → (q.flatMap tokB).length ≤ f → getF f o (q.flatMap tokB) = (o ++ q, 0)
  | [], f, o, _, _ => by cases f <;> simp [getF]
  | t :: q, f, o, h, hl => by
    have h1 := h t List.mem_cons_self
    have hp := tokB_pos t
    rw [List.flatMap_cons] at hl ⊢
    rw [List.length_append] at hl
    cases f with
    | zero => omega
    | succ f =>
      unfold getF
      rw [if_neg (by rw [List.length_append]; omega), readK_back t _ h1]
      simp only
      rw [if_neg (by simp), if_pos h1, getF_back q f _ (fun a ha => h a (List.mem_cons_of_mem _ ha)) (by omega)]
      simp
theorem getT_back (q : List Tk) (h : ∀ t ∈ q, rightT t = true) : getT (putT q) = (q, 0) := by
  rw [putT_right h]
  have := getF_back q _ [] h (Nat.le_refl _)
  simpa [getT] using this
end Go.Proofs.Yteaagmlejoiehaa
