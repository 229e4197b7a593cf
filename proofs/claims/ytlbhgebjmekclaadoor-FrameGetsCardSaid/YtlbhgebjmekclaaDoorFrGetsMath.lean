/-
  What was read as a frame has just these bytes.
-/
import Derived.Test.YtlbhgebjmekclaaDoorFrSmall
import Derived.Test.YtlbhgebjmekclaaDoorVintOnceMath
namespace Go.Proofs.YtlbhgebjmekclaaDoor
open Go.RowKit
set_option maxRecDepth 100000

theorem readN_bad (l : List UInt8) (e m : Nat) (h : e ≠ 0) : readN l e m = (0, l, e) := by unfold readN; rw [if_pos h]
theorem readN_just (l : List UInt8) (e m : Nat) (h : (readN l e m).2.2 = 0) : e = 0 ∧ l = groupsL (readN l e m).1 ++ (readN l e m).2.1 := by
  by_cases he : e = 0
  · subst he
    refine ⟨rfl, ?_⟩
    obtain ⟨r, hr⟩ : ∃ r, r = numL l := ⟨_, rfl⟩
    obtain ⟨x, z, er⟩ := r
    unfold readN at h ⊢
    rw [← hr] at h ⊢
    rw [if_neg (by simp)] at h ⊢
    split at h
    · rename_i h1; exact absurd h h1
    · rename_i h1
      rw [if_neg h1]
      split at h
      · cases h
      · rename_i h2
        rw [if_neg h2]
        have h0 : er = 0 := by simpa using h1
        subst h0
        obtain ⟨y, e1, _, e3, _⟩ := numF_once l 0 0 x z (by decide) hr.symm
        have ey : x = y := by omega
        have e4 : groupsL x = l.take z := by rw [ey]; simpa [groupsL] using e3
        show l = groupsL x ++ l.drop z
        rw [e4, List.take_append_drop]
  · rw [readN_bad _ _ _ he] at h; exact absurd h he
theorem readT_just (l : List UInt8) (e m : Nat) (h : (readT l e m).2.2 = 0) : (e = 0 ∧ l = (groupsL (readT l e m).1.length ++ (readT l e m).1) ++ (readT l e m).2.1) ∧ (readT l e m).1.length ≤ m := by
  have h1 := readN_just l e m
  have hm := readN_le l e m
  unfold readT textOf at h ⊢
  generalize readN l e m = r at h h1 hm ⊢
  obtain ⟨n, l1, e1⟩ := r
  simp only at h h1 hm ⊢
  split at h
  · rename_i h2; exact absurd h h2
  · rename_i h2
    rw [if_neg h2]
    split at h
    · cases h
    · rename_i h3
      rw [if_neg h3]
      obtain ⟨h4, h5⟩ := h1 (by simpa using h2)
      have h6 : (l1.take n).length = n := by rw [List.length_take]; omega
      refine ⟨⟨h4, ?_⟩, ?_⟩
      · show l = (groupsL (l1.take n).length ++ l1.take n) ++ l1.drop n
        rw [h6, List.append_assoc, List.take_append_drop]
        exact h5
      · show (l1.take n).length ≤ m
        omega

/-- What was read without an error, put again, is what was read. -/
theorem getF_once (l : List UInt8) (h : (getF l).2 = 0) : sealL (bytesF (getF l).1) = l ∧ (getF l).1.fits ∧ rightF (getF l).1 = true := by
  unfold getF at h ⊢
  by_cases ho : (openL l).2 = 0
  · rw [if_neg (by simpa using ho)] at h ⊢
    have hs : sealL (openL l).1 = l := by
      unfold openL at ho ⊢
      split at ho
      · cases ho
      · rename_i h1
        rw [if_neg h1]
        split at ho
        · rename_i h2; rw [if_pos h2]; exact h2
        · cases ho
    generalize (openL l).1 = m at h hs ⊢
    unfold wholeF at h ⊢
    by_cases he : endN (readF m).2.2 (readF m).2.1 = 0
    · rw [if_neg (by simpa using he)] at h ⊢
      simp only
      have hz : (readF m).2.2 = 0 ∧ (readF m).2.1 = [] := by
        unfold endN at he
        split at he
        · rename_i h1; exact absurd he h1
        · rename_i h1
          split at he
          · rename_i h2; exact ⟨by simpa using h1, List.eq_nil_of_length_eq_zero h2⟩
          · cases he
      clear h he ho
      unfold readF at hz ⊢
      have j1 := readN_just m 0 255
      have b1 := readN_le m 0 255
      generalize readN m 0 255 = r at hz j1 b1 ⊢
      obtain ⟨k, l1, e1⟩ := r
      unfold rd0 at hz ⊢
      simp only at hz j1 b1 ⊢
      have j2 := readN_just l1 e1 18446744073709551615
      have b2 := readN_le l1 e1 18446744073709551615
      generalize readN l1 e1 18446744073709551615 = r at hz j2 b2 ⊢
      obtain ⟨n, l2, e2⟩ := r
      unfold rd1 at hz ⊢
      simp only at hz j2 b2 ⊢
      have j3 := readN_just l2 e2 18446744073709551615
      have b3 := readN_le l2 e2 18446744073709551615
      generalize readN l2 e2 18446744073709551615 = r at hz j3 b3 ⊢
      obtain ⟨q, l3, e3⟩ := r
      unfold rd2 at hz ⊢
      simp only at hz j3 b3 ⊢
      have j4 := readT_just l3 e3 131072
      generalize readT l3 e3 131072 = r at hz j4 ⊢
      obtain ⟨t, l4, e4⟩ := r
      unfold rd3 at hz ⊢
      simp only at hz j4 ⊢
      obtain ⟨z1, z2⟩ := hz
      subst z1
      subst z2
      obtain ⟨⟨y3, k4⟩, b4⟩ := j4 rfl
      obtain ⟨y2, k3⟩ := j3 y3
      obtain ⟨y1, k2⟩ := j2 y2
      obtain ⟨_, k1⟩ := j1 y1
      have hsz : (ofL t).size = t.length := cofL_size t
      have hto : toL (ofL t) = t := by simp [toL, ofL]
      refine ⟨?_, ⟨by show n < _; omega, by show q < _; omega⟩, ?_⟩
      · have hb : bytesF ⟨(k : Nat), n, q, ofL t⟩ = m := by
          unfold bytesF numsL
          simp only
          rw [hsz, hto, k1, k2, k3, k4]
          simp
        rw [hb]
        exact hs
      · unfold rightF
        simp only [Bool.and_eq_true, decide_eq_true_eq]
        rw [hsz]
        omega
    · rw [if_pos he] at h
      exact absurd h he
  · rw [if_pos ho] at h
    exact absurd h ho
end Go.Proofs.YtlbhgebjmekclaaDoor
