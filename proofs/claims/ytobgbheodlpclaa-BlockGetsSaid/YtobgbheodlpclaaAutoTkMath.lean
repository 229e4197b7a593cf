/-
  Texts that belong together: VintBackMath, VintOnceMath, TkMath.
-/
import Derived.Test.YtobgbheodlpclaaAutoVintNil
import Derived.Test.YtobgbheodlpclaaVintSum
import Derived.Test.YtobgbheodlpclaaVintRead
import Derived.Test.YtobgbheodlpclaaTkGetAll
/-
  What was put is read as it was.
-/
namespace Go.Proofs.Ytobgbheodlpclaa
open Go.RowKit

theorem numF_back : ∀ (f k a n : Nat) (r : List UInt8), k + f = 9 → n * 128 ^ k < 18446744073709551616 → (0 < k → 0 < n) →
    numF k a (groupsF f n ++ r) = (a + n * 128 ^ k, k + (groupsF f n).length, 0)
  | 0, k, a, n, r, hk, hn, hp => by
    obtain rfl : k = 9 := by omega
    have h1 : n ≤ 1 := by
      by_cases h : n ≤ 1
      · exact h
      · have : 2 * 128 ^ 9 ≤ n * 128 ^ 9 := Nat.mul_le_mul_right _ (by omega)
        omega
    have hp := hp (by decide)
    have e : (UInt8.ofNat n).toNat = n := ofNat_small n (by omega)
    show numF 9 a (UInt8.ofNat n :: r) = (a + n * 128 ^ 9, 10, 0)
    rw [numF_good _ _ _ _ (by rw [e]; omega), e, if_pos (by omega), Nat.mod_eq_of_lt (by omega)]
  | f + 1, k, a, n, r, hk, hn, hp => by
    by_cases h : n < 128
    · have e : (UInt8.ofNat n).toNat = n := ofNat_small n (by omega)
      have eg : groupsF (f + 1) n = [UInt8.ofNat n] := by unfold groupsF; rw [if_pos h]
      rw [eg]
      show numF k a (UInt8.ofNat n :: r) = (a + n * 128 ^ k, k + 1, 0)
      rw [numF_good _ _ _ _ (by rw [e]; omega), e, if_pos h, Nat.mod_eq_of_lt h]
    · have e : (UInt8.ofNat (n % 128 + 128)).toNat = n % 128 + 128 := ofNat_small _ (by omega)
      have eg : groupsF (f + 1) n = UInt8.ofNat (n % 128 + 128) :: groupsF f (n / 128) := by conv => lhs; unfold groupsF; rw [if_neg h]
      have hpow : 128 ^ (k + 1) = 128 ^ k * 128 := Nat.pow_succ ..
      have hmul : n / 128 * 128 ^ (k + 1) = n / 128 * 128 * 128 ^ k := by rw [hpow, Nat.mul_comm (128 ^ k) 128, ← Nat.mul_assoc]
      have hle : n / 128 * 128 * 128 ^ k ≤ n * 128 ^ k := Nat.mul_le_mul_right _ (by omega)
      have ih := numF_back f (k + 1) (a + n % 128 * 128 ^ k) (n / 128) r (by omega) (by omega) (fun _ => by omega)
      have hsum : n % 128 * 128 ^ k + n / 128 * 128 * 128 ^ k = n * 128 ^ k := by
        rw [← Nat.add_mul]
        congr 1
        omega
      rw [eg, List.cons_append, numF_good _ _ _ _ (by rw [e]; omega), e, if_neg (by omega), show (n % 128 + 128) % 128 = n % 128 by omega, ih, List.length_cons]
      refine Prod.ext ?_ (Prod.ext ?_ rfl)
      · show a + n % 128 * 128 ^ k + n / 128 * 128 ^ (k + 1) = a + n * 128 ^ k
        omega
      · show k + 1 + _ = k + (_ + 1)
        omega
theorem readN_back (n m : Nat) (r : List UInt8) (hn : n < 18446744073709551616) (hm : n ≤ m) : readN (groupsL n ++ r) 0 m = (n, r, 0) := by
  have h := numF_back 9 0 0 n r rfl (by omega) (fun h => absurd h (by decide))
  have h2 : numL (groupsL n ++ r) = (n, (groupsL n).length, 0) := by
    unfold numL groupsL
    rw [h]; simp
  unfold readN
  rw [h2, if_neg (by simp), if_neg (by simp), if_neg (by show ¬ m < n; omega)]
  simp
theorem readT_back (s : ByteArray) (m : Nat) (r : List UInt8) (hn : s.size < 18446744073709551616) (hm : s.size ≤ m) : readT ((groupsL s.size ++ toL s) ++ r) 0 m = (toL s, r, 0) := by
  have hs : (toL s).length = s.size := by simp [toL]
  unfold readT
  rw [List.append_assoc, readN_back _ _ _ hn hm]
  unfold textOf
  rw [if_neg (by simp), if_neg (by simp only [List.length_append]; omega)]
  simp only
  rw [← hs, List.take_left, List.drop_left]

theorem halfF_back (n : Nat) (r : List UInt8) (hn : n < 18446744073709551616) : ∀ k, k ≤ 8 → halfF (wordL n ++ r) k = n / 256 ^ (8 - k)
  | 0, _ => by
    show 0 = n / 256 ^ 8
    rw [Nat.div_eq_of_lt]; exact hn
  | k + 1, h => by
    have ih := halfF_back n r hn k (by omega)
    show halfF (wordL n ++ r) k * 256 + ((wordL n ++ r).getD k 0).toNat = _
    have hx : (wordL n ++ r).getD k 0 = UInt8.ofNat (n / 256 ^ (7 - k) % 256) := by
      rw [List.getD_eq_getElem?_getD, List.getElem?_append_left (by rw [wordL_len]; omega)]
      unfold wordL
      rw [List.getElem?_map, List.getElem?_range (by omega)]
      rfl
    rw [ih, hx, ofNat_small _ (Nat.mod_lt _ (by decide)), show 8 - k = (7 - k) + 1 by omega, Nat.pow_succ, ← Nat.div_div_eq_div_mul, show 8 - (k + 1) = 7 - k by omega]
    omega
theorem halfN_back (n : Nat) (r : List UInt8) (hn : n < 18446744073709551616) : halfN (wordL n ++ r) = n := by
  unfold halfN
  rw [halfF_back n r hn 8 (Nat.le_refl _)]; simp
theorem readS_back (hi lo : Nat) (r : List UInt8) (h1 : hi < 18446744073709551616) (h2 : lo < 18446744073709551616) : readS ((wordL hi ++ wordL lo) ++ r) 0 = ((hi, lo), r, 0) := by
  unfold readS
  have e8 : ((wordL hi ++ wordL lo) ++ r).drop 8 = wordL lo ++ r := by
    rw [List.append_assoc, List.drop_append_of_le_length (by rw [wordL_len]; omega), List.drop_of_length_le (by rw [wordL_len]; omega)]; rfl
  have e16 : ((wordL hi ++ wordL lo) ++ r).drop 16 = r := by
    rw [show 16 = (wordL hi ++ wordL lo).length by rw [List.length_append, wordL_len, wordL_len], List.drop_left]
  rw [if_neg (by simp), if_neg (by simp only [List.length_append, wordL_len]; omega), e8, e16, List.append_assoc, halfN_back _ _ h1, halfN_back _ _ h2]
end Go.Proofs.Ytobgbheodlpclaa
/-
  A number has one encoding alone.
-/
namespace Go.Proofs.Ytobgbheodlpclaa
open Go.RowKit
set_option maxRecDepth 100000

theorem groups_mono : ∀ (f n m : Nat), n ≤ m → (groupsF f n).length ≤ (groupsF f m).length
  | 0, _, _, _ => by simp [groupsF]
  | f + 1, n, m, h => by
    by_cases hn : n < 128
    · have e : groupsF (f + 1) n = [UInt8.ofNat n] := by unfold groupsF; rw [if_pos hn]
      rw [e]
      exact groups_pos (f + 1) m
    · have e1 : groupsF (f + 1) n = UInt8.ofNat (n % 128 + 128) :: groupsF f (n / 128) := by conv => lhs; unfold groupsF; rw [if_neg hn]
      have e2 : groupsF (f + 1) m = UInt8.ofNat (m % 128 + 128) :: groupsF f (m / 128) := by conv => lhs; unfold groupsF; rw [if_neg (by omega)]
      rw [e1, e2, List.length_cons, List.length_cons]
      have := groups_mono f (n / 128) (m / 128) (Nat.div_le_div_right h)
      omega
theorem numF_once : ∀ (r : List UInt8) (i a x z : Nat), i ≤ 9 → numF i a r = (x, z, 0) → ∃ y, x = a + y * 128 ^ i ∧ i < z ∧ groupsF (9 - i) y = r.take (z - i) ∧ (0 < i → 0 < y)
  | [], i, a, x, z, _, h => by simp [numF] at h
  | c :: r, i, a, x, z, hi, h => by
    by_cases hb : (i = 9 ∧ 1 < c.toNat) ∨ (0 < i ∧ c.toNat = 0)
    · rw [numF_bad _ _ _ _ hb] at h; simp at h
    · rw [numF_good _ _ _ _ hb] at h
      have hx := c.toNat_lt
      have hof : UInt8.ofNat c.toNat = c := by simp
      by_cases hc : c.toNat < 128
      · rw [if_pos hc] at h
        simp only [Prod.mk.injEq] at h
        obtain ⟨rfl, rfl, _⟩ := h
        refine ⟨c.toNat, by rw [Nat.mod_eq_of_lt hc], by omega, ?_, by omega⟩
        rw [show i + 1 - i = 1 by omega]
        have e : groupsF (9 - i) c.toNat = [UInt8.ofNat c.toNat] := by
          cases 9 - i with
          | zero => rfl
          | succ f => unfold groupsF; rw [if_pos hc]
        rw [e, hof]; rfl
      · rw [if_neg hc] at h
        have hi9 : i ≠ 9 := by omega
        obtain ⟨y, h1, h2, h3, h4⟩ := numF_once r (i + 1) _ x z (by omega) h
        have hy := h4 (by omega)
        refine ⟨c.toNat % 128 + 128 * y, ?_, by omega, ?_, by omega⟩
        · rw [h1, Nat.pow_succ, Nat.add_mul]
          have : y * (128 ^ i * 128) = 128 * y * 128 ^ i := by rw [Nat.mul_comm (128 ^ i) 128, ← Nat.mul_assoc, Nat.mul_comm y 128]
          omega
        · obtain ⟨f, hf⟩ : ∃ f, 9 - i = f + 1 := ⟨9 - i - 1, by omega⟩
          obtain ⟨g, hg⟩ : ∃ g, z - i = g + 1 := ⟨z - i - 1, by omega⟩
          rw [hf, hg, List.take_succ_cons]
          conv => lhs; unfold groupsF
          rw [if_neg (by omega)]
          have e1 : (c.toNat % 128 + 128 * y) % 128 + 128 = c.toNat := by omega
          have e2 : (c.toNat % 128 + 128 * y) / 128 = y := by omega
          rw [e1, e2, hof, show f = 9 - (i + 1) by omega, h3, show z - (i + 1) = g by omega]
theorem numL_once (l : List UInt8) (x z : Nat) (h : numL l = (x, z, 0)) (hz : l.drop z = []) : groupsL x = l := by
  obtain ⟨y, h1, _, h3, _⟩ := numF_once l 0 0 x z (by decide) h
  have e : y = x := by rw [h1]; simp
  rw [e] at h3
  have ht : l.take z = l := by
    have := List.take_append_drop z l
    rw [hz, List.append_nil] at this
    exact this
  rw [show z - 0 = z from rfl, ht] at h3
  exact h3
end Go.Proofs.Ytobgbheodlpclaa
/-
  Tokens' bytes are read back, and what is read has just these bytes.
-/
namespace Go.Proofs.Ytobgbheodlpclaa
open Go.RowKit
set_option maxRecDepth 100000

theorem putO_right : ∀ (q : List Tk) (o : List UInt8), (∀ t ∈ q, rightT t = true) → putO o q = some (o ++ q.flatMap tokB)
  | [], o, _ => by simp [putO]
  | t :: q, o, h => by
    unfold putO
    rw [if_pos (h t List.mem_cons_self), putO_right q _ (fun a ha => h a (List.mem_cons_of_mem _ ha))]
    simp
theorem putO_none : ∀ (q : List Tk) (o : List UInt8), ¬ (∀ t ∈ q, rightT t = true) → putO o q = none
  | [], o, h => absurd (by simp) h
  | t :: q, o, h => by
    unfold putO
    by_cases ht : rightT t = true
    · rw [if_pos ht]
      refine putO_none q _ (fun hq => h ?_)
      intro a ha
      rcases List.mem_cons.1 ha with rfl | ha
      · exact ht
      · exact hq a ha
    · rw [if_neg ht]
theorem putT_right {q : List Tk} (h : ∀ t ∈ q, rightT t = true) : putT q = q.flatMap tokB := by
  unfold putT; rw [putO_right q [] h]; simp
theorem flat_len : ∀ (q : List Tk), (∀ t ∈ q, rightT t = true) → (q.flatMap tokB).length ≤ q.length * 17000
  | [], _ => by simp
  | t :: q, h => by
    have h1 := tokB_len (h t List.mem_cons_self)
    have h2 := flat_len q (fun a ha => h a (List.mem_cons_of_mem _ ha))
    rw [List.flatMap_cons, List.length_append, List.length_cons]; omega
theorem putT_len (q : List Tk) : (putT q).length ≤ q.length * 17000 := by
  by_cases h : ∀ t ∈ q, rightT t = true
  · rw [putT_right h]; exact flat_len q h
  · unfold putT; rw [putO_none q [] h]; simp

theorem readN_once (l : List UInt8) (m : Nat) (h : (readN l 0 m).2.2 = 0) : l = groupsL (readN l 0 m).1 ++ (readN l 0 m).2.1 := by
  obtain ⟨r, hr⟩ : ∃ r, r = numL l := ⟨_, rfl⟩
  obtain ⟨x, z, er⟩ := r
  unfold readN at h ⊢
  rw [← hr] at h ⊢
  rw [if_neg (by simp)] at h ⊢
  split at h
  · rename_i h1; exact absurd h h1
  · rename_i h1
    rw [if_neg h1]
    split at h
    · cases h
    · rename_i h2
      rw [if_neg h2]
      have h0 : er = 0 := by simpa using h1
      subst h0
      obtain ⟨y, e1, _, e3, _⟩ := numF_once l 0 0 x z (by decide) hr.symm
      have ey : x = y := by omega
      have e4 : groupsL x = l.take z := by rw [ey]; simpa [groupsL] using e3
      show l = groupsL x ++ l.drop z
      rw [e4, List.take_append_drop]
theorem readT_once (l : List UInt8) (e m : Nat) (h : (readT l e m).2.2 = 0) : e = 0 ∧ l = (groupsL (readT l e m).1.length ++ (readT l e m).1) ++ (readT l e m).2.1 := by
  by_cases he : e = 0
  · subst he
    refine ⟨rfl, ?_⟩
    have h1 := readN_once l m
    unfold readT textOf at h ⊢
    generalize readN l 0 m = r at h h1 ⊢
    obtain ⟨n, l1, e1⟩ := r
    simp only at h h1 ⊢
    split at h
    · rename_i h2; exact absurd h h2
    · rename_i h2
      rw [if_neg h2]
      split at h
      · cases h
      · rename_i h3
        rw [if_neg h3]
        have h4 := h1 (by simpa using h2)
        show l = (groupsL (l1.take n).length ++ l1.take n) ++ l1.drop n
        rw [List.length_take, Nat.min_eq_left (by omega), List.append_assoc, List.take_append_drop]
        exact h4
  · exfalso
    unfold readT textOf at h
    rw [readN_err _ _ _ he] at h
    simp only at h
    rw [if_pos he] at h
    exact he h
theorem readN_once' (l : List UInt8) (e m : Nat) (h : (readN l e m).2.2 = 0) : e = 0 ∧ l = groupsL (readN l e m).1 ++ (readN l e m).2.1 := by
  by_cases he : e = 0
  · subst he; exact ⟨rfl, readN_once l m h⟩
  · rw [readN_err _ _ _ he] at h; exact absurd h he
theorem readK_once (l : List UInt8) (h : (readK l).2.2 = 0) : l = tokB (readK l).1 ++ (readK l).2.1 := by
  have h1 := readN_once l 4097
  unfold readK at h ⊢
  generalize readN l 0 4097 = r at h h1 ⊢
  obtain ⟨n, l1, e1⟩ := r
  simp only at h h1 ⊢
  by_cases hn : n = 0
  · rw [if_neg (by simpa using hn)] at h ⊢
    obtain ⟨he, h2⟩ := readT_once l1 e1 16384 h
    have h3 := h1 he
    rw [tokB_lit]
    show l = (groupsL 0 ++ (groupsL (readT l1 e1 16384).1.length ++ (readT l1 e1 16384).1)) ++ (readT l1 e1 16384).2.1
    rw [hn] at h3
    rw [List.append_assoc, ← h2]
    exact h3
  · rw [if_pos hn] at h ⊢
    obtain ⟨he, h2⟩ := readN_once' l1 e1 4097 h
    have h3 := h1 he
    rw [tokB_blocks hn]
    show l = (groupsL n ++ groupsL (readN l1 e1 4097).1) ++ (readN l1 e1 4097).2.1
    rw [List.append_assoc, ← h2]
    exact h3
theorem getF_once : ∀ (f : Nat) (o : List Tk) (m : List UInt8), m.length ≤ f → (getF f o m).2 = 0 → ∃ q, (getF f o m).1 = o ++ q ∧ (∀ t ∈ q, rightT t = true) ∧ m = q.flatMap tokB
  | 0, o, m, hm, _ => ⟨[], by simp [getF], by simp, by simpa using List.eq_nil_of_length_eq_zero (by omega)⟩
  | f + 1, o, m, hm, h => by
    unfold getF at h ⊢
    by_cases h0 : m.length = 0
    · rw [if_pos h0]
      exact ⟨[], by simp, by simp, by simpa using List.eq_nil_of_length_eq_zero h0⟩
    · rw [if_neg h0] at h ⊢
      by_cases he : (readK m).2.2 = 0
      · rw [if_neg (by simpa using he)] at h ⊢
        by_cases hr : rightT (readK m).1 = true
        · rw [if_pos hr] at h ⊢
          obtain ⟨q, h1, h2, h3⟩ := getF_once f _ _ (by have := readK_less m he; omega) h
          refine ⟨(readK m).1 :: q, by rw [h1]; simp, ?_, ?_⟩
          · intro t ht
            rcases List.mem_cons.1 ht with rfl | ht
            · exact hr
            · exact h2 t ht
          · rw [List.flatMap_cons, ← h3]
            exact readK_once m he
        · rw [if_neg hr] at h; cases h
      · rw [if_pos he] at h
        exact absurd h he
theorem getT_once (l : List UInt8) (h : (getT l).2 = 0) : putT (getT l).1 = l := by
  obtain ⟨q, h1, h2, h3⟩ := getF_once l.length [] l (Nat.le_refl _) h
  show putT (getF l.length [] l).1 = l
  rw [h1, List.nil_append, putT_right h2, ← h3]

theorem size_zero {s : ByteArray} (h : s.size = 0) : s = ⟨#[]⟩ := by
  obtain ⟨⟨l⟩⟩ := s
  have : l = [] := by simpa [ByteArray.size] using h
  rw [this]
theorem readK_back (t : Tk) (r : List UInt8) (h : rightT t = true) : readK (tokB t ++ r) = (t, r, 0) := by
  rcases right_cases h with ⟨h1, h2, h3, h4⟩ | ⟨h1, h2, h3, h4⟩
  · obtain ⟨fr, many, data⟩ := t
    simp only at h1 h2 h3 h4
    subst h1 h2
    rw [tokB_lit, List.append_assoc]
    unfold readK
    rw [readN_back 0 4097 _ (by decide) (by decide)]
    simp only
    rw [if_neg (by simp), readT_back data 16384 r (by omega) (by omega)]
    rfl
  · obtain ⟨fr, many, data⟩ := t
    simp only at h1 h2 h3 h4
    obtain ⟨m, rfl⟩ : ∃ m : Nat, many = m := ⟨many.toNat, by omega⟩
    obtain ⟨f, rfl⟩ : ∃ f : Nat, fr = f := ⟨fr.toNat, by omega⟩
    rw [tokB_blocks (by omega), List.append_assoc]
    unfold readK
    rw [readN_back m 4097 _ (by omega) (by omega)]
    simp only
    rw [if_pos (by omega), readN_back f 4097 _ (by omega) (by omega)]
    rw [size_zero h4]
theorem groupsL_pos (n : Nat) : 1 ≤ (groupsL n).length := groups_pos 9 n
theorem tokB_pos (t : Tk) : 1 ≤ (tokB t).length := by
  unfold tokB
  rw [List.length_append]
  have := groupsL_pos t.many.toNat
  omega
theorem getF_back : ∀ (q : List Tk) (f : Nat) (o : List Tk), (∀ t ∈ q, rightT t = true) → (q.flatMap tokB).length ≤ f → getF f o (q.flatMap tokB) = (o ++ q, 0)
  | [], f, o, _, _ => by cases f <;> simp [getF]
  | t :: q, f, o, h, hl => by
    have h1 := h t List.mem_cons_self
    have hp := tokB_pos t
    rw [List.flatMap_cons] at hl ⊢
    rw [List.length_append] at hl
    cases f with
    | zero => omega
    | succ f =>
      unfold getF
      rw [if_neg (by rw [List.length_append]; omega), readK_back t _ h1]
      simp only
      rw [if_neg (by simp), if_pos h1, getF_back q f _ (fun a ha => h a (List.mem_cons_of_mem _ ha)) (by omega)]
      simp
theorem getT_back (q : List Tk) (h : ∀ t ∈ q, rightT t = true) : getT (putT q) = (q, 0) := by
  rw [putT_right h]
  have := getF_back q _ [] h (Nat.le_refl _)
  simpa [getT] using this
end Go.Proofs.Ytobgbheodlpclaa
