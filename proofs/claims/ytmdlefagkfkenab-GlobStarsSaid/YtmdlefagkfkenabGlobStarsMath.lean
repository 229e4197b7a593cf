/-
  Two patterns behind one another, with nothing, one star or two stars between.
-/
import Derived.Test.YtmdlefagkfkenabGlobAcc
namespace Go.Proofs.Ytmdlefagkfkenab

/-- What the one list of parts, and behind it the other one, stand for. -/
theorem many_app {P : Nat → Bool} {f g : List UInt8 → Bool} {v : List UInt8} (h : ∀ u, f u = true → g (u ++ v) = true) : ∀ u, manyOf P f u = true → manyOf P g (u ++ v) = true
  | [], hu => manyOf_skip (h [] hu)
  | c :: u, hu => by
    have hu : (f (c :: u) || (P c.toNat && manyOf P f u)) = true := hu
    show (g (c :: (u ++ v)) || (P c.toNat && manyOf P g (u ++ v))) = true
    simp only [Bool.or_eq_true, Bool.and_eq_true] at hu ⊢
    rcases hu with hu | ⟨hP, hu⟩
    · exact .inl (h _ hu)
    · exact .inr ⟨hP, many_app h u hu⟩

theorem acc_app (l' : List GPart) (v : List UInt8) (hv : acc l' v = true) : ∀ (l : List GPart) (u : List UInt8), acc l u = true → acc (l ++ l') (u ++ v) = true
  | [], u, hu => by
    have : u = [] := by simpa [acc] using hu
    subst this
    exact hv
  | p :: l, u, hu => by
    have ih := acc_app l' v hv l
    show (if p.1 then manyOf p.2 (acc (l ++ l')) else oneOf p.2 (acc (l ++ l'))) (u ++ v) = true
    unfold acc at hu
    cases hm : p.1 with
    | true =>
      rw [hm, if_pos rfl] at hu
      rw [if_pos rfl]
      exact many_app ih u hu
    | false =>
      rw [hm] at hu
      rw [if_neg (by simp)]
      cases u with
      | nil => cases hu
      | cons c u =>
        have hu : (p.2 c.toNat && acc l u) = true := hu
        show (p.2 c.toNat && acc (l ++ l') (u ++ v)) = true
        simp only [Bool.and_eq_true] at hu ⊢
        exact ⟨hu.1, ih u hu.2⟩

/-- A part that stands for many bytes stands for these. -/
theorem acc_many (P : Nat → Bool) (v : List UInt8) (h : ∀ c ∈ v, P c.toNat = true) : acc [(true, P)] v = true := by
  show manyOf P (acc []) v = true
  induction v with
  | nil => rfl
  | cons c v ih =>
    show (acc [] (c :: v) || (P c.toNat && manyOf P (acc []) v)) = true
    rw [h c (by simp), ih (fun d hd => h d (by simp [hd]))]
    simp

theorem spanP_all (c : UInt8) : spanP 0 256 c.toNat = true := by
  have := c.toNat_lt
  unfold spanP
  simp
  omega
theorem inNameP_of (c : UInt8) (h : c ≠ 47) : inNameP c.toNat = true := by
  have h1 : c.toNat ≠ 47 := fun e => h (UInt8.toNat_inj.1 e)
  unfold inNameP
  rw [spanP_all]
  unfold spanP
  simp
  omega

/-! ### Reading -/
theorem cls_app (t : List UInt8) (P : Nat → Bool) (f : Bool) (i : Nat) (l : List UInt8) (Q : Nat → Bool) (j : Nat) (h : cls P f i l = some (Q, j)) : cls P f i (l ++ t) = some (Q, j) := by
  induction P, f, i, l using cls.induct generalizing Q j with
  | case1 => rw [cls.eq_def] at h; cases h
  | case2 P f i c r hc =>
    rw [cls.eq_def] at h ⊢
    simp only [List.cons_append, hc, if_true] at h ⊢
    exact h
  | case3 P f i c r hc hm =>
    rw [cls.eq_def] at h
    simp only [hc, hm, if_true, Bool.false_eq_true, if_false] at h
    cases h
  | case4 P f i c hc hm d e r' hd hb =>
    rw [cls.eq_def] at h
    simp only [hc, hm, hd, hb, if_true, Bool.false_eq_true, if_false] at h
    cases h
  | case5 P f i c hc hm d e r' hd hb ih =>
    rw [cls.eq_def] at h ⊢
    simp only [List.cons_append, hc, hm, hd, hb, if_true, Bool.false_eq_true, if_false] at h ⊢
    exact ih _ _ h
  | case6 P f i c hc hm d e r' hd ih =>
    rw [cls.eq_def] at h ⊢
    simp only [List.cons_append, hc, hm, hd, Bool.false_eq_true, if_false] at h ⊢
    exact ih _ _ h
  | case7 P f i c hc hm d ih =>
    rw [cls.eq_def] at h
    simp only [hc, hm, Bool.false_eq_true, if_false] at h
    have h' := ih _ _ h
    -- the last byte is the closing bracket
    have hd : d = 93 := by
      rw [cls.eq_def] at h
      simp only at h
      split at h
      · rename_i hh
        simp only [Bool.and_eq_true, beq_iff_eq] at hh
        exact hh.1
      · split at h
        · cases h
        · cases h
    subst hd
    rw [cls.eq_def]
    simp only [List.cons_append, List.nil_append, hc, hm, Bool.false_eq_true, if_false] at h' ⊢
    cases t with
    | nil => exact h'
    | cons e t => exact h'
  | case8 P f i c hc hm =>
    rw [cls.eq_def] at h
    simp only [hc, hm, Bool.false_eq_true, if_false] at h
    cases h

theorem hasPrefix_one (L : List UInt8) (c : UInt8) : Lib.hasPrefix L [c] = match L with | [] => false | d :: _ => c == d := by
  cases L with
  | nil => rfl
  | cons d r => show (c == d && List.isPrefixOf [] r) = (c == d); simp

theorem classOf_app (t L : List UInt8) (p : GPart) (n : Nat) (h : classOf L = some (p, n)) : classOf (L ++ t) = some (p, n) := by
  have hle := classOf_le L p n h
  unfold classOf at h ⊢
  simp only at h ⊢
  -- behind the bracket something stands
  cases L with
  | nil => simp at hle; omega
  | cons a L =>
    simp only [List.cons_append, List.drop_succ_cons, List.drop_zero] at h ⊢
    cases L with
    | nil =>
      have e : Lib.hasPrefix ([] : List UInt8) [33] = false := rfl
      rw [e] at h
      simp only [Bool.false_eq_true, if_false, List.drop_succ_cons, List.drop_zero] at h
      cases h
    | cons d L =>
      have e : Lib.hasPrefix (d :: L ++ t) [33] = Lib.hasPrefix (d :: L) [33] := by rw [hasPrefix_one, hasPrefix_one]; rfl
      rw [e]
      cases hx : cls emptyP true (if Lib.hasPrefix (d :: L) [33] = true then 2 else 1) ((a :: d :: L).drop (if Lib.hasPrefix (d :: L) [33] = true then 2 else 1)) with
      | none => rw [hx] at h; cases h
      | some Qi =>
        obtain ⟨Q, i⟩ := Qi
        have hy := cls_app t _ _ _ _ _ _ hx
        rw [hx] at h
        have e2 : (a :: d :: L).drop (if Lib.hasPrefix (d :: L) [33] = true then 2 else 1) ++ t = (a :: (d :: L ++ t)).drop (if Lib.hasPrefix (d :: L) [33] = true then 2 else 1) := by
          split <;> rfl
        rw [e2] at hy
        rw [hy]
        exact h

/-- A text doesn't end with a star. -/
def noStar (L : List UInt8) : Prop := L.getLast? ≠ some 42

theorem firstOf_app (t L : List UInt8) (p : GPart) (n : Nat) (h : firstOf L = some (p, n)) (hs : noStar L) : firstOf (L ++ t) = some (p, n) := by
  cases L with
  | nil => cases h
  | cons c r =>
    have hp : Lib.hasPrefix (c :: r ++ t) [42, 42] = Lib.hasPrefix (c :: r) [42, 42] := by
      cases r with
      | nil =>
        have hc : c ≠ 42 := fun e => hs (by rw [e]; rfl)
        have e : ((42 : UInt8) == c) = false := by rw [beq_eq_false_iff_ne]; exact fun e => hc e.symm
        show ((42 : UInt8) == c && _) = ((42 : UInt8) == c && _)
        rw [e]
        rfl
      | cons d r => show ((42 : UInt8) == c && ((42 : UInt8) == d && List.isPrefixOf [] (r ++ t))) = ((42 : UInt8) == c && ((42 : UInt8) == d && List.isPrefixOf [] r)); simp
    unfold firstOf at h ⊢
    simp only [List.cons_append] at hp h ⊢
    rw [hp]
    split at h
    · rename_i hh; rw [if_pos hh]; exact h
    · rename_i hh
      rw [if_neg hh]
      split at h
      · rename_i h2; rw [if_pos h2]; exact h
      · rename_i h2
        rw [if_neg h2]
        split at h
        · rename_i h3; rw [if_pos h3]; exact h
        · rename_i h3
          rw [if_neg h3]
          split at h
          · rename_i h4
            rw [if_pos h4]
            exact classOf_app t (c :: r) p n h
          · rename_i h4
            rw [if_neg h4]
            split at h
            · rename_i h5
              rw [if_pos h5]
              cases r with
              | nil => cases h
              | cons d r => exact h
            · rename_i h5
              rw [if_neg h5]
              exact h

theorem parse_app (t : List UInt8) : ∀ (k : Nat) (L : List UInt8) (l : List GPart), L.length ≤ k → parseOf L = some l → noStar L → parseOf (L ++ t) = (parseOf t).map (l ++ ·)
  | 0, L, l, hk, h, _ => by
    have : L = [] := List.length_eq_zero_iff.1 (by omega)
    subst this
    cases h
    simp
  | k + 1, L, l, hk, h, hs => by
    cases hL : L with
    | nil =>
      subst hL
      cases h
      simp
    | cons c r =>
      cases hf : firstOf L with
      | none =>
        rw [parseOf_bad (by rw [hL]; simp) hf] at h
        cases h
      | some pn =>
        obtain ⟨p, n⟩ := pn
        have hn := firstOf_le _ _ _ hf
        rw [parseOf_step hf] at h
        simp only [Option.map_eq_some_iff] at h
        obtain ⟨l', hl', rfl⟩ := h
        have hs' : noStar (L.drop n) := by
          unfold noStar at hs ⊢
          by_cases he : L.drop n = []
          · rw [he]; simp
          · rw [List.getLast?_drop]
            split
            · simp
            · exact hs
        have ih := parse_app t k (L.drop n) l' (by rw [List.length_drop]; omega) hl' hs'
        rw [← hL, parseOf_step (firstOf_app t L p n hf hs), List.drop_append_of_le_length hn.2, ih]
        cases parseOf t <;> simp

/-- A text that begins with no star, behind one star. -/
theorem parse_star (L : List UInt8) (h : L.head? ≠ some 42) : parseOf (42 :: L) = (parseOf L).map ((true, inNameP) :: ·) := by
  have hp : Lib.hasPrefix (42 :: L) [42, 42] = false := by
    cases L with
    | nil => rfl
    | cons d r =>
      have e : ((42 : UInt8) == d) = false := by rw [beq_eq_false_iff_ne]; exact fun e => h (by rw [← e]; rfl)
      show ((42 : UInt8) == 42 && ((42 : UInt8) == d && List.isPrefixOf [] r)) = false
      rw [e]
      simp
  have hf : firstOf (42 :: L) = some ((true, inNameP), 1) := by
    unfold firstOf
    simp only [hp]
    rfl
  rw [parseOf_step hf]
  rfl
theorem parse_stars (L : List UInt8) : parseOf (42 :: 42 :: L) = (parseOf L).map ((true, spanP 0 256) :: ·) := by
  have hf : firstOf (42 :: 42 :: L) = some ((true, spanP 0 256), 2) := rfl
  rw [parseOf_step hf]
  rfl

theorem globM_split {p s : ByteArray} (h : globM p s = true) : ∃ l, parseOf p.data.toList = some l ∧ acc l s.data.toList = true := by
  rw [globM_acc] at h
  split at h
  · cases h
  · cases hp : parseOf p.data.toList with
    | none => rw [hp] at h; cases h
    | some l => rw [hp] at h; exact ⟨l, rfl, h⟩
theorem globM_join {p s : ByteArray} {l : List GPart} (hl : p.size ≤ 64) (hp : parseOf p.data.toList = some l) (ha : acc l s.data.toList = true) : globM p s = true := by
  rw [globM_acc, if_neg (by omega), hp]
  exact ha
theorem data_app (a c : ByteArray) : (a ++ c).data.toList = a.data.toList ++ c.data.toList := by simp

section
variable {a b p q m : ByteArray} (ha : a.size ≤ 30) (hb : b.size ≤ 30) (hA : noStar a.data.toList) (hB : b.data.toList.head? ≠ some 42) (h1 : globM a p = true) (h2 : globM b q = true)
include ha hb hA h1 h2
theorem stars_none : globM (a ++ b) (p ++ q) = true := by
  obtain ⟨la, pa, ca⟩ := globM_split h1
  obtain ⟨lb, pb, cb⟩ := globM_split h2
  refine globM_join (l := la ++ lb) (by rw [ByteArray.size_append]; omega) ?_ ?_
  · rw [data_app, parse_app _ _ _ _ (Nat.le_refl _) pa hA, pb]
    rfl
  · rw [data_app]
    exact acc_app lb _ cb la _ ca
theorem stars_two : globM (a ++ ByteArray.mk #[42, 42] ++ b) (p ++ m ++ q) = true := by
  obtain ⟨la, pa, ca⟩ := globM_split h1
  obtain ⟨lb, pb, cb⟩ := globM_split h2
  refine globM_join (l := la ++ ([(true, spanP 0 256)] ++ lb)) (by rw [ByteArray.size_append, ByteArray.size_append, show (ByteArray.mk #[42, 42]).size = 2 from rfl]; omega) ?_ ?_
  · rw [data_app, data_app, List.append_assoc, parse_app _ _ _ _ (Nat.le_refl _) pa hA]
    show (parseOf (42 :: 42 :: b.data.toList)).map _ = _
    rw [parse_stars, pb]
    rfl
  · rw [data_app, data_app, List.append_assoc]
    exact acc_app _ _ (acc_app lb _ cb _ _ (acc_many _ _ (fun c _ => spanP_all c))) la _ ca
include hB in
theorem stars_one (hm : ∀ c ∈ m.data.toList, c ≠ 47) : globM (a ++ ByteArray.mk #[42] ++ b) (p ++ m ++ q) = true := by
  obtain ⟨la, pa, ca⟩ := globM_split h1
  obtain ⟨lb, pb, cb⟩ := globM_split h2
  refine globM_join (l := la ++ ([(true, inNameP)] ++ lb)) (by rw [ByteArray.size_append, ByteArray.size_append, show (ByteArray.mk #[42]).size = 1 from rfl]; omega) ?_ ?_
  · rw [data_app, data_app, List.append_assoc, parse_app _ _ _ _ (Nat.le_refl _) pa hA]
    show (parseOf (42 :: b.data.toList)).map _ = _
    rw [parse_star _ hB, pb]
    rfl
  · rw [data_app, data_app, List.append_assoc]
    exact acc_app _ _ (acc_app lb _ cb _ _ (acc_many _ _ (fun c hc => inNameP_of c (hm c hc)))) la _ ca
end
end Go.Proofs.Ytmdlefagkfkenab
