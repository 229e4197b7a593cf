/-
  Trees are in order, and with each node its parents; lists in order with the same nodes are the same.
-/
import Derived.Test.YtbklgijndjpgoaaDoorMkNames
import Derived.Test.YtbklgijndjpgoaaDoorMkTree
namespace Go.Proofs.YtbklgijndjpgoaaDoor
open Go.RowKit
set_option maxRecDepth 100000

def cmpB (x y : Nd) : Int := cmpL (toL x.path) (toL y.path)
def Sorted (t : List Nd) : Prop := t.Pairwise fun a b => cmpB a b < 0
theorem cmpB_swap (x y : Nd) : cmpB y x = - cmpB x y := cmpL_swap _ _
theorem cmpB_lt {x y z : Nd} (h1 : cmpB x y ≤ 0) (h2 : cmpB y z < 0) : cmpB x z < 0 := by
  have h3 : cmpB x z ≤ 0 := cmpL_trans _ _ _ h1 (Int.le_of_lt h2)
  by_cases h : cmpB x z = 0
  · have e := (cmpL_zero _ _).1 h
    have h4 : cmpB z y = cmpB x y := by unfold cmpB; rw [e]
    have := cmpB_swap y z
    omega
  · omega
theorem cmpB_self (x : Nd) : cmpB x x = 0 := (cmpL_zero _ _).2 rfl
theorem gt_shift (p : ByteArray) : ∀ (t : List Nd) (i : Nat), gtFrom p (i + 1) t = gtFrom p i t + 1
  | [], i => rfl
  | n :: t, i => by
    unfold gtFrom
    split
    · exact gt_shift p t (i + 1)
    · rfl
theorem insL_cons (m : Nd) (t : List Nd) (n : Nd) : insL (m :: t) n = if cmpB m n ≤ 0 then m :: insL t n else n :: m :: t := by
  unfold insL
  have e : gtFrom n.path 0 (m :: t) = if cmpB m n ≤ 0 then gtFrom n.path 0 t + 1 else 0 := by
    show (if cmpL (toL m.path) (toL n.path) ≤ 0 then gtFrom n.path (0 + 1) t else 0) = _
    rw [gt_shift]; rfl
  rw [e]
  split <;> simp
theorem insL_mem {m n : Nd} : ∀ {t : List Nd}, m ∈ insL t n ↔ m = n ∨ m ∈ t := by
  intro t
  unfold insL
  constructor
  · intro h
    simp only [List.mem_append, List.mem_singleton] at h
    rcases h with (h | h) | h
    · exact .inr (List.mem_of_mem_take h)
    · exact .inl h
    · exact .inr (List.mem_of_mem_drop h)
  · intro h
    simp only [List.mem_append, List.mem_singleton]
    rcases h with h | h
    · exact .inl (.inr h)
    · rw [← List.take_append_drop (gtFrom n.path 0 t) t, List.mem_append] at h
      rcases h with h | h
      · exact .inl (.inl h)
      · exact .inr h
theorem ins_sorted {n : Nd} : ∀ {t : List Nd}, Sorted t → (∀ m ∈ t, m.path ≠ n.path) → Sorted (insL t n)
  | [], _, _ => by unfold insL Sorted; simp [gtFrom]
  | m :: t, h, hn => by
    rw [insL_cons]
    obtain ⟨h1, h2⟩ := List.pairwise_cons.1 h
    split
    · rename_i hc
      refine List.pairwise_cons.2 ⟨fun a ha => ?_, ins_sorted h2 fun a ha => hn a (List.mem_cons_of_mem _ ha)⟩
      rcases insL_mem.1 ha with rfl | ha
      · by_cases h0 : cmpB m a = 0
        · exact absurd (toL_inj ((cmpL_zero _ _).1 h0)) (hn m List.mem_cons_self)
        · omega
      · exact h1 a ha
    · rename_i hc
      refine List.pairwise_cons.2 ⟨fun a ha => ?_, h⟩
      have hs := cmpB_swap m n
      rcases List.mem_cons.1 ha with rfl | ha
      · omega
      · exact cmpB_lt (by omega) (h1 a ha)
theorem sort_sorted : ∀ (l s : List Nd), Sorted s → Sorted (sortFrom s l)
  | [], s, h => h
  | x :: l, s, h => by
    unfold sortFrom
    split
    · rename_i hx
      exact sort_sorted l _ (ins_sorted h (at_none x.path s 0 hx.2))
    · exact sort_sorted l s h
theorem tree_sorted (l : List Nd) : Sorted (treeL l) := by
  obtain ⟨r, h1, h2, _⟩ := take_sub (sortFrom [] l) [] (by simp)
  unfold treeL
  rw [h1, List.nil_append]
  exact (sort_sorted l [] List.Pairwise.nil).sublist h2
/-- Two lists in order, of the same nodes. -/
theorem sorted_ext : ∀ {a b : List Nd}, Sorted a → Sorted b → (∀ n, n ∈ a ↔ n ∈ b) → a = b
  | [], [], _, _, _ => rfl
  | [], y :: b, _, _, h => by have := (h y).2 List.mem_cons_self; cases this
  | x :: a, [], _, _, h => by have := (h x).1 List.mem_cons_self; cases this
  | x :: a, y :: b, ha, hb, h => by
    obtain ⟨a1, a2⟩ := List.pairwise_cons.1 ha
    obtain ⟨b1, b2⟩ := List.pairwise_cons.1 hb
    have e : x = y := by
      rcases List.mem_cons.1 ((h x).1 List.mem_cons_self) with e | h1
      · exact e
      · rcases List.mem_cons.1 ((h y).2 List.mem_cons_self) with e | h2
        · exact e.symm
        · have := b1 x h1
          have := a1 y h2
          have := cmpB_swap x y
          omega
    subst e
    congr 1
    refine sorted_ext a2 b2 fun n => ⟨fun hn => ?_, fun hn => ?_⟩
    · rcases List.mem_cons.1 ((h n).1 (List.mem_cons_of_mem _ hn)) with rfl | h1
      · have := a1 n hn; rw [cmpB_self] at this; omega
      · exact h1
    · rcases List.mem_cons.1 ((h n).2 (List.mem_cons_of_mem _ hn)) with rfl | h1
      · have := b1 n hn; rw [cmpB_self] at this; omega
      · exact h1
theorem textL_self : ∀ x : List UInt8, textL x x = 0
  | [] => rfl
  | a :: x => by
    have h := textL_self x
    simp [textL, h]
theorem cmpN_prefix : ∀ (A p q : List (List UInt8)), cmpN (A ++ p) (A ++ q) = cmpN p q
  | [], _, _ => rfl
  | x :: A, p, q => by rw [List.cons_append, List.cons_append, cmpN_eq _ _ (textL_self x), cmpN_prefix A p q]
theorem seen_cmp {P : ByteArray} {m n : Nd} (hm : under P m = true) (hn : under P n = true) : cmpB (seen P m) (seen P n) = cmpB m n := by
  obtain ⟨m1, m2, D, m3, m4⟩ := (under_iff P m).1 hm
  obtain ⟨n1, n2, E, n3, n4⟩ := (under_iff P n).1 hn
  unfold cmpB
  rw [← cmpN_cut, ← cmpN_cut]
  show cmpN (cutB (seen P m).path) (cutB (seen P n).path) = cmpN (cutB m.path) (cutB n.path)
  rw [(seen_cut m1 m2 m3 m4).1, (seen_cut n1 n2 n3 n4).1, m4, n4, cmpN_prefix]
theorem unders_sorted {t : List Nd} (h : Sorted t) (P : ByteArray) : Sorted (undersL P t) := by
  unfold Sorted undersL
  rw [List.pairwise_map]
  exact (h.filter _).imp_of_mem fun ha hb hab => by rw [seen_cmp (List.mem_filter.1 ha).2 (List.mem_filter.1 hb).2]; exact hab

/-- With each node there is its parent. -/
def Dads (t : List Nd) : Prop := ∀ n ∈ t, parentB n.path = ⟨#[]⟩ ∨ ∃ m ∈ t, m.path = parentB n.path ∧ m.kind = 1
theorem dad_of {o : List Nd} {p : ByteArray} (h : dadL o p = 0) : parentB p = ⟨#[]⟩ ∨ ∃ m ∈ o, m.path = parentB p ∧ m.kind = 1 := by
  unfold dadL at h
  rw [upG_parent] at h
  split at h
  · rename_i he
    exact .inl (cutB_inj (by rw [(empty_iff _).1 he]; rfl))
  · split at h
    · cases h
    · rename_i hz
      rcases at_cases (parentB p) o with h1 | ⟨k, n, h1, h2, h3⟩
      · omega
      · rw [h1, Int.toNat_natCast, h2] at h
        simp only at h
        split at h
        · rename_i hk
          refine .inr ⟨n, List.mem_of_getElem? h2, ?_, hk⟩
          unfold hit at h3
          rw [beq_iff_eq] at h3
          exact toL_inj (by rw [← toL_list, ← toL_list, h3])
        · cases h
theorem take_dads : ∀ (l o : List Nd), Dads o → Dads (takeFrom o l)
  | [], o, h => h
  | x :: l, o, h => by
    unfold takeFrom
    split
    · rename_i hx
      refine take_dads l _ fun n hn => ?_
      rw [List.mem_append, List.mem_singleton] at hn
      have hd : parentB n.path = ⟨#[]⟩ ∨ ∃ m ∈ o, m.path = parentB n.path ∧ m.kind = 1 := by
        rcases hn with hn | rfl
        · exact h n hn
        · exact dad_of hx.1
      rcases hd with hd | ⟨m, h1, h2⟩
      · exact .inl hd
      · exact .inr ⟨m, List.mem_append_left _ h1, h2⟩
    · exact take_dads l o h

/-- A well-formed tree. -/
structure WF (t : List Nd) : Prop where
  mt : MT t
  rights : Rights t
  sorted : Sorted t
  dads : Dads t
  bare : ∀ n ∈ t, n.kind = 1 → toL n.data = []
theorem check_right {n : Nd} (h : checkN n = 0) : rightB n.path ∧ (n.kind = 1 → toL n.data = []) := by
  unfold checkN at h
  split at h
  · cases h
  · rename_i h1
    refine ⟨by unfold rightB; cases hr : rightL (toL n.path) with | true => rfl | false => exact absurd (.inr hr) h1, fun hk => ?_⟩
    split at h
    · cases h
    · split at h
      · cases h
      · rename_i h3
        have : ¬ 0 < n.data.size := fun h0 => h3 (.inl ⟨hk, h0⟩)
        refine List.eq_nil_of_length_eq_zero ?_
        have e : (toL n.data).length = n.data.size := by simp [toL]
        omega
theorem WF.tree {l : List Nd} (h : smallL l = true) : WF (treeL l) where
  mt := MT.tree h
  rights n hn := (check_right (tree_in hn).2).1
  sorted := tree_sorted l
  dads := take_dads _ _ fun n hn => by cases hn
  bare n hn := (check_right (tree_in hn).2).2
theorem parent_cut {n : Nd} (hr : rightB n.path) : cutB (parentB n.path) = (cutB n.path).dropLast := by
  have hN : namesL (toL n.path) = cutB n.path := by rw [names_cut, show rightL (toL n.path) = true from hr]; rfl
  have hpar := (parent_names n.path).2
  rw [hN] at hpar
  obtain ⟨hn, _⟩ := right_names' hr
  unfold cutB at hpar hn ⊢
  rw [hpar]
  refine cut_glue letter_slash _ ?_
  rw [List.all_eq_true] at hn ⊢
  exact fun x hx => hn x ((List.dropLast_sublist _).subset hx)
/-- All above a node is there. -/
theorem above {t : List Nd} (h : WF t) : ∀ (k : Nat) (n : Nd) (A D : List (List UInt8)), n ∈ t → D.length ≤ k → cutB n.path = A ++ D → A ≠ [] → D ≠ [] → ∃ m ∈ t, cutB m.path = A ∧ m.kind = 1
  | 0, n, A, D, _, hk, _, _, hD => absurd (List.eq_nil_of_length_eq_zero (by omega)) hD
  | k + 1, n, A, D, hn, hk, hc, hA, hD => by
    obtain ⟨F, x, rfl⟩ : ∃ F x, D = F ++ [x] := ⟨D.dropLast, D.getLast hD, (List.dropLast_concat_getLast hD).symm⟩
    have hp := parent_cut (h.rights n hn)
    rw [hc, ← List.append_assoc, List.dropLast_concat] at hp
    rcases h.dads n hn with e | ⟨m, hm, e, hk1⟩
    · rw [e] at hp
      have : A ++ F = [] := hp.symm
      exact absurd (List.append_eq_nil_iff.1 this).1 hA
    · rw [← e] at hp
      by_cases hF : F = []
      · subst hF
        exact ⟨m, hm, by rw [hp, List.append_nil], hk1⟩
      · exact above h k m A F hm (by rw [List.length_append, List.length_singleton] at hk; omega) hp hA hF
end Go.Proofs.YtbklgijndjpgoaaDoor
