/-
  The well-formed tree that is taken of few nodes is one whose prints can be told.
-/
import Derived.Test.YtbklgijndjpgoaaDoorMkText
namespace Go.Proofs.YtbklgijndjpgoaaDoor
open Go.RowKit
set_option maxRecDepth 100000

theorem at_none (p : ByteArray) : ∀ (s : List Nd) (i : Nat), atFrom p i s < 0 → ∀ m ∈ s, m.path ≠ p
  | [], _, _, m, hm => by cases hm
  | x :: s, i, h, m, hm => by
    unfold atFrom at h
    split at h
    · omega
    · rename_i hx
      rcases List.mem_cons.1 hm with rfl | hm
      · intro e
        apply hx
        unfold hit
        rw [e]; simp
      · exact at_none p s (i + 1) h m hm
theorem ins_apart {s : List Nd} {n : Nd} (k : Nat) (h : s.Pairwise fun a b => a.path ≠ b.path) (hn : ∀ m ∈ s, m.path ≠ n.path) : (s.take k ++ [n] ++ s.drop k).Pairwise fun a b => a.path ≠ b.path := by
  have h0 := h
  rw [← List.take_append_drop k s, List.pairwise_append] at h0
  obtain ⟨h1, h2, h3⟩ := h0
  rw [List.append_assoc, List.pairwise_append]
  refine ⟨h1, ?_, ?_⟩
  · rw [List.singleton_append, List.pairwise_cons]
    exact ⟨fun m hm e => hn m (List.mem_of_mem_drop hm) e.symm, h2⟩
  · intro a ha b hb
    rcases List.mem_cons.1 (by simpa using hb : b ∈ n :: s.drop k) with rfl | hb
    · exact hn a (List.mem_of_mem_take ha)
    · exact h3 a ha b hb
theorem sort_in : ∀ (l s : List Nd) (n : Nd), n ∈ sortFrom s l → n ∈ s ∨ (n ∈ l ∧ checkN n = 0)
  | [], s, n, h => .inl h
  | x :: l, s, n, h => by
    unfold sortFrom at h
    rcases sort_in l _ n h with h1 | ⟨h1, h2⟩
    · split at h1
      · rename_i hx
        unfold insL at h1
        simp only [List.mem_append, List.mem_singleton] at h1
        rcases h1 with (h1 | rfl) | h1
        · exact .inl (List.mem_of_mem_take h1)
        · exact .inr ⟨List.mem_cons_self, hx.1⟩
        · exact .inl (List.mem_of_mem_drop h1)
      · exact .inl h1
    · exact .inr ⟨List.mem_cons_of_mem _ h1, h2⟩
theorem sort_apart : ∀ (l s : List Nd), (s.Pairwise fun a b => a.path ≠ b.path) → (sortFrom s l).Pairwise fun a b => a.path ≠ b.path
  | [], s, h => h
  | x :: l, s, h => by
    unfold sortFrom
    split
    · rename_i hx
      exact sort_apart l _ (ins_apart _ h (at_none x.path s 0 hx.2))
    · exact sort_apart l s h
theorem take_sub : ∀ (l o : List Nd), o.length ≤ 512 → ∃ r, takeFrom o l = o ++ r ∧ r.Sublist l ∧ (takeFrom o l).length ≤ 512
  | [], o, h => ⟨[], by simp [takeFrom], List.Sublist.refl _, h⟩
  | x :: l, o, h => by
    unfold takeFrom
    split
    · rename_i hx
      obtain ⟨r, h1, h2, h3⟩ := take_sub l (o ++ [x]) (by rw [List.length_append, List.length_singleton]; omega)
      exact ⟨x :: r, by rw [h1, List.append_assoc]; rfl, h2.cons_cons x, h3⟩
    · obtain ⟨r, h1, h2, h3⟩ := take_sub l o h
      exact ⟨r, h1, h2.cons x, h3⟩
theorem tree_in {l : List Nd} {n : Nd} (h : n ∈ treeL l) : n ∈ l ∧ checkN n = 0 := by
  obtain ⟨r, h1, h2, _⟩ := take_sub (sortFrom [] l) [] (by simp)
  unfold treeL at h
  rw [h1, List.nil_append] at h
  rcases sort_in l [] n (h2.subset h) with h3 | h3
  · cases h3
  · exact h3
theorem tree_apart (l : List Nd) : (treeL l).Pairwise fun a b => a.path ≠ b.path := by
  obtain ⟨r, h1, h2, _⟩ := take_sub (sortFrom [] l) [] (by simp)
  unfold treeL
  rw [h1, List.nil_append]
  exact (sort_apart l [] List.Pairwise.nil).sublist h2
theorem tree_few (l : List Nd) : (treeL l).length ≤ 512 := by
  obtain ⟨r, _, _, h3⟩ := take_sub (sortFrom [] l) [] (by simp)
  exact h3
theorem check_kind {n : Nd} (h : checkN n = 0) : n.path.toList.isEmpty = false ∧ 1 ≤ n.kind ∧ n.kind ≤ 3 := by
  unfold checkN at h
  split at h
  · cases h
  · rename_i h1
    split at h
    · cases h
    · rename_i h2
      refine ⟨by cases he : n.path.toList.isEmpty with | false => rfl | true => exact absurd (.inl he) h1, ?_⟩
      by_cases a : n.kind = 1
      · omega
      · by_cases b : n.kind = 2
        · omega
        · by_cases c : n.kind = 3
          · omega
          · exact absurd ⟨a, b, c⟩ h2

/-- Few nodes. -/
def smallL (l : List Nd) : Bool := decide (l.length ≤ 24) && l.all fun n => decide (n.path.size ≤ 200) && decide (n.data.size ≤ 500)
theorem small_mem {l : List Nd} (h : smallL l = true) {n : Nd} (hn : n ∈ l) : n.path.size ≤ 200 ∧ n.data.size ≤ 500 := by
  unfold smallL at h
  rw [Bool.and_eq_true, List.all_eq_true] at h
  simpa using h.2 n hn
/-- The tree of few nodes. -/
theorem MT.tree {l : List Nd} (h : smallL l = true) : MT (treeL l) where
  len := Nat.le_trans (tree_few l) (by decide)
  path n hn := Nat.le_trans (small_mem h (tree_in hn).1).1 (by decide)
  data n hn := Nat.le_trans (small_mem h (tree_in hn).1).2 (by decide)
  kind n hn := (check_kind (tree_in hn).2).2
  apart := tree_apart l
  named n hn := (check_kind (tree_in hn).2).1
end Go.Proofs.YtbklgijndjpgoaaDoor
