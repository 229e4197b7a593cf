/-
  Texts that belong together: TreeSorted, ShutUnder, MiWell.
-/
import Derived.Test.YteoafohebgfjdaaGreatDoorAutoCutB
import Derived.Test.YteoafohebgfjdaaGreatDoorAutoRuleSpec
import Derived.Test.YteoafohebgfjdaaGreatDoorAutoPathCutMore
import Derived.Test.YteoafohebgfjdaaGreatDoorAutoMkWithin
/-
  Trees are in order, and with each node its parent; lists in order with the same nodes are the same.
-/
namespace Go.Proofs.YteoafohebgfjdaaGreatDoor
open Go.RowKit
set_option maxRecDepth 100000

def cmpB (x y : Nd) : Int := cmpL (toL x.path) (toL y.path)
def Sorted (t : List Nd) : Prop := t.Pairwise fun a b => cmpB a b < 0
theorem cmpB_swap (x y : Nd) : cmpB y x = - cmpB x y := cmpL_swap _ _
theorem cmpB_lt {x y z : Nd} (h1 : cmpB x y ≤ 0) (h2 : cmpB y z < 0) : cmpB x z < 0 := by
  have h3 : cmpB x z ≤ 0 := cmpL_trans _ _ _ h1 (Int.le_of_lt h2)
  by_cases h : cmpB x z = 0
  · have e := (cmpL_zero _ _).1 h
    have h4 : cmpB z y = cmpB x y := by unfold cmpB; rw [e]
    have := cmpB_swap y z
    omega
  · omega
theorem cmpB_self (x : Nd) : cmpB x x = 0 := (cmpL_zero _ _).2 rfl
theorem gt_shift (p : ByteArray) : ∀ (t : List Nd) (i : Nat), gtFrom p (i + 1) t = gtFrom p i t + 1
  | [], i => rfl
  | n :: t, i => by
    unfold gtFrom
    split
    · exact gt_shift p t (i + 1)
    · rfl
theorem insL_cons (m : Nd) (t : List Nd) (n : Nd) : insL (m :: t) n = if cmpB m n ≤ 0 then m :: insL t n else n :: m :: t := by
  unfold insL
  have e : gtFrom n.path 0 (m :: t) = if cmpB m n ≤ 0 then gtFrom n.path 0 t + 1 else 0 := by
    show (if cmpL (toL m.path) (toL n.path) ≤ 0 then gtFrom n.path (0 + 1) t else 0) = _
    rw [gt_shift]; rfl
  rw [e]
  split <;> simp
theorem insL_mem {m n : Nd} : ∀ {t : List Nd}, m ∈ insL t n ↔ m = n ∨ m ∈ t := by
  intro t
  unfold insL
  constructor
  · intro h
    simp only [List.mem_append, List.mem_singleton] at h
    rcases h with (h | h) | h
    · exact .inr (List.mem_of_mem_take h)
    · exact .inl h
    · exact .inr (List.mem_of_mem_drop h)
  · intro h
    simp only [List.mem_append, List.mem_singleton]
    rcases h with h | h
    · exact .inl (.inr h)
    · rw [← List.take_append_drop (gtFrom n.path 0 t) t, List.mem_append] at h
      rcases h with h | h
      · exact .inl (.inl h)
      · exact .inr h
theorem ins_sorted {n : Nd} : ∀ {t : List Nd}, Sorted t → (∀ m ∈ t, m.path ≠ n.path) → Sorted (insL t n)
  | [], _, _ => by unfold insL Sorted; simp [gtFrom]
  | m :: t, h, hn => by
    rw [insL_cons]
    obtain ⟨h1, h2⟩ := List.pairwise_cons.1 h
    split
    · rename_i hc
      refine List.pairwise_cons.2 ⟨fun a ha => ?_, ins_sorted h2 fun a ha => hn a (List.mem_cons_of_mem _ ha)⟩
      rcases insL_mem.1 ha with rfl | ha
      · by_cases h0 : cmpB m a = 0
        · exact absurd (toL_inj ((cmpL_zero _ _).1 h0)) (hn m List.mem_cons_self)
        · omega
      · exact h1 a ha
    · rename_i hc
      refine List.pairwise_cons.2 ⟨fun a ha => ?_, h⟩
      have hs := cmpB_swap m n
      rcases List.mem_cons.1 ha with rfl | ha
      · omega
      · exact cmpB_lt (by omega) (h1 a ha)
theorem sort_sorted : ∀ (l s : List Nd), Sorted s → Sorted (sortFrom s l)
  | [], s, h => h
  | x :: l, s, h => by
    unfold sortFrom
    split
    · rename_i hx
      exact sort_sorted l _ (ins_sorted h (at_none x.path s 0 hx.2))
    · exact sort_sorted l s h
theorem tree_sorted (l : List Nd) : Sorted (treeL l) := by
  obtain ⟨r, h1, h2, _⟩ := take_sub (sortFrom [] l) [] (by simp)
  unfold treeL
  rw [h1, List.nil_append]
  exact (sort_sorted l [] List.Pairwise.nil).sublist h2
/-- Two lists in order, of the same nodes. -/
theorem sorted_ext : ∀ {a b : List Nd}, Sorted a → Sorted b → (∀ n, n ∈ a ↔ n ∈ b) → a = b
  | [], [], _, _, _ => rfl
  | [], y :: b, _, _, h => by have := (h y).2 List.mem_cons_self; cases this
  | x :: a, [], _, _, h => by have := (h x).1 List.mem_cons_self; cases this
  | x :: a, y :: b, ha, hb, h => by
    obtain ⟨a1, a2⟩ := List.pairwise_cons.1 ha
    obtain ⟨b1, b2⟩ := List.pairwise_cons.1 hb
    have e : x = y := by
      rcases List.mem_cons.1 ((h x).1 List.mem_cons_self) with e | h1
      · exact e
      · rcases List.mem_cons.1 ((h y).2 List.mem_cons_self) with e | h2
        · exact e.symm
        · have := b1 x h1
          have := a1 y h2
          have := cmpB_swap x y
          omega
    subst e
    congr 1
    refine sorted_ext a2 b2 fun n => ⟨fun hn => ?_, fun hn => ?_⟩
    · rcases List.mem_cons.1 ((h n).1 (List.mem_cons_of_mem _ hn)) with rfl | h1
      · have := a1 n hn; rw [cmpB_self] at this; omega
      · exact h1
    · rcases List.mem_cons.1 ((h n).2 (List.mem_cons_of_mem _ hn)) with rfl | h1
      · have := b1 n hn; rw [cmpB_self] at this; omega
      · exact h1
theorem textL_self : ∀ x : List UInt8, textL x x = 0
  | [] => rfl
  | a :: x => by
    have h := textL_self x
    simp [textL, h]
theorem cmpN_prefix : ∀ (A p q : List (List UInt8)), cmpN (A ++ p) (A ++ q) = cmpN p q
  | [], _, _ => rfl
  | x :: A, p, q => by rw [List.cons_append, List.cons_append, cmpN_eq _ _ (textL_self x), cmpN_prefix A p q]
/-- With each node there is its parent. -/
def Dads (t : List Nd) : Prop := ∀ n ∈ t, parentB n.path = ⟨#[]⟩ ∨ ∃ m ∈ t, m.path = parentB n.path ∧ m.kind = 1
theorem dad_of {o : List Nd} {p : ByteArray} (h : dadL o p = 0) : parentB p = ⟨#[]⟩ ∨ ∃ m ∈ o, m.path = parentB p ∧ m.kind = 1 := by
  unfold dadL at h
  rw [upG_parent] at h
  split at h
  · rename_i he
    exact .inl (cutB_inj (by rw [(empty_iff _).1 he]; rfl))
  · split at h
    · cases h
    · rename_i hz
      rcases at_cases (parentB p) o with h1 | ⟨k, n, h1, h2, h3⟩
      · omega
      · rw [h1, Int.toNat_natCast, h2] at h
        simp only at h
        split at h
        · rename_i hk
          refine .inr ⟨n, List.mem_of_getElem? h2, ?_, hk⟩
          unfold hit at h3
          rw [beq_iff_eq] at h3
          exact toL_inj (by rw [← toL_list, ← toL_list, h3])
        · cases h
theorem take_dads : ∀ (l o : List Nd), Dads o → Dads (takeFrom o l)
  | [], o, h => h
  | x :: l, o, h => by
    unfold takeFrom
    split
    · rename_i hx
      refine take_dads l _ fun n hn => ?_
      rw [List.mem_append, List.mem_singleton] at hn
      have hd : parentB n.path = ⟨#[]⟩ ∨ ∃ m ∈ o, m.path = parentB n.path ∧ m.kind = 1 := by
        rcases hn with hn | rfl
        · exact h n hn
        · exact dad_of hx.1
      rcases hd with hd | ⟨m, h1, h2⟩
      · exact .inl hd
      · exact .inr ⟨m, List.mem_append_left _ h1, h2⟩
    · exact take_dads l o h

theorem check_right {n : Nd} (h : checkN n = 0) : rightB n.path ∧ (n.kind = 1 → toL n.data = []) := by
  unfold checkN at h
  split at h
  · cases h
  · rename_i h1
    refine ⟨by unfold rightB; cases hr : rightL (toL n.path) with | true => rfl | false => exact absurd (.inr hr) h1, fun hk => ?_⟩
    split at h
    · cases h
    · split at h
      · cases h
      · rename_i h3
        have : ¬ 0 < n.data.size := fun h0 => h3 (.inl ⟨hk, h0⟩)
        refine List.eq_nil_of_length_eq_zero ?_
        have e : (toL n.data).length = n.data.size := by simp [toL]
        omega
theorem parent_cut {n : Nd} (hr : rightB n.path) : cutB (parentB n.path) = (cutB n.path).dropLast := by
  have hN : namesL (toL n.path) = cutB n.path := by rw [names_cut, show rightL (toL n.path) = true from hr]; rfl
  have hpar := (parent_names n.path).2
  rw [hN] at hpar
  obtain ⟨hn, _⟩ := right_names' hr
  unfold cutB at hpar hn ⊢
  rw [hpar]
  refine cut_glue letter_slash _ ?_
  rw [List.all_eq_true] at hn ⊢
  exact fun x hx => hn x ((List.dropLast_sublist _).subset hx)
end Go.Proofs.YteoafohebgfjdaaGreatDoor
/-
  All that is under what is shut out is shut out: plain.
-/
namespace Go.Proofs.YteoafohebgfjdaaGreatDoor
open Go.RowKit
set_option maxRecDepth 100000

theorem mem_rd {n i : Nat} : i ∈ (List.range n).drop 1 ↔ 1 ≤ i ∧ i < n := by
  cases n with
  | zero => simp
  | succ n =>
    rw [List.range_succ_eq_map, List.drop_succ_cons, List.drop_zero, List.mem_map]
    constructor
    · rintro ⟨j, hj, rfl⟩
      have := List.mem_range.1 hj
      omega
    · intro h
      exact ⟨i - 1, List.mem_range.2 (by omega), by show i - 1 + 1 = i; omega⟩
theorem names_eq {p : List UInt8} (h : p ≠ []) (hr : rightL p = true) : namesL p = splitL p := by rw [names_cut, hr, if_pos rfl, cut_ne p h]
theorem shut_under {l : List (Bool × List UInt8)} {p q : List UInt8} (hp : p ≠ []) (hr : rightL p = true) (hx : rightL (p ++ 47 :: q) = true) (h : shutL l p true = true) (dir : Bool) : shutL l (p ++ 47 :: q) dir = true := by
  have e1 := names_eq hp hr
  have e2 : namesL (p ++ 47 :: q) = namesL p ++ splitL q := by rw [names_eq (by simp) hx, split_append, e1]
  have hlen : (namesL (p ++ 47 :: q)).length = (namesL p).length + (splitL q).length := by rw [e2]; simp
  have hq : 0 < (splitL q).length := List.length_pos_iff.2 (splitL_ne q)
  have hn : namesL p ≠ [] := by rw [e1]; exact splitL_ne p
  have hnl : 0 < (namesL p).length := List.length_pos_iff.2 hn
  have hw := names_whole hn
  unfold shutL at h ⊢
  rw [Bool.or_eq_true] at h ⊢
  left
  rw [List.any_eq_true]
  rcases h with h | h
  · rw [List.any_eq_true] at h
    obtain ⟨i, hi, hk⟩ := h
    obtain ⟨h1, h2⟩ := mem_rd.1 hi
    refine ⟨i, mem_rd.2 ⟨h1, by omega⟩, ?_⟩
    rw [e2, List.take_append_of_le_length (by omega)]
    exact hk
  · refine ⟨(namesL p).length, mem_rd.2 ⟨by omega, by omega⟩, ?_⟩
    rw [e2, List.take_append_of_le_length (Nat.le_refl _), List.take_length, hw]
    exact h
theorem shut_none (p : List UInt8) (dir : Bool) : shutL [] p dir = false := by
  unfold shutL
  have h : ∀ q d, keepsL q d [] = true := fun _ _ => rfl
  rw [h, Bool.not_true, Bool.or_false, List.any_eq_false]
  intro i _
  rw [h]; simp
end Go.Proofs.YteoafohebgfjdaaGreatDoor
/-
  Trees, what is shown of them and what is sent: plain.
-/
namespace Go.Proofs.YteoafohebgfjdaaGreatDoor
open Go.RowKit
set_option maxRecDepth 100000

theorem side_shown (l : List Nd) : sideL flit false l = shownL l := by
  unfold sideL shownL
  congr 1
  funext n
  rw [← okB_eq]
  unfold resB
  cases okB n.path flit <;> rfl
theorem side_sub (p : ByteArray) (l : List Nd) : sideL p true l = l.filter fun n => okB n.path p := by
  unfold sideL
  congr 1
  funext n
  rw [← okB_eq]
  cases okB n.path p <;> rfl
theorem pick_sent (R : List (Bool × List UInt8)) (l : List Nd) : pickL R false l = sentL R l := by
  unfold pickL sentL shownL
  rw [List.filter_filter]
  congr 1
  funext n
  unfold pickB resB
  rw [← okB_eq]
  cases okB n.path flit <;> cases shutN R n <;> rfl
theorem pick_guard (R : List (Bool × List UInt8)) (l : List Nd) : pickL R true l = guardL R l := by
  unfold pickL guardL shownL
  rw [List.filter_filter]
  congr 1
  funext n
  unfold pickB resB
  rw [← okB_eq]
  cases okB n.path flit <;> cases shutN R n <;> rfl
theorem nm_cut {n : Nd} (h : rightB n.path) : nmN n = cutB n.path := by
  unfold nmN
  rw [names_cut, show rightL (toL n.path) = true from h]
  rfl
/-- A tree that is tried, or what is picked of one so that each node's parent is, too. -/
structure TW (t : List Nd) : Prop where
  rights : ∀ n ∈ t, rightB n.path
  sorted : Sorted t
  dads : Dads t
  kinds : ∀ n ∈ t, 1 ≤ n.kind ∧ n.kind ≤ 3
  named : ∀ n ∈ t, cutB n.path ≠ []
  few : ∀ n ∈ t, n.path.size ≤ 200 ∧ n.data.size ≤ 500
theorem TW.tree {l : List Nd} (h : smallL l = true) : TW (treeL l) where
  rights n hn := (check_right (tree_in hn).2).1
  sorted := tree_sorted l
  dads := take_dads _ _ fun n hn => by cases hn
  kinds n hn := (check_kind (tree_in hn).2).2
  named n hn e := by
    have h1 := (check_kind (tree_in hn).2).1
    rw [(empty_iff _).2 e] at h1
    cases h1
  few n hn := small_mem h (tree_in hn).1
theorem TW.filter {t : List Nd} (h : TW t) (g : Nd → Bool) (hg : ∀ n ∈ t, ∀ m ∈ t, m.path = parentB n.path → m.kind = 1 → g n = true → g m = true) : TW (t.filter g) where
  rights n hn := h.rights n (List.mem_filter.1 hn).1
  sorted := List.Pairwise.sublist List.filter_sublist h.sorted
  dads n hn := by
    obtain ⟨h1, h2⟩ := List.mem_filter.1 hn
    rcases h.dads n h1 with e | ⟨m, hm, e, hk⟩
    · exact .inl e
    · exact .inr ⟨m, List.mem_filter.2 ⟨hm, hg n h1 m hm e hk h2⟩, e, hk⟩
  kinds n hn := h.kinds n (List.mem_filter.1 hn).1
  named n hn := h.named n (List.mem_filter.1 hn).1
  few n hn := h.few n (List.mem_filter.1 hn).1
/-- A node's names, with its parent's. -/
theorem parent_snoc {m n : Nd} (hn : rightB n.path) (h0 : cutB n.path ≠ []) (e : m.path = parentB n.path) : ∃ x, cutB n.path = cutB m.path ++ [x] := by
  rw [e, parent_cut hn]
  exact ⟨(cutB n.path).getLast h0, (List.dropLast_concat_getLast h0).symm⟩
theorem TW.shown {t : List Nd} (h : TW t) : TW (shownL t) := by
  refine h.filter _ fun n hn m _ e _ hg => ?_
  obtain ⟨x, hx⟩ := parent_snoc (h.rights n hn) (h.named n hn) e
  unfold resB at hg ⊢
  rw [okB_eq] at hg ⊢
  cases hw : withinB (toL m.path) (toL flit) with
  | false => rfl
  | true =>
    have : withinB (toL n.path) (toL flit) = true := by
      unfold withinB at hw ⊢
      rw [Bool.and_eq_true, Bool.and_eq_true, List.isPrefixOf_iff_prefix] at hw ⊢
      refine ⟨⟨h.rights n hn, hw.1.2⟩, ?_⟩
      show _ <+: cutB n.path
      rw [hx]
      exact hw.2.trans (List.prefix_append _ _)
    rw [this] at hg
    cases hg
theorem TW.sent {t : List Nd} (h : TW t) (R : List (Bool × List UInt8)) : TW (sentL R t) := by
  refine h.shown.filter _ fun n hn m hm e hk hg => ?_
  obtain ⟨x, hx⟩ := parent_snoc (h.shown.rights n hn) (h.shown.named n hn) e
  cases hs : shutN R m with
  | false => rfl
  | true =>
    have hne : toL m.path ≠ [] := fun h0 => h.shown.named m hm (by unfold cutB; rw [h0]; rfl)
    have hp : toL n.path = toL m.path ++ 47 :: x := by
      rw [← glue_cutB n.path, hx, ← glue_cutB m.path, glue_append _ _ (h.shown.named m hm) (by simp)]
      rfl
    have : shutN R n = true := by
      unfold shutN at hs ⊢
      rw [hk] at hs
      rw [hp]
      exact shut_under hne (h.shown.rights m hm) (by rw [← hp]; exact h.shown.rights n hn) hs _
    rw [this] at hg
    cases hg
theorem TW.apart {t : List Nd} (h : TW t) : t.Pairwise fun a b => nmN a ≠ nmN b := by
  refine (List.Pairwise.imp_of_mem ?_ h.sorted)
  intro a b ha hb hab e
  rw [nm_cut (h.rights a ha), nm_cut (h.rights b hb)] at e
  have := cutB_inj e
  unfold cmpB at hab
  rw [this, (cmpL_zero _ _).2 rfl] at hab
  omega
/-- All above a node is there. -/
theorem TW.above {t : List Nd} (h : TW t) : ∀ (k : Nat) (n : Nd) (A D : List (List UInt8)), n ∈ t → D.length ≤ k → cutB n.path = A ++ D → A ≠ [] → D ≠ [] → ∃ m ∈ t, cutB m.path = A ∧ m.kind = 1
  | 0, n, A, D, _, hk, _, _, hD => absurd (List.eq_nil_of_length_eq_zero (by omega)) hD
  | k + 1, n, A, D, hn, hk, hc, hA, hD => by
    obtain ⟨F, x, rfl⟩ : ∃ F x, D = F ++ [x] := ⟨D.dropLast, D.getLast hD, (List.dropLast_concat_getLast hD).symm⟩
    have hp := parent_cut (h.rights n hn)
    rw [hc, ← List.append_assoc, List.dropLast_concat] at hp
    rcases h.dads n hn with e | ⟨m, hm, e, hk1⟩
    · rw [e] at hp
      have : A ++ F = [] := hp.symm
      exact absurd (List.append_eq_nil_iff.1 this).1 hA
    · rw [← e] at hp
      by_cases hF : F = []
      · subst hF
        exact ⟨m, hm, by rw [hp, List.append_nil], hk1⟩
      · exact h.above k m A F hm (by rw [List.length_append, List.length_singleton] at hk; omega) hp hA hF
end Go.Proofs.YteoafohebgfjdaaGreatDoor
