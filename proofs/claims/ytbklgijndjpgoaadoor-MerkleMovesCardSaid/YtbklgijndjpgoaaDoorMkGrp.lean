/-
  Nodes by their parents' paths, in a map of slices: what hangs on each directory (merkle.look).
-/
import Derived.Test.YtbklgijndjpgoaaDoorMkBase
import Derived.Test.YtbklgijndjpgoaaDoorMkText
import Derived.Deep.AppendLies
namespace Go.Proofs.YtbklgijndjpgoaaDoor
open Go.RowKit
set_option maxRecDepth 100000

/-- The map in block b has what hangs on each directory, in rows of the call's own. -/
structure GrpF (W : World) (b base : Nat) (L : List ByteArray) (f : ByteArray → Option Value) (t : List Nd) : Prop where
  map : MapIs W b L f
  no : ∀ p, f p = none → kidsL p t = []
  row : ∀ p v, f p = some v → W.ownsRow base 34 5 v (kidsL p t).length (cellsN (kidsL p t))
  apart : ∀ p q v u, f p = some v → f q = some u → p ≠ q → v.ownBlock = none ∨ v.ownBlock ≠ u.ownBlock

theorem GrpF.at {W : World} {b base : Nat} {L : List ByteArray} {f : ByteArray → Option Value} {t : List Nd} (h : GrpF W b base L f t) (p : ByteArray) : W.ownsRow base 34 5 ((f p).getD (.slice none 0 0)) (kidsL p t).length (cellsN (kidsL p t)) := by
  cases hf : f p with
  | none => rw [h.no p hf]; exact World.ownsRow_nil _ _ _ _
  | some v => exact h.row p v hf
theorem ownsRow_block {w : World} {base n size : Nat} {e : TypeId} {v : Value} {xs : List Value} (h : w.ownsRow base e size v n xs) {g : Nat} (hg : v.ownBlock = some g) : base ≤ g ∧ g < w.heap.size := by
  rcases h.2 with ⟨rfl, _⟩ | ⟨g', cap, cur, rfl, hb, hh, _⟩
  · cases hg
  · injection hg with hg
    subst hg
    exact ⟨hb, (Array.getElem?_eq_some_iff.1 hh).1⟩
theorem GrpF.kept {W W' : World} {b base : Nat} {L : List ByteArray} {f : ByteArray → Option Value} {t : List Nd} (h : GrpF W b base L f t) (hg : W.grownBy W' none) : GrpF W' b base L f t where
  map := h.map.kept hg (by simp)
  no := h.no
  row p v hv := (h.row p v hv).kept hg (by cases v.ownBlock <;> simp)
  apart := h.apart
theorem GrpF.made (w : World) (base : Nat) (L : List ByteArray) : GrpF (w.alloc (.map #[] 0)) w.heap.size base L (fun _ => none) [] where
  map := MapIs.made w L
  no p _ := rfl
  row p v hv := by cases hv
  apart p q v u hv := by cases hv
theorem kidsL_snoc (p : ByteArray) (t : List Nd) (n : Nd) : kidsL p (t ++ [n]) = kidsL p t ++ if kidOf p n = true then [n] else [] := by
  unfold kidsL
  rw [List.filter_append, List.filter_cons]
  cases kidOf p n <;> rfl
/-- A node that has no parent. -/
theorem GrpF.skip {W : World} {b base : Nat} {L : List ByteArray} {f : ByteArray → Option Value} {t : List Nd} {n : Nd} (h : GrpF W b base L f t) (hn : parentOk n.path = false) : GrpF W b base L f (t ++ [n]) := by
  have e : ∀ p, kidsL p (t ++ [n]) = kidsL p t := fun p => by
    rw [kidsL_snoc, if_neg, List.append_nil]
    rw [kidOf_iff, hn]; simp
  exact ⟨h.map, fun p hp => by rw [e]; exact h.no p hp, fun p v hv => by rw [e]; exact h.row p v hv, h.apart⟩
/-- A node with a parent: its slice has been appended to; the map takes it. -/
theorem GrpF.add {W w5 : World} {b base g cap : Nat} {L : List ByteArray} {f : ByteArray → Option Value} {t : List Nd} {n : Nd} (h : GrpF W b base L f t) (hok : parentOk n.path = true) (hL : parentB n.path ∈ L) (hl : L.length < maxLen) (hs : (parentB n.path).size ≤ maxLen)
    (hbb : b < base)
    (hO : w5.ownsRow base 34 5 (.slice (some ⟨g, 0, none⟩) ((kidsL (parentB n.path) t).length + 1) cap) ((kidsL (parentB n.path) t).length + 1) (cellsN (kidsL (parentB n.path) t) ++ cellsN [n]))
    (hg : W.grownBy w5 ((f (parentB n.path)).getD (.slice none 0 0)).ownBlock) (hat : ((f (parentB n.path)).getD (.slice none 0 0)).ownBlock = some g ∨ g = W.heap.size) :
    ∃ w6, (Instr.mapUpdate 67 (.map (some b)) (.string (parentB n.path)) (.slice (some ⟨g, 0, none⟩) ((kidsL (parentB n.path) t).length + 1) cap)).run Tryd.prog w5 = .ok () w6 ∧
      GrpF w6 b base L (setF f (parentB n.path) (.slice (some ⟨g, 0, none⟩) ((kidsL (parentB n.path) t).length + 1) cap)) (t ++ [n]) ∧ w5.grownBy w6 (some b) := by
  obtain ⟨up, hup⟩ : ∃ up, up = parentB n.path := ⟨_, rfl⟩
  rw [← hup] at hL hs hO hg hat ⊢
  have hold := h.at up
  have hne : some b ≠ ((f up).getD (.slice none 0 0)).ownBlock := fun e => by
    have := (ownsRow_block hold e.symm).1
    omega
  have hm5 := h.map.kept hg hne
  obtain ⟨w6, hrun, hm6, hg6⟩ := hm5.put Tryd.underlying67 up hs hL hl (.slice (some ⟨g, 0, none⟩) ((kidsL up t).length + 1) cap)
  have hgb : base ≤ g := (ownsRow_block hO rfl).1
  have kids_up : kidsL up (t ++ [n]) = kidsL up t ++ [n] := by rw [kidsL_snoc, if_pos ((kidOf_iff _ _).2 ⟨hok, hup.symm⟩)]
  have kids_no : ∀ p, p ≠ up → kidsL p (t ++ [n]) = kidsL p t := fun p hp => by
    rw [kidsL_snoc, if_neg, List.append_nil]
    rw [kidOf_iff, ← hup]
    exact fun e => hp e.2.symm
  -- another key's slice lies elsewhere than the old slice at this key
  have far : ∀ p v, f p = some v → p ≠ up → v.ownBlock = none ∨ v.ownBlock ≠ ((f up).getD (.slice none 0 0)).ownBlock := fun p v hv hp => by
    cases hf : f up with
    | none =>
      cases hvb : v.ownBlock with
      | none => exact .inl rfl
      | some x => exact .inr (by simp [Value.ownBlock])
    | some u => exact h.apart p up v u hv hf hp
  have farg : ∀ p v, f p = some v → p ≠ up → v.ownBlock = none ∨ v.ownBlock ≠ some g := fun p v hv hp => by
    rcases hat with hat | hat
    · rw [← hat]; exact far p v hv hp
    · cases hvb : v.ownBlock with
      | none => exact .inl rfl
      | some x =>
        have := (ownsRow_block (h.row p v hv) hvb).2
        exact .inr (by simp; omega)
  refine ⟨w6, hrun, ⟨hm6, fun p hp => ?_, fun p v hv => ?_, fun p q v u hv hu hpq => ?_⟩, hg6⟩
  · unfold setF at hp
    split at hp
    · cases hp
    · rename_i hpu
      rw [kids_no p hpu]; exact h.no p hp
  · unfold setF at hv
    split at hv
    · rename_i hpu
      injection hv with hv
      subst hv
      rw [hpu, kids_up, cellsN_app, List.length_append]
      exact hO.kept hg6 (.inr (by simp [Value.ownBlock]; omega))
    · rename_i hpu
      rw [kids_no p hpu]
      refine ((h.row p v hv).kept hg (far p v hv hpu)).kept hg6 ?_
      cases hvb : v.ownBlock with
      | none => exact .inl rfl
      | some x =>
        have := (ownsRow_block (h.row p v hv) hvb).1
        exact .inr (by simp; omega)
  · unfold setF at hv hu
    split at hv <;> split at hu
    · rename_i h1 h2
      exact absurd (h1.trans h2.symm) hpq
    · rename_i h1 h2
      injection hv with hv
      subst hv
      right
      intro e
      rcases farg q u hu h2 with h3 | h3
      · rw [h3] at e; cases e
      · exact h3 e.symm
    · rename_i h1 h2
      injection hu with hu
      subst hu
      exact farg p v hv h1
    · exact h.apart p q v u hv hu hpq
end Go.Proofs.YtbklgijndjpgoaaDoor
