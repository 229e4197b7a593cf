/-
  The text that is summed for a print (12.1), plain; trees as lists of nodes whose paths are unlike.
-/
import Derived.Test.YtbklgijndjpgoaaDoorMkTrees
import Derived.Test.YtbklgijndjpgoaaDoorMkPathsC
import Derived.Test.YtbklgijndjpgoaaDoorMkVint
import Derived.Test.YtbklgijndjpgoaaDoorMkMixB
namespace Go.Proofs.YtbklgijndjpgoaaDoor
open Go.RowKit
set_option maxRecDepth 100000

/-- What a directory's text has of one of its nodes. -/
def putL (m : Nd) (s : Nat × Nat) : List UInt8 := (groupsL (baseB m.path).size ++ toL (baseB m.path)) ++ groupsL m.kind.toNat ++ (wordL s.1 ++ wordL s.2)
/-- A node's text, k levels deep. -/
def txtN (t : List Nd) : Nat → Nd → List UInt8
  | 0, n => if n.kind = 1 then [] else toL n.data
  | k + 1, n => if n.kind = 1 then (kidsL n.path t).flatMap (fun m => putL m (sumL (txtN t k m))) else toL n.data
def dirN (t : List Nd) (k : Nat) (p : ByteArray) : List UInt8 := (kidsL p t).flatMap fun m => putL m (sumL (txtN t k m))
/-- The text of the directory at a path. -/
def dirT (t : List Nd) (p : ByteArray) : List UInt8 := dirN t 601 p
/-- A node's text. -/
def ndT (t : List Nd) (n : Nd) : List UInt8 := if n.kind = 1 then dirT t n.path else toL n.data

theorem flatMap_eq {α β : Type} {f g : α → List β} {l : List α} (h : ∀ m ∈ l, f m = g m) : l.flatMap f = l.flatMap g := by
  rw [List.flatMap_def, List.flatMap_def, List.map_congr_left h]
theorem toL_list (p : ByteArray) : p.toList = toL p := Lib.toList_data p
theorem upG_parent (p : ByteArray) : upG p = parentB p := toL_inj (by rw [(parent_names p).2]; rfl)
theorem kidOf_iff (p : ByteArray) (n : Nd) : kidOf p n = true ↔ parentOk n.path = true ∧ parentB n.path = p := by
  unfold kidOf
  rw [Bool.and_eq_true, (parent_names n.path).1, upG_parent, beq_iff_eq]
  refine and_congr_right fun _ => ⟨fun h => toL_inj (by rw [← toL_list, ← toL_list, h]), fun h => by rw [h]⟩
theorem kid_longer {p : ByteArray} {n : Nd} (h : kidOf p n = true) : p.size < n.path.size := by
  obtain ⟨h1, h2⟩ := (kidOf_iff p n).1 h
  unfold parentB at h2
  rw [if_pos h1] at h2
  have hle := lastN_le (toL n.path)
  have h0 : (toL n.path).length = n.path.size := by simp [toL]
  have hne : n.path.size ≠ 0 := by
    intro h0'
    unfold parentOk at h1
    rw [Bool.and_eq_true] at h1
    have : n.path.toList.length = 0 := by rw [toL_list]; rw [h0, h0']
    rw [List.length_eq_zero_iff.1 this] at h1
    simp at h1
  rw [← h2]
  have : (n.path.extract 0 (lastN (toL n.path) - 1)).size ≤ lastN (toL n.path) - 1 := by
    rw [ByteArray.size_extract]
    omega
  omega
theorem kid_mem {t : List Nd} {p : ByteArray} {m : Nd} (h : m ∈ kidsL p t) : m ∈ t ∧ kidOf p m = true := List.mem_filter.1 h
theorem dir_stable (t : List Nd) (N : Nat) (hN : ∀ n ∈ t, n.path.size ≤ N) : ∀ (d k k' : Nat) (p : ByteArray), N ≤ p.size + d → d ≤ k → d ≤ k' → dirN t k p = dirN t k' p
  | 0, k, k', p, h, _, _ => by
    have : kidsL p t = [] := by
      rw [List.eq_nil_iff_forall_not_mem]
      intro m hm
      obtain ⟨h1, h2⟩ := kid_mem hm
      have := hN m h1
      have := kid_longer h2
      omega
    unfold dirN
    rw [this, List.flatMap_nil, List.flatMap_nil]
  | d + 1, k, k', p, h, hk, hk' => by
    obtain ⟨k, rfl⟩ : ∃ j, k = j + 1 := ⟨k - 1, by omega⟩
    obtain ⟨k', rfl⟩ : ∃ j, k' = j + 1 := ⟨k' - 1, by omega⟩
    unfold dirN
    refine flatMap_eq fun m hm => ?_
    have := kid_longer (kid_mem hm).2
    have e := dir_stable t N hN d k k' m.path (by omega) (by omega) (by omega)
    show putL m (sumL (if m.kind = 1 then dirN t k m.path else toL m.data)) = putL m (sumL (if m.kind = 1 then dirN t k' m.path else toL m.data))
    rw [e]
theorem dirT_eq (t : List Nd) (hN : ∀ n ∈ t, n.path.size ≤ 600) (p : ByteArray) : dirT t p = (kidsL p t).flatMap fun m => putL m (sumL (ndT t m)) := by
  show dirN t 601 p = _
  unfold dirN
  refine flatMap_eq fun m hm => ?_
  have e := dir_stable t 600 hN 600 600 601 m.path (by omega) (by omega) (by omega)
  show putL m (sumL (if m.kind = 1 then dirN t 600 m.path else toL m.data)) = putL m (sumL (if m.kind = 1 then dirN t 601 m.path else toL m.data))
  rw [e]

/-- A tree: few nodes, with short paths, of a right kind, no two at one path. -/
structure MT (t : List Nd) : Prop where
  len : t.length ≤ 600
  path : ∀ n ∈ t, n.path.size ≤ 600
  data : ∀ n ∈ t, n.data.size ≤ 1000000
  kind : ∀ n ∈ t, 1 ≤ n.kind ∧ n.kind ≤ 3
  apart : t.Pairwise fun a b => a.path ≠ b.path
  named : ∀ n ∈ t, n.path.toList.isEmpty = false

theorem base_size (p : ByteArray) : (baseB p).size ≤ p.size := by
  unfold baseB
  split
  · rw [ByteArray.size_extract]; omega
  · exact Nat.zero_le _
theorem putL_len (m : Nd) (s : Nat × Nat) (h : m.path.size ≤ 600) : (putL m s).length ≤ 640 := by
  have h1 := groupsL_le (baseB m.path).size
  have h2 := groupsL_le m.kind.toNat
  have h3 := base_size m.path
  have h4 : (toL (baseB m.path)).length = (baseB m.path).size := by simp [toL]
  unfold putL
  simp only [List.length_append, wordL_len]
  omega
theorem flat_len {α : Type} (f : α → List UInt8) (B : Nat) : ∀ l : List α, (∀ x ∈ l, (f x).length ≤ B) → (l.flatMap f).length ≤ l.length * B
  | [], _ => by simp
  | x :: l, h => by
    have h1 := h x (by simp)
    have h2 := flat_len f B l fun y hy => h y (by simp [hy])
    rw [List.flatMap_cons, List.length_append, List.length_cons, Nat.add_mul]
    omega
theorem kids_few {t : List Nd} (p : ByteArray) (h : t.length ≤ 600) : (kidsL p t).length ≤ 600 := Nat.le_trans (List.length_filter_le _ _) h
theorem dirT_len {t : List Nd} (h : MT t) (p : ByteArray) : (dirT t p).length ≤ 384000 := by
  rw [dirT_eq t h.path]
  have h1 := flat_len (fun m => putL m (sumL (ndT t m))) 640 (kidsL p t) fun m hm => putL_len m _ (h.path m (kid_mem hm).1)
  have h2 := kids_few p h.len
  omega
theorem ndT_len {t : List Nd} (h : MT t) (n : Nd) (hn : n.data.size ≤ 1000000) : (ndT t n).length ≤ 1000000 := by
  unfold ndT
  split
  · have := dirT_len h n.path; omega
  · simpa [toL] using hn
end Go.Proofs.YtbklgijndjpgoaaDoor
