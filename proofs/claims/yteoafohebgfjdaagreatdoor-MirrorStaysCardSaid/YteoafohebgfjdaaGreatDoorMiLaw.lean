/-
  What the laws of layer 14 share: plain.
-/
import Derived.Test.YteoafohebgfjdaaGreatDoorAutoTreeFindAt
namespace Go.Proofs.YteoafohebgfjdaaGreatDoor
open Go.RowKit Go.Maps
set_option maxRecDepth 100000

theorem sort_len : ∀ l s : List Nd, (sortFrom s l).length ≤ s.length + l.length
  | [], s => by simp [sortFrom]
  | n :: l, s => by
    have h := sort_len l (if checkN n = 0 ∧ atL n.path s < 0 then insL s n else s)
    have h2 : (if checkN n = 0 ∧ atL n.path s < 0 then insL s n else s).length ≤ s.length + 1 := by
      split
      · rw [ins_len]; omega
      · omega
    show (sortFrom _ l).length ≤ _
    rw [List.length_cons]
    omega
theorem tree_len (l : List Nd) : (treeL l).length ≤ l.length := by
  obtain ⟨r, h1, h2, _⟩ := take_sub (sortFrom [] l) [] (by simp)
  have h3 := sort_len l []
  have h4 := h2.length_le
  unfold treeL
  rw [h1]
  simp at h3 ⊢
  omega
theorem small_len {l : List Nd} (h : smallL l = true) : l.length ≤ 24 ∧ (treeL l).length ≤ 24 ∧ FewN l := by
  have h1 : l.length ≤ 24 := by
    unfold smallL at h
    rw [Bool.and_eq_true] at h
    exact of_decide_eq_true h.1
  have h2 := tree_len l
  exact ⟨h1, by omega, fun k n hn => by have := small_mem h (List.mem_of_getElem? hn); omega⟩
theorem both_ok {s t : List Nd} (hs : TW s) (ht : TW t) : ∀ n ∈ s ++ t, rightB n.path ∧ n.path.size ≤ 200 := fun n hn => by
  rcases List.mem_append.1 hn with h | h
  · exact ⟨hs.rights n h, (hs.few n h).1⟩
  · exact ⟨ht.rights n h, (ht.few n h).1⟩
theorem find_there {M : List Nd} {p : ByteArray} (h : ∃ m ∈ M, m.path = p) : ∃ m ∈ M, m.path = p ∧ findL p M = (m, true) := by
  obtain ⟨m0, hm0, e0⟩ := h
  rcases at_cases p M with h1 | ⟨k, n, h1, h2, h3⟩
  · exact absurd e0 (at_none p M 0 (by show atL p M < 0; omega) m0 hm0)
  · have e : n.path = p := by
      unfold hit at h3
      rw [beq_iff_eq] at h3
      exact toL_inj (by rw [← toL_list, ← toL_list, h3])
    refine ⟨n, List.mem_of_getElem? h2, e, ?_⟩
    unfold findL
    rw [if_neg (by omega), h1, Int.toNat_natCast, List.getD_eq_getElem?_getD, h2]
    rfl
theorem same_path {D : List Nd} (hD : TW D) {n m : Nd} (hn : n ∈ D) (hm : m ∈ D) (e : n.path = m.path) : n = m := one_path hD hn hm (by unfold nmN; rw [e])
theorem at_some {s : List Nd} {p : ByteArray} (h : ∃ m ∈ s, m.path = p) : ¬ atL p s < 0 := fun hlt => by
  obtain ⟨m, hm, e⟩ := h
  exact at_none p s 0 hlt m hm e
/-- MirrorPlain: what the loop finds. -/
theorem plain_find {R : List (Bool × List UInt8)} {a b : List Nd} {l : List Fd} (ha : TW a) (hb : TW b) (ht : Told (layV (sentL R a) (shownL b) (guardL R b) false) l) {n : Nd} (hn : n ∈ shownL b) :
    ∃ m, findL n.path (l.map (·.node)) = (m, true) ∧ (m = n ∨ ¬ atL n.path a < 0) := by
  have hM := mirror_tw ha hb ht
  have hk := keeps_each ha hb ht hn
  have hex : ∃ m ∈ l.map (·.node), m.path = n.path := by
    rcases hk with h | ⟨m, h1, _, h2⟩
    · exact ⟨n, h, rfl⟩
    · exact ⟨m, h1, h2⟩
  obtain ⟨m, h1, h2, h3⟩ := find_there hex
  refine ⟨m, h3, ?_⟩
  rcases hk with h | ⟨x, hx1, hx2, hx3⟩
  · exact .inl (same_path hM h1 h h2)
  · exact .inr (at_some ⟨x, hx2, hx3⟩)
/-- MirrorStays: what the loop finds. -/
theorem stays_find {R : List (Bool × List UInt8)} {a b : List Nd} {del : Bool} {l : List Fd} (ha : TW a) (hb : TW b) (ht : Told (layV (sentL R a) (shownL b) (guardL R b) del) l) {n : Nd} (hn : n ∈ guardL R b) :
    findL n.path (l.map (·.node)) = (n, true) := by
  have hM := mirror_tw ha hb ht
  have hi := guarded_in ha hb ht n hn
  obtain ⟨m, h1, h2, h3⟩ := find_there ⟨n, hi, rfl⟩
  rw [h3, same_path hM h1 hi h2]
end Go.Proofs.YteoafohebgfjdaaGreatDoor
