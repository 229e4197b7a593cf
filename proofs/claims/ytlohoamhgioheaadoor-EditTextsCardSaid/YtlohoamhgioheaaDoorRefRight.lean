/-
  The reference's Right and Same.
-/
import Derived.Test.YtlohoamhgioheaaDoorRefCut
import Derived.Test.YtlohoamhgioheaaDoorPathRefName
import Derived.Deep.QuietTactic
import Derived.BigQuiet
namespace Go.Proofs.YtlohoamhgioheaaDoor
open Go.RowKit
set_option maxRecDepth 100000

theorem all_take_succ (cs : List ByteArray) (k : Nat) (x : ByteArray) (hx : cs[k]? = some x) :
    ((cs.map toL).take (k + 1)).all nameL = (((cs.map toL).take k).all nameL && nameL (toL x)) := by
  obtain ⟨hlt, he⟩ := List.getElem?_eq_some_iff.1 hx
  rw [List.take_succ_eq_append_getElem (by simpa using hlt), List.all_append]
  simp [he]

theorem split_len : ∀ (l : List UInt8) (x : List UInt8), x ∈ splitL l → x.length ≤ l.length
  | [], x, h => by simp [splitL] at h; simp [h]
  | c :: r, x, h => by
    have ih := split_len r
    obtain ⟨a, t, hs⟩ := split_some r
    by_cases hc : c = 47
    · subst hc
      rw [split_slash] at h
      rcases List.mem_cons.1 h with rfl | h
      · simp
      · have := ih x h; simp; omega
    · rw [split_other hc hs] at h
      rw [hs] at ih
      rcases List.mem_cons.1 h with rfl | h
      · have := ih a (by simp); simp; omega
      · have := ih x (by simp [h]); simp; omega
theorem cut_len (l x : List UInt8) (h : x ∈ cutL l) : x.length ≤ l.length := by
  unfold cutL at h
  split at h
  · simp at h
  · exact split_len l x h
theorem split_count : ∀ l : List UInt8, (splitL l).length ≤ l.length + 1
  | [] => by simp [splitL]
  | c :: r => by
    have ih := split_count r
    obtain ⟨a, t, hs⟩ := split_some r
    by_cases hc : c = 47
    · subst hc; rw [split_slash]; simp; omega
    · rw [split_other hc hs]; rw [hs] at ih; simp at ih ⊢; omega
theorem cut_count (l : List UInt8) : (cutL l).length ≤ l.length + 1 := by
  unfold cutL
  split
  · simp
  · exact split_count l
theorem piece_size {cs : List ByteArray} {l : List UInt8} (h : cs.map toL = cutL l) {k : Nat} {x : ByteArray} (hx : cs[k]? = some x) : x.size ≤ l.length := by
  have := cut_len l (toL x) (by rw [← h]; exact List.mem_map.2 ⟨x, List.mem_of_getElem? hx, rfl⟩)
  simpa [toL] using this

set_option maxHeartbeats 2000000 in
theorem refRight_any (p : ByteArray) (w : World) (hp : (p.size : Int) ≤ 1000000) :
    Calls Tryd.prog 28 #[.string p] w fun e w' => e = .returned (.bool (rightL (toL p))) ∧ Below w.heap.size w w' := by
  go_enter Tryd.func28, Tryd.ntmps28
  go_wp2_with fail
  refine (refCut_any p w hp).mono ?_
  rintro e w1 ⟨A, c, cs, rfl, hcs, hcap, hR, hB1⟩
  have HC := hide hcs
  have hn : (cs.length : Int) ≤ 1000001 := by
    have := cut_count (toL p)
    rw [← hcs] at this
    simp [toL] at this
    omega
  clear hcs
  go_wp2_with fail
  go_loopw [4] (fun i wr => ∃ k : Nat, k ≤ cs.length ∧ i = .int .i64 k ∧ Hid (((cs.map toL).take k).all nameL = true) ∧ wr = w1) (fun i _ => cs.length - (intOf i).toNat)
  case atStart => exact ⟨0, Nat.zero_le _, rfl, hide (by simp), rfl⟩
  case round =>
    obtain ⟨k, hk, rfl, HA, rfl⟩ := hrel
    by_cases hlt : (k : Int) < cs.length
    · have hlt' : k < cs.length := by omega
      obtain ⟨ad, rfl, hlow, hc⟩ := hR k cs[k] (List.getElem?_eq_getElem hlt')
      have hsn := all_take_succ cs k cs[k] (List.getElem?_eq_getElem hlt')
      rw [HA.out, Bool.true_and] at hsn
      have HS := hide hsn
      clear hsn
      have hsz : (cs[k].size : Int) ≤ 9223372036854775800 := by have := piece_size HC.out (List.getElem?_eq_getElem hlt'); simp [toL] at this; omega
      go_wp2_with fail
      refine (refName_any cs[k] _ hsz).mono ?_
      rintro e w2 ⟨rfl, rfl⟩
      cases hn : nameL cs[k].data.toList with
      | true =>
        go_wp2_with fail
        go_roundw
        case rel => exact ⟨k + 1, by omega, rfl, hide (by rw [HS.out]; exact hn), trivial⟩
        case measure => simp [intOf]; omega
      | false =>
        have HF := hide (show rightL (toL p) = false by
          have h := HS.out
          rw [show nameL (toL cs[k]) = false from hn, HC.out] at h
          have e : (cutL (toL p)).all nameL = false := by
            rw [← List.take_append_drop (k + 1) (cutL (toL p)), List.all_append, h]; rfl
          rw [right_cut, e]; rfl)
        go_wp2_with fail
        refine bodyPost_ret (results_tmp rfl _ _ _) rfl ⟨by rw [HF.out]; rfl, hB1⟩
    · obtain rfl : k = cs.length := by omega
      have HF := hide (show rightL (toL p) = decide ((cs.length : Int) ≤ 16) by
        have h := HA.out
        rw [List.take_of_length_le (by simp), HC.out] at h
        rw [right_cut, h, ← HC.out, Bool.true_and, List.length_map, decide_eq_decide]; omega)
      go_wp2_with fail
      refine bodyPost_ret (results_tmp rfl _ _ _) rfl ⟨by rw [HF.out]; rfl, hB1⟩

/-- Two slices of texts, held against each other. -/
theorem take_same (a b : List ByteArray) (k : Nat) (x y : ByteArray) (hx : a[k]? = some x) (hy : b[k]? = some y) :
    (((a.map toL).take (k + 1)) == ((b.map toL).take (k + 1))) = (((a.map toL).take k == (b.map toL).take k) && (x.toList == y.toList)) := by
  obtain ⟨h1, e1⟩ := List.getElem?_eq_some_iff.1 hx
  obtain ⟨h2, e2⟩ := List.getElem?_eq_some_iff.1 hy
  rw [List.take_succ_eq_append_getElem (by simpa using h1), List.take_succ_eq_append_getElem (by simpa using h2)]
  rw [Bool.eq_iff_iff]
  simp only [beq_iff_eq, Bool.and_eq_true, List.getElem_map, e1, e2, Lib.toList_data]
  constructor
  · intro h
    obtain ⟨e, e'⟩ := List.append_inj' h rfl
    exact ⟨e, by simpa [toL] using e'⟩
  · rintro ⟨e, e'⟩
    rw [e]; simp [toL, e']
end Go.Proofs.YtlohoamhgioheaaDoor
