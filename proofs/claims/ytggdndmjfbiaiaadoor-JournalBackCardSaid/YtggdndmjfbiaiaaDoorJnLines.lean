/-
  A text's lines: strings.Lines tells them.
-/
import Derived.Test.YtggdndmjfbiaiaaDoorJnStr
import Derived.Test.YtggdndmjfbiaiaaDoorRange
import Derived.OwnWalkIn
import Derived.TacticsInMore
import Derived.LoopNIn
import Derived.LoopIn
import Derived.Shelf.Abstract
import Derived.Shelf.RegionOpen
import Derived.Deep.RegionLaw
import Derived.Deep.RegionHeld
namespace Go.Proofs.YtggdndmjfbiaiaaDoor
open Go.RowKit
set_option maxRecDepth 100000
attribute [local go_sem] Oper.semAt_some

/-- A text's lines, each with its line feed; the last one may lack it. -/
def linesL : List UInt8 → List (List UInt8)
  | [] => []
  | c :: r => if c == 10 then [10] :: linesL r else match linesL r with
    | [] => [[c]]
    | h :: t => (c :: h) :: t
theorem lines_nil : linesL [] = [] := rfl
theorem lines_none : ∀ l : List UInt8, Lib.indexByte l 10 = -1 → l ≠ [] → linesL l = [l]
  | [], _, h => absurd rfl h
  | c :: r, h, _ => by
    unfold Lib.indexByte at h
    split at h
    · omega
    · rename_i hc
      have hr : Lib.indexByte r 10 = -1 := by
        split at h
        · rename_i h1; simpa using h1
        · have := Lib.indexByte_ge r 10; omega
      unfold linesL
      rw [if_neg hc]
      cases r with
      | nil => rfl
      | cons d s => rw [lines_none (d :: s) hr (by simp)]
theorem lines_some : ∀ (l : List UInt8) (o : Nat), Lib.indexByte l 10 = o → linesL l = l.take (o + 1) :: linesL (l.drop (o + 1)) ∧ o < l.length
  | [], o, h => by unfold Lib.indexByte at h; omega
  | c :: r, o, h => by
    unfold Lib.indexByte at h
    split at h
    · rename_i hc
      obtain rfl : o = 0 := by omega
      have e : c = 10 := by simpa using hc
      unfold linesL
      rw [if_pos hc]
      refine ⟨?_, by simp⟩
      rw [e]
      simp
      cases r <;> simp [linesL]
    · rename_i hc
      split at h
      · omega
      · rename_i h1
        have hge := Lib.indexByte_ge r 10
        obtain ⟨o', ho⟩ : ∃ o' : Nat, Lib.indexByte r 10 = o' := ⟨(Lib.indexByte r 10).toNat, by simp at h1; omega⟩
        obtain rfl : o = o' + 1 := by omega
        obtain ⟨e, hl⟩ := lines_some r o' ho
        constructor
        · rw [linesL.eq_def]
          simp only [hc, if_false, Bool.false_eq_true, e]
          simp
        · simp; omega

theorem strIndexByte_any (s : ByteArray) (c : UInt8) (w : World) :
    Calls Tryd.prog 23 #[.string s, .int .u8 c.toNat] w fun e w' => e = .returned (.int .i64 (Lib.indexByte s.data.toList c)) ∧ w = w' := by
  go_enter Tryd.func23, Tryd.ntmps23
  go_wp2_with fail
  refine (indexByte_any s c _).mono ?_
  rintro e w1 ⟨rfl, rfl⟩
  go_wp2
  go_ret
  exact ⟨rfl, rfl⟩
theorem linesOf_any (p : ByteArray) (w : World) :
    Calls Tryd.prog 19 #[.string p] w fun e w' => e = .returned (.func (.func 22) #[] #[.pointer (some ⟨w.heap.size, 0, none⟩)]) ∧ w' = w.alloc (.cells #[.string p] 9) := by
  go_enter Tryd.func19, Tryd.ntmps19
  go_wp2
  go_ret
  exact ⟨rfl, rfl⟩

set_option maxHeartbeats 4000000 in
theorem lines_seq (n : Nat) (b : Nat) (s : ByteArray) (w : World) (hss : (s.size : Int) ≤ 1000000) (l1 : b < w.heap.size) (c1 : w.heap[b]? = some (.cells #[.string s] 9 (0, 0))) :
    SeqT Fence.wide n Tryd.prog 22 #[.pointer (some ⟨b, 0, none⟩)] (fun x : ByteArray => #[.string x]) [b]
      (fun xs => xs.map toL = linesL (toL s)) (fun pre => pre.map toL <+: linesL (toL s)) w := by
  intro l J Jx W hW hJ hJx hY h0
  obtain ⟨T, hT⟩ : ∃ T, T = linesL (toL s) := ⟨_, rfl⟩
  rw [← hT] at hY ⊢
  have HT := hide hT
  clear hT
  have hJ := hJ W.heap.size (Nat.le_refl _)
  have hY := fun pre x W1 => hY W.heap.size pre x W1 (Nat.le_refl _)
  have h0 := h0 W.heap.size (Nat.le_refl _)
  refine (CallsIn.mono ?_ (fun e W' (h : (∃ v, e = Ending.returned v) ∧ ((∃ xs : List ByteArray, xs.map toL = T ∧ J W.heap.size xs W') ∨ (∃ pre : List ByteArray, pre.map toL <+: T ∧ Jx W.heap.size pre W'))) => ⟨h.1, W.heap.size, Nat.le_refl _, h.2⟩))
  have k1 : W.heap[b]? = some (.cells #[.string s] 9 (0, 0)) := (hW.block _ l1).trans c1
  clear c1 hW l1 hJx
  have d1 : W.cell? ⟨b, 0, none⟩ = some (.string s) := cell_of_row _ _ _ _ _ _ k1
  refine callsIn_of_wp Tryd.func22 rfl trivial ?_ rfl
  simp only [Tryd.ntmps22, List.size_toArray, List.length_cons, List.length_nil, Nat.reduceAdd, Nat.reduceSub, Array.replicate_succ, Array.replicate_zero, List.push_toArray, List.append_toArray, List.nil_append, List.cons_append]
  gi_wp2
  gi_loopw [3] (fun _ wr => ∃ (pre : List ByteArray) (t : ByteArray), wr.heap[b]? = some (.cells #[.string t] 9 (0, 0)) ∧ Hid (pre.map toL ++ linesL (toL t) = T) ∧ t.size ≤ s.size ∧ W.heap.size ≤ wr.heap.size ∧ J W.heap.size pre wr) (fun _ wr => boxLen wr b)
  case atStart => exact ⟨[], s, k1, hide HT.out.symm, Nat.le_refl _, Nat.le_refl _, h0⟩
  case round =>
    obtain ⟨pre, t, e1, HP, hts, hsz, hj⟩ := hrel
    have f1 : wr.cell? ⟨b, 0, none⟩ = some (.string t) := cell_of_row _ _ _ _ _ _ e1
    have z1 : wr.frozen? ⟨b, 0, none⟩ = false := frozen_of_row _ _ _ _ _ e1
    clear d1 k1
    by_cases hp : (0 : Int) < t.size
    · rcases index_cases t.data.toList 10 with hi | ⟨o, hi⟩
      · have hne : toL t ≠ [] := fun h => by
          have h2 := congrArg List.length h
          rw [size_toL, List.length_nil] at h2
          omega
        have hn := lines_none (toL t) hi hne
        have HE := hide (show (pre ++ [t]).map toL = T by rw [← HP.out, hn, List.map_append]; rfl)
        have HI := hide (fun W => strIndexByte_any t 10 W)
        rw [hi] at HI
        have e2 : (wr.setCell ⟨b, 0, none⟩ (.string ⟨#[]⟩)).heap[b]? = some (.cells #[.string ⟨#[]⟩] 9 (0, 0)) := heap_setCell_same _ _ _ _ _ _ e1
        have hj1 : J W.heap.size pre (wr.setCell ⟨b, 0, none⟩ (.string ⟨#[]⟩)) := hJ _ _ _ (some b) hj (grownBy_setCell _ _ _) (fun r e => by cases e; exact .inl (by simp))
        have hs1 : W.heap.size ≤ (wr.setCell ⟨b, 0, none⟩ (.string ⟨#[]⟩)).heap.size := by simpa [World.setCell] using hsz
        obtain ⟨fn, tmps, assign, body, hy, hR⟩ := hY pre t (wr.setCell ⟨b, 0, none⟩ (.string ⟨#[]⟩)) hs1 hj1 (by rw [HE.out]; exact List.prefix_refl _)
        have HR := hide hR
        clear hi hY hR hne hn HP hj1
        gi_wp2_with fail
        refine ⟨trivial, fun h => (by cases h), (callsIn_wide.2 (HI.out _)).mono ?_⟩
        rintro e w' ⟨rfl, rfl⟩
        gi_wp2_with fail
        refine ⟨fun h => (by cases h), HR.out.mono ?_⟩
        rintro e W' (⟨rfl, hJ', hk⟩ | ⟨rfl, hJx', hk⟩)
        · have g1 := (hk.2 b (.inl (by simp))).trans e2
          have hs2 : W.heap.size ≤ W'.heap.size := Nat.le_trans hs1 hk.1
          gi_wp2_with fail
          go_roundw
          case rel => exact ⟨pre ++ [t], ⟨#[]⟩, g1, hide (by rw [HE.out]; exact List.append_nil T), Nat.zero_le _, hs2, hJ'⟩
          case measure => rw [boxLen_eq (cell_of_row _ _ _ _ _ _ g1), boxLen_eq f1]; show 0 < t.size; omega
        · gi_wp2_with fail
          refine bodyPost_ret (results_none rfl _ _ _) rfl ?_
          exact ⟨⟨_, rfl⟩, .inr ⟨pre ++ [t], by rw [HE.out]; exact List.prefix_refl _, hJx'⟩⟩
      · obtain ⟨hn, hol⟩ := lines_some _ o hi
        rw [← Lib.size_eq] at hol
        have HI := hide (fun W => strIndexByte_any t 10 W)
        rw [hi] at HI
        have q1 : toL (t.extract 0 (o + 1)) = t.data.toList.take (o + 1) := by unfold toL; rw [Lib.extract_data]; simp
        have q2 : toL (t.extract (o + 1) t.size) = t.data.toList.drop (o + 1) := by
          unfold toL
          rw [Lib.extract_data, List.take_of_length_le (by simp)]
        have HE := hide (show (pre ++ [t.extract 0 (o + 1)]).map toL ++ linesL (toL (t.extract (o + 1) t.size)) = T by
          rw [← HP.out, List.map_append, q2, show linesL (toL t) = t.data.toList.take (o + 1) :: linesL (t.data.toList.drop (o + 1)) from hn, ← q1]
          simp)
        have hz2 : (t.extract (o + 1) t.size).size < t.size := by simp [ByteArray.size_extract]; omega
        have o1 : IntKind.i64.wrap ((o : Int) + 1) = ((o + 1 : Nat) : Int) := by rw [IntWalk.i64_in _ (by omega)]; rfl
        have o2 : (0 : Int) ≤ ((o + 1 : Nat) : Int) := by omega
        have o3 : ((o + 1 : Nat) : Int) ≤ t.size := by omega
        have o4 : (0 : Int) ≤ o := by omega
        have o5 : (0 : Int) ≤ (o : Int) + 1 := by omega
        have o6 : (o : Int) + 1 ≤ t.size := by omega
        obtain ⟨W1, hW1⟩ : ∃ W1, W1 = (wr.setCell ⟨b, 0, none⟩ (.string (t.extract (o + 1) t.size))).drew := ⟨_, rfl⟩
        have e2 : W1.heap[b]? = some (.cells #[.string (t.extract (o + 1) t.size)] 9 (0, 0)) := by rw [hW1]; exact heap_setCell_same _ _ _ _ _ _ e1
        have hj1 : J W.heap.size pre W1 := by
          rw [hW1]
          exact hJ _ _ _ none (hJ _ _ _ (some b) hj (grownBy_setCell _ _ _) (fun r e => by cases e; exact .inl (by simp))) (grownBy_below (below_drew (Below.refl _ _))) (fun r e => by cases e)
        have hs1 : W.heap.size ≤ W1.heap.size := by rw [hW1]; show _ ≤ (wr.setCell _ _).heap.size; simpa [World.setCell] using hsz
        obtain ⟨fn, tmps, assign, body, hy, hR⟩ := hY pre (t.extract 0 (o + 1)) W1 hs1 hj1 ⟨_, HE.out⟩
        have HR := hide hR
        have HW := hide hW1
        have HZ := hide hz2
        have HTS := hide hts
        clear hi hY hR hn HP hj1 hW1 hol q1 q2 hz2 hts
        gi_wp2_with fail
        refine ⟨trivial, fun h => (by cases h), (callsIn_wide.2 (HI.out _)).mono ?_⟩
        rintro e w' ⟨rfl, rfl⟩
        gi_wp2_with fail
        refine wpIn_wide.2 ?_
        go_region_law (fail)
        all_goals
          rw [← HW.out]
          clear HW
          gi_wp2_with fail
          refine ⟨fun h => (by cases h), HR.out.mono ?_⟩
          rintro e W' (⟨rfl, hJ', hk⟩ | ⟨rfl, hJx', hk⟩)
          · have g1 := (hk.2 b (.inl (by simp))).trans e2
            have hs2 : W.heap.size ≤ W'.heap.size := Nat.le_trans hs1 hk.1
            gi_wp2_with fail
            go_roundw
            case rel => exact ⟨pre ++ [t.extract 0 (o + 1)], t.extract (o + 1) t.size, g1, HE, by have := HZ.out; have := HTS.out; omega, hs2, hJ'⟩
            case measure => rw [boxLen_eq (cell_of_row _ _ _ _ _ _ g1), boxLen_eq f1]; exact HZ.out
          · gi_wp2_with fail
            refine bodyPost_ret (results_none rfl _ _ _) rfl ?_
            exact ⟨⟨_, rfl⟩, .inr ⟨pre ++ [t.extract 0 (o + 1)], ⟨_, HE.out⟩, hJx'⟩⟩
    · have hz : t.size = 0 := by omega
      have HE := hide (show pre.map toL = T by
        rw [← HP.out, show toL t = [] from List.length_eq_zero_iff.1 (by rw [size_toL, hz]), lines_nil, List.append_nil])
      clear hY HP hz
      gi_wp2_with fail
      go_end0
      exact ⟨⟨_, rfl⟩, .inl ⟨pre, HE.out, hj⟩⟩
end Go.Proofs.YtggdndmjfbiaiaaDoor
