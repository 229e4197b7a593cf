/-
  PathsMoves's law, walked.
-/
import Derived.Test.YthmiffjhchhljaaDoorRefRebase
namespace Go.Proofs.YthmiffjhchhljaaDoor
open Go.RowKit
set_option maxRecDepth 100000

theorem moved_size (p a b : ByteArray) : (movedV p a b).size ≤ b.size + (p.size + 1) := by
  unfold movedV
  split
  · unfold movedB
    have h := restB_size p a
    split
    · have := restP_size (restB p a) ⟨#[47]⟩
      omega
    · rw [ByteArray.size_append]; omega
  · exact Nat.zero_le _
theorem moves_back (p a b : ByteArray) (h : moveOk p a b = true) : moveOk (movedV p a b) b a = true ∧ movedV (movedV p a b) b a = p ∧ okB (movedV p a b) b = true := by
  have h0 := h
  rw [moveOk_cut letter_slash, Bool.and_eq_true, Bool.and_eq_true, decide_eq_true_eq] at h
  obtain ⟨⟨h1, h2⟩, h3⟩ := h
  have hok : okB p a = true := by rw [okB_eq]; exact h1
  have hg : toL (movedV p a b) = glueL (movedL (toL p) (toL a) (toL b)) := by unfold movedV; rw [if_pos h0]; exact moved_cut p a b hok
  obtain ⟨k1, k2, k3, k4⟩ := moved_back letter_slash _ _ _ _ ((withinB_iff _ _).1 h1) h2 h3 hg
  have hok2 : okB (movedV p a b) b = true := by rw [okB_eq]; exact k1
  have hm : moveOk (movedV p a b) b a = true := by rw [moveOk_cut letter_slash, k1, k2, decide_eq_true k3]; rfl
  refine ⟨hm, ?_, hok2⟩
  apply toL_inj
  conv => lhs; rw [show movedV (movedV p a b) b a = movedB (movedV p a b) b a from if_pos hm]
  rw [moved_cut _ _ _ hok2, k4]

set_option maxHeartbeats 4000000 in
theorem moves_law (p a b : ByteArray) (w : World) :
    Calls Tryd.prog 5 #[.string p, .string a, .string b] w fun e w' => e = .returned (.bool true) ∧ Below w.heap.size w w' := by
  by_cases h1 : (300 : Int) < p.size
  · go_enter Tryd.func5, Tryd.ntmps5
    go_wp2_with fail
    refine (awake_any _).mono ?_
    rintro e w9 ⟨rfl, hB9⟩
    go_wp2_with fail
    refine bodyPost_ret (results_tmp rfl _ _ _) rfl ⟨rfl, hB9⟩
  by_cases h2 : (300 : Int) < a.size
  · go_enter Tryd.func5, Tryd.ntmps5
    go_wp2_with fail
    refine (awake_any _).mono ?_
    rintro e w9 ⟨rfl, hB9⟩
    go_wp2_with fail
    refine bodyPost_ret (results_tmp rfl _ _ _) rfl ⟨rfl, hB9⟩
  by_cases h3 : (300 : Int) < b.size
  · go_enter Tryd.func5, Tryd.ntmps5
    go_wp2_with fail
    refine (awake_any _).mono ?_
    rintro e w9 ⟨rfl, hB9⟩
    go_wp2_with fail
    refine bodyPost_ret (results_tmp rfl _ _ _) rfl ⟨rfl, hB9⟩
  have hgs := moved_size p a b
  have hg : ((movedV p a b).size : Int) ≤ 1000 := by omega
  have HX := hide (moves_back p a b)
  clear hgs
  generalize hG : movedV p a b = g at hg HX
  have HG := hide hG
  clear hG
  go_enter Tryd.func5, Tryd.ntmps5
  go_wp2_with fail
  refine (rebase_any p a b _ (by omega) (by omega) (by omega)).mono ?_
  rw [HG.out]
  rintro e w1 ⟨rfl, hB1⟩
  go_wp2_with fail
  refine (refRebase_any p a b _ (by omega) (by omega) (by omega)).mono ?_
  rw [HG.out]
  rintro e w2 ⟨rfl, hB2'⟩
  have hB2 := hB1.trans (hB2'.mono hB1.size)
  clear hB1 hB2'
  go_wp2_with fail
  refine (refWithin_any p a _ (by omega) (by omega)).mono ?_
  rw [← okB_eq]
  rintro e w3 ⟨rfl, hB3'⟩
  have hB3 := hB2.trans (hB3'.mono hB2.size)
  clear hB2 hB3'
  go_wp2_with fail
  refine (within_any p a _ (by omega) (by omega)).mono ?_
  rintro e w4 ⟨rfl, hB4'⟩
  have hB4 := hB3.trans (hB4'.mono hB3.size)
  clear hB3 hB4'
  go_wp2_with fail
  refine (under_any p a _ (by omega) (by omega)).mono ?_
  rintro e w5 ⟨rfl, hB5'⟩
  have hB5 := hB4.trans (hB5'.mono hB4.size)
  clear hB4 hB5'
  have hne : (p.toList != a.toList) = !(p.toList == a.toList) := rfl
  cases hE : p.toList == a.toList <;> rw [hE] at hne <;> cases hO : okB p a <;> cases hm : moveOk p a b
  all_goals
    clear hO
    first
    | (go_wp2_with fail
       refine (awake_any _).mono ?_
       rintro e w9 ⟨rfl, hB9⟩
       go_wp2_with fail
       refine bodyPost_ret (results_tmp rfl _ _ _) rfl ⟨rfl, hB5.trans (hB9.mono hB5.size)⟩)
    | (obtain ⟨x1, x2, x3⟩ := HX.out hm
       have X1 := hide x1
       have X2 := hide x2
       have X3 := hide x3
       clear x1 x2 x3 hm
       go_wp2_with fail
       refine (rebase_any g b a _ (by omega) (by omega) (by omega)).mono ?_
       rw [X1.out, X2.out]
       rintro e w6 ⟨rfl, hB6'⟩
       have hB6 := hB5.trans (hB6'.mono hB5.size)
       clear hB5 hB6'
       go_wp2_with fail
       refine (awake_any _).mono ?_
       rintro e w7 ⟨rfl, hB7'⟩
       have hB7 := hB6.trans (hB7'.mono hB6.size)
       clear hB6 hB7'
       go_wp2_with fail
       refine (within_any g b _ (by omega) (by omega)).mono ?_
       rw [X3.out]
       rintro e w8 ⟨rfl, hB8⟩
       go_wp2_with fail
       refine bodyPost_ret (results_tmp rfl _ _ _) rfl ⟨rfl, hB7.trans (hB8.mono hB7.size)⟩)
end Go.Proofs.YthmiffjhchhljaaDoor
