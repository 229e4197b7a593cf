/-
  Tokens put together: Join.
-/
import Derived.Test.YteaagmlejoiehaaTkJoin
namespace Go.Proofs.Yteaagmlejoiehaa
open Go.RowKit
set_option maxRecDepth 100000

/-- Tokens put together, behind others. -/
def joinF : Nat → List Tk → List Tk → List Tk
  | 0, o, _ => o
  | f + 1, o, r => if r.length = 0 then o else joinF f (o ++ [oneL (r.take (togL r))]) (r.drop (togL r))
def joinP (l : List Tk) : List Tk := joinF (rightL l).length [] (rightL l)
theorem joinF_nil (f : Nat) (o r : List Tk) (h : r.length = 0) : joinF f o r = o := by
  cases f with
  | zero => rfl
  | succ f => unfold joinF; rw [if_pos h]
theorem togL_pos (r : List Tk) (h : r.length ≠ 0) : 1 ≤ togL r ∧ togL r ≤ r.length := by
  cases r with
  | nil => exact absurd rfl h
  | cons a r => exact togL_le a r

set_option maxHeartbeats 16000000 in
theorem joinP_any (A : Option Addr) (l : List Tk) (c : Nat) (w : World) (hA : RdT w w.heap.size A l) (hl : (l.length : Int) ≤ 1000) (hs : sizeL l ≤ 1000000) :
    Calls Try.prog 44 #[.slice A l.length c] w fun e w' => ∃ v, e = .returned v ∧ TI w 71 v (joinP l) w' := by
  obtain ⟨i0, hi, hz0, hz1, hz2⟩ := info_parts info_tk
  have HR := hide (rightL_any A l c w hA (by omega))
  have hsz : sizeL (rightL l) ≤ 1000000 := Nat.le_trans (sizeL_filter _ _) hs
  have hrl : (rightL l).length ≤ l.length := List.length_filter_le _ _
  have hrr : ∀ t ∈ rightL l, rightT t = true := fun t ht => (List.mem_filter.1 ht).2
  unfold joinP
  obtain ⟨V, hV⟩ : ∃ V, V = joinF (rightL l).length [] (rightL l) := ⟨_, rfl⟩
  have HV := hide hV.symm
  rw [← hV]
  generalize rightL l = r at HR HV hrl hsz hrr
  have HRR := hide hrr
  have HSZ := hide hsz
  clear hV hA hsz hs hrr
  go_enter Try.func44, Try.ntmps44
  go_wp2_with fail
  refine HR.out.mono ?_
  rintro e w1 ⟨v, rfl, hI⟩
  obtain ⟨D, d, rfl⟩ := ownsRow_slice hI.own
  have HRd := hide (RdT.own hI.own)
  have hcap := ownsRow_cap hI.own
  have HB1 := hide hI.below
  have HO0 := hide (World.ownsRow_nil w1 w1.heap.size 71 3)
  clear HR hI
  go_wp2_with fail
  go_loopg [3, 4] r.length (fun gk ov rv wr => ∃ (B C : Option Addr) (d k : Nat) (o q : List Tk), ov = .slice B o.length d ∧ rv = .slice C q.length k ∧ q.length ≤ gk ∧ q.length ≤ k ∧ o.length + gk ≤ r.length ∧ Hid (RdT w1 w1.heap.size C q) ∧ Hid (sizeL q ≤ 1000000 ∧ ∀ t ∈ q, rightT t = true) ∧ Hid (TI w1 71 (.slice B o.length d) o wr) ∧ Hid (joinF gk o q = V))
  case atStart => exact ⟨none, D, 0, d, [], r, rfl, rfl, Nat.le_refl _, hcap, by simp, HRd, hide ⟨HSZ.out, HRR.out⟩, hide ⟨Below.refl _ _, HO0.out⟩, HV⟩
  case round =>
    obtain ⟨B, C, d, k, o, q, rfl, rfl, hqg, hqk, hog, HQd, HQs, HO, HQ⟩ := hrel
    clear HV HO0
    by_cases hq0 : q.length = 0
    · have HE := hide (show V = o by rw [← HQ.out]; exact joinF_nil _ _ _ hq0)
      clear HQ
      go_wp2_with fail
      exact bodyPost_ret (results_tmp rfl _ _ _) rfl ⟨.slice B o.length d, rfl, by rw [HE.out]; exact ⟨HB1.out.trans (HO.out.below.mono HB1.out.size), ownsRow_lowerT HO.out.own HB1.out.size⟩⟩
    · cases gk with
      | zero => omega
      | succ g0 =>
        have hd := HQ.out
        unfold joinF at hd
        rw [if_neg hq0] at hd
        have hp := togL_pos q hq0
        have hne : q ≠ [] := fun e => hq0 (by rw [e]; rfl)
        have HT := hide (together_any C q k wr ((HQd.out.below HO.out.below (Nat.le_refl _)).mono HO.out.below.size) hne (by omega) HQs.out.1 HQs.out.2)
        obtain ⟨n, hn⟩ : ∃ n, n = togL q := ⟨_, rfl⟩
        rw [← hn] at hd hp HT
        have htn : q.take n ≠ [] := fun e => by
          have h9 : (q.take n).length = 0 := by rw [e]; rfl
          rw [List.length_take] at h9
          omega
        have HO1 := hide (fun (W : World) (h : Below w1.heap.size w1 W) => (show Calls Try.prog 74 #[.slice C n k] W fun e w' => e = .returned (.agg (oneL (q.take n)).cells) ∧ Below W.heap.size W w' from by
          have h := one_any C (q.take n) k W (((HQd.out.below h (Nat.le_refl _)).mono h.size).take n) (htn) (by rw [List.length_take]; omega) (Nat.le_trans (sizeL_take _ _) HQs.out.1) (fun t ht => HQs.out.2 t (List.mem_of_mem_take ht))
          rw [List.length_take, Nat.min_eq_left hp.2] at h
          exact h))
        have HQ2 := hide (show sizeL (q.drop n) ≤ 1000000 ∧ ∀ t ∈ q.drop n, rightT t = true from ⟨by have h := sizeL_app (q.take n) (q.drop n); rw [List.take_append_drop] at h; have := HQs.out.1; omega, fun t ht => HQs.out.2 t (List.mem_of_mem_drop ht)⟩)
        have HDr := hide (HQd.out.drop (k := n) hqk)
        clear htn
        generalize oneL (q.take n) = x at HO1 hd
        have HD := hide hd
        have hn1 : (0 : Int) ≤ n := by omega
        have hn2 : (n : Int) ≤ q.length := by omega
        have hn3 : (q.length : Int) ≤ k := by omega
        have hn4 : (n : Int) ≤ k := by omega
        have hq1 : (0 : Int) < q.length := by omega
        have hlq : (q.drop n).length = q.length - n := List.length_drop
        clear hd HQ hn HQd HQs hne
        obtain ⟨fr, many, data⟩ := x
        go_wp2_with fail
        refine HT.out.mono ?_
        rintro e w2 ⟨rfl, hb2⟩
        have HO2 := hide (HO.out.step hb2)
        clear HT hb2 HO
        go_wp2_with fail
        refine (HO1.out w2 HO2.out.below).mono ?_
        rintro e w3 ⟨rfl, hb3⟩
        have hI3 := HO2.out.step hb3
        have hO4 := hI3.own.alloc (.cells (Tk.cells ⟨fr, many, data⟩) 71)
        have hRn := RdT.one w3 ⟨fr, many, data⟩ 71
        have hB4 := hI3.below.alloc hI3.below.size (.cells (Tk.cells ⟨fr, many, data⟩) 71)
        have hsz := hB4.size
        clear HO1 hb3 HO2 hI3
        simp only [Tk.cells] at *
        go_wp2_with (at_builtin; go_loud (refine wpList_append_toks rfl _ _ 65 rfl w1.heap.size 71 i0 Try.underlying65 hi hz0 hz1 hz2 _ _ _ rfl hO4 (some ⟨w3.heap.size, 0, none⟩) _ 1 _ [⟨fr, many, data⟩] rfl rfl hRn (by unfold maxLen; omega) (by omega) hsz ?_))
        intro v5 w5 hO5 hg5
        have hB5 := hB4.grown hg5 hB4.size (fun r e => (hO4.lt r e).1)
        obtain ⟨E, g, rfl⟩ := ownsRow_slice hO5
        have hlen9 : (o ++ [(⟨fr, many, data⟩ : Tk)]).length = o.length + 1 := by simp
        have HO9 := hide (show TI w1 71 (.slice E (o ++ [(⟨fr, many, data⟩ : Tk)]).length g) (o ++ [⟨fr, many, data⟩]) w5 from ⟨hB5, by rw [cellsT_app, hlen9]; exact hO5⟩)
        rw [hlen9] at HO9
        clear hO4 hRn hB4 hO5 hg5 hB5 hsz
        by_cases hkn : k = n
        · rw [if_pos hkn] at HDr
          go_wp2_with fail
          go_roundg g0
          case rel => exact ⟨E, C, g, k - n, o ++ [⟨fr, many, data⟩], q.drop n, by rw [hlen9], by rw [hlq, show k - n = 0 by omega], by omega, by omega, by rw [hlen9]; omega, HDr, HQ2, by rw [hlen9]; exact HO9, HD⟩
          case measure => omega
        · rw [if_neg hkn] at HDr
          go_wp2_with fail
          go_roundg g0
          case rel => exact ⟨E, C.map (·.add (n * 3)), g, k - n, o ++ [⟨fr, many, data⟩], q.drop n, by rw [hlen9], by rw [hlq], by omega, by omega, by rw [hlen9]; omega, HDr, HQ2, by rw [hlen9]; exact HO9, HD⟩
          case measure => omega
end Go.Proofs.Yteaagmlejoiehaa
