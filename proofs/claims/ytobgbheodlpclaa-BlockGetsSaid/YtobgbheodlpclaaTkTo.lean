/-
  The law's To and From.
-/
import Derived.Test.YtobgbheodlpclaaAutoTkSame
import Derived.Test.YtobgbheodlpclaaTkRight
import Derived.StillTailTactics
import Derived.Deep.RegionHeld3
import Derived.Deep.AppendLies
namespace Go.Proofs.Ytobgbheodlpclaa
open Go.RowKit
set_option maxRecDepth 100000

set_option maxHeartbeats 16000000 in
theorem to_any (A : Option Addr) (l : List Tk) (c : Nat) (w : World) (hA : RdT w w.heap.size A l) (hl : (l.length : Int) ≤ 1000000) :
    Calls Try.prog 37 #[.slice A l.length c] w fun e w' => ∃ v, e = .returned v ∧ TI w 71 v l w' := by
  obtain ⟨i0, hi, hz0, hz1, hz2⟩ := info_parts info_tk
  have HA := hide hA
  clear hA
  go_enter Try.func37, Try.ntmps37
  go_wp2_with fail
  go_loopg [3, 4] l.length (fun gk ov iv wr => ∃ (i : Nat) (B : Option Addr) (d : Nat), ov = .slice B i d ∧ iv = .int .i64 i ∧ i + gk = l.length ∧ Hid (TI w 71 (.slice B i d) (l.take i) wr))
  case atStart => exact ⟨0, none, 0, rfl, rfl, by omega, hide ⟨Below.refl _ _, World.ownsRow_nil _ _ _ _⟩⟩
  case round =>
    obtain ⟨i, B, d, rfl, rfl, hig, HO⟩ := hrel
    cases gk with
    | zero =>
      obtain rfl : i = l.length := by omega
      have HF := hide (show TI w 71 (.slice B l.length d) l wr by have h := HO.out; rwa [List.take_length] at h)
      clear HO
      go_wp2_with fail
      exact bodyPost_ret (results_tmp rfl _ _ _) rfl ⟨.slice B l.length d, rfl, HF.out⟩
    | succ g0 =>
      have hii : (i : Int) < l.length := by omega
      have hi0 : (0 : Int) ≤ (i : Int) := by omega
      obtain ⟨t, ht⟩ : ∃ t, l[i]? = some t := ⟨_, List.getElem?_eq_getElem (by omega)⟩
      obtain ⟨ad, rfl, hlt, hnd⟩ := (HA.out.below HO.out.below (Nat.le_refl _)) i t ht
      obtain ⟨ad', e', _, q0, q1, q2⟩ := HA.out i t ht
      cases e'
      have hlx : (ad.add (i * 3)).block < w.heap.size := by rw [add_block]; exact hlt
      have hiw : IntKind.i64.wrap ((i : Int) + 1) = ((i + 1 : Nat) : Int) := by rw [IntWalk.i64_in _ (by omega)]; rfl
      have hT := hide (show l.take (i + 1) = l.take i ++ [t] by
        obtain ⟨h1, e1⟩ := List.getElem?_eq_some_iff.1 ht
        rw [← List.take_append_getElem h1, e1])
      obtain ⟨c0, c1, c2⟩ := hnd
      obtain ⟨fr, many, data⟩ := t
      simp only at c0 c1 c2 q0 q1 q2
      clear ht hlt
      go_wp2_with fail
      have hS := hide (fun (W : World) (h : Below w.heap.size w W) => (⟨(h.cell hlx).trans q0, (h.cell (p := ⟨_, _, none⟩) hlx).trans q1, (h.cell (p := ⟨_, _, none⟩) hlx).trans q2⟩ : W.cell? (ad.add (i * 3)) = some (.int .i64 fr) ∧ W.cell? ⟨(ad.add (i * 3)).block, (ad.add (i * 3)).off + 1, none⟩ = some (.int .i64 many) ∧ W.cell? ⟨(ad.add (i * 3)).block, (ad.add (i * 3)).off + 2, none⟩ = some (.string data)))
      have hB1 := HO.out.below.drew
      have hB4 := (HO.out.below.alloc HO.out.below.size (.cells (Tk.cells ⟨fr, many, data⟩) 71)).drew
      have htl : (l.take i).length = i := by rw [List.length_take]; omega
      have hO4 : (wr.alloc (.cells (Tk.cells ⟨fr, many, data⟩) 71)).drew.ownsRow w.heap.size 71 3 (.slice B i d) i (cellsT (l.take i)) := by
        have h := HO.out.own.alloc (.cells (Tk.cells ⟨fr, many, data⟩) 71)
        rw [htl] at h
        exact h
      have HB5 := hide (fun (w5 : World) (hg : (wr.alloc (.cells (Tk.cells ⟨fr, many, data⟩) 71)).drew.grownBy w5 (Value.slice B i d).ownBlock) => hB4.grown hg hB4.size (fun r e => (hO4.lt r e).1))
      have HNew := hide (RdT.one wr ⟨fr, many, data⟩ 71).drew.cell
      have HO4 := hide hO4
      have HB1 := hide hB1
      have HB4 := hide hB4
      have hsz := hB4.size
      clear c0 c1 c2 hB1 hB4 hO4 q0 q1 q2
      go_region_held3 (fun w' => w'.cell? (ad.add (i * 3)) = some (.int .i64 fr) ∧ w'.cell? ⟨(ad.add (i * 3)).block, (ad.add (i * 3)).off + 1, none⟩ = some (.int .i64 many) ∧ w'.cell? ⟨(ad.add (i * 3)).block, (ad.add (i * 3)).off + 2, none⟩ = some (.string data))
        (first | exact hS.out _ HB1.out | exact hS.out _ HB4.out | exact hS.out _ (HB5.out _ hG5))
        (first
          | (refine step_append_lies _ rfl (.tmp 11) (.tmp 28) 65 rfl w.heap.size 71 i0 _ 3 32 Try.underlying65 hi hz0 hz1 hz2 rfl (by decide) _ i _ rfl HO4.out ⟨wr.heap.size, 0, none⟩ 1 1 (cellsT [⟨fr, many, data⟩]) rfl rfl HNew.out (cellsT_one _) (by decide) (by unfold maxLen; omega) (by omega) hsz _ rfl ?_
             intro g cap w5 hO5 hG5 hat hlt5))
      all_goals
        have HO6 := hide (show TI w 71 (.slice (some ⟨g, 0, none⟩) (i + 1) cap) (l.take (i + 1)) w5 from ⟨HB5.out _ hG5, by rw [hT.out, cellsT_app, List.length_append, htl]; exact hO5⟩)
        clear hO5 hG5 hat hlt5
        go_wp2_with fail
        go_roundg g0
        case rel => exact ⟨i + 1, some ⟨g, 0, none⟩, cap, rfl, rfl, by omega, HO6⟩
        case measure => omega

set_option maxHeartbeats 16000000 in
theorem from_any (A : Option Addr) (l : List Tk) (c : Nat) (w : World) (hA : RdT w w.heap.size A l) (hl : (l.length : Int) ≤ 1000000) :
    Calls Try.prog 47 #[.slice A l.length c] w fun e w' => ∃ v, e = .returned v ∧ TI w 69 v l w' := by
  obtain ⟨i0, hi, hz0, hz1, hz2⟩ := info_parts info_rtk
  have HA := hide hA
  clear hA
  go_enter Try.func47, Try.ntmps47
  go_wp2_with fail
  go_loopg [3, 4] l.length (fun gk ov iv wr => ∃ (i : Nat) (B : Option Addr) (d : Nat), ov = .slice B i d ∧ iv = .int .i64 i ∧ i + gk = l.length ∧ Hid (TI w 69 (.slice B i d) (l.take i) wr))
  case atStart => exact ⟨0, none, 0, rfl, rfl, by omega, hide ⟨Below.refl _ _, World.ownsRow_nil _ _ _ _⟩⟩
  case round =>
    obtain ⟨i, B, d, rfl, rfl, hig, HO⟩ := hrel
    cases gk with
    | zero =>
      obtain rfl : i = l.length := by omega
      have HF := hide (show TI w 69 (.slice B l.length d) l wr by have h := HO.out; rwa [List.take_length] at h)
      clear HO
      go_wp2_with fail
      exact bodyPost_ret (results_tmp rfl _ _ _) rfl ⟨.slice B l.length d, rfl, HF.out⟩
    | succ g0 =>
      have hii : (i : Int) < l.length := by omega
      have hi0 : (0 : Int) ≤ (i : Int) := by omega
      obtain ⟨t, ht⟩ : ∃ t, l[i]? = some t := ⟨_, List.getElem?_eq_getElem (by omega)⟩
      obtain ⟨ad, rfl, hlt, hnd⟩ := (HA.out.below HO.out.below (Nat.le_refl _)) i t ht
      obtain ⟨ad', e', _, q0, q1, q2⟩ := HA.out i t ht
      cases e'
      have hlx : (ad.add (i * 3)).block < w.heap.size := by rw [add_block]; exact hlt
      have hiw : IntKind.i64.wrap ((i : Int) + 1) = ((i + 1 : Nat) : Int) := by rw [IntWalk.i64_in _ (by omega)]; rfl
      have hT := hide (show l.take (i + 1) = l.take i ++ [t] by
        obtain ⟨h1, e1⟩ := List.getElem?_eq_some_iff.1 ht
        rw [← List.take_append_getElem h1, e1])
      obtain ⟨c0, c1, c2⟩ := hnd
      obtain ⟨fr, many, data⟩ := t
      simp only at c0 c1 c2 q0 q1 q2
      clear ht hlt
      go_wp2_with fail
      have hS := hide (fun (W : World) (h : Below w.heap.size w W) => (⟨(h.cell hlx).trans q0, (h.cell (p := ⟨_, _, none⟩) hlx).trans q1, (h.cell (p := ⟨_, _, none⟩) hlx).trans q2⟩ : W.cell? (ad.add (i * 3)) = some (.int .i64 fr) ∧ W.cell? ⟨(ad.add (i * 3)).block, (ad.add (i * 3)).off + 1, none⟩ = some (.int .i64 many) ∧ W.cell? ⟨(ad.add (i * 3)).block, (ad.add (i * 3)).off + 2, none⟩ = some (.string data)))
      have hB1 := HO.out.below.drew
      have hB4 := (HO.out.below.alloc HO.out.below.size (.cells (Tk.cells ⟨fr, many, data⟩) 69)).drew
      have htl : (l.take i).length = i := by rw [List.length_take]; omega
      have hO4 : (wr.alloc (.cells (Tk.cells ⟨fr, many, data⟩) 69)).drew.ownsRow w.heap.size 69 3 (.slice B i d) i (cellsT (l.take i)) := by
        have h := HO.out.own.alloc (.cells (Tk.cells ⟨fr, many, data⟩) 69)
        rw [htl] at h
        exact h
      have HB5 := hide (fun (w5 : World) (hg : (wr.alloc (.cells (Tk.cells ⟨fr, many, data⟩) 69)).drew.grownBy w5 (Value.slice B i d).ownBlock) => hB4.grown hg hB4.size (fun r e => (hO4.lt r e).1))
      have HNew := hide (RdT.one wr ⟨fr, many, data⟩ 69).drew.cell
      have HO4 := hide hO4
      have HB1 := hide hB1
      have HB4 := hide hB4
      have hsz := hB4.size
      clear c0 c1 c2 hB1 hB4 hO4 q0 q1 q2
      go_region_held3 (fun w' => w'.cell? (ad.add (i * 3)) = some (.int .i64 fr) ∧ w'.cell? ⟨(ad.add (i * 3)).block, (ad.add (i * 3)).off + 1, none⟩ = some (.int .i64 many) ∧ w'.cell? ⟨(ad.add (i * 3)).block, (ad.add (i * 3)).off + 2, none⟩ = some (.string data))
        (first | exact hS.out _ HB1.out | exact hS.out _ HB4.out | exact hS.out _ (HB5.out _ hG5))
        (first
          | (refine step_append_lies _ rfl (.tmp 11) (.tmp 28) 63 rfl w.heap.size 69 i0 _ 3 32 Try.underlying63 hi hz0 hz1 hz2 rfl (by decide) _ i _ rfl HO4.out ⟨wr.heap.size, 0, none⟩ 1 1 (cellsT [⟨fr, many, data⟩]) rfl rfl HNew.out (cellsT_one _) (by decide) (by unfold maxLen; omega) (by omega) hsz _ rfl ?_
             intro g cap w5 hO5 hG5 hat hlt5))
      all_goals
        have HO6 := hide (show TI w 69 (.slice (some ⟨g, 0, none⟩) (i + 1) cap) (l.take (i + 1)) w5 from ⟨HB5.out _ hG5, by rw [hT.out, cellsT_app, List.length_append, htl]; exact hO5⟩)
        clear hO5 hG5 hat hlt5
        go_wp2_with fail
        go_roundg g0
        case rel => exact ⟨i + 1, some ⟨g, 0, none⟩, cap, rfl, rfl, by omega, HO6⟩
        case measure => omega
end Go.Proofs.Ytobgbheodlpclaa
