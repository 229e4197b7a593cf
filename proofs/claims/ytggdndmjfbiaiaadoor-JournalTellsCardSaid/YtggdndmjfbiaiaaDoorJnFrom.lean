/-
  The law's from: the program's records as the reference has them; the reference's Same, of two lists that are one.
-/
import Derived.Test.YtggdndmjfbiaiaaDoorJnRecs
import Derived.StillTailTactics
import Derived.Deep.RegionHeld3
import Derived.Deep.AppendLies
import Derived.Deep.QuietTactic
import Derived.BigQuiet
namespace Go.Proofs.YtggdndmjfbiaiaaDoor
open Go.RowKit
set_option maxRecDepth 100000

set_option maxHeartbeats 16000000 in
theorem from_any (A : Option Addr) (l : List (Int × Int)) (c : Nat) (w : World) (hA : RdR w w.heap.size A l) (hl : (l.length : Int) ≤ 1000000) :
    Calls Tryd.prog 7 #[.slice A l.length c] w fun e w' => ∃ v, e = .returned v ∧ RI w 33 v l w' := by
  obtain ⟨i0, hi, hz0, hz1, hz2⟩ := info_parts info_rrec
  have HA := hide hA
  clear hA
  go_enter Tryd.func7, Tryd.ntmps7
  go_wp2_with fail
  go_loopg [3, 4] l.length (fun gk ov iv wr => ∃ (i : Nat) (B : Option Addr) (d : Nat), ov = .slice B i d ∧ iv = .int .i64 i ∧ i + gk = l.length ∧ Hid (RI w 33 (.slice B i d) (l.take i) wr))
  case atStart => exact ⟨0, none, 0, rfl, rfl, by omega, hide ⟨Below.refl _ _, World.ownsRow_nil _ _ _ _⟩⟩
  case round =>
    obtain ⟨i, B, d, rfl, rfl, hig, HO⟩ := hrel
    cases gk with
    | zero =>
      obtain rfl : i = l.length := by omega
      have HF := hide (show RI w 33 (.slice B l.length d) l wr by have h := HO.out; rwa [List.take_length] at h)
      clear HO
      go_wp2_with fail
      exact bodyPost_ret (results_tmp rfl _ _ _) rfl ⟨.slice B l.length d, rfl, HF.out⟩
    | succ g0 =>
      have hii : (i : Int) < l.length := by omega
      have hi0 : (0 : Int) ≤ (i : Int) := by omega
      obtain ⟨t, ht⟩ : ∃ t, l[i]? = some t := ⟨_, List.getElem?_eq_getElem (by omega)⟩
      obtain ⟨ad, rfl, hlt, hnd⟩ := (HA.out.below HO.out.below (Nat.le_refl _)) i t ht
      obtain ⟨ad', e', _, q0, q1⟩ := HA.out i t ht
      cases e'
      have hlx : (ad.add (i * 2)).block < w.heap.size := by rw [add_block]; exact hlt
      have hiw : IntKind.i64.wrap ((i : Int) + 1) = ((i + 1 : Nat) : Int) := by rw [IntWalk.i64_in _ (by omega)]; rfl
      have hT := hide (show l.take (i + 1) = l.take i ++ [t] by
        obtain ⟨h1, e1⟩ := List.getElem?_eq_some_iff.1 ht
        rw [← List.take_append_getElem h1, e1])
      obtain ⟨c0, c1⟩ := hnd
      obtain ⟨rk, rn⟩ := t
      simp only at c0 c1 q0 q1
      clear ht hlt
      go_wp2_with fail
      have hS := hide (fun (W : World) (h : Below w.heap.size w W) => (⟨(h.cell hlx).trans q0, (h.cell (p := ⟨_, _, none⟩) hlx).trans q1⟩ : W.cell? (ad.add (i * 2)) = some (.int .i64 rk) ∧ W.cell? ⟨(ad.add (i * 2)).block, (ad.add (i * 2)).off + 1, none⟩ = some (.int .i64 rn)))
      have hB1 := HO.out.below.drew
      have hB4 := (HO.out.below.alloc HO.out.below.size (.cells #[.int .i64 rk, .int .i64 rn] 33)).drew
      have htl : (l.take i).length = i := by rw [List.length_take]; omega
      have hO4 : (wr.alloc (.cells #[.int .i64 rk, .int .i64 rn] 33)).drew.ownsRow w.heap.size 33 2 (.slice B i d) i (cellsR (l.take i)) := by
        have h := HO.out.own.alloc (.cells #[.int .i64 rk, .int .i64 rn] 33)
        rw [htl] at h
        exact h
      have HB5 := hide (fun (w5 : World) (hg : (wr.alloc (.cells #[.int .i64 rk, .int .i64 rn] 33)).drew.grownBy w5 (Value.slice B i d).ownBlock) => hB4.grown hg hB4.size (fun r e => (hO4.lt r e).1))
      have HNew := hide (show ∀ j u, (cellsR [(rk, rn)])[j]? = some u → (wr.alloc (.cells #[.int .i64 rk, .int .i64 rn] 33)).drew.cell? ((⟨wr.heap.size, 0, none⟩ : Addr).add j) = some u from new_rec wr rk rn _)
      have HO4 := hide hO4
      have HB1 := hide hB1
      have HB4 := hide hB4
      have hsz := hB4.size
      clear c0 c1 hB1 hB4 hO4 q0 q1
      go_region_held3 (fun w' => w'.cell? (ad.add (i * 2)) = some (.int .i64 rk) ∧ w'.cell? ⟨(ad.add (i * 2)).block, (ad.add (i * 2)).off + 1, none⟩ = some (.int .i64 rn))
        (first | exact hS.out _ HB1.out | exact hS.out _ HB4.out | exact hS.out _ (HB5.out _ hG5))
        (first
          | (refine step_append_lies _ rfl (.tmp 11) (.tmp 23) 24 rfl w.heap.size 33 i0 _ 2 16 Tryd.underlying24 hi hz0 hz1 hz2 rfl (by decide) _ i _ rfl HO4.out ⟨wr.heap.size, 0, none⟩ 1 1 (cellsR [(rk, rn)]) rfl rfl HNew.out (cellsR_one _) (by decide) (by unfold maxLen; omega) (by omega) hsz _ rfl ?_
             intro g cap w5 hO5 hG5 hat hlt5))
      all_goals
        have HO6 := hide (show RI w 33 (.slice (some ⟨g, 0, none⟩) (i + 1) cap) (l.take (i + 1)) w5 from ⟨HB5.out _ hG5, by rw [hT.out, cellsR_app, List.length_append, htl]; exact hO5⟩)
        clear hO5 hG5 hat hlt5
        go_wp2_with fail
        go_roundg g0
        case rel => exact ⟨i + 1, some ⟨g, 0, none⟩, cap, rfl, rfl, by omega, HO6⟩
        case measure => omega

theorem rr_eqIn (n : Int × Int) (w : World) : (Op.equalIn 10000 33 (.agg #[.int .i64 n.1, .int .i64 n.2]) (.agg #[.int .i64 n.1, .int .i64 n.2])).run Tryd.prog w = .ok true w := by
  have u0 := Tryd.underlying3
  have a0 := Tryd.isAgg3
  have z0 := Tryd.sizeOf3
  obtain ⟨k, n⟩ := n
  rw [show (10000 : Nat) = 9999 + 1 from rfl, Op.equalIn]
  simp only [Sem.run_bind, run_underlying Tryd.underlying33, Result.andThen_ok]
  go_simp
theorem rr_neq (n : Int × Int) (w : World) : (binOp .neq 33 (.agg #[.int .i64 n.1, .int .i64 n.2]) (.agg #[.int .i64 n.1, .int .i64 n.2])).run Tryd.prog w = .ok (.bool false) w := by
  have h := rr_eqIn n w
  have h9 : ∀ a b : Value, (Op.equalIn Op.maxDepth 33 a b) = Op.equalIn 10000 33 a b := fun a b => rfl
  simp only [binOp, Op.equal, Sem.run_bind, h9, h, Result.andThen_ok]
  rfl
set_option maxHeartbeats 4000000 in
theorem rsame_any (A C : Option Addr) (l : List (Int × Int)) (c d : Nat) (w : World) (hA : RdR w w.heap.size A l) (hC : RdR w w.heap.size C l) (hl : (l.length : Int) ≤ 1000000) :
    Calls Tryd.prog 9 #[.slice A l.length c, .slice C l.length d] w fun e w' => e = .returned (.bool true) ∧ Below w.heap.size w w' := by
  go_enter Tryd.func9, Tryd.ntmps9
  go_wp2_with fail
  go_loopg [5] l.length (fun gk iv wr => ∃ i : Nat, iv = .int .i64 i ∧ i + gk = l.length ∧ Below w.heap.size w wr ∧ RdR wr wr.heap.size A l ∧ RdR wr wr.heap.size C l)
  case atStart => exact ⟨0, rfl, by omega, Below.refl _ _, hA, hC⟩
  case round =>
    obtain ⟨i, rfl, hig, hB, hR, hS⟩ := hrel
    clear hA hC
    cases gk with
    | zero =>
      obtain rfl : i = l.length := by omega
      go_wp2_with fail
      exact bodyPost_ret (results_tmp rfl _ _ _) rfl ⟨rfl, hB⟩
    | succ g0 =>
      have hii : (i : Int) < l.length := by omega
      obtain ⟨e, he⟩ : ∃ e, l[i]? = some e := ⟨_, List.getElem?_eq_getElem (by omega)⟩
      obtain ⟨ad, rfl, hlt, hnd⟩ := hR i e he
      obtain ⟨bd, rfl, hltb, hnb⟩ := hS i e he
      obtain ⟨k, n⟩ := e
      have c0 := hnd.k
      have c1 := hnd.n
      have b0 := hnb.k
      have b1 := hnb.n
      have hne := fun W => rr_neq (k, n) W
      simp only at hne c0 c1 b0 b1
      have HB := hide hB
      have HR := hide hR
      have HS := hide hS
      clear hnd hnb he hB hR hS
      go_wp2_with fail
      go_quiet (fail)
      go_wp2_with fail
      go_roundg g0
      case rel => exact ⟨i + 1, rfl, by omega, below_drewN HB.out _, HR.out.step (below_drewN (Below.refl _ _) _), HS.out.step (below_drewN (Below.refl _ _) _)⟩
      case measure => omega
end Go.Proofs.YtggdndmjfbiaiaaDoor
