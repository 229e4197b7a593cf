/-
  merkle.look: what hangs on each directory of a tree; no print is kept yet.
-/
import Derived.Test.YtbklgijndjpgoaaDoorMkGrp
import Derived.Deep.RegionHeld3
namespace Go.Proofs.YtbklgijndjpgoaaDoor
open Go.RowKit
set_option maxRecDepth 100000

/-- The map in block b tells what hangs on each directory, in rows below block M. -/
def KidsIs (W : World) (b M : Nat) (t : List Nd) : Prop :=
  ∃ L f, MapIs W b L f ∧ ∀ p, ∃ A c, (f p).getD (.slice none 0 0) = .slice A (kidsL p t).length c ∧ RdN W M A (kidsL p t)
/-- The map in block b keeps right prints alone. -/
def KeptIs (W : World) (b : Nat) (t : List Nd) : Prop :=
  ∃ g, MapIs W b (⟨#[]⟩ :: t.map Nd.path) g ∧ ∀ p s, g p = some s → s = stV (sumL (dirT t p))
/-- Prints of a tree's nodes, in three blocks from B on; all that they read lies below block M. -/
structure PrOk (W : World) (B : Nat) (t : List Nd) (M : Nat) : Prop where
  low : B + 3 ≤ M
  size : M ≤ W.heap.size
  row : W.heap[B + 2]? = some (.cells #[.map (some B), .map (some (B + 1))] 70 (0, 0))
  kids : KidsIs W B M t
  kept : KeptIs W (B + 1) t

/-- What look has made of the first j nodes. -/
structure LookI (w wr : World) (l : List Nd) (j : Nat) : Prop where
  grp : ∃ f, GrpF wr w.heap.size (w.heap.size + 3) (l.map fun n => parentB n.path) f (l.take j)
  kept : MapIs wr (w.heap.size + 1) (⟨#[]⟩ :: l.map Nd.path) fun _ => none
  row : wr.heap[w.heap.size + 2]? = some (.cells #[.map (some w.heap.size), .map (some (w.heap.size + 1))] 70 (0, 0))
  below : Below w.heap.size w wr
  size : w.heap.size + 3 ≤ wr.heap.size
theorem LookI.ok {w wr : World} {l : List Nd} (h : LookI w wr l l.length) : PrOk wr w.heap.size l wr.heap.size := by
  obtain ⟨f, hf⟩ := h.grp
  rw [List.take_length] at hf
  refine ⟨h.size, Nat.le_refl _, h.row, ⟨_, f, hf.map, fun p => ?_⟩, ⟨_, h.kept, fun p s hs => by cases hs⟩⟩
  have ho := hf.at p
  obtain ⟨A, c, e⟩ := ownsRow_slice ho
  rw [e] at ho
  exact ⟨A, c, e, RdN.own ho⟩

theorem LookI.start (w : World) (l : List Nd) : LookI w (((w.alloc (.map #[] 0)).alloc (.map #[] 0)).alloc (.cells #[.map (some w.heap.size), .map (some (w.heap.size + 1))] 70)) l 0 := by
  have g1 := World.grownBy_alloc (w.alloc (.map #[] 0)) (.map #[] 0) none
  have g2 := World.grownBy_alloc ((w.alloc (.map #[] 0)).alloc (.map #[] 0)) (.cells #[.map (some w.heap.size), .map (some (w.heap.size + 1))] 70) none
  have e1 : (w.alloc (.map #[] 0)).heap.size = w.heap.size + 1 := by simp
  have e2 : ((w.alloc (.map #[] 0)).alloc (.map #[] 0)).heap.size = w.heap.size + 2 := by simp
  refine ⟨⟨_, ((GrpF.made w _ _).kept g1).kept g2⟩, ?_, ?_, ?_, by simp⟩
  · have h := (MapIs.made (w.alloc (.map #[] 0)) (⟨#[]⟩ :: l.map Nd.path)).kept g2 (by simp)
    rwa [e1] at h
  · have h := World.alloc_heap_new ((w.alloc (.map #[] 0)).alloc (.map #[] 0)) (.cells #[.map (some w.heap.size), .map (some (w.heap.size + 1))] 70)
    rwa [e2] at h
  · exact (((Below.refl _ w).alloc (Nat.le_refl _) _).alloc (by simp) _).alloc (by simp; omega) _
theorem LookI.kept' {w wr wx : World} {l : List Nd} {j : Nat} (h : LookI w wr l j) (hg : wr.grownBy wx none) : LookI w wx l j := by
  obtain ⟨f, hf⟩ := h.grp
  exact ⟨⟨f, hf.kept hg⟩, h.kept.kept hg (by simp), (hg.block _ (Array.getElem?_eq_some_iff.1 h.row).1 (by simp)).trans h.row, h.below.grown hg h.below.size (by simp), Nat.le_trans h.size hg.size⟩
theorem LookI.skip {w wr : World} {l : List Nd} {j : Nat} {n : Nd} (h : LookI w wr l j) (hn : l[j]? = some n) (ho : parentOk n.path = false) : LookI w wr l (j + 1) := by
  obtain ⟨f, hf⟩ := h.grp
  refine ⟨⟨f, ?_⟩, h.kept, h.row, h.below, h.size⟩
  rw [List.take_add_one, hn]
  exact hf.skip ho

theorem zero_nodes (w : World) : (zeroValue 22).run Tryd.prog w = .ok (.slice none 0 0) w := by kernel_rfl
/-- A node with a parent: what its parent's slice is, and what becomes of all when it has been appended to. -/
theorem LookI.fetch {w wr : World} {l : List Nd} {j : Nat} {n : Nd} (h : LookI w wr l j) (hn : l[j]? = some n) (ho : parentOk n.path = true) (hl : l.length ≤ 600) (hp : n.path.size ≤ 600) :
    ∃ v0 m xs, (∀ g, v0.ownBlock = some g → w.heap.size + 3 ≤ g ∧ g < wr.heap.size) ∧ m ≤ 600 ∧ ∀ W, wr.grownBy W none →
      (Instr.lookup 67 (.map (some w.heap.size)) (.string (parentB n.path)) false).run Tryd.prog W = .ok v0 W ∧ W.ownsRow (w.heap.size + 3) 34 5 v0 m xs ∧
      ∀ g cap w5, w5.ownsRow (w.heap.size + 3) 34 5 (.slice (some ⟨g, 0, none⟩) (m + 1) cap) (m + 1) (xs ++ cellsN [n]) → W.grownBy w5 v0.ownBlock → (v0.ownBlock = some g ∨ g = W.heap.size) →
        ∃ w6, (Instr.mapUpdate 67 (.map (some w.heap.size)) (.string (parentB n.path)) (.slice (some ⟨g, 0, none⟩) (m + 1) cap)).run Tryd.prog w5 = .ok () w6 ∧ LookI w w6 l (j + 1) ∧ w5.grownBy w6 (some w.heap.size) := by
  obtain ⟨f, hf⟩ := h.grp
  have hps : (parentB n.path).size ≤ 600 := by
    have := kid_longer ((kidOf_iff _ _).2 ⟨ho, rfl⟩)
    omega
  have hsm : (parentB n.path).size ≤ maxLen := by unfold maxLen; omega
  refine ⟨_, _, cellsN (kidsL (parentB n.path) (l.take j)), fun g hg => ownsRow_block (hf.at (parentB n.path)) hg, kids_few (t := l.take j) (parentB n.path) (by rw [List.length_take]; omega), fun W hg => ?_⟩
  have hfW := hf.kept hg
  refine ⟨hfW.map.look Tryd.underlying67 (zero_nodes W) _ hsm, hfW.at _, fun g cap w5 hO hgg hat => ?_⟩
  obtain ⟨w6, hrun, h6, hg6⟩ := hfW.add ho (List.mem_map.2 ⟨n, List.mem_of_getElem? hn, rfl⟩) (by rw [List.length_map]; unfold maxLen; omega) hsm (by omega) hO hgg hat
  have hW := h.kept' hg
  have hfar : ∀ x, x < w.heap.size + 3 → some x ≠ ((f (parentB n.path)).getD (.slice none 0 0)).ownBlock := fun x hx e => by
    have := (ownsRow_block (hf.at (parentB n.path)) e.symm).1
    omega
  have h7 : GrpF w6 w.heap.size (w.heap.size + 3) (l.map fun n => parentB n.path) (setF f (parentB n.path) (.slice (some ⟨g, 0, none⟩) ((kidsL (parentB n.path) (l.take j)).length + 1) cap)) (l.take (j + 1)) := by
    rw [List.take_add_one, hn]; exact h6
  refine ⟨w6, hrun, ⟨⟨_, h7⟩, ?_, ?_, ?_, ?_⟩, hg6⟩
  · exact (hW.kept.kept hgg (hfar _ (by omega))).kept hg6 (by simp)
  · have hlt := (Array.getElem?_eq_some_iff.1 hW.row).1
    have h5 := (hgg.block _ hlt (hfar _ (by omega))).trans hW.row
    exact (hg6.block _ (Array.getElem?_eq_some_iff.1 h5).1 (by simp)).trans h5
  · have h5 := hW.below.grown hgg hW.below.size (fun k hk => by have := (ownsRow_block (hf.at (parentB n.path)) hk).1; omega)
    exact h5.grown hg6 h5.size (fun k hk => by cases hk; exact Nat.le_refl _)
  · exact Nat.le_trans hW.size (Nat.le_trans hgg.size hg6.size)

set_option maxHeartbeats 16000000 in
theorem look_any (A : Option Addr) (l : List Nd) (c : Nat) (w : World) (hA : RdN w w.heap.size A l) (hN : ∀ n ∈ l, n.path.size ≤ 600) (hl : l.length ≤ 600) :
    Calls Tryd.prog 23 #[.slice A l.length c] w fun e w' => e = .returned (.pointer (some ⟨w.heap.size + 2, 0, none⟩)) ∧ PrOk w' w.heap.size l w'.heap.size ∧ Below w.heap.size w w' := by
  obtain ⟨i0, hi, hz0, hz1, hz2⟩ := info_parts info_node
  have hmm := @run_makeMap Tryd.prog
  have HA := hide hA
  have HNN := hide hN
  have H0 := hide (LookI.start w l)
  clear hA hN
  go_enter Tryd.func23, Tryd.ntmps23
  go_wp2_with fail
  go_loopg [14] l.length (fun gk iv wr => ∃ j : Nat, iv = .int .i64 j ∧ j + gk = l.length ∧ Hid (LookI w wr l j))
  case atStart => exact ⟨0, rfl, by omega, H0⟩
  case round =>
    obtain ⟨j, rfl, hjg, HI⟩ := hrel
    clear hmm H0
    cases gk with
    | zero =>
      obtain rfl : j = l.length := by omega
      have HF := hide (show PrOk wr w.heap.size l wr.heap.size ∧ Below w.heap.size w wr from ⟨HI.out.ok, HI.out.below⟩)
      clear HI
      go_wp2_with fail
      exact bodyPost_ret (results_tmp rfl _ _ _) rfl ⟨rfl, HF.out⟩
    | succ g1 =>
      have hji : (j : Int) < l.length := by omega
      obtain ⟨n, hn⟩ : ∃ n, l[j]? = some n := ⟨_, List.getElem?_eq_getElem (by omega)⟩
      obtain ⟨ad, rfl, hlt, hnd⟩ := (HA.out.below HI.out.below (Nat.le_refl _)) j n hn
      have hps := HNN.out n (List.mem_of_getElem? hn)
      have HN := hide hn
      have HPar := hide (fun W => parent_any n.path W (by omega))
      have hjw : IntKind.i64.wrap ((j : Int) + 1) = ((j + 1 : Nat) : Int) := by rw [IntWalk.i64_in _ (by omega)]; rfl
      obtain ⟨c0, c1, c2, c3, c4⟩ := hnd
      clear hn hlt
      obtain ⟨path, kind, mode, time, data⟩ := n
      simp only at c0 c1 c2 c3 c4 HPar hps
      have HS1 := hide (fun (h : parentOk path = false) (wx : World) (hg : wr.grownBy wx none) => ((HI.out.kept' hg).skip HN.out h))
      cases ho : parentOk path with
      | false =>
        have HS := hide (HS1.out ho)
        rw [ho] at HPar
        clear HS1
        go_wp2_with (go_at_call 41; refine (HPar.out _).mono ?_; rintro e w3 ⟨rfl, hb3⟩)
        have hg3 := (World.grownBy_alloc wr (.cells #[.string path, .int .i64 kind, .int .i64 mode, .int .i64 time, .string data] 34) none).trans (grownBy_below hb3)
        have HJ := hide (HS.out _ hg3)
        go_wp2_with fail
        go_roundg g1
        case rel => exact ⟨j + 1, rfl, by omega, HJ⟩
        case measure => omega
      | true =>
        rw [ho] at HPar
        clear HS1
        go_wp2_with (go_at_call 41; refine (HPar.out _).mono ?_; rintro e w3 ⟨rfl, hb3⟩)
        have hg3 : wr.grownBy w3.drew none := (World.grownBy_alloc wr (.cells #[.string path, .int .i64 kind, .int .i64 mode, .int .i64 time, .string data] 34) none).trans (grownBy_below hb3.drew)
        have hg4 : wr.grownBy (w3.alloc (.cells #[.string path, .int .i64 kind, .int .i64 mode, .int .i64 time, .string data] 34)).drew none := (((World.grownBy_alloc wr (.cells #[.string path, .int .i64 kind, .int .i64 mode, .int .i64 time, .string data] 34) none).trans (grownBy_below hb3)).trans (World.grownBy_alloc w3 (.cells #[.string path, .int .i64 kind, .int .i64 mode, .int .i64 time, .string data] 34) none)).trans (grownBy_below (Below.refl _ _).drew)
        obtain ⟨v0, m, xs, hv0, hm6, hF⟩ := HI.out.fetch HN.out ho hl hps
        obtain ⟨e1, _, _⟩ := hF _ hg3
        obtain ⟨e2, hO4, hAdd⟩ := hF _ hg4
        simp only at e1 e2 hAdd
        have HAdd := hide hAdd
        have HO4 := hide hO4
        have hrow := World.alloc_heap_new wr (Obj.cells #[.string path, .int .i64 kind, .int .i64 mode, .int .i64 time, .string data] 34)
        have q1 : w3.drew.heap[wr.heap.size]? = some (.cells #[.string path, .int .i64 kind, .int .i64 mode, .int .i64 time, .string data] 34 (0, 0)) := (hb3.block wr.heap.size (by simp)).trans hrow
        have q2 := (HI.out.kept' hg3).row
        have hl3 : wr.heap.size < w3.drew.heap.size := (Array.getElem?_eq_some_iff.1 q1).1
        have hlr : w.heap.size + 2 < wr.heap.size := by have := HI.out.size; omega
        have q3 : (w3.alloc (.cells #[.string path, .int .i64 kind, .int .i64 mode, .int .i64 time, .string data] 34)).drew.heap[wr.heap.size]? = some (.cells #[.string path, .int .i64 kind, .int .i64 mode, .int .i64 time, .string data] 34 (0, 0)) := (Below.heap_alloc w3 (.cells #[.string path, .int .i64 kind, .int .i64 mode, .int .i64 time, .string data] 34) _ hl3).trans q1
        have q4 := (HI.out.kept' hg4).row
        have HQ5 := hide (fun (w5 : World) (hg : (w3.alloc (.cells #[.string path, .int .i64 kind, .int .i64 mode, .int .i64 time, .string data] 34)).drew.grownBy w5 v0.ownBlock) =>
          (⟨(hg.block _ (Array.getElem?_eq_some_iff.1 q3).1 (fun e => by have := hv0 _ e.symm; omega)).trans q3, (hg.block _ (Array.getElem?_eq_some_iff.1 q4).1 (fun e => by have := hv0 _ e.symm; omega)).trans q4⟩ :
            w5.heap[wr.heap.size]? = some (.cells #[.string path, .int .i64 kind, .int .i64 mode, .int .i64 time, .string data] 34 (0, 0)) ∧ w5.heap[w.heap.size + 2]? = some (.cells #[.map (some w.heap.size), .map (some (w.heap.size + 1))] 70 (0, 0))))
        have HQ6 := hide (fun (w5 w6 : World) (hg : (w3.alloc (.cells #[.string path, .int .i64 kind, .int .i64 mode, .int .i64 time, .string data] 34)).drew.grownBy w5 v0.ownBlock) (hg6 : w5.grownBy w6 (some w.heap.size)) =>
          (⟨(hg6.block _ (Array.getElem?_eq_some_iff.1 (HQ5.out _ hg).1).1 (by simp; omega)).trans (HQ5.out _ hg).1, (hg6.block _ (Array.getElem?_eq_some_iff.1 (HQ5.out _ hg).2).1 (by simp)).trans (HQ5.out _ hg).2⟩ :
            w6.heap[wr.heap.size]? = some (.cells #[.string path, .int .i64 kind, .int .i64 mode, .int .i64 time, .string data] 34 (0, 0)) ∧ w6.heap[w.heap.size + 2]? = some (.cells #[.map (some w.heap.size), .map (some (w.heap.size + 1))] 70 (0, 0))))
        have HSf := hide (fun (W : World) (h : W.heap[wr.heap.size]? = some (.cells #[.string path, .int .i64 kind, .int .i64 mode, .int .i64 time, .string data] 34 (0, 0)) ∧ W.heap[w.heap.size + 2]? = some (.cells #[.map (some w.heap.size), .map (some (w.heap.size + 1))] 70 (0, 0))) =>
          (⟨cell_of_row _ _ _ _ _ _ h.2, cell_of_row _ _ _ _ _ _ h.1, cell_of_row _ _ _ _ _ _ h.1, cell_of_row _ _ _ _ _ _ h.1, cell_of_row _ _ _ _ _ _ h.1, cell_of_row _ _ _ _ _ _ h.1⟩ :
            W.cell? ⟨w.heap.size + 2, 0, none⟩ = some (.map (some w.heap.size)) ∧ W.cell? ⟨wr.heap.size, 0, none⟩ = some (.string path) ∧ W.cell? ⟨wr.heap.size, 1, none⟩ = some (.int .i64 kind) ∧ W.cell? ⟨wr.heap.size, 2, none⟩ = some (.int .i64 mode) ∧ W.cell? ⟨wr.heap.size, 3, none⟩ = some (.int .i64 time) ∧ W.cell? ⟨wr.heap.size, 4, none⟩ = some (.string data)))
        have HQ1 := hide (And.intro q1 q2)
        have HQ4 := hide (And.intro q3 q4)
        have HNew := hide (RdN.one w3 ⟨path, kind, mode, time, data⟩ 34).drew.cell
        have hbase4 : w.heap.size + 3 ≤ (w3.alloc (.cells #[.string path, .int .i64 kind, .int .i64 mode, .int .i64 time, .string data] 34)).drew.heap.size := (HI.out.kept' hg4).size
        clear hF hAdd hO4 hrow q1 q2 q3 q4 hl3 hlr hb3 hg3 c0 c1 c2 c3 c4 HPar hv0
        go_region_held3 (fun w' => w'.cell? ⟨w.heap.size + 2, 0, none⟩ = some (.map (some w.heap.size)) ∧ w'.cell? ⟨wr.heap.size, 0, none⟩ = some (.string path) ∧ w'.cell? ⟨wr.heap.size, 1, none⟩ = some (.int .i64 kind) ∧ w'.cell? ⟨wr.heap.size, 2, none⟩ = some (.int .i64 mode) ∧ w'.cell? ⟨wr.heap.size, 3, none⟩ = some (.int .i64 time) ∧ w'.cell? ⟨wr.heap.size, 4, none⟩ = some (.string data))
          (first | exact HSf.out _ HQ1.out | exact HSf.out _ HQ4.out | exact HSf.out _ (HQ5.out _ hG5) | exact HSf.out _ (HQ6.out _ _ hG5 hg6))
          (first
            | (refine step_append_lies _ rfl (.tmp 35) (.tmp 37) 22 rfl (w.heap.size + 3) 34 i0 _ 5 56 Tryd.underlying22 hi hz0 hz1 hz2 rfl (by decide) v0 m xs rfl HO4.out ⟨w3.heap.size, 0, none⟩ 1 1 (cellsN [⟨path, kind, mode, time, data⟩]) rfl rfl HNew.out (cellsN_one _) (by decide) (by unfold maxLen; omega) (by omega) hbase4 _ rfl ?_
               intro g cap w5 hO5 hG5 hat hlt5
               obtain ⟨w6, hrun, hL6, hg6⟩ := HAdd.out g cap w5 hO5 hG5 hat))
        all_goals
          have HJ := hide hL6
          go_wp2_with fail
          go_roundg g1
          case rel => exact ⟨j + 1, rfl, by omega, HJ⟩
          case measure => omega
end Go.Proofs.YtbklgijndjpgoaaDoor
