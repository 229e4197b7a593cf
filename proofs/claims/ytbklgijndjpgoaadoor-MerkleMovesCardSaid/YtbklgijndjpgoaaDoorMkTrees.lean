/-
  Texts that belong together: TreeInsert, TreeDad, NodeRef, TreeOf, TreeKids.
-/
import Derived.Test.YtbklgijndjpgoaaDoorMkNodes
import Derived.Test.YtbklgijndjpgoaaDoorMkPathsB
import Derived.StillTailTactics
import Derived.Test.YtbklgijndjpgoaaDoorMkPathsC
/-
  The reference's Insert: a list with a node ahead of the first one that is behind it.
-/
namespace Go.Proofs.YtbklgijndjpgoaaDoor
open Go.RowKit
set_option maxRecDepth 100000

/-- Where the first node behind a path is. -/
def gtFrom (p : ByteArray) : Nat → List Nd → Nat
  | i, [] => i
  | i, n :: t => if cmpL (toL n.path) (toL p) ≤ 0 then gtFrom p (i + 1) t else i
theorem gt_drop (p : ByteArray) (l : List Nd) (i : Nat) (n : Nd) (h : l[i]? = some n) : gtFrom p i (l.drop i) = if cmpL (toL n.path) (toL p) ≤ 0 then gtFrom p (i + 1) (l.drop (i + 1)) else i := by
  obtain ⟨hlt, e⟩ := List.getElem?_eq_some_iff.1 h
  rw [List.drop_eq_getElem_cons hlt, e]; rfl
/-- A list with one more node. -/
def insL (l : List Nd) (n : Nd) : List Nd := l.take (gtFrom n.path 0 l) ++ [n] ++ l.drop (gtFrom n.path 0 l)
/-- Paths of few bytes. -/
def FewN (l : List Nd) : Prop := ∀ (k : Nat) (n : Nd), l[k]? = some n → (n.path.size : Int) ≤ 1000000 ∧ (n.data.size : Int) ≤ 1000000

set_option maxHeartbeats 16000000 in
theorem refInsert_any (A : Option Addr) (l : List Nd) (c : Nat) (n : Nd) (w : World) (hA : RdN w w.heap.size A l) (hf : FewN l) (hl : (l.length : Int) ≤ 1000000) (hc : l.length ≤ c) (hn : (n.path.size : Int) ≤ 1000000) :
    Calls Tryd.prog 20 #[.slice A l.length c, .agg n.cells] w fun e w' => (∃ v, e = .returned v ∧ w'.ownsRow w.heap.size 34 5 v (insL l n).length (cellsN (insL l n))) ∧ Below w.heap.size w w' := by
  obtain ⟨i0, hi, hz0, hz1, hz2⟩ := info_parts info_node
  obtain ⟨path, kind, mode, time, data⟩ := n
  simp only at hn
  show Calls _ _ #[_, .agg #[.string path, .int .i64 kind, .int .i64 mode, .int .i64 time, .string data]] _ _
  obtain ⟨V, hV⟩ : ∃ V, V = gtFrom path 0 l := ⟨_, rfl⟩
  have HV := hide (show gtFrom path 0 (l.drop 0) = V by rw [hV]; rfl)
  have HIns := hide (show insL l ⟨path, kind, mode, time, data⟩ = l.take V ++ [⟨path, kind, mode, time, data⟩] ++ l.drop V by rw [hV]; rfl)
  have hB0 : Below w.heap.size w (w.alloc (.cells #[.string path, .int .i64 kind, .int .i64 mode, .int .i64 time, .string data] 34)) := (Below.refl _ w).alloc (Nat.le_refl _) _
  have r0 := World.alloc_heap_new w (Obj.cells #[.string path, .int .i64 kind, .int .i64 mode, .int .i64 time, .string data] 34)
  have hA0 := hA.step hB0
  have HF := hide hf
  have HA := hide hA
  clear hV hf hA
  go_enter Tryd.func20, Tryd.ntmps20
  go_wp2_with fail
  go_loopg [5] l.length (fun gk iv wr => ∃ i : Nat, iv = .int .i64 i ∧ i + gk = l.length ∧ Hid (gtFrom path i (l.drop i) = V) ∧ Below w.heap.size w wr ∧ RdN wr wr.heap.size A l ∧ w.heap.size < wr.heap.size ∧ wr.heap[w.heap.size]? = some (.cells #[.string path, .int .i64 kind, .int .i64 mode, .int .i64 time, .string data] 34 (0, 0)))
  case atStart => exact ⟨0, rfl, by omega, HV, hB0, hA0, by simp, r0⟩
  case round =>
    obtain ⟨i, rfl, hig, HB, hB, hR, hlt0, s0⟩ := hrel
    have cp : wr.cell? ⟨w.heap.size, 0, none⟩ = some (.string path) := cell_of_row _ _ _ _ _ _ s0
    clear hA0 r0 hB0
    cases gk with
    | zero =>
      have hE : V = i := by
        rw [← HB.out, List.drop_of_length_le (by omega)]; rfl
      have HE := hide hE
      have hd : decide (i < l.length) = false := by rw [decide_eq_false_iff_not]; omega
      clear hE
      clear HB HV
      go_wp2_with fail
      go_quiet (fail)
      have hBq : Below w.heap.size w (wr.drewN nq) := below_drewN hB nq
      have s1 : (wr.drewN nq).heap[w.heap.size]? = _ := s0
      have hltq : w.heap.size < (wr.drewN nq).heap.size := hlt0
      have hVl : i ≤ l.length := by omega
      have hic : (i : Int) ≤ c := by omega
      have HVi := HE
      clear hB hR s0 hlt0 cp hig hd HE
      generalize wr.drewN nq = wq at hBq s1 hltq ⊢
      have g0 : (0 : Int) ≤ i := by omega
      have hO0 := World.ownsRow_lit (base := w.heap.size + 1) (e := 34) (size := 5) wq #[] 0 hltq (by decide) rfl
      have hB1 := hBq.alloc hBq.size (.cells #[] 34)
      have s2 : (wq.alloc (.cells #[] 34)).heap[w.heap.size]? = _ := (Below.heap_alloc _ _ _ hltq).trans s1
      have hR1 := (HA.out.below hB1 (Nat.le_refl _)).take i
      have hz : w.heap.size + 1 ≤ (wq.alloc (.cells #[] 34)).heap.size := by simp; omega
      have hOc := hO0
      go_wp2_with (at_builtin; refine wpList_append_nodes rfl _ _ 22 rfl (w.heap.size + 1) 34 i0 Tryd.underlying22 hi hz0 hz1 hz2 _ 0 [] rfl hOc A _ c w.heap.size (l.take i) rfl (by rw [List.length_take]; omega) hR1 (by unfold maxLen; omega) (by omega) hz ?_)
      intro v2 w2 hO2 hg2
      have hB2 := hB1.grown hg2 hB1.size (fun r e => by have := (hOc.lt r e).1; omega)
      have s3 := (hg2.block w.heap.size (by omega) (fun e => by have := (hOc.lt _ e.symm).1; omega)).trans s2
      have hlt2 : w.heap.size < w2.heap.size := Nat.lt_of_lt_of_le hz hg2.size
      have k0 : w2.cell? ⟨w.heap.size, 0, none⟩ = some (.string path) := cell_of_row _ _ _ _ _ _ s3
      have k1 : w2.cell? ⟨w.heap.size, 1, none⟩ = some (.int .i64 kind) := cell_of_row _ _ _ _ _ _ s3
      have k2 : w2.cell? ⟨w.heap.size, 2, none⟩ = some (.int .i64 mode) := cell_of_row _ _ _ _ _ _ s3
      have k3 : w2.cell? ⟨w.heap.size, 3, none⟩ = some (.int .i64 time) := cell_of_row _ _ _ _ _ _ s3
      have k4 : w2.cell? ⟨w.heap.size, 4, none⟩ = some (.string data) := cell_of_row _ _ _ _ _ _ s3
      have hO3 := hO2.alloc (.cells (Nd.cells ⟨path, kind, mode, time, data⟩) 34)
      have hRn := RdN.one w2 ⟨path, kind, mode, time, data⟩ 34
      have hB3 := hB2.alloc hB2.size (.cells (Nd.cells ⟨path, kind, mode, time, data⟩) 34)
      have hz3 : w.heap.size + 1 ≤ (w2.alloc (.cells (Nd.cells ⟨path, kind, mode, time, data⟩) 34)).heap.size := by simp; omega
      clear hO0 hOc hB1 s2 hR1 hz hg2 hB2 s3 hBq s1
      go_wp2_with (at_builtin; go_loud (refine wpList_append_nodes rfl _ _ 22 rfl (w.heap.size + 1) 34 i0 Tryd.underlying22 hi hz0 hz1 hz2 _ _ _ rfl hO3 (some ⟨w2.heap.size, 0, none⟩) _ 1 _ [⟨path, kind, mode, time, data⟩] rfl rfl hRn (by unfold maxLen; omega) (by omega) hz3 ?_))
      intro v4 w4 hO4 hg4
      have hB4 := hB3.grown hg4 hB3.size (fun r e => by have := (hO3.lt r e).1; omega)
      have hR4 : RdN w4 w.heap.size (if c = i then A else A.map (·.add (i * 5))) (l.drop i) := (HA.out.below hB4 (Nat.le_refl _)).drop hc
      have hz4 : w.heap.size + 1 ≤ w4.heap.size := Nat.le_trans hz3 hg4.size
      clear hO3 hRn hB3 hz3 hg4 k0 k1 k2 k3 k4 hO2
      by_cases hci : c = i
      · rw [if_pos hci] at hR4
        have hli : (i : Int) ≤ l.length := by omega
        go_wp2_with (at_builtin; go_loud (refine wpList_append_nodes rfl _ _ 22 rfl (w.heap.size + 1) 34 i0 Tryd.underlying22 hi hz0 hz1 hz2 _ _ _ rfl hO4 _ _ _ w.heap.size (l.drop i) rfl (by simp) hR4 (by unfold maxLen; omega) (by omega) hz4 ?_))
        intro v6 w6 hO6 hg6
        have hB6 := hB4.grown hg6 hB4.size (fun r e => by have := (hO4.lt r e).1; omega)
        have HO := hide (show w6.ownsRow w.heap.size 34 5 v6 (insL l ⟨path, kind, mode, time, data⟩).length (cellsN (insL l ⟨path, kind, mode, time, data⟩)) by
          rw [HIns.out, HVi.out, cellsN_app, cellsN_app, show (l.take i ++ [(⟨path, kind, mode, time, data⟩ : Nd)] ++ l.drop i).length = i + 1 + (l.length - i) by rw [List.length_append, List.length_append, List.length_take, List.length_drop]; simp; omega]
          have h6 := ownsRow_lowerN hO6 (Nat.le_succ _)
          simp only [List.append_assoc] at h6 ⊢
          exact h6)
        clear hO4 hO6 hg6 hR4 hB4
        go_wp2_with fail
        exact bodyPost_ret (results_tmp rfl _ _ _) rfl ⟨⟨v6, rfl, HO.out⟩, hB6⟩
      · rw [if_neg hci] at hR4
        have hli : (i : Int) ≤ l.length := by omega
        go_wp2_with (at_builtin; go_loud (refine wpList_append_nodes rfl _ _ 22 rfl (w.heap.size + 1) 34 i0 Tryd.underlying22 hi hz0 hz1 hz2 _ _ _ rfl hO4 _ _ _ w.heap.size (l.drop i) rfl (by simp) hR4 (by unfold maxLen; omega) (by omega) hz4 ?_))
        intro v6 w6 hO6 hg6
        have hB6 := hB4.grown hg6 hB4.size (fun r e => by have := (hO4.lt r e).1; omega)
        have HO := hide (show w6.ownsRow w.heap.size 34 5 v6 (insL l ⟨path, kind, mode, time, data⟩).length (cellsN (insL l ⟨path, kind, mode, time, data⟩)) by
          rw [HIns.out, HVi.out, cellsN_app, cellsN_app, show (l.take i ++ [(⟨path, kind, mode, time, data⟩ : Nd)] ++ l.drop i).length = i + 1 + (l.length - i) by rw [List.length_append, List.length_append, List.length_take, List.length_drop]; simp; omega]
          have h6 := ownsRow_lowerN hO6 (Nat.le_succ _)
          simp only [List.append_assoc] at h6 ⊢
          exact h6)
        clear hO4 hO6 hg6 hR4 hB4
        go_wp2_with fail
        exact bodyPost_ret (results_tmp rfl _ _ _) rfl ⟨⟨v6, rfl, HO.out⟩, hB6⟩
    | succ g0 =>
      have hii : (i : Int) < l.length := by omega
      obtain ⟨m, hm⟩ : ∃ n, l[i]? = some n := ⟨_, List.getElem?_eq_getElem (by omega)⟩
      obtain ⟨ad, rfl, hlt, hnd⟩ := hR i m hm
      have c0 := hnd.path
      have hd := HB.out
      rw [gt_drop path l i m hm] at hd
      have hmz := (HF.out i m hm).1
      have HC := hide (fun W => refCmp_any m.path path W hmz hn)
      have hdec : decide ((i : Int) < (l.length : Int)) = true := decide_eq_true hii
      clear HB HV hm hnd
      by_cases hle : cmpL (toL m.path) (toL path) ≤ 0
      · rw [if_pos hle] at hd
        have HD := hide hd
        have hiw : IntKind.i64.wrap ((i : Int) + 1) = ((i + 1 : Nat) : Int) := by rw [IntWalk.i64_in _ (by omega)]; rfl
        generalize cmpL (toL m.path) (toL path) = z at HC hle
        clear hd
        go_wp2_with fail
        go_still_tail 12, (by kernel_rfl)
        change wpList _ _ _ _ _ wr.drew
        have HB2 : Below w.heap.size w wr.drew := ⟨hB.os, hB.tape, hB.output, hB.size, hB.block⟩
        have hR2 : RdN wr.drew wr.drew.heap.size (some ad) l := hR.drew
        have s1 : wr.drew.heap[w.heap.size]? = _ := s0
        have hlt1 : w.heap.size < wr.drew.heap.size := hlt0
        clear hB hR s0 hlt0 cp c0
        generalize wr.drew = wq at HB2 hR2 s1 hlt1
        go_wp2_with (go_at_call 38; (refine (HC.out _).mono ?_; rintro e w3 ⟨rfl, hb3⟩))
        go_roundg g0
        case rel => exact ⟨i + 1, rfl, by omega, HD, HB2.trans (hb3.mono HB2.size), hR2.step hb3, Nat.lt_of_lt_of_le hlt1 hb3.size, (hb3.block _ hlt1).trans s1⟩
        case measure => omega
      · rw [if_neg hle] at hd
        have HVi := hide hd.symm
        generalize cmpL (toL m.path) (toL path) = z at HC hle
        clear hd
        go_wp2_with fail
        go_still_tail 12, (by kernel_rfl)
        change wpList _ _ _ _ _ wr.drew
        have HB2 : Below w.heap.size w wr.drew := ⟨hB.os, hB.tape, hB.output, hB.size, hB.block⟩
        have s1' : wr.drew.heap[w.heap.size]? = _ := s0
        have hlt1 : w.heap.size < wr.drew.heap.size := hlt0
        clear hB hR s0 hlt0 cp c0 hdec
        generalize wr.drew = wp at HB2 s1' hlt1
        have hVl : i ≤ l.length := by omega
        have hic : (i : Int) ≤ c := by omega
        go_upto_if 21 with (go_at_call 38; (refine (HC.out _).mono ?_; rintro e wq ⟨rfl, hb3⟩))
        have hBq : Below w.heap.size w wq := HB2.trans (hb3.mono HB2.size)
        have s1 := (hb3.block _ hlt1).trans s1'
        have hltq : w.heap.size < wq.heap.size := Nat.lt_of_lt_of_le hlt1 hb3.size
        clear HB2 s1' hlt1 hb3 HC hig hii
        have g0 : (0 : Int) ≤ i := by omega
        have hO0 := World.ownsRow_lit (base := w.heap.size + 1) (e := 34) (size := 5) wq #[] 0 hltq (by decide) rfl
        have hB1 := hBq.alloc hBq.size (.cells #[] 34)
        have s2 : (wq.alloc (.cells #[] 34)).heap[w.heap.size]? = _ := (Below.heap_alloc _ _ _ hltq).trans s1
        have hR1 := (HA.out.below hB1 (Nat.le_refl _)).take i
        have hz : w.heap.size + 1 ≤ (wq.alloc (.cells #[] 34)).heap.size := by simp; omega
        have hOc := hO0
        go_wp2_with (at_builtin; refine wpList_append_nodes rfl _ _ 22 rfl (w.heap.size + 1) 34 i0 Tryd.underlying22 hi hz0 hz1 hz2 _ 0 [] rfl hOc (some ad) _ c w.heap.size (l.take i) rfl (by rw [List.length_take]; omega) hR1 (by unfold maxLen; omega) (by omega) hz ?_)
        intro v2 w2 hO2 hg2
        have hB2 := hB1.grown hg2 hB1.size (fun r e => by have := (hOc.lt r e).1; omega)
        have s3 := (hg2.block w.heap.size (by omega) (fun e => by have := (hOc.lt _ e.symm).1; omega)).trans s2
        have hlt2 : w.heap.size < w2.heap.size := Nat.lt_of_lt_of_le hz hg2.size
        have k0 : w2.cell? ⟨w.heap.size, 0, none⟩ = some (.string path) := cell_of_row _ _ _ _ _ _ s3
        have k1 : w2.cell? ⟨w.heap.size, 1, none⟩ = some (.int .i64 kind) := cell_of_row _ _ _ _ _ _ s3
        have k2 : w2.cell? ⟨w.heap.size, 2, none⟩ = some (.int .i64 mode) := cell_of_row _ _ _ _ _ _ s3
        have k3 : w2.cell? ⟨w.heap.size, 3, none⟩ = some (.int .i64 time) := cell_of_row _ _ _ _ _ _ s3
        have k4 : w2.cell? ⟨w.heap.size, 4, none⟩ = some (.string data) := cell_of_row _ _ _ _ _ _ s3
        have hO3 := hO2.alloc (.cells (Nd.cells ⟨path, kind, mode, time, data⟩) 34)
        have hRn := RdN.one w2 ⟨path, kind, mode, time, data⟩ 34
        have hB3 := hB2.alloc hB2.size (.cells (Nd.cells ⟨path, kind, mode, time, data⟩) 34)
        have hz3 : w.heap.size + 1 ≤ (w2.alloc (.cells (Nd.cells ⟨path, kind, mode, time, data⟩) 34)).heap.size := by simp; omega
        clear hO0 hOc hB1 s2 hR1 hz hg2 hB2 s3 hBq s1
        go_wp2_with (at_builtin; go_loud (refine wpList_append_nodes rfl _ _ 22 rfl (w.heap.size + 1) 34 i0 Tryd.underlying22 hi hz0 hz1 hz2 _ _ _ rfl hO3 (some ⟨w2.heap.size, 0, none⟩) _ 1 _ [⟨path, kind, mode, time, data⟩] rfl rfl hRn (by unfold maxLen; omega) (by omega) hz3 ?_))
        intro v4 w4 hO4 hg4
        have hB4 := hB3.grown hg4 hB3.size (fun r e => by have := (hO3.lt r e).1; omega)
        have hR4 : RdN w4 w.heap.size (if c = i then some ad else (some ad).map (·.add (i * 5))) (l.drop i) := (HA.out.below hB4 (Nat.le_refl _)).drop hc
        have hz4 : w.heap.size + 1 ≤ w4.heap.size := Nat.le_trans hz3 hg4.size
        clear hO3 hRn hB3 hz3 hg4 k0 k1 k2 k3 k4 hO2
        by_cases hci : c = i
        · rw [if_pos hci] at hR4
          have hli : (i : Int) ≤ l.length := by omega
          go_wp2_with (at_builtin; go_loud (refine wpList_append_nodes rfl _ _ 22 rfl (w.heap.size + 1) 34 i0 Tryd.underlying22 hi hz0 hz1 hz2 _ _ _ rfl hO4 _ _ _ w.heap.size (l.drop i) rfl (by simp) hR4 (by unfold maxLen; omega) (by omega) hz4 ?_))
          intro v6 w6 hO6 hg6
          have hB6 := hB4.grown hg6 hB4.size (fun r e => by have := (hO4.lt r e).1; omega)
          have HO := hide (show w6.ownsRow w.heap.size 34 5 v6 (insL l ⟨path, kind, mode, time, data⟩).length (cellsN (insL l ⟨path, kind, mode, time, data⟩)) by
            rw [HIns.out, HVi.out, cellsN_app, cellsN_app, show (l.take i ++ [(⟨path, kind, mode, time, data⟩ : Nd)] ++ l.drop i).length = i + 1 + (l.length - i) by rw [List.length_append, List.length_append, List.length_take, List.length_drop]; simp; omega]
            have h6 := ownsRow_lowerN hO6 (Nat.le_succ _)
            simp only [List.append_assoc] at h6 ⊢
            exact h6)
          clear hO4 hO6 hg6 hR4 hB4
          go_wp2_with fail
          exact bodyPost_ret (results_tmp rfl _ _ _) rfl ⟨⟨v6, rfl, HO.out⟩, hB6⟩
        · rw [if_neg hci, Option.map_some] at hR4
          have hli : (i : Int) ≤ l.length := by omega
          go_wp2_with (at_builtin; go_loud (refine wpList_append_nodes rfl _ _ 22 rfl (w.heap.size + 1) 34 i0 Tryd.underlying22 hi hz0 hz1 hz2 _ _ _ rfl hO4 _ _ _ w.heap.size (l.drop i) rfl (by simp) hR4 (by unfold maxLen; omega) (by omega) hz4 ?_))
          intro v6 w6 hO6 hg6
          have hB6 := hB4.grown hg6 hB4.size (fun r e => by have := (hO4.lt r e).1; omega)
          have HO := hide (show w6.ownsRow w.heap.size 34 5 v6 (insL l ⟨path, kind, mode, time, data⟩).length (cellsN (insL l ⟨path, kind, mode, time, data⟩)) by
            rw [HIns.out, HVi.out, cellsN_app, cellsN_app, show (l.take i ++ [(⟨path, kind, mode, time, data⟩ : Nd)] ++ l.drop i).length = i + 1 + (l.length - i) by rw [List.length_append, List.length_append, List.length_take, List.length_drop]; simp; omega]
            have h6 := ownsRow_lowerN hO6 (Nat.le_succ _)
            simp only [List.append_assoc] at h6 ⊢
            exact h6)
          clear hO4 hO6 hg6 hR4 hB4
          go_wp2_with fail
          exact bodyPost_ret (results_tmp rfl _ _ _) rfl ⟨⟨v6, rfl, HO.out⟩, hB6⟩
end Go.Proofs.YtbklgijndjpgoaaDoor
/-
  The reference's Parent in a tree: what is wrong with a path's parent (10.1).
-/
namespace Go.Proofs.YtbklgijndjpgoaaDoor
open Go.RowKit
set_option maxRecDepth 100000

/-- A path's parent. -/
def upG (p : ByteArray) : ByteArray := ofL (glueL (namesL (toL p)).dropLast)
theorem at_from (p : ByteArray) : ∀ (l : List Nd) (i : Nat), atFrom p i l = -1 ∨ ∃ k n, atFrom p i l = ((i + k : Nat) : Int) ∧ l[k]? = some n ∧ hit p n = true
  | [], i => .inl rfl
  | n :: t, i => by
    unfold atFrom
    cases h : hit p n with
    | true => exact .inr ⟨0, n, by rw [if_pos rfl]; rfl, rfl, h⟩
    | false =>
      rw [if_neg (by decide)]
      rcases at_from p t (i + 1) with h2 | ⟨k, m, h2, h3, h4⟩
      · exact .inl h2
      · exact .inr ⟨k + 1, m, by rw [h2]; congr 1; omega, h3, h4⟩
theorem at_cases (p : ByteArray) (l : List Nd) : atL p l = -1 ∨ ∃ k n, atL p l = ((k : Nat) : Int) ∧ l[k]? = some n ∧ hit p n = true := by
  rcases at_from p l 0 with h | ⟨k, n, h, h2⟩
  · exact .inl h
  · exact .inr ⟨k, n, by unfold atL; rw [h]; congr 1; omega, h2⟩
/-- What is wrong with a path's parent. -/
def dadL (l : List Nd) (p : ByteArray) : Nat :=
  if (upG p).toList.isEmpty = true then 0
  else if atL (upG p) l < 0 then 6
  else match l[(atL (upG p) l).toNat]? with
    | some n => if n.kind = 1 then 0 else 8
    | none => 0

set_option maxHeartbeats 4000000 in
theorem refDad_any (A : Option Addr) (l : List Nd) (c : Nat) (p : ByteArray) (w : World) (hA : RdN w w.heap.size A l) (hl : (l.length : Int) ≤ 1000000) (hp : (p.size : Int) ≤ 1000000) :
    Calls Tryd.prog 21 #[.slice A l.length c, .string p] w fun e w' => e = .returned (.int .i64 (dadL l p : Nat)) ∧ Below w.heap.size w w' := by
  obtain ⟨V, hV⟩ : ∃ V, V = dadL l p := ⟨_, rfl⟩
  rw [← hV]
  have HAt := hide (fun (g : ByteArray) (W : World) (h : RdN W W.heap.size A l) => refAt_any A l c g W h hl)
  have HCases := hide (at_cases (upG p) l)
  unfold dadL at hV
  have HV := hide hV
  clear hV
  go_enter Tryd.func21, Tryd.ntmps21
  go_wp2_with fail
  refine (refParent_any p w hp).mono ?_
  rintro e w1 ⟨⟨g, rfl, hg⟩, hB1⟩
  obtain rfl : g = upG p := toL_inj (by rw [hg]; rfl)
  clear hg
  have hR1 := hA.step hB1
  generalize upG p = g at HAt HCases HV ⊢
  generalize (!(namesL (toL p)).isEmpty) = ok
  go_wp2_with fail
  refine (HAt.out g w1 hR1).mono ?_
  rintro e w2 ⟨rfl, hB2⟩
  have hB := hB1.trans (hB2.mono hB1.size)
  have hR2 := hR1.step hB2
  clear hR1 hB2 hB1 hA HAt
  cases he : g.toList.isEmpty with
  | true =>
    have HE := hide (show V = 0 by rw [HV.out, if_pos he])
    clear HV HCases
    go_wp2_with fail
    exact bodyPost_ret (results_tmp rfl _ _ _) rfl ⟨by rw [HE.out]; rfl, hB⟩
  | false =>
    rcases HCases.out with h | ⟨k, n, h, hn, _⟩
    · have HE := hide (show V = 6 by rw [HV.out, if_neg (by rw [he]; decide), h, if_pos (by decide)])
      rw [h]
      clear HV HCases h
      go_wp2_with fail
      exact bodyPost_ret (results_tmp rfl _ _ _) rfl ⟨by rw [HE.out]; rfl, hB⟩
    · have hv := HV.out
      rw [if_neg (by rw [he]; decide), h, if_neg (by omega), Int.toNat_natCast, hn] at hv
      simp only at hv
      obtain ⟨ad, rfl, hlt, hnd⟩ := hR2 k n hn
      have c1 := hnd.kind
      have hkl : k < l.length := (List.getElem?_eq_some_iff.1 hn).1
      have hki : (k : Int) < l.length := by omega
      rw [h]
      clear HV HCases h hn hnd
      by_cases hk : n.kind = 1
      · rw [if_pos hk] at hv
        rw [hk] at c1
        have HE := hide hv
        clear hv hk
        go_wp2_with fail
        exact bodyPost_ret (results_tmp rfl _ _ _) rfl ⟨by rw [HE.out]; rfl, hB⟩
      · rw [if_neg hk] at hv
        have kb : (n.kind == 1) = false := beq_eq_false_iff_ne.2 hk
        have kn : (n.kind != 1) = true := by rw [bne, kb]; rfl
        have HE := hide hv
        clear hv hk
        go_wp2_with fail
        exact bodyPost_ret (results_tmp rfl _ _ _) rfl ⟨by rw [HE.out]; rfl, hB⟩
end Go.Proofs.YtbklgijndjpgoaaDoor
/-
  The reference's Check of a node (9.1).
-/
namespace Go.Proofs.YtbklgijndjpgoaaDoor
open Go.RowKit
set_option maxRecDepth 100000

/-- Does a text have a byte that a link's target may not have? -/
def textBad (l : List UInt8) : Bool := l.any fun c => decide (c.toNat < 33) || decide (126 < c.toNat)
/-- What is wrong with a node. -/
def checkN (n : Nd) : Nat :=
  if n.path.toList.isEmpty = true ∨ rightL (toL n.path) = false then 2
  else if n.kind ≠ 1 ∧ n.kind ≠ 2 ∧ n.kind ≠ 3 then 8
  else if (n.kind = 1 ∧ 0 < n.data.size) ∨ (n.kind = 2 ∧ 16384 < n.data.size) ∨ (n.kind = 3 ∧ 64 < n.data.size) then 5
  else if n.mode < 0 ∨ 4095 < n.mode ∨ n.time < 0 ∨ 1099511627776 < n.time then 1
  else if n.kind = 3 ∧ (n.mode ≠ 0 ∨ n.data.size = 0 ∨ textBad (toL n.data) = true) then 1
  else 0
theorem bad_at (s : ByteArray) (i : Nat) (h : i < s.size) : textBad ((toL s).drop i) = (decide (s[i].toNat < 33) || decide (126 < s[i].toNat) || textBad ((toL s).drop (i + 1))) := by
  have hl : i < (toL s).length := by simpa [toL] using h
  unfold textBad
  rw [List.drop_eq_getElem_cons hl, List.any_cons]
  rfl

set_option maxHeartbeats 16000000 in
theorem refNode_any (n : Nd) (w : World) (hp : (n.path.size : Int) ≤ 1000000) (hd : (n.data.size : Int) ≤ 1000000) :
    Calls Tryd.prog 19 #[.agg n.cells] w fun e w' => e = .returned (.int .i64 (checkN n : Nat)) ∧ Below w.heap.size w w' := by
  obtain ⟨K, hK⟩ : ∃ K, K = checkN n := ⟨_, rfl⟩
  rw [← hK]
  obtain ⟨path, kind, mode, time, data⟩ := n
  simp only at hp hd
  have hB0 : Below w.heap.size w (w.alloc (.cells #[.string path, .int .i64 kind, .int .i64 mode, .int .i64 time, .string data] 34)) := (Below.refl _ w).alloc (Nat.le_refl _) _
  have r0 := World.alloc_heap_new w (Obj.cells #[.string path, .int .i64 kind, .int .i64 mode, .int .i64 time, .string data] 34)
  have HR := hide (fun W => refRight_any path W hp)
  show Calls _ _ #[.agg #[.string path, .int .i64 kind, .int .i64 mode, .int .i64 time, .string data]] _ _
  cases he : path.toList.isEmpty with
  | true =>
    have HV := hide (show K = 2 by rw [hK]; unfold checkN; rw [if_pos (.inl he)])
    clear hK
    go_enter Tryd.func19, Tryd.ntmps19
    go_wp2_with fail
    exact bodyPost_ret (results_tmp rfl _ _ _) rfl ⟨by rw [HV.out]; rfl, hB0⟩
  | false =>
    have HR2 := HR.out (w.alloc (.cells #[.string path, .int .i64 kind, .int .i64 mode, .int .i64 time, .string data] 34))
    clear HR
    cases hr : rightL (toL path) with
    | false =>
      rw [hr] at HR2
      have HC := hide HR2
      have HV := hide (show K = 2 by rw [hK]; unfold checkN; rw [if_pos (.inr hr)])
      clear hK hr HR2
      go_enter Tryd.func19, Tryd.ntmps19
      go_wp2_with (go_at_call 34; refine HC.out.mono ?_; rintro e w2 ⟨rfl, hb2⟩)
      exact bodyPost_ret (results_tmp rfl _ _ _) rfl ⟨by rw [HV.out]; rfl, hB0.trans (hb2.mono hB0.size)⟩
    | true =>
      rw [hr] at HR2
      have HC := hide HR2
      have HK := hide hK
      have HPath := hide (And.intro he hr)
      clear hK hr HR2
      go_enter Tryd.func19, Tryd.ntmps19
      go_upto_if 12 with (go_at_call 34; refine HC.out.mono ?_; rintro e w2 ⟨rfl, hb2⟩)
      have s0 := (hb2.block w.heap.size (by simp)).trans r0
      have hB := hB0.trans (hb2.mono hB0.size)
      have c1 : w2.cell? ⟨w.heap.size, 1, none⟩ = some (.int .i64 kind) := cell_of_row _ _ _ _ _ _ s0
      have c2 : w2.cell? ⟨w.heap.size, 2, none⟩ = some (.int .i64 mode) := cell_of_row _ _ _ _ _ _ s0
      have c3 : w2.cell? ⟨w.heap.size, 3, none⟩ = some (.int .i64 time) := cell_of_row _ _ _ _ _ _ s0
      have c4 : w2.cell? ⟨w.heap.size, 4, none⟩ = some (.string data) := cell_of_row _ _ _ _ _ _ s0
      clear s0 hb2 HC hB0 r0
      have hpre : ∀ X : Nat, (checkN ⟨path, kind, mode, time, data⟩ = X) = ((if kind ≠ 1 ∧ kind ≠ 2 ∧ kind ≠ 3 then 8
        else if (kind = 1 ∧ 0 < data.size) ∨ (kind = 2 ∧ 16384 < data.size) ∨ (kind = 3 ∧ 64 < data.size) then 5
        else if mode < 0 ∨ 4095 < mode ∨ time < 0 ∨ 1099511627776 < time then 1
        else if kind = 3 ∧ (mode ≠ 0 ∨ data.size = 0 ∨ textBad (toL data) = true) then 1 else 0) = X) := fun X => by
        unfold checkN
        rw [if_neg (by simp [HPath.out.1, HPath.out.2])]
      have HP := hide hpre
      clear hpre HPath
      by_cases k1 : kind = 1
      · subst k1
        by_cases hsz : (0 : Int) < data.size
        · have hsn : 0 < data.size := by omega
          have HV := hide (show K = 5 by rw [HK.out, HP.out]; simp [hsn])
          clear HK HP
          go_wp2_with fail
          exact bodyPost_ret (results_tmp rfl _ _ _) rfl ⟨by rw [HV.out]; rfl, hB⟩
        obtain rfl : data = ⟨#[]⟩ := by
          obtain ⟨⟨l⟩⟩ := data
          cases l with
          | nil => rfl
          | cons a l => exact absurd (show (0 : Int) < ((⟨⟨a :: l⟩⟩ : ByteArray).size : Int) by simp [ByteArray.size]) hsz
        clear hsz
        by_cases hm : mode < 0
        · have HV := hide (show K = 1 by rw [HK.out, HP.out]; simp [show ¬ 0 < (⟨#[]⟩ : ByteArray).size by decide, hm])
          clear HK HP
          go_wp2_with fail
          exact bodyPost_ret (results_tmp rfl _ _ _) rfl ⟨by rw [HV.out]; rfl, hB⟩
        by_cases hm2 : 4095 < mode
        · have HV := hide (show K = 1 by rw [HK.out, HP.out]; simp [show ¬ 0 < (⟨#[]⟩ : ByteArray).size by decide, hm, hm2])
          clear HK HP
          go_wp2_with fail
          exact bodyPost_ret (results_tmp rfl _ _ _) rfl ⟨by rw [HV.out]; rfl, hB⟩
        by_cases ht : time < 0
        · have HV := hide (show K = 1 by rw [HK.out, HP.out]; simp [show ¬ 0 < (⟨#[]⟩ : ByteArray).size by decide, hm, hm2, ht])
          clear HK HP
          go_wp2_with fail
          exact bodyPost_ret (results_tmp rfl _ _ _) rfl ⟨by rw [HV.out]; rfl, hB⟩
        by_cases ht2 : 1099511627776 < time
        · have HV := hide (show K = 1 by rw [HK.out, HP.out]; simp [show ¬ 0 < (⟨#[]⟩ : ByteArray).size by decide, hm, hm2, ht, ht2])
          clear HK HP
          go_wp2_with fail
          exact bodyPost_ret (results_tmp rfl _ _ _) rfl ⟨by rw [HV.out]; rfl, hB⟩
        have HV := hide (show K = 0 by rw [HK.out, HP.out]; simp [show ¬ 0 < (⟨#[]⟩ : ByteArray).size by decide, hm, hm2, ht, ht2])
        clear HK HP
        go_wp2_with fail
        exact bodyPost_ret (results_tmp rfl _ _ _) rfl ⟨by rw [HV.out]; rfl, hB⟩
      by_cases k2 : kind = 2
      · subst k2
        by_cases hsz : (16384 : Int) < data.size
        · have hsn : 16384 < data.size := by omega
          have HV := hide (show K = 5 by rw [HK.out, HP.out]; simp [hsn])
          clear HK HP
          go_wp2_with fail
          exact bodyPost_ret (results_tmp rfl _ _ _) rfl ⟨by rw [HV.out]; rfl, hB⟩
        by_cases hm : mode < 0
        · have HV := hide (show K = 1 by rw [HK.out, HP.out]; simp [show ¬ 16384 < data.size by omega, hm])
          clear HK HP
          go_wp2_with fail
          exact bodyPost_ret (results_tmp rfl _ _ _) rfl ⟨by rw [HV.out]; rfl, hB⟩
        by_cases hm2 : 4095 < mode
        · have HV := hide (show K = 1 by rw [HK.out, HP.out]; simp [show ¬ 16384 < data.size by omega, hm, hm2])
          clear HK HP
          go_wp2_with fail
          exact bodyPost_ret (results_tmp rfl _ _ _) rfl ⟨by rw [HV.out]; rfl, hB⟩
        by_cases ht : time < 0
        · have HV := hide (show K = 1 by rw [HK.out, HP.out]; simp [show ¬ 16384 < data.size by omega, hm, hm2, ht])
          clear HK HP
          go_wp2_with fail
          exact bodyPost_ret (results_tmp rfl _ _ _) rfl ⟨by rw [HV.out]; rfl, hB⟩
        by_cases ht2 : 1099511627776 < time
        · have HV := hide (show K = 1 by rw [HK.out, HP.out]; simp [show ¬ 16384 < data.size by omega, hm, hm2, ht, ht2])
          clear HK HP
          go_wp2_with fail
          exact bodyPost_ret (results_tmp rfl _ _ _) rfl ⟨by rw [HV.out]; rfl, hB⟩
        have HV := hide (show K = 0 by rw [HK.out, HP.out]; simp [show ¬ 16384 < data.size by omega, hm, hm2, ht, ht2])
        clear HK HP
        go_wp2_with fail
        exact bodyPost_ret (results_tmp rfl _ _ _) rfl ⟨by rw [HV.out]; rfl, hB⟩
      by_cases k3 : kind = 3
      · subst k3
        by_cases hsz : (64 : Int) < data.size
        · have hsn : 64 < data.size := by omega
          have HV := hide (show K = 5 by rw [HK.out, HP.out]; simp [hsn])
          clear HK HP
          go_wp2_with fail
          exact bodyPost_ret (results_tmp rfl _ _ _) rfl ⟨by rw [HV.out]; rfl, hB⟩
        by_cases hm : mode < 0
        · have HV := hide (show K = 1 by rw [HK.out, HP.out]; simp [show ¬ 64 < data.size by omega, hm])
          clear HK HP
          go_wp2_with fail
          exact bodyPost_ret (results_tmp rfl _ _ _) rfl ⟨by rw [HV.out]; rfl, hB⟩
        by_cases hm2 : 4095 < mode
        · have HV := hide (show K = 1 by rw [HK.out, HP.out]; simp [show ¬ 64 < data.size by omega, hm, hm2])
          clear HK HP
          go_wp2_with fail
          exact bodyPost_ret (results_tmp rfl _ _ _) rfl ⟨by rw [HV.out]; rfl, hB⟩
        by_cases ht : time < 0
        · have HV := hide (show K = 1 by rw [HK.out, HP.out]; simp [show ¬ 64 < data.size by omega, hm, hm2, ht])
          clear HK HP
          go_wp2_with fail
          exact bodyPost_ret (results_tmp rfl _ _ _) rfl ⟨by rw [HV.out]; rfl, hB⟩
        by_cases ht2 : 1099511627776 < time
        · have HV := hide (show K = 1 by rw [HK.out, HP.out]; simp [show ¬ 64 < data.size by omega, hm, hm2, ht, ht2])
          clear HK HP
          go_wp2_with fail
          exact bodyPost_ret (results_tmp rfl _ _ _) rfl ⟨by rw [HV.out]; rfl, hB⟩
        by_cases hm0 : mode = 0
        · subst hm0
          by_cases hz : data.size = 0
          · have hzi : ((data.size : Int) == 0) = true := by rw [hz]; rfl
            have HV := hide (show K = 1 by rw [HK.out, HP.out]; simp [hz, ht, ht2])
            clear HK HP
            go_wp2_with fail
            exact bodyPost_ret (results_tmp rfl _ _ _) rfl ⟨by rw [HV.out]; rfl, hB⟩
          have hzi : ((data.size : Int) == 0) = false := beq_eq_false_iff_ne.2 (by omega)
          have HV := hide (show K = if textBad ((toL data).drop 0) = true then 1 else 0 by rw [HK.out, HP.out, List.drop_zero]; simp [show ¬ 64 < data.size by omega, hz, ht, ht2])
          clear HK HP
          go_wp2_with fail
          go_loopg [3] data.size (fun gk iv wr => ∃ i : Nat, iv = .int .i64 i ∧ i + gk = data.size ∧ Hid (K = if textBad ((toL data).drop i) = true then 1 else 0) ∧ wr = w2)
          case atStart => exact ⟨0, rfl, by omega, HV, rfl⟩
          case round =>
            obtain ⟨i, rfl, hig, HW, rfl⟩ := hrel
            cases gk with
            | zero =>
              obtain rfl : i = data.size := by omega
              have HE := hide (show K = 0 by rw [HW.out, List.drop_of_length_le (by simp [toL])]; rfl)
              clear HW HV
              go_wp2_with fail
              exact bodyPost_ret (results_tmp rfl _ _ _) rfl ⟨by rw [HE.out]; rfl, hB⟩
            | succ g0 =>
              have his : i < data.size := by omega
              have hii : (i : Int) < data.size := by omega
              obtain ⟨y, hy⟩ : ∃ y, data[i]'his = y := ⟨_, rfl⟩
              have hd := HW.out
              rw [bad_at data i his, hy] at hd
              clear HW HV
              by_cases y1 : (y.toNat : Int) < 33
              · have HE := hide (show K = 1 by rw [hd]; simp [show y.toNat < 33 by omega])
                clear hd
                go_wp2_with fail
                exact bodyPost_ret (results_tmp rfl _ _ _) rfl ⟨by rw [HE.out]; rfl, hB⟩
              by_cases y2 : (126 : Int) < y.toNat
              · have HE := hide (show K = 1 by rw [hd]; simp [show 126 < y.toNat by omega])
                clear hd
                go_wp2_with fail
                exact bodyPost_ret (results_tmp rfl _ _ _) rfl ⟨by rw [HE.out]; rfl, hB⟩
              have HE := hide (show K = if textBad ((toL data).drop (i + 1)) = true then 1 else 0 by rw [hd]; simp [show ¬ y.toNat < 33 by omega, show ¬ 126 < y.toNat by omega])
              have hiw : IntKind.i64.wrap ((i : Int) + 1) = ((i + 1 : Nat) : Int) := by rw [IntWalk.i64_in _ (by omega)]; rfl
              clear hd
              go_wp2_with fail
              go_roundg g0
              case rel => exact ⟨i + 1, rfl, by omega, HE, rfl⟩
              case measure => omega
        · have hmb : (mode == 0) = false := beq_eq_false_iff_ne.2 hm0
          have HV := hide (show K = 1 by rw [HK.out, HP.out]; simp [show ¬ 64 < data.size by omega, hm, hm2, ht, ht2, hm0])
          clear HK HP
          go_wp2_with fail
          exact bodyPost_ret (results_tmp rfl _ _ _) rfl ⟨by rw [HV.out]; rfl, hB⟩
      have kb1 : (kind == 1) = false := beq_eq_false_iff_ne.2 k1
      have kb2 : (kind == 2) = false := beq_eq_false_iff_ne.2 k2
      have kb3 : (kind == 3) = false := beq_eq_false_iff_ne.2 k3
      have kn1 : (kind != 1) = true := by rw [bne, kb1]; rfl
      have kn2 : (kind != 2) = true := by rw [bne, kb2]; rfl
      have kn3 : (kind != 3) = true := by rw [bne, kb3]; rfl
      have HV := hide (show K = 8 by rw [HK.out, HP.out]; simp [k1, k2, k3])
      clear HK HP
      go_wp2_with fail
      exact bodyPost_ret (results_tmp rfl _ _ _) rfl ⟨by rw [HV.out]; rfl, hB⟩
end Go.Proofs.YtbklgijndjpgoaaDoor
/-
  The reference's Of: the well-formed tree that can be taken of any list (10.1).
-/
namespace Go.Proofs.YtbklgijndjpgoaaDoor
open Go.RowKit
set_option maxRecDepth 100000

/-- The right nodes of a list, of several with one path the first one, in order. -/
def sortFrom (s : List Nd) : List Nd → List Nd
  | [] => s
  | n :: t => sortFrom (if checkN n = 0 ∧ atL n.path s < 0 then insL s n else s) t
/-- Those whose parent is the root, or a directory that was taken. -/
def takeFrom (o : List Nd) : List Nd → List Nd
  | [] => o
  | n :: t => takeFrom (if dadL o n.path = 0 ∧ o.length < 512 then o ++ [n] else o) t
def treeL (l : List Nd) : List Nd := takeFrom [] (sortFrom [] l)
theorem sort_drop (s l : List Nd) (i : Nat) (n : Nd) (h : l[i]? = some n) : sortFrom s (l.drop i) = sortFrom (if checkN n = 0 ∧ atL n.path s < 0 then insL s n else s) (l.drop (i + 1)) := by
  obtain ⟨hlt, e⟩ := List.getElem?_eq_some_iff.1 h
  rw [List.drop_eq_getElem_cons hlt, e]; rfl
theorem take_drop (s l : List Nd) (i : Nat) (n : Nd) (h : l[i]? = some n) : takeFrom s (l.drop i) = takeFrom (if dadL s n.path = 0 ∧ s.length < 512 then s ++ [n] else s) (l.drop (i + 1)) := by
  obtain ⟨hlt, e⟩ := List.getElem?_eq_some_iff.1 h
  rw [List.drop_eq_getElem_cons hlt, e]; rfl
theorem gt_le (p : ByteArray) : ∀ (l : List Nd) (i : Nat), gtFrom p i l ≤ i + l.length
  | [], i => by simp [gtFrom]
  | n :: t, i => by
    unfold gtFrom
    split
    · have := gt_le p t (i + 1); simp; omega
    · simp
theorem ins_len (l : List Nd) (n : Nd) : (insL l n).length = l.length + 1 := by
  have := gt_le n.path l 0
  simp [insL]
  omega
theorem FewN.ins {l : List Nd} {n : Nd} (h : FewN l) (hn : (n.path.size : Int) ≤ 1000000 ∧ (n.data.size : Int) ≤ 1000000) : FewN (insL l n) := fun k m hm => by
  have := List.mem_of_getElem? hm
  unfold insL at this
  simp only [List.mem_append, List.mem_singleton] at this
  rcases this with (h1 | h1) | h1
  · obtain ⟨j, hj⟩ := List.getElem?_of_mem (List.mem_of_mem_take h1)
    exact h j m hj
  · rw [h1]; exact hn
  · obtain ⟨j, hj⟩ := List.getElem?_of_mem (List.mem_of_mem_drop h1)
    exact h j m hj
theorem FewN.snoc {l : List Nd} {n : Nd} (h : FewN l) (hn : (n.path.size : Int) ≤ 1000000 ∧ (n.data.size : Int) ≤ 1000000) : FewN (l ++ [n]) := fun k m hm => by
  have := List.mem_of_getElem? hm
  simp only [List.mem_append, List.mem_singleton] at this
  rcases this with h1 | h1
  · obtain ⟨j, hj⟩ := List.getElem?_of_mem h1
    exact h j m hj
  · rw [h1]; exact hn
theorem FewN.nil : FewN [] := fun k m hm => by simp at hm

/-- What has been put together. -/
structure NI (w : World) (v : Value) (s : List Nd) (W : World) : Prop where
  below : Below w.heap.size w W
  own : W.ownsRow w.heap.size 34 5 v s.length (cellsN s)
theorem NI.step {w W W2 : World} {v : Value} {s : List Nd} (h : NI w v s W) (hb : Below W.heap.size W W2) : NI w v s W2 := ⟨h.below.trans (hb.mono h.below.size), own_below h.own hb⟩

set_option maxHeartbeats 16000000 in
theorem refOfTree_any (A : Option Addr) (l : List Nd) (c : Nat) (w : World) (hA : RdN w w.heap.size A l) (hf : FewN l) (hl : (l.length : Int) ≤ 100000) :
    Calls Tryd.prog 8 #[.slice A l.length c] w fun e w' => ∃ v, e = .returned v ∧ NI w v (treeL l) w' := by
  obtain ⟨i0, hi, hz0, hz1, hz2⟩ := info_parts info_node
  obtain ⟨S, hS⟩ : ∃ S, S = sortFrom [] l := ⟨_, rfl⟩
  have HS := hide (show sortFrom [] (l.drop 0) = S by rw [hS]; rfl)
  have HT := hide (show treeL l = takeFrom [] (S.drop 0) by rw [hS]; rfl)
  have HF := hide hf
  have HA := hide hA
  clear hS hf hA
  go_enter Tryd.func8, Tryd.ntmps8
  go_wp2_with fail
  go_loopg [3, 4] l.length (fun gk sv iv wr => ∃ (i : Nat) (B : Option Addr) (d : Nat) (s : List Nd), sv = .slice B s.length d ∧ iv = .int .i64 i ∧ i + gk = l.length ∧ s.length ≤ i ∧ NI w (.slice B s.length d) s wr ∧ Hid (sortFrom s (l.drop i) = S) ∧ Hid (FewN s))
  case atStart => exact ⟨0, none, 0, [], rfl, rfl, by omega, by simp, ⟨Below.refl _ _, World.ownsRow_nil _ _ _ _⟩, HS, hide FewN.nil⟩
  case round =>
    obtain ⟨i, B, d, s, rfl, rfl, hig, hsi, hI, HQ, HFs⟩ := hrel
    clear HS
    cases gk with
    | zero =>
      obtain rfl : i = l.length := by omega
      have hE : s = S := by rw [← HQ.out, List.drop_of_length_le (Nat.le_refl _)]; rfl
      have HB0 := hide hI.below
      have HR0 := hide (fun W (hb : Below wr.heap.size wr W) => RdN.own (own_below hI.own hb))
      have HFs2 := hide HFs.out
      have hsl : (s.length : Int) ≤ 100000 := by omega
      subst hE
      clear HQ hI HFs hig hsi
      go_wp2_with fail
      obtain ⟨W0, rfl⟩ : ∃ W0, W0 = wr := ⟨_, rfl⟩
      go_loopg [5, 6] s.length (fun gk ov iv wx => ∃ (j : Nat) (E : Option Addr) (f : Nat) (o : List Nd), ov = .slice E o.length f ∧ iv = .int .i64 j ∧ j + gk = s.length ∧ o.length ≤ j ∧ Hid (NI W0 (.slice E o.length f) o wx) ∧ Hid (takeFrom o (s.drop j) = treeL l) ∧ Hid (FewN o))
      case atStart => exact ⟨0, none, 0, [], rfl, rfl, by omega, by simp, hide ⟨Below.refl _ _, World.ownsRow_nil _ _ _ _⟩, hide HT.out.symm, hide FewN.nil⟩
      case round =>
        obtain ⟨j, E, f, o, rfl, rfl, hjg, hoj, HO, HQ, HFo⟩ := hrel
        cases gk with
        | zero =>
          have hE : treeL l = o := by rw [← HQ.out, List.drop_of_length_le (by omega)]; rfl
          have hfin : NI w (.slice E o.length f) (treeL l) wr := by
            rw [hE]
            exact ⟨HB0.out.trans (HO.out.below.mono HB0.out.size), ownsRow_lowerN HO.out.own HB0.out.size⟩
          have HFin := hide hfin
          obtain rfl : j = s.length := by omega
          clear hE hfin HQ
          go_wp2_with fail
          exact bodyPost_ret (results_tmp rfl _ _ _) rfl ⟨.slice E o.length f, rfl, HFin.out⟩
        | succ g1 =>
          have hji : (j : Int) < s.length := by omega
          obtain ⟨n, hn⟩ : ∃ n, s[j]? = some n := ⟨_, List.getElem?_eq_getElem (by omega)⟩
          have HRx := hide (HR0.out wr HO.out.below)
          obtain ⟨ad, rfl, hlt, hnd⟩ := HRx.out j n hn
          have hfew := HFs2.out j n hn
          have HFw := hide hfew
          have hltx : ad.block < wr.heap.size := hlt
          have HND := hide (fun W (hb : Below wr.heap.size wr W) => hnd.below hb (by rw [add_block]; exact hltx))
          have HDad := hide (fun W (h : RdN W W.heap.size E o) => refDad_any E o f n.path W h (by omega) hfew.1)
          have hd := HQ.out
          rw [take_drop o s j n hn] at hd
          have hjw : IntKind.i64.wrap ((j : Int) + 1) = ((j + 1 : Nat) : Int) := by rw [IntWalk.i64_in _ (by omega)]; rfl
          obtain ⟨c0, c1, c2, c3, c4⟩ := hnd
          clear HQ hn hfew HRx
          by_cases hk : dadL o n.path = 0
          · by_cases h5 : o.length < 512
            · rw [if_pos ⟨hk, h5⟩] at hd
              have HD := hide hd
              rw [hk] at HDad
              have h5i : (o.length : Int) < 512 := by omega
              clear hd hk
              go_upto_if 53 with (go_at_call 21; refine (HDad.out wr (RdN.own HO.out.own)).mono ?_; rintro e w3 ⟨rfl, hb3⟩; obtain ⟨k0, k1, k2, k3, k4⟩ := HND.out w3 hb3)
              have hO3 := (HO.out.step hb3).own
              have hB3 := (HO.out.step hb3).below
              have hO4 := hO3.alloc (.cells n.cells 34)
              have hRn := RdN.one w3 n 34
              have hB4 := hB3.alloc hB3.size (.cells n.cells 34)
              have HB3 := hide hB3
              clear hb3 hO3 hB3 c0 c1 c2 c3 c4
              obtain ⟨path, kind, mode, time, data⟩ := n
              have hsz := hB4.size
              go_wp2_with (at_builtin; go_loud (refine wpList_append_nodes rfl _ _ 22 rfl W0.heap.size 34 i0 Tryd.underlying22 hi hz0 hz1 hz2 _ _ _ rfl hO4 (some ⟨w3.heap.size, 0, none⟩) _ 1 _ [⟨path, kind, mode, time, data⟩] rfl rfl hRn (by unfold maxLen; omega) (by omega) hsz ?_))
              intro v5 w5 hO5 hg5
              have hB5 := hB4.grown hg5 hB4.size (fun r e => (hO4.lt r e).1)
              obtain ⟨D, g, rfl⟩ := ownsRow_slice hO5
              have HO6 := hide (show NI W0 (.slice D (o ++ [(⟨path, kind, mode, time, data⟩ : Nd)]).length g) (o ++ [⟨path, kind, mode, time, data⟩]) w5 from ⟨hB5, by rw [cellsN_app, List.length_append]; exact hO5⟩)
              have HF6 := hide (HFo.out.snoc (n := ⟨path, kind, mode, time, data⟩) HFw.out)
              have hl6 : (o ++ [(⟨path, kind, mode, time, data⟩ : Nd)]).length ≤ j + 1 := by simp; omega
              have hlen6 : (o ++ [(⟨path, kind, mode, time, data⟩ : Nd)]).length = o.length + 1 := by simp
              rw [hlen6] at HO6
              clear hO4 hRn hB4 hO5 hg5 hB5 hsz k0 k1 k2 k3 k4
              go_wp2_with fail
              go_roundg g1
              case rel => exact ⟨j + 1, D, g, o ++ [⟨path, kind, mode, time, data⟩], by rw [hlen6], rfl, by omega, hl6, by rw [hlen6]; exact HO6, HD, HF6⟩
              case measure => omega
            · rw [if_neg (fun h => h5 h.2)] at hd
              have HD := hide hd
              rw [hk] at HDad
              have h5i : ¬ (o.length : Int) < 512 := by omega
              clear hd hk
              go_wp2_with (go_at_call 21; refine (HDad.out wr (RdN.own HO.out.own)).mono ?_; rintro e w3 ⟨rfl, hb3⟩; obtain ⟨k0, k1, k2, k3, k4⟩ := HND.out w3 hb3)
              have HO3 := hide (HO.out.step hb3)
              have ho3 : o.length ≤ j + 1 := by omega
              go_roundg g1
              case rel => exact ⟨j + 1, E, f, o, rfl, rfl, by omega, ho3, HO3, HD, HFo⟩
              case measure => omega
          · rw [if_neg (fun h => hk h.1)] at hd
            have HD := hide hd
            have hkb : ((dadL o n.path : Int) == 0) = false := beq_eq_false_iff_ne.2 (by omega)
            clear hd hk
            generalize dadL o n.path = z at HDad hkb
            go_wp2_with (go_at_call 21; refine (HDad.out wr (RdN.own HO.out.own)).mono ?_; rintro e w3 ⟨rfl, hb3⟩; obtain ⟨k0, k1, k2, k3, k4⟩ := HND.out w3 hb3)
            have HO3 := hide (HO.out.step hb3)
            have ho3 : o.length ≤ j + 1 := by omega
            go_roundg g1
            case rel => exact ⟨j + 1, E, f, o, rfl, rfl, by omega, ho3, HO3, HD, HFo⟩
            case measure => omega
    | succ g0 =>
      have hii : (i : Int) < l.length := by omega
      obtain ⟨n, hn⟩ : ∃ n, l[i]? = some n := ⟨_, List.getElem?_eq_getElem (by omega)⟩
      obtain ⟨ad, rfl, hlt, hnd⟩ := (HA.out.below hI.below (Nat.le_refl _)) i n hn
      have hd := HQ.out
      rw [sort_drop s l i n hn] at hd
      have hfew := HF.out i n hn
      have HFw := hide hfew
      have hiw : IntKind.i64.wrap ((i : Int) + 1) = ((i + 1 : Nat) : Int) := by rw [IntWalk.i64_in _ (by omega)]; rfl
      have HCk := hide (fun W => refNode_any n W hfew.1 hfew.2)
      have HAt := hide (fun W (h : RdN W W.heap.size B s) => refAt_any B s d n.path W h (by omega))
      have HIn := hide (fun W (h : RdN W W.heap.size B s) (hc : s.length ≤ d) => refInsert_any B s d n W h HFs.out (by omega) hc hfew.1)
      have hcap := ownsRow_cap hI.own
      have hltr : ad.block < wr.heap.size := Nat.lt_of_lt_of_le hlt hI.below.size
      have HND := hide (fun W (hb : Below wr.heap.size wr W) => hnd.below hb (by rw [add_block]; exact hltr))
      have HI := hide (fun W (hb : Below wr.heap.size wr W) => hI.step hb)
      have hz := hI.below.size
      obtain ⟨c0, c1, c2, c3, c4⟩ := hnd
      clear HQ hn hfew hI
      by_cases hk : checkN n = 0
      · by_cases ha : atL n.path s < 0
        · rw [if_pos ⟨hk, ha⟩] at hd
          have HD := hide hd
          rw [hk] at HCk
          clear hd hk
          generalize atL n.path s = z at HAt ha
          go_wp2_with (first
            | (go_at_call 19; refine (HCk.out _).mono ?_; rintro e w3 ⟨rfl, hb3⟩; obtain ⟨k0, k1, k2, k3, k4⟩ := HND.out w3 hb3)
            | (go_at_call 16; refine (HAt.out w3 (RdN.own (HI.out w3 hb3).own)).mono ?_; rintro e w4 ⟨rfl, hb4⟩; have hb34 := hb3.trans (hb4.mono hb3.size); obtain ⟨m0, m1, m2, m3, m4⟩ := HND.out w4 hb34)
            | (go_at_call 20; refine (HIn.out w4 (RdN.own (HI.out w4 hb34).own) hcap).mono ?_; rintro e w5 ⟨⟨v5, rfl, hO5⟩, hb5⟩))
          have hb35 := hb34.trans (hb5.mono hb34.size)
          have hB5 := (HI.out w5 hb35).below
          have h5 := ownsRow_lowerN hO5 (Nat.le_trans hz hb34.size)
          obtain ⟨D, f, rfl⟩ := ownsRow_slice h5
          have HI5 := hide (show NI w (.slice D (insL s n).length f) (insL s n) w5 from ⟨hB5, h5⟩)
          have HF5 := hide (HFs.out.ins HFw.out)
          have hl5 : (insL s n).length ≤ i + 1 := by rw [ins_len]; omega
          go_roundg g0
          case rel => exact ⟨i + 1, D, f, insL s n, rfl, rfl, by omega, hl5, HI5.out, HD, HF5⟩
          case measure => omega
        · rw [if_neg (fun h => ha h.2)] at hd
          have HD := hide hd
          rw [hk] at HCk
          clear hd hk
          generalize atL n.path s = z at HAt ha
          go_wp2_with (first
            | (go_at_call 19; refine (HCk.out _).mono ?_; rintro e w3 ⟨rfl, hb3⟩; obtain ⟨k0, k1, k2, k3, k4⟩ := HND.out w3 hb3)
            | (go_at_call 16; refine (HAt.out w3 (RdN.own (HI.out w3 hb3).own)).mono ?_; rintro e w4 ⟨rfl, hb4⟩; have hb34 := hb3.trans (hb4.mono hb3.size); obtain ⟨m0, m1, m2, m3, m4⟩ := HND.out w4 hb34))
          have HI5 := hide (HI.out w4 hb34)
          have hl5 : s.length ≤ i + 1 := by omega
          go_roundg g0
          case rel => exact ⟨i + 1, B, d, s, rfl, rfl, by omega, hl5, HI5.out, HD, HFs⟩
          case measure => omega
      · rw [if_neg (fun h => hk h.1)] at hd
        have HD := hide hd
        have hkb : ((checkN n : Int) == 0) = false := beq_eq_false_iff_ne.2 (by omega)
        clear hd hk
        generalize checkN n = z at HCk hkb
        go_wp2_with (go_at_call 19; refine (HCk.out _).mono ?_; rintro e w3 ⟨rfl, hb3⟩; obtain ⟨k0, k1, k2, k3, k4⟩ := HND.out w3 hb3)
        have HI5 := hide (HI.out w3 hb3)
        have hl5 : s.length ≤ i + 1 := by omega
        go_roundg g0
        case rel => exact ⟨i + 1, B, d, s, rfl, rfl, by omega, hl5, HI5.out, HD, HFs⟩
        case measure => omega
end Go.Proofs.YtbklgijndjpgoaaDoor
/-
  The reference's Kids: the nodes whose parent is at a path (10.2).
-/
namespace Go.Proofs.YtbklgijndjpgoaaDoor
open Go.RowKit
set_option maxRecDepth 100000

/-- Is this the path of a node's parent? -/
def kidOf (p : ByteArray) (n : Nd) : Bool := !(namesL (toL n.path)).isEmpty && (upG n.path).toList == p.toList
def kidsL (p : ByteArray) (l : List Nd) : List Nd := l.filter (kidOf p)
theorem kids_drop (p : ByteArray) (l : List Nd) (i : Nat) (n : Nd) (h : l[i]? = some n) : kidsL p (l.drop i) = (if kidOf p n = true then [n] else []) ++ kidsL p (l.drop (i + 1)) := by
  obtain ⟨hlt, e⟩ := List.getElem?_eq_some_iff.1 h
  rw [List.drop_eq_getElem_cons hlt, e]
  unfold kidsL
  rw [List.filter_cons]
  cases kidOf p n <;> simp

set_option maxHeartbeats 16000000 in
theorem refKids_any (A : Option Addr) (l : List Nd) (c : Nat) (p : ByteArray) (w : World) (hA : RdN w w.heap.size A l) (hf : FewN l) (hl : (l.length : Int) ≤ 100000) :
    Calls Tryd.prog 43 #[.slice A l.length c, .string p] w fun e w' => ∃ v, e = .returned v ∧ NI w v (kidsL p l) w' := by
  obtain ⟨i0, hi, hz0, hz1, hz2⟩ := info_parts info_node
  have HF := hide hf
  have HA := hide hA
  clear hf hA
  go_enter Tryd.func43, Tryd.ntmps43
  go_wp2_with fail
  go_loopg [5, 6] l.length (fun gk ov iv wx => ∃ (j : Nat) (E : Option Addr) (f : Nat) (o : List Nd), ov = .slice E o.length f ∧ iv = .int .i64 j ∧ j + gk = l.length ∧ o.length ≤ j ∧ Hid (NI w (.slice E o.length f) o wx) ∧ Hid (o ++ kidsL p (l.drop j) = kidsL p l))
  case atStart => exact ⟨0, none, 0, [], rfl, rfl, by omega, by simp, hide ⟨Below.refl _ _, World.ownsRow_nil _ _ _ _⟩, hide rfl⟩
  case round =>
    obtain ⟨j, E, f, o, rfl, rfl, hjg, hoj, HO, HQ⟩ := hrel
    cases gk with
    | zero =>
      have hE : kidsL p l = o := by rw [← HQ.out, List.drop_of_length_le (by omega)]; simp [kidsL]
      have HFin := hide (show NI w (.slice E o.length f) (kidsL p l) wr by rw [hE]; exact HO.out)
      obtain rfl : j = l.length := by omega
      clear hE HQ
      go_wp2_with fail
      exact bodyPost_ret (results_tmp rfl _ _ _) rfl ⟨.slice E o.length f, rfl, HFin.out⟩
    | succ g1 =>
      have hji : (j : Int) < l.length := by omega
      obtain ⟨n, hn⟩ : ∃ n, l[j]? = some n := ⟨_, List.getElem?_eq_getElem (by omega)⟩
      obtain ⟨ad, rfl, hlt, hnd⟩ := (HA.out.below HO.out.below (Nat.le_refl _)) j n hn
      have hfew := HF.out j n hn
      have hltx : ad.block < wr.heap.size := Nat.lt_of_lt_of_le hlt HO.out.below.size
      have HND := hide (fun W (hb : Below wr.heap.size wr W) => hnd.below hb (by rw [add_block]; exact hltx))
      have HPar := hide (fun W => refParent_any n.path W hfew.1)
      have hd := HQ.out
      rw [kids_drop p l j n hn] at hd
      have HUp := hide (show ∀ g : ByteArray, toL g = glueL (namesL (toL n.path)).dropLast → g = upG n.path from fun g hg => toL_inj (by rw [hg]; rfl))
      have HK := hide (show kidOf p n = (!(namesL (toL n.path)).isEmpty && (upG n.path).toList == p.toList) from rfl)
      have hjw : IntKind.i64.wrap ((j : Int) + 1) = ((j + 1 : Nat) : Int) := by rw [IntWalk.i64_in _ (by omega)]; rfl
      obtain ⟨c0, c1, c2, c3, c4⟩ := hnd
      clear HQ hn hfew
      obtain ⟨path, kind, mode, time, data⟩ := n
      simp only at c0 c1 c2 c3 c4 HPar HUp HK
      generalize (!(namesL (toL path)).isEmpty) = ok at HPar HK
      generalize glueL (namesL (toL path)).dropLast = gl at HPar HUp
      generalize upG path = up at HUp HK
      cases hk : kidOf p ⟨path, kind, mode, time, data⟩ with
      | true =>
        rw [hk, if_pos rfl, ← List.append_assoc] at hd
        have hkk := HK.out
        rw [hk] at hkk
        have hk2 := (Bool.and_eq_true _ _).mp hkk.symm
        obtain ⟨rfl, hq⟩ := hk2
        have HD := hide hd
        clear hd hk hkk HK
        go_upto_if 29 with (go_at_call 39; refine (HPar.out _).mono ?_; rintro e w3 ⟨⟨g, rfl, hg⟩, hb3⟩; obtain rfl := HUp.out g hg)
        obtain ⟨k0, k1, k2, k3, k4⟩ := HND.out w3 hb3
        simp only at k0 k1 k2 k3 k4
        have hO3 := (HO.out.step hb3).own
        have hB3 := (HO.out.step hb3).below
        have hO4 := hO3.alloc (.cells (Nd.cells ⟨path, kind, mode, time, data⟩) 34)
        have hRn := RdN.one w3 ⟨path, kind, mode, time, data⟩ 34
        have hB4 := hB3.alloc hB3.size (.cells (Nd.cells ⟨path, kind, mode, time, data⟩) 34)
        have hsz := hB4.size
        clear hb3 hO3 hB3 c0 c1 c2 c3 c4 hg
        go_wp2_with (at_builtin; go_loud (refine wpList_append_nodes rfl _ _ 22 rfl w.heap.size 34 i0 Tryd.underlying22 hi hz0 hz1 hz2 _ _ _ rfl hO4 (some ⟨w3.heap.size, 0, none⟩) _ 1 _ [⟨path, kind, mode, time, data⟩] rfl rfl hRn (by unfold maxLen; omega) (by omega) hsz ?_))
        intro v5 w5 hO5 hg5
        have hB5 := hB4.grown hg5 hB4.size (fun r e => (hO4.lt r e).1)
        obtain ⟨D, g, rfl⟩ := ownsRow_slice hO5
        have hlen6 : (o ++ [(⟨path, kind, mode, time, data⟩ : Nd)]).length = o.length + 1 := by simp
        have HO6 := hide (show NI w (.slice D (o.length + 1) g) (o ++ [⟨path, kind, mode, time, data⟩]) w5 from ⟨hB5, by rw [cellsN_app, hlen6]; exact hO5⟩)
        clear hO4 hRn hB4 hO5 hg5 hB5 hsz k0 k1 k2 k3 k4
        go_wp2_with fail
        go_roundg g1
        case rel => exact ⟨j + 1, D, g, o ++ [⟨path, kind, mode, time, data⟩], by rw [hlen6], rfl, by omega, by rw [hlen6]; omega, by rw [hlen6]; exact HO6, HD⟩
        case measure => omega
      | false =>
        rw [hk, if_neg (by decide), List.nil_append] at hd
        have hkk := HK.out
        rw [hk] at hkk
        have HD := hide hd
        have hl6 : o.length ≤ j + 1 := by omega
        clear hd hk HK
        cases ok with
        | true =>
          have hq : (up.toList == p.toList) = false := by simpa using hkk.symm
          clear hkk
          go_wp2_with (go_at_call 39; refine (HPar.out _).mono ?_; rintro e w3 ⟨⟨g, rfl, hg⟩, hb3⟩; obtain rfl := HUp.out g hg)
          have HO3 := hide (HO.out.step hb3)
          go_roundg g1
          case rel => exact ⟨j + 1, E, f, o, rfl, rfl, by omega, hl6, HO3, HD⟩
          case measure => omega
        | false =>
          clear hkk
          go_wp2_with (go_at_call 39; refine (HPar.out _).mono ?_; rintro e w3 ⟨⟨g, rfl, hg⟩, hb3⟩; obtain rfl := HUp.out g hg)
          have HO3 := hide (HO.out.step hb3)
          go_roundg g1
          case rel => exact ⟨j + 1, E, f, o, rfl, rfl, by omega, hl6, HO3, HD⟩
          case measure => omega
end Go.Proofs.YtbklgijndjpgoaaDoor
