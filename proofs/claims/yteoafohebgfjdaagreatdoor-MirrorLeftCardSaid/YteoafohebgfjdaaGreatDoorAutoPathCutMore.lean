/-
  Texts that belong together: TreeInsert, PathUpsL, PathLastL, PathMovedL, PathCutMore.
-/
import Derived.Test.YteoafohebgfjdaaGreatDoorAutoNodesOwn
import Derived.Test.YteoafohebgfjdaaGreatDoorAutoRefCmp
import Derived.StillTailTactics
import Derived.Test.YteoafohebgfjdaaGreatDoorAutoRoundRegion
import Derived.Test.YteoafohebgfjdaaGreatDoorPathRight
import Derived.Test.YteoafohebgfjdaaGreatDoorAutoPathMoves
/-
  The reference's Insert: a list with a node ahead of the first one that is behind it.
-/
namespace Go.Proofs.YteoafohebgfjdaaGreatDoor
open Go.RowKit
set_option maxRecDepth 100000

/-- Where the first node behind a path is. -/
def gtFrom (p : ByteArray) : Nat → List Nd → Nat
  | i, [] => i
  | i, n :: t => if cmpL (toL n.path) (toL p) ≤ 0 then gtFrom p (i + 1) t else i
theorem gt_drop (p : ByteArray) (l : List Nd) (i : Nat) (n : Nd) (h : l[i]? = some n) : gtFrom p i (l.drop i) = if cmpL (toL n.path) (toL p) ≤ 0 then gtFrom p (i + 1) (l.drop (i + 1)) else i := by
  obtain ⟨hlt, e⟩ := List.getElem?_eq_some_iff.1 h
  rw [List.drop_eq_getElem_cons hlt, e]; rfl
/-- A list with one more node. -/
def insL (l : List Nd) (n : Nd) : List Nd := l.take (gtFrom n.path 0 l) ++ [n] ++ l.drop (gtFrom n.path 0 l)
/-- Paths of few bytes. -/
def FewN (l : List Nd) : Prop := ∀ (k : Nat) (n : Nd), l[k]? = some n → (n.path.size : Int) ≤ 1000000 ∧ (n.data.size : Int) ≤ 1000000

set_option maxHeartbeats 16000000 in
theorem refInsert_any (A : Option Addr) (l : List Nd) (c : Nat) (n : Nd) (w : World) (hA : RdN w w.heap.size A l) (hf : FewN l) (hl : (l.length : Int) ≤ 1000000) (hc : l.length ≤ c) (hn : (n.path.size : Int) ≤ 1000000) :
    Calls Tryz.prog 22 #[.slice A l.length c, .agg n.cells] w fun e w' => (∃ v, e = .returned v ∧ w'.ownsRow w.heap.size 36 5 v (insL l n).length (cellsN (insL l n))) ∧ Below w.heap.size w w' := by
  obtain ⟨i0, hi, hz0, hz1, hz2⟩ := info_parts info_node
  obtain ⟨path, kind, mode, time, data⟩ := n
  simp only at hn
  show Calls _ _ #[_, .agg #[.string path, .int .i64 kind, .int .i64 mode, .int .i64 time, .string data]] _ _
  obtain ⟨V, hV⟩ : ∃ V, V = gtFrom path 0 l := ⟨_, rfl⟩
  have HV := hide (show gtFrom path 0 (l.drop 0) = V by rw [hV]; rfl)
  have HIns := hide (show insL l ⟨path, kind, mode, time, data⟩ = l.take V ++ [⟨path, kind, mode, time, data⟩] ++ l.drop V by rw [hV]; rfl)
  have hB0 : Below w.heap.size w (w.alloc (.cells #[.string path, .int .i64 kind, .int .i64 mode, .int .i64 time, .string data] 36)) := (Below.refl _ w).alloc (Nat.le_refl _) _
  have r0 := World.alloc_heap_new w (Obj.cells #[.string path, .int .i64 kind, .int .i64 mode, .int .i64 time, .string data] 36)
  have hA0 := hA.step hB0
  have HF := hide hf
  have HA := hide hA
  clear hV hf hA
  go_enter Tryz.func22, Tryz.ntmps22
  go_wp2_with fail
  go_loopg [5] l.length (fun gk iv wr => ∃ i : Nat, iv = .int .i64 i ∧ i + gk = l.length ∧ Hid (gtFrom path i (l.drop i) = V) ∧ Below w.heap.size w wr ∧ RdN wr wr.heap.size A l ∧ w.heap.size < wr.heap.size ∧ wr.heap[w.heap.size]? = some (.cells #[.string path, .int .i64 kind, .int .i64 mode, .int .i64 time, .string data] 36 (0, 0)))
  case atStart => exact ⟨0, rfl, by omega, HV, hB0, hA0, by simp, r0⟩
  case round =>
    obtain ⟨i, rfl, hig, HB, hB, hR, hlt0, s0⟩ := hrel
    have cp : wr.cell? ⟨w.heap.size, 0, none⟩ = some (.string path) := cell_of_row _ _ _ _ _ _ s0
    clear hA0 r0 hB0
    cases gk with
    | zero =>
      have hE : V = i := by
        rw [← HB.out, List.drop_of_length_le (by omega)]; rfl
      have HE := hide hE
      have hd : decide (i < l.length) = false := by rw [decide_eq_false_iff_not]; omega
      clear hE
      clear HB HV
      go_wp2_with fail
      go_quiet (fail)
      have hBq : Below w.heap.size w (wr.drewN nq) := below_drewN hB nq
      have s1 : (wr.drewN nq).heap[w.heap.size]? = _ := s0
      have hltq : w.heap.size < (wr.drewN nq).heap.size := hlt0
      have hVl : i ≤ l.length := by omega
      have hic : (i : Int) ≤ c := by omega
      have HVi := HE
      clear hB hR s0 hlt0 cp hig hd HE
      generalize wr.drewN nq = wq at hBq s1 hltq ⊢
      have g0 : (0 : Int) ≤ i := by omega
      have hO0 := World.ownsRow_lit (base := w.heap.size + 1) (e := 36) (size := 5) wq #[] 0 hltq (by decide) rfl
      have hB1 := hBq.alloc hBq.size (.cells #[] 36)
      have s2 : (wq.alloc (.cells #[] 36)).heap[w.heap.size]? = _ := (Below.heap_alloc _ _ _ hltq).trans s1
      have hR1 := (HA.out.below hB1 (Nat.le_refl _)).take i
      have hz : w.heap.size + 1 ≤ (wq.alloc (.cells #[] 36)).heap.size := by simp; omega
      have hOc := hO0
      go_wp2_with (at_builtin; refine wpList_append_nodes rfl _ _ 22 rfl (w.heap.size + 1) 36 i0 Tryz.underlying22 hi hz0 hz1 hz2 _ 0 [] rfl hOc A _ c w.heap.size (l.take i) rfl (by rw [List.length_take]; omega) hR1 (by unfold maxLen; omega) (by omega) hz ?_)
      intro v2 w2 hO2 hg2
      have hB2 := hB1.grown hg2 hB1.size (fun r e => by have := (hOc.lt r e).1; omega)
      have s3 := (hg2.block w.heap.size (by omega) (fun e => by have := (hOc.lt _ e.symm).1; omega)).trans s2
      have hlt2 : w.heap.size < w2.heap.size := Nat.lt_of_lt_of_le hz hg2.size
      have k0 : w2.cell? ⟨w.heap.size, 0, none⟩ = some (.string path) := cell_of_row _ _ _ _ _ _ s3
      have k1 : w2.cell? ⟨w.heap.size, 1, none⟩ = some (.int .i64 kind) := cell_of_row _ _ _ _ _ _ s3
      have k2 : w2.cell? ⟨w.heap.size, 2, none⟩ = some (.int .i64 mode) := cell_of_row _ _ _ _ _ _ s3
      have k3 : w2.cell? ⟨w.heap.size, 3, none⟩ = some (.int .i64 time) := cell_of_row _ _ _ _ _ _ s3
      have k4 : w2.cell? ⟨w.heap.size, 4, none⟩ = some (.string data) := cell_of_row _ _ _ _ _ _ s3
      have hO3 := hO2.alloc (.cells (Nd.cells ⟨path, kind, mode, time, data⟩) 36)
      have hRn := RdN.one w2 ⟨path, kind, mode, time, data⟩ 36
      have hB3 := hB2.alloc hB2.size (.cells (Nd.cells ⟨path, kind, mode, time, data⟩) 36)
      have hz3 : w.heap.size + 1 ≤ (w2.alloc (.cells (Nd.cells ⟨path, kind, mode, time, data⟩) 36)).heap.size := by simp; omega
      clear hO0 hOc hB1 s2 hR1 hz hg2 hB2 s3 hBq s1
      go_wp2_with (at_builtin; go_loud (refine wpList_append_nodes rfl _ _ 22 rfl (w.heap.size + 1) 36 i0 Tryz.underlying22 hi hz0 hz1 hz2 _ _ _ rfl hO3 (some ⟨w2.heap.size, 0, none⟩) _ 1 _ [⟨path, kind, mode, time, data⟩] rfl rfl hRn (by unfold maxLen; omega) (by omega) hz3 ?_))
      intro v4 w4 hO4 hg4
      have hB4 := hB3.grown hg4 hB3.size (fun r e => by have := (hO3.lt r e).1; omega)
      have hR4 : RdN w4 w.heap.size (if c = i then A else A.map (·.add (i * 5))) (l.drop i) := (HA.out.below hB4 (Nat.le_refl _)).drop hc
      have hz4 : w.heap.size + 1 ≤ w4.heap.size := Nat.le_trans hz3 hg4.size
      clear hO3 hRn hB3 hz3 hg4 k0 k1 k2 k3 k4 hO2
      by_cases hci : c = i
      · rw [if_pos hci] at hR4
        have hli : (i : Int) ≤ l.length := by omega
        go_wp2_with (at_builtin; go_loud (refine wpList_append_nodes rfl _ _ 22 rfl (w.heap.size + 1) 36 i0 Tryz.underlying22 hi hz0 hz1 hz2 _ _ _ rfl hO4 _ _ _ w.heap.size (l.drop i) rfl (by simp) hR4 (by unfold maxLen; omega) (by omega) hz4 ?_))
        intro v6 w6 hO6 hg6
        have hB6 := hB4.grown hg6 hB4.size (fun r e => by have := (hO4.lt r e).1; omega)
        have HO := hide (show w6.ownsRow w.heap.size 36 5 v6 (insL l ⟨path, kind, mode, time, data⟩).length (cellsN (insL l ⟨path, kind, mode, time, data⟩)) by
          rw [HIns.out, HVi.out, cellsN_app, cellsN_app, show (l.take i ++ [(⟨path, kind, mode, time, data⟩ : Nd)] ++ l.drop i).length = i + 1 + (l.length - i) by rw [List.length_append, List.length_append, List.length_take, List.length_drop]; simp; omega]
          have h6 := ownsRow_lowerN hO6 (Nat.le_succ _)
          simp only [List.append_assoc] at h6 ⊢
          exact h6)
        clear hO4 hO6 hg6 hR4 hB4
        go_wp2_with fail
        exact bodyPost_ret (results_tmp rfl _ _ _) rfl ⟨⟨v6, rfl, HO.out⟩, hB6⟩
      · rw [if_neg hci] at hR4
        have hli : (i : Int) ≤ l.length := by omega
        go_wp2_with (at_builtin; go_loud (refine wpList_append_nodes rfl _ _ 22 rfl (w.heap.size + 1) 36 i0 Tryz.underlying22 hi hz0 hz1 hz2 _ _ _ rfl hO4 _ _ _ w.heap.size (l.drop i) rfl (by simp) hR4 (by unfold maxLen; omega) (by omega) hz4 ?_))
        intro v6 w6 hO6 hg6
        have hB6 := hB4.grown hg6 hB4.size (fun r e => by have := (hO4.lt r e).1; omega)
        have HO := hide (show w6.ownsRow w.heap.size 36 5 v6 (insL l ⟨path, kind, mode, time, data⟩).length (cellsN (insL l ⟨path, kind, mode, time, data⟩)) by
          rw [HIns.out, HVi.out, cellsN_app, cellsN_app, show (l.take i ++ [(⟨path, kind, mode, time, data⟩ : Nd)] ++ l.drop i).length = i + 1 + (l.length - i) by rw [List.length_append, List.length_append, List.length_take, List.length_drop]; simp; omega]
          have h6 := ownsRow_lowerN hO6 (Nat.le_succ _)
          simp only [List.append_assoc] at h6 ⊢
          exact h6)
        clear hO4 hO6 hg6 hR4 hB4
        go_wp2_with fail
        exact bodyPost_ret (results_tmp rfl _ _ _) rfl ⟨⟨v6, rfl, HO.out⟩, hB6⟩
    | succ g0 =>
      have hii : (i : Int) < l.length := by omega
      obtain ⟨m, hm⟩ : ∃ n, l[i]? = some n := ⟨_, List.getElem?_eq_getElem (by omega)⟩
      obtain ⟨ad, rfl, hlt, hnd⟩ := hR i m hm
      have c0 := hnd.path
      have hd := HB.out
      rw [gt_drop path l i m hm] at hd
      have hmz := (HF.out i m hm).1
      have HC := hide (fun W => refCmp_any m.path path W hmz hn)
      have hdec : decide ((i : Int) < (l.length : Int)) = true := decide_eq_true hii
      clear HB HV hm hnd
      by_cases hle : cmpL (toL m.path) (toL path) ≤ 0
      · rw [if_pos hle] at hd
        have HD := hide hd
        have hiw : IntKind.i64.wrap ((i : Int) + 1) = ((i + 1 : Nat) : Int) := by rw [IntWalk.i64_in _ (by omega)]; rfl
        generalize cmpL (toL m.path) (toL path) = z at HC hle
        clear hd
        go_wp2_with fail
        go_still_tail 12, (by kernel_rfl)
        change wpList _ _ _ _ _ wr.drew
        have HB2 : Below w.heap.size w wr.drew := ⟨hB.os, hB.tape, hB.output, hB.size, hB.block⟩
        have hR2 : RdN wr.drew wr.drew.heap.size (some ad) l := hR.drew
        have s1 : wr.drew.heap[w.heap.size]? = _ := s0
        have hlt1 : w.heap.size < wr.drew.heap.size := hlt0
        clear hB hR s0 hlt0 cp c0
        generalize wr.drew = wq at HB2 hR2 s1 hlt1
        go_wp2_with (go_at_call 35; (refine (HC.out _).mono ?_; rintro e w3 ⟨rfl, hb3⟩))
        go_roundg g0
        case rel => exact ⟨i + 1, rfl, by omega, HD, HB2.trans (hb3.mono HB2.size), hR2.step hb3, Nat.lt_of_lt_of_le hlt1 hb3.size, (hb3.block _ hlt1).trans s1⟩
        case measure => omega
      · rw [if_neg hle] at hd
        have HVi := hide hd.symm
        generalize cmpL (toL m.path) (toL path) = z at HC hle
        clear hd
        go_wp2_with fail
        go_still_tail 12, (by kernel_rfl)
        change wpList _ _ _ _ _ wr.drew
        have HB2 : Below w.heap.size w wr.drew := ⟨hB.os, hB.tape, hB.output, hB.size, hB.block⟩
        have s1' : wr.drew.heap[w.heap.size]? = _ := s0
        have hlt1 : w.heap.size < wr.drew.heap.size := hlt0
        clear hB hR s0 hlt0 cp c0 hdec
        generalize wr.drew = wp at HB2 s1' hlt1
        have hVl : i ≤ l.length := by omega
        have hic : (i : Int) ≤ c := by omega
        go_upto_if 21 with (go_at_call 35; (refine (HC.out _).mono ?_; rintro e wq ⟨rfl, hb3⟩))
        have hBq : Below w.heap.size w wq := HB2.trans (hb3.mono HB2.size)
        have s1 := (hb3.block _ hlt1).trans s1'
        have hltq : w.heap.size < wq.heap.size := Nat.lt_of_lt_of_le hlt1 hb3.size
        clear HB2 s1' hlt1 hb3 HC hig hii
        have g0 : (0 : Int) ≤ i := by omega
        have hO0 := World.ownsRow_lit (base := w.heap.size + 1) (e := 36) (size := 5) wq #[] 0 hltq (by decide) rfl
        have hB1 := hBq.alloc hBq.size (.cells #[] 36)
        have s2 : (wq.alloc (.cells #[] 36)).heap[w.heap.size]? = _ := (Below.heap_alloc _ _ _ hltq).trans s1
        have hR1 := (HA.out.below hB1 (Nat.le_refl _)).take i
        have hz : w.heap.size + 1 ≤ (wq.alloc (.cells #[] 36)).heap.size := by simp; omega
        have hOc := hO0
        go_wp2_with (at_builtin; refine wpList_append_nodes rfl _ _ 22 rfl (w.heap.size + 1) 36 i0 Tryz.underlying22 hi hz0 hz1 hz2 _ 0 [] rfl hOc (some ad) _ c w.heap.size (l.take i) rfl (by rw [List.length_take]; omega) hR1 (by unfold maxLen; omega) (by omega) hz ?_)
        intro v2 w2 hO2 hg2
        have hB2 := hB1.grown hg2 hB1.size (fun r e => by have := (hOc.lt r e).1; omega)
        have s3 := (hg2.block w.heap.size (by omega) (fun e => by have := (hOc.lt _ e.symm).1; omega)).trans s2
        have hlt2 : w.heap.size < w2.heap.size := Nat.lt_of_lt_of_le hz hg2.size
        have k0 : w2.cell? ⟨w.heap.size, 0, none⟩ = some (.string path) := cell_of_row _ _ _ _ _ _ s3
        have k1 : w2.cell? ⟨w.heap.size, 1, none⟩ = some (.int .i64 kind) := cell_of_row _ _ _ _ _ _ s3
        have k2 : w2.cell? ⟨w.heap.size, 2, none⟩ = some (.int .i64 mode) := cell_of_row _ _ _ _ _ _ s3
        have k3 : w2.cell? ⟨w.heap.size, 3, none⟩ = some (.int .i64 time) := cell_of_row _ _ _ _ _ _ s3
        have k4 : w2.cell? ⟨w.heap.size, 4, none⟩ = some (.string data) := cell_of_row _ _ _ _ _ _ s3
        have hO3 := hO2.alloc (.cells (Nd.cells ⟨path, kind, mode, time, data⟩) 36)
        have hRn := RdN.one w2 ⟨path, kind, mode, time, data⟩ 36
        have hB3 := hB2.alloc hB2.size (.cells (Nd.cells ⟨path, kind, mode, time, data⟩) 36)
        have hz3 : w.heap.size + 1 ≤ (w2.alloc (.cells (Nd.cells ⟨path, kind, mode, time, data⟩) 36)).heap.size := by simp; omega
        clear hO0 hOc hB1 s2 hR1 hz hg2 hB2 s3 hBq s1
        go_wp2_with (at_builtin; go_loud (refine wpList_append_nodes rfl _ _ 22 rfl (w.heap.size + 1) 36 i0 Tryz.underlying22 hi hz0 hz1 hz2 _ _ _ rfl hO3 (some ⟨w2.heap.size, 0, none⟩) _ 1 _ [⟨path, kind, mode, time, data⟩] rfl rfl hRn (by unfold maxLen; omega) (by omega) hz3 ?_))
        intro v4 w4 hO4 hg4
        have hB4 := hB3.grown hg4 hB3.size (fun r e => by have := (hO3.lt r e).1; omega)
        have hR4 : RdN w4 w.heap.size (if c = i then some ad else (some ad).map (·.add (i * 5))) (l.drop i) := (HA.out.below hB4 (Nat.le_refl _)).drop hc
        have hz4 : w.heap.size + 1 ≤ w4.heap.size := Nat.le_trans hz3 hg4.size
        clear hO3 hRn hB3 hz3 hg4 k0 k1 k2 k3 k4 hO2
        by_cases hci : c = i
        · rw [if_pos hci] at hR4
          have hli : (i : Int) ≤ l.length := by omega
          go_wp2_with (at_builtin; go_loud (refine wpList_append_nodes rfl _ _ 22 rfl (w.heap.size + 1) 36 i0 Tryz.underlying22 hi hz0 hz1 hz2 _ _ _ rfl hO4 _ _ _ w.heap.size (l.drop i) rfl (by simp) hR4 (by unfold maxLen; omega) (by omega) hz4 ?_))
          intro v6 w6 hO6 hg6
          have hB6 := hB4.grown hg6 hB4.size (fun r e => by have := (hO4.lt r e).1; omega)
          have HO := hide (show w6.ownsRow w.heap.size 36 5 v6 (insL l ⟨path, kind, mode, time, data⟩).length (cellsN (insL l ⟨path, kind, mode, time, data⟩)) by
            rw [HIns.out, HVi.out, cellsN_app, cellsN_app, show (l.take i ++ [(⟨path, kind, mode, time, data⟩ : Nd)] ++ l.drop i).length = i + 1 + (l.length - i) by rw [List.length_append, List.length_append, List.length_take, List.length_drop]; simp; omega]
            have h6 := ownsRow_lowerN hO6 (Nat.le_succ _)
            simp only [List.append_assoc] at h6 ⊢
            exact h6)
          clear hO4 hO6 hg6 hR4 hB4
          go_wp2_with fail
          exact bodyPost_ret (results_tmp rfl _ _ _) rfl ⟨⟨v6, rfl, HO.out⟩, hB6⟩
        · rw [if_neg hci, Option.map_some] at hR4
          have hli : (i : Int) ≤ l.length := by omega
          go_wp2_with (at_builtin; go_loud (refine wpList_append_nodes rfl _ _ 22 rfl (w.heap.size + 1) 36 i0 Tryz.underlying22 hi hz0 hz1 hz2 _ _ _ rfl hO4 _ _ _ w.heap.size (l.drop i) rfl (by simp) hR4 (by unfold maxLen; omega) (by omega) hz4 ?_))
          intro v6 w6 hO6 hg6
          have hB6 := hB4.grown hg6 hB4.size (fun r e => by have := (hO4.lt r e).1; omega)
          have HO := hide (show w6.ownsRow w.heap.size 36 5 v6 (insL l ⟨path, kind, mode, time, data⟩).length (cellsN (insL l ⟨path, kind, mode, time, data⟩)) by
            rw [HIns.out, HVi.out, cellsN_app, cellsN_app, show (l.take i ++ [(⟨path, kind, mode, time, data⟩ : Nd)] ++ l.drop i).length = i + 1 + (l.length - i) by rw [List.length_append, List.length_append, List.length_take, List.length_drop]; simp; omega]
            have h6 := ownsRow_lowerN hO6 (Nat.le_succ _)
            simp only [List.append_assoc] at h6 ⊢
            exact h6)
          clear hO4 hO6 hg6 hR4 hB4
          go_wp2_with fail
          exact bodyPost_ret (results_tmp rfl _ _ _) rfl ⟨⟨v6, rfl, HO.out⟩, hB6⟩
end Go.Proofs.YteoafohebgfjdaaGreatDoor
/-
  The paths that a path is under: plain.
-/
namespace Go.Proofs.YteoafohebgfjdaaGreatDoor
open Go.RowKit
set_option maxRecDepth 100000

def endL (l : List (List UInt8)) : Nat := (l.map (fun x => x.length + 1)).sum
/-- The paths that a path is under. -/
def upsL (p : List UInt8) : List (List UInt8) := (List.range (namesL p).length).map fun i => p.take (endL ((namesL p).take i) - 1)

theorem upsL_len (p : List UInt8) : (upsL p).length = (namesL p).length := by simp [upsL]

theorem endL_split : ∀ l : List UInt8, endL (splitL l) = l.length + 1
  | [] => rfl
  | c :: r => by
    have ih := endL_split r
    unfold splitL
    split
    · simp [endL] at ih ⊢; omega
    · cases h : splitL r with
      | nil => exact absurd h (splitL_ne r)
      | cons a t =>
        rw [h] at ih
        simp [endL] at ih ⊢; omega

theorem endL_append (a b : List (List UInt8)) : endL (a ++ b) = endL a + endL b := by simp [endL]

theorem names_prefix (p : List UInt8) (a : List (List UInt8)) (x : List UInt8) (h : a ++ [x] <+: namesL p) :
    a.length < (namesL p).length ∧ a = (namesL p).take a.length ∧ endL a + (x.length + 1) ≤ p.length + 1 := by
  obtain ⟨t, ht⟩ := h
  refine ⟨by rw [← ht]; simp, by rw [← ht]; simp, ?_⟩
  have hs : namesL p = splitL p := by
    unfold namesL at ht ⊢
    split
    · rename_i hc; rw [if_pos hc] at ht; simp at ht
    · rfl
  have := endL_split p
  rw [← hs, ← ht, endL_append, endL_append] at this
  have e : endL [x] = x.length + 1 := by simp [endL]
  omega

theorem upsL_take (p : List UInt8) (k : Nat) (h : k < (namesL p).length) : (upsL p).take (k + 1) = (upsL p).take k ++ [p.take (endL ((namesL p).take k) - 1)] := by
  have h' : k < (upsL p).length := by rw [upsL_len]; exact h
  rw [List.take_succ_eq_append_getElem h']
  congr 1
  simp [upsL]

end Go.Proofs.YteoafohebgfjdaaGreatDoor
/-
  A path's last name, and the path without it (plain).
-/
namespace Go.Proofs.YteoafohebgfjdaaGreatDoor
open Go.RowKit
set_option maxRecDepth 100000

/-- How many bytes up to the last slash, that one too. -/
def lastN (l : List UInt8) : Nat := (l.reverse.dropWhile (· != 47)).length
theorem lastN_snoc (l : List UInt8) (c : UInt8) : lastN (l ++ [c]) = if c = 47 then l.length + 1 else lastN l := by
  unfold lastN
  rw [List.reverse_append]
  simp only [List.reverse_cons, List.reverse_nil, List.nil_append, List.cons_append, List.dropWhile_cons]
  by_cases h : c = 47
  · subst h; simp
  · simp [h]
theorem lastN_le (l : List UInt8) : lastN l ≤ l.length := by
  unfold lastN
  have := (List.dropWhile_sublist (l := l.reverse) (fun x => x != 47)).length_le
  simpa using this

/-- A path's last name, and the path without it. -/
def baseB (p : ByteArray) : ByteArray := if rightL (toL p) then p.extract (lastN (toL p)) p.size else ⟨#[]⟩
def parentOk (p : ByteArray) : Bool := !p.toList.isEmpty && rightL (toL p)
def parentB (p : ByteArray) : ByteArray := if parentOk p then p.extract 0 (lastN (toL p) - 1) else ⟨#[]⟩
end Go.Proofs.YteoafohebgfjdaaGreatDoor
/-
  Where a path goes that is moved (plain).
-/
namespace Go.Proofs.YteoafohebgfjdaaGreatDoor
open Go.RowKit
set_option maxRecDepth 100000

/-- Where a path goes. -/
def movedB (p a b : ByteArray) : ByteArray := if b.toList.isEmpty then restP (restB p a) ⟨#[47]⟩ else b ++ restB p a
def moveOk (p a b : ByteArray) : Bool := okB p a && rightL (toL b) && rightL (toL (movedB p a b))

def movedV (p a b : ByteArray) : ByteArray := if moveOk p a b then movedB p a b else ⟨#[]⟩

theorem restP_size (s p : ByteArray) : (restP s p).size ≤ s.size := by
  unfold restP
  split
  · simp [ByteArray.size_extract]
  · exact Nat.le_refl _
theorem restB_size (p q : ByteArray) : (restB p q).size ≤ p.size + 1 := by
  unfold restB
  split
  · exact Nat.zero_le _
  · split
    · rw [ByteArray.size_append]; show 1 + p.size ≤ p.size + 1; omega
    · have := restP_size p q; omega
end Go.Proofs.YteoafohebgfjdaaGreatDoor
/-
  Moves, parents, last names and the paths above, over lists of names.
-/
namespace Go.Proofs.YteoafohebgfjdaaGreatDoor
open Go.RowKit
set_option maxRecDepth 100000

theorem data_ext (s : ByteArray) (i j : Nat) : toL (s.extract i j) = ((toL s).take j).drop i := by unfold toL; rw [Lib.extract_data, List.drop_take]
theorem data_app (s t : ByteArray) : toL (s ++ t) = toL s ++ toL t := by simp [toL]
def movedL (p a b : List UInt8) : List (List UInt8) := cutL b ++ (cutL p).drop (cutL a).length
def withinB (p t : List UInt8) : Bool := rightL p && rightL t && (cutL t).isPrefixOf (cutL p)
theorem withinB_iff (p t : List UInt8) : withinB p t = true ↔ withinL p t := by
  rw [within_cut]; unfold withinB
  rw [Bool.and_eq_true, Bool.and_eq_true, List.isPrefixOf_iff_prefix, and_assoc]
theorem okB_eq (p t : ByteArray) : okB p t = withinB (toL p) (toL t) := by
  rw [Bool.eq_iff_iff, okB_iff, withinB_iff]
theorem restB_cut (p a : ByteArray) (h : okB p a = true) (D : List (List UInt8)) (hD : cutL (toL p) = cutL (toL a) ++ D) : toL (restB p a) = if D = [] then [] else 47 :: glueL D := by
  obtain ⟨h1, h2, h3⟩ := (okB_iff p a).1 h
  unfold restB
  rw [h1, h2]
  simp only [Bool.not_true, Bool.or_self, Bool.false_eq_true, if_false]
  by_cases ha : toL a = []
  · rw [ha, cut_nil, List.nil_append] at hD
    subst hD
    rw [(toL_empty a).2 ha]
    cases hp : p.toList.isEmpty with
    | true =>
      have hp' := (toL_empty p).1 hp
      simp only [Bool.not_true, Bool.and_false, Bool.false_eq_true, if_false]
      obtain ⟨_, b⟩ := restP_data p a [] (by rw [hp', ha]; rfl)
      rw [b, hp', cut_nil, if_pos rfl]
    | false =>
      have hp' : toL p ≠ [] := fun e => by rw [(toL_empty p).2 e] at hp; cases hp
      simp only [Bool.not_false, Bool.and_self, if_true]
      rw [data_app, cut_ne _ hp', if_neg (splitL_ne _), glue_split]; rfl
  · have he : a.toList.isEmpty = false := by
      cases h : a.toList.isEmpty with
      | false => rfl
      | true => exact absurd ((toL_empty a).1 h) ha
    rw [he]
    simp only [Bool.false_and, Bool.false_eq_true, if_false]
    obtain ⟨y, hy, hedge⟩ := h3.resolve_left ha
    obtain ⟨_, b⟩ := restP_data p a y hy
    rw [b]
    have hp' : toL p ≠ [] := by rw [hy]; simp [ha]
    rw [cut_ne _ hp', cut_ne _ ha] at hD
    rcases hedge with rfl | ⟨z, rfl⟩
    · rw [List.append_nil] at hy
      rw [hy] at hD
      have : D = [] := by
        have := congrArg List.length hD
        rw [List.length_append] at this
        exact List.eq_nil_of_length_eq_zero (by omega)
      rw [if_pos this]
    · rw [hy, split_append] at hD
      have hD := List.append_cancel_left hD
      subst hD
      rw [if_neg (splitL_ne _), glue_split]
theorem moved_of (p a b : ByteArray) (D : List (List UInt8)) (hR : toL (restB p a) = if D = [] then [] else 47 :: glueL D) : toL (movedB p a b) = glueL (cutL (toL b) ++ D) := by
  unfold movedB
  by_cases hb : toL b = []
  · rw [(toL_empty b).2 hb, if_pos rfl, hb, cut_nil, List.nil_append]
    by_cases hD : D = []
    · rw [if_pos hD] at hR
      subst hD
      unfold restP preB
      rw [show (restB p a).data.toList = [] from hR]
      rw [if_neg (by decide)]
      exact hR
    · rw [if_neg hD] at hR
      exact (restP_data (restB p a) ⟨#[47]⟩ (glueL D) (by rw [hR]; rfl)).2
  · have he : b.toList.isEmpty = false := by
      cases h : b.toList.isEmpty with
      | false => rfl
      | true => exact absurd ((toL_empty b).1 h) hb
    rw [he]
    simp only [Bool.false_eq_true, if_false]
    rw [data_app, hR, cut_ne _ hb]
    by_cases hD : D = []
    · subst hD; rw [if_pos rfl, List.append_nil, List.append_nil, glue_split]
    · rw [if_neg hD, glue_append _ _ (splitL_ne _) hD, glue_split]
theorem cut_drop {p a : List UInt8} (h : withinL p a) : cutL p = cutL a ++ (cutL p).drop (cutL a).length := by
  obtain ⟨_, _, D, hD⟩ := (within_cut p a).1 h
  rw [← hD]; simp
theorem moved_cut (p a b : ByteArray) (h : okB p a = true) : toL (movedB p a b) = glueL (movedL (toL p) (toL a) (toL b)) :=
  moved_of p a b _ (restB_cut p a h _ (cut_drop ((okB_iff p a).1 h)))
theorem movedL_names {p a b : List UInt8} (hp : rightL p = true) (hb : rightL b = true) : (movedL p a b).all nameL = true := by
  rw [right_cut, Bool.and_eq_true] at hp hb
  unfold movedL
  rw [List.all_append, hb.1, Bool.true_and, List.all_eq_true]
  exact fun x hx => List.all_eq_true.1 hp.1 x (List.mem_of_mem_drop hx)
theorem moveOk_cut (hl : letter 47 = false) (p a b : ByteArray) : moveOk p a b = (withinB (toL p) (toL a) && rightL (toL b) && decide ((movedL (toL p) (toL a) (toL b)).length ≤ 16)) := by
  unfold moveOk
  rw [okB_eq]
  cases hw : withinB (toL p) (toL a) with
  | false => rfl
  | true =>
    cases hb : rightL (toL b) with
    | false => rfl
    | true =>
      have hw' := (withinB_iff _ _).1 hw
      have hn := movedL_names (a := toL a) hw'.1 hb
      rw [moved_cut p a b (by rw [okB_eq, hw]), right_cut, cut_glue hl _ hn, hn]; simp
/-- Moved back it is as it was. -/
theorem moved_back (hl : letter 47 = false) (p a b q : List UInt8) (hw : withinL p a) (hb : rightL b = true) (hlen : (movedL p a b).length ≤ 16) (hq : q = glueL (movedL p a b)) :
    withinB q b = true ∧ rightL a = true ∧ (movedL q b a).length ≤ 16 ∧ glueL (movedL q b a) = p := by
  have hn := movedL_names (a := a) hw.1 hb
  have hc : cutL q = movedL p a b := by rw [hq, cut_glue hl _ hn]
  have hback : movedL q b a = cutL p := by
    show cutL a ++ (cutL q).drop (cutL b).length = cutL p
    rw [hc, cut_drop hw]
    unfold movedL
    rw [List.drop_left]
  refine ⟨?_, hw.2.1, ?_, ?_⟩
  · unfold withinB
    rw [right_cut q, hc, hn, hb, decide_eq_true hlen]
    simp [movedL]
  · have := hw.1
    rw [right_cut, Bool.and_eq_true, decide_eq_true_eq] at this
    rw [hback]; exact this.2
  · rw [hback, glue_cut]

theorem glue_len : ∀ a : List (List UInt8), a ≠ [] → (glueL a).length + 1 = endL a
  | [], h => absurd rfl h
  | [x], _ => by simp [glueL, endL]
  | x :: y :: r, _ => by
    have := glue_len (y :: r) (by simp)
    rw [glue_cons _ _ (by simp)]
    simp [endL] at this ⊢
    omega
theorem take_glue (l : List UInt8) (a r : List (List UInt8)) (h : splitL l = a ++ r) (hr : r ≠ []) : l.take (endL a - 1) = glueL a := by
  by_cases ha : a = []
  · subst ha; rfl
  · have := glue_len a ha
    have e := glue_split l
    rw [h, glue_append _ _ ha hr] at e
    rw [← e, show endL a - 1 = (glueL a).length by omega]
    simp
theorem names_split {p : List UInt8} (h : namesL p ≠ []) : namesL p = splitL p := by
  unfold namesL at h ⊢
  split
  · rename_i hc; rw [if_pos hc] at h; exact absurd rfl h
  · rfl
theorem upsL_glue (p : List UInt8) : upsL p = (List.range (namesL p).length).map fun i => glueL ((namesL p).take i) := by
  unfold upsL
  apply List.map_congr_left
  intro i hi
  rw [List.mem_range] at hi
  have hne : namesL p ≠ [] := fun e => by rw [e] at hi; simp at hi
  refine take_glue p _ ((namesL p).drop i) (by rw [List.take_append_drop, names_split hne]) ?_
  intro e
  have := congrArg List.length e
  rw [List.length_drop] at this
  simp at this
  omega
theorem last_split : ∀ (n : Nat) (l : List UInt8), l.length = n → ∃ a x, splitL l = a ++ [x] ∧ x = l.drop (lastN l) ∧ l.take (lastN l - 1) = glueL a
  | 0, l, h => by
    obtain rfl : l = [] := List.eq_nil_of_length_eq_zero h
    exact ⟨[], [], rfl, rfl, rfl⟩
  | n + 1, l, h => by
    rcases List.eq_nil_or_concat l with rfl | ⟨l', c, rfl⟩
    · simp at h
    · rw [List.concat_eq_append] at h ⊢
      obtain ⟨a, x, h1, h2, h3⟩ := last_split n l' (by simpa using h)
      obtain ⟨a', x', s0, s1, s2⟩ := splitL_snoc l'
      rw [h1] at s0
      obtain ⟨rfl, hx⟩ := List.append_inj' s0 rfl
      injection hx with hx _
      subst hx
      rw [lastN_snoc]
      have hle := lastN_le l'
      by_cases hc : c = 47
      · subst hc
        rw [if_pos rfl]
        refine ⟨a ++ [x], [], s1, by rw [List.drop_of_length_le (by simp)], ?_⟩
        have := glue_split l'
        rw [h1] at this
        rw [this]; simp
      · rw [if_neg hc]
        refine ⟨a, x ++ [c], s2 c (by simpa using hc), ?_, ?_⟩
        · rw [List.drop_append_of_le_length hle, ← h2]
        · rw [List.take_append_of_le_length (by omega), h3]
theorem right_names {p : List UInt8} (hp : rightL p = true) (hne : p ≠ []) : namesL p = splitL p := by
  rw [names_cut, hp, if_pos rfl, cut_ne p hne]
theorem base_names (p : ByteArray) : toL (baseB p) = (namesL (toL p)).getLastD [] := by
  unfold baseB
  cases hr : rightL (toL p) with
  | false => rw [names_cut, hr]; rfl
  | true =>
    simp only [if_true]
    by_cases hne : toL p = []
    · rw [data_ext, hne]; simp [namesL]
    · rw [right_names hr hne]
      obtain ⟨a, x, h1, h2, _⟩ := last_split _ (toL p) rfl
      rw [h1, data_ext, List.getLastD_concat, h2, List.take_of_length_le (by simp [toL])]
theorem parent_names (p : ByteArray) : parentOk p = !(namesL (toL p)).isEmpty ∧ toL (parentB p) = glueL (namesL (toL p)).dropLast := by
  unfold parentB parentOk
  cases hr : rightL (toL p) with
  | false => rw [names_cut, hr]; simp [toL, glueL]
  | true =>
    by_cases hne : toL p = []
    · rw [(toL_empty p).2 hne, hne]; simp [toL, glueL, namesL]
    · have he : p.toList.isEmpty = false := by
        cases h : p.toList.isEmpty with
        | false => rfl
        | true => exact absurd ((toL_empty p).1 h) hne
      rw [he, right_names hr hne]
      obtain ⟨a, x, h1, h2, h3⟩ := last_split _ (toL p) rfl
      refine ⟨by rw [h1]; simp, ?_⟩
      simp only [Bool.not_false, Bool.and_self, if_true]
      rw [h1, data_ext, List.dropLast_concat, ← h3]; simp
end Go.Proofs.YteoafohebgfjdaaGreatDoor
