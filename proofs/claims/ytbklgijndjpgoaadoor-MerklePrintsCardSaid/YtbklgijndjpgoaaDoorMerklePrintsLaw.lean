/-
  MerklePrints, walked.
-/
import Derived.Test.YtbklgijndjpgoaaDoorMkRefOf
import Derived.Test.YtbklgijndjpgoaaDoorMkAwake
import Derived.Test.YtbklgijndjpgoaaDoorMkSmall
namespace Go.Proofs.YtbklgijndjpgoaaDoor
open Go.RowKit
set_option maxRecDepth 100000

theorem RdS.own {w : World} {B n c : Nat} {A : Option Addr} {l : List (Nat × Nat)} (h : w.ownsRow B 28 2 (.slice A n c) n (cellsS l)) (k : Nat) (q : Nat × Nat) (hk : l[k]? = some q) :
    ∃ ad : Addr, A = some ad ∧ ad.block < w.heap.size ∧ w.cell? (ad.add (k * 2)) = some (.int .u64 (q.1 : Nat)) ∧ w.cell? ⟨(ad.add (k * 2)).block, (ad.add (k * 2)).off + 1, none⟩ = some (.int .u64 (q.2 : Nat)) := by
  obtain ⟨q1, q2⟩ := cellsS_get l k q hk
  rcases h.2 with ⟨hv, h0⟩ | ⟨g, cap, cur, hv, _, hg, _⟩
  · have h1 := h.1
    rw [h0] at h1
    have : cellsS l = [] := List.length_eq_zero_iff.1 (by omega)
    rw [this] at q1; simp at q1
  · injection hv with hA
    subst hA
    have h1 := h.cells (g := g) rfl _ _ q1
    have h2 := h.cells (g := g) rfl _ _ q2
    refine ⟨_, rfl, (Array.getElem?_eq_some_iff.1 hg).1, ?_⟩
    rw [addN_off] at h1 h2 ⊢
    exact ⟨h1, h2⟩

set_option maxHeartbeats 32000000 in
theorem prints_law (A : Option Addr) (l : List Nd) (c : Nat) (p : ByteArray) (w : World) (hA : RdN w w.heap.size A l) :
    Calls Tryd.prog 3 #[.slice A l.length c, .string p] w fun e w' => e = .returned (.bool true) ∧ Below w.heap.size w w' := by
  have HS := hide (small_any A l c w hA)
  cases hs : smallL l with
  | false =>
    rw [hs] at HS
    have HAw := hide (awake_any w)
    clear hA
    go_enter Tryd.func3, Tryd.ntmps3
    go_wp2_with fail
    refine HS.out.mono ?_
    rintro e _ ⟨rfl, rfl⟩
    go_wp2_with fail
    refine HAw.out.mono ?_
    rintro e w1 ⟨rfl, hb1⟩
    go_wp2_with fail
    exact bodyPost_ret (results_tmp rfl _ _ _) rfl ⟨rfl, hb1⟩
  | true =>
    rw [hs] at HS
    by_cases hp : (200 : Int) < p.size
    · have HAw := hide (awake_any w)
      clear hA
      go_enter Tryd.func3, Tryd.ntmps3
      go_wp2_with fail
      refine HS.out.mono ?_
      rintro e _ ⟨rfl, rfl⟩
      go_wp2_with fail
      refine HAw.out.mono ?_
      rintro e w1 ⟨rfl, hb1⟩
      go_wp2_with fail
      exact bodyPost_ret (results_tmp rfl _ _ _) rfl ⟨rfl, hb1⟩
    · have hT := MT.tree hs
      have h24 : l.length ≤ 24 := by
        unfold smallL at hs
        rw [Bool.and_eq_true] at hs
        exact of_decide_eq_true hs.1
      have hf : FewN l := fun k m hm => by have := small_mem hs (List.mem_of_getElem? hm); omega
      have HTree := hide (refOfTree_any A l c w hA hf (by omega))
      have hlt := hT.len
      generalize treeL l = t at hT HTree hlt
      have HT := hide hT
      clear hs hT hA hf
      go_enter Tryd.func3, Tryd.ntmps3
      go_wp2_with fail
      refine HS.out.mono ?_
      rintro e _ ⟨rfl, rfl⟩
      clear HS
      go_wp2_with fail
      refine HTree.out.mono ?_
      rintro e w1 ⟨v, rfl, hNI⟩
      obtain ⟨E, f, rfl⟩ := ownsRow_slice hNI.own
      have hR1 := RdN.own hNI.own
      have hb1 := hNI.below
      have HOf := hide (mkOf_any E t f p w1 hR1 HT.out)
      have HRef := hide (fun (q : ByteArray) (W : World) (h : Below w1.heap.size w1 W) => refPrt_any E t f q W (hR1.step h) HT.out)
      have HAll := hide (fun (W : World) (h : Below w1.heap.size w1 W) => all_any E t f W (hR1.step h) HT.out)
      have HR1 := hide hR1
      have HB1 := hide hb1
      clear HTree hNI hR1 hb1
      have HRp := hide (HRef.out p)
      generalize prtL p t = V at HOf HRp
      obtain ⟨⟨x1, x2⟩, ok⟩ := V
      simp only at HOf HRp
      go_wp2_with fail
      refine HOf.out.mono ?_
      rintro e w3 ⟨rfl, hb3⟩
      have r3 := World.alloc_heap_new w3 (Obj.cells #[.int .u64 (x1 : Nat), .int .u64 (x2 : Nat)] 28)
      have hc3 := hb3.alloc hb3.size (.cells #[.int .u64 (x1 : Nat), .int .u64 (x2 : Nat)] 28)
      have HR3 := hide (HRp.out _ hc3)
      clear HOf HRp hb3
      go_wp2_with fail
      refine HR3.out.mono ?_
      rintro e w4 ⟨rfl, hb4⟩
      have r4 := (hb4.block w3.heap.size (by simp)).trans r3
      have s4 := (Below.heap_alloc w4 (.cells #[.int .u64 (x1 : Nat), .int .u64 (x2 : Nat)] 28) _ (Array.getElem?_eq_some_iff.1 r4).1).trans r4
      have t4 := World.alloc_heap_new w4 (Obj.cells #[.int .u64 (x1 : Nat), .int .u64 (x2 : Nat)] 28)
      have hc4 := (hc3.trans (hb4.mono hc3.size)).alloc (hc3.trans (hb4.mono hc3.size)).size (.cells #[.int .u64 (x1 : Nat), .int .u64 (x2 : Nat)] 28)
      have a0 : (w4.alloc (.cells #[.int .u64 (x1 : Nat), .int .u64 (x2 : Nat)] 28)).cell? ⟨w3.heap.size, 0, none⟩ = some (.int .u64 (x1 : Nat)) := cell_of_row _ _ _ _ _ _ s4
      have a1 : (w4.alloc (.cells #[.int .u64 (x1 : Nat), .int .u64 (x2 : Nat)] 28)).cell? ⟨w3.heap.size, 1, none⟩ = some (.int .u64 (x2 : Nat)) := cell_of_row _ _ _ _ _ _ s4
      have b0 : (w4.alloc (.cells #[.int .u64 (x1 : Nat), .int .u64 (x2 : Nat)] 28)).cell? ⟨w4.heap.size, 0, none⟩ = some (.int .u64 (x1 : Nat)) := cell_of_row _ _ _ _ _ _ t4
      have b1 : (w4.alloc (.cells #[.int .u64 (x1 : Nat), .int .u64 (x2 : Nat)] 28)).cell? ⟨w4.heap.size, 1, none⟩ = some (.int .u64 (x2 : Nat)) := cell_of_row _ _ _ _ _ _ t4
      have HA4 := hide (HAll.out _ hc4)
      have HC4 := hide hc4
      clear HAll HR3 r3 hc3 hb4 r4 s4 t4 hc4
      go_wp2_with fail
      refine HA4.out.mono ?_
      rintro e w5 ⟨v, rfl, hO5, hb5⟩
      obtain ⟨G, g, rfl⟩ := ownsRow_slice hO5
      have hc5 := HC4.out.trans (hb5.mono HC4.out.size)
      have HC5 := hide hc5
      have HO5 := hide hO5
      clear HA4 HC4 hO5 hb5 hc5 a0 a1 b0 b1
      go_wp2_with fail
      go_loopg [11] t.length (fun gk iv wr => ∃ j : Nat, iv = .int .i64 j ∧ j + gk = t.length ∧ Hid (Below w5.heap.size w5 wr))
      case atStart => exact ⟨0, rfl, by omega, hide (Below.refl _ _)⟩
      case round =>
        obtain ⟨j, rfl, hjg, HB⟩ := hrel
        cases gk with
        | zero =>
          obtain rfl : j = t.length := by omega
          have HFin := hide (HB1.out.trans ((HC5.out.trans (HB.out.mono HC5.out.size)).mono HB1.out.size))
          have HAw := hide (awake_any wr)
          clear HRef HR1 HT HO5 HB HC5
          go_wp2_with fail
          refine HAw.out.mono ?_
          rintro e w6 ⟨rfl, hb6⟩
          have HF6 := hide (HFin.out.trans (hb6.mono HFin.out.size))
          clear HAw hb6
          go_wp2_with fail
          exact bodyPost_ret (results_tmp rfl _ _ _) rfl ⟨rfl, HF6.out⟩
        | succ g1 =>
          have hji : (j : Int) < t.length := by omega
          have hj0 : (0 : Int) ≤ (j : Int) := by omega
          have hd1 : decide ((t.length : Int) ≤ (j : Int)) = false := by rw [decide_eq_false_iff_not]; omega
          have hd2 : decide (t.length ≤ j) = false := by rw [decide_eq_false_iff_not]; omega
          have hjw : IntKind.i64.wrap ((j : Int) + 1) = ((j + 1 : Nat) : Int) := by rw [IntWalk.i64_in _ (by omega)]; rfl
          obtain ⟨n, hn⟩ : ∃ n, t[j]? = some n := ⟨_, List.getElem?_eq_getElem (by omega)⟩
          have hm := List.mem_of_getElem? hn
          have hB := HC5.out.trans (HB.out.mono HC5.out.size)
          obtain ⟨ad, rfl, hlt1, hnd⟩ := (HR1.out.below HC5.out (Nat.le_refl _)) j n hn
          have hlt5 : ad.block < w5.heap.size := Nat.lt_of_lt_of_le hlt1 HC5.out.size
          have hpq := prt_node HT.out hm
          have hdt := HT.out.data n hm
          have hRf := HRef.out n.path wr hB
          rw [hpq] at hRf
          simp only at hRf
          have hq : (allP t)[j]? = some (sumL (ndT t n)) := by unfold allP; rw [List.getElem?_map, hn]; rfl
          obtain ⟨ag, rfl, hltg, g0, g2⟩ := RdS.own HO5.out j _ hq
          generalize sumL (ndT t n) = r at hRf g0 g2
          obtain ⟨r1, r2⟩ := r
          simp only at hRf g0 g2
          have HRf := hide hRf
          have HData := hide (fun W => data_any n W (by omega))
          have HOf6 := hide (fun W => refOf_any (toL n.data) W (by simpa [toL] using hdt))
          rw [ofL_toL, show stV (sumL (toL n.data)) = .agg #[.int .u64 ((sumL (toL n.data)).1 : Nat), .int .u64 ((sumL (toL n.data)).2 : Nat)] from rfl] at HOf6
          rw [show stV (sumL (toL n.data)) = .agg #[.int .u64 ((sumL (toL n.data)).1 : Nat), .int .u64 ((sumL (toL n.data)).2 : Nat)] from rfl] at HData
          generalize sumL (toL n.data) = s at HData HOf6
          obtain ⟨s1, s2⟩ := s
          simp only at HData HOf6
          obtain ⟨c0, c1, c2, c3, c4⟩ := hnd
          obtain ⟨path, kind, mode, time, data⟩ := n
          simp only [Nd.cells] at HData
          simp only at c0 c1 c2 c3 c4 HRf HOf6
          have k0 : wr.cell? (ad.add (j * 5)) = some (.string path) := (HB.out.cell (by rw [add_block]; exact hlt5)).trans c0
          clear hn hm hpq hdt hRf hq hlt1
          go_wp2_with fail
          refine HRf.out.mono ?_
          rintro e w6 ⟨rfl, hb6⟩
          have HK := hide (fun (W : World) (hb : Below w5.heap.size w5 W) (hx : W.heap[w6.heap.size]? = some (.cells #[.int .u64 (r1 : Nat), .int .u64 (r2 : Nat)] 28 (0, 0))) =>
            (⟨(hb.cell (by rw [add_block]; exact hltg)).trans g0, (hb.cell (p := ⟨_, _, none⟩) (by rw [add_block]; exact hltg)).trans g2, cell_of_row _ _ _ _ _ _ hx, cell_of_row _ _ _ _ _ _ hx,
              (hb.cell (by rw [add_block]; exact hlt5)).trans c0, (hb.cell (p := ⟨_, _, none⟩) (by rw [add_block]; exact hlt5)).trans c1, (hb.cell (p := ⟨_, _, none⟩) (by rw [add_block]; exact hlt5)).trans c2, (hb.cell (p := ⟨_, _, none⟩) (by rw [add_block]; exact hlt5)).trans c3, (hb.cell (p := ⟨_, _, none⟩) (by rw [add_block]; exact hlt5)).trans c4⟩ :
            W.cell? (ag.add (j * 2)) = some (.int .u64 (r1 : Nat)) ∧ W.cell? ⟨(ag.add (j * 2)).block, (ag.add (j * 2)).off + 1, none⟩ = some (.int .u64 (r2 : Nat)) ∧ W.cell? ⟨w6.heap.size, 0, none⟩ = some (.int .u64 (r1 : Nat)) ∧ W.cell? ⟨w6.heap.size, 1, none⟩ = some (.int .u64 (r2 : Nat)) ∧ W.cell? (ad.add (j * 5)) = some (.string path) ∧ W.cell? ⟨(ad.add (j * 5)).block, (ad.add (j * 5)).off + 1, none⟩ = some (.int .i64 kind) ∧ W.cell? ⟨(ad.add (j * 5)).block, (ad.add (j * 5)).off + 2, none⟩ = some (.int .i64 mode) ∧ W.cell? ⟨(ad.add (j * 5)).block, (ad.add (j * 5)).off + 3, none⟩ = some (.int .i64 time) ∧ W.cell? ⟨(ad.add (j * 5)).block, (ad.add (j * 5)).off + 4, none⟩ = some (.string data)))
          have hx7 := World.alloc_heap_new w6 (Obj.cells #[.int .u64 (r1 : Nat), .int .u64 (r2 : Nat)] 28)
          have hc6 := HB.out.trans (hb6.mono HB.out.size)
          have hc7 := (hc6.alloc hc6.size (.cells #[.int .u64 (r1 : Nat), .int .u64 (r2 : Nat)] 28)).drew
          have K7 := hide (HK.out _ hc7 hx7)
          have HX7 := hide hx7
          have HC7 := hide hc7
          clear HRf c0 c1 c2 c3 c4 k0 g0 g2 hb6 hc6 hx7 hc7
          go_wp2_with fail
          go_region_held3 (fun w' => w'.cell? (ag.add (j * 2)) = some (.int .u64 (r1 : Nat)) ∧ w'.cell? ⟨(ag.add (j * 2)).block, (ag.add (j * 2)).off + 1, none⟩ = some (.int .u64 (r2 : Nat)) ∧ w'.cell? ⟨w6.heap.size, 0, none⟩ = some (.int .u64 (r1 : Nat)) ∧ w'.cell? ⟨w6.heap.size, 1, none⟩ = some (.int .u64 (r2 : Nat)) ∧ w'.cell? (ad.add (j * 5)) = some (.string path) ∧ w'.cell? ⟨(ad.add (j * 5)).block, (ad.add (j * 5)).off + 1, none⟩ = some (.int .i64 kind) ∧ w'.cell? ⟨(ad.add (j * 5)).block, (ad.add (j * 5)).off + 2, none⟩ = some (.int .i64 mode) ∧ w'.cell? ⟨(ad.add (j * 5)).block, (ad.add (j * 5)).off + 3, none⟩ = some (.int .i64 time) ∧ w'.cell? ⟨(ad.add (j * 5)).block, (ad.add (j * 5)).off + 4, none⟩ = some (.string data))
            (first | exact K7.out | exact Ka.out | exact Kb.out)
            (first
              | (go_at_call 12
                 refine (HData.out _).mono ?_
                 rintro e wa ⟨rfl, hba⟩
                 have Ca := HC7.out.trans (hba.mono HC7.out.size)
                 have Xa := (hba.block w6.heap.size (Array.getElem?_eq_some_iff.1 HX7.out).1).trans HX7.out
                 have Ka := hide (HK.out wa Ca Xa))
              | (go_at_call 13
                 refine (HOf6.out _).mono ?_
                 rintro e wb ⟨rfl, hbb⟩
                 have Cb := Ca.trans (hbb.mono Ca.size)
                 have Xb := (hbb.block w6.heap.size (Array.getElem?_eq_some_iff.1 Xa).1).trans Xa
                 have Kb := hide (HK.out wb Cb Xb)))
          have HJ := hide Cb
          clear K7 Ka Kb HX7 HC7 HK HData HOf6
          go_wp2_with fail
          go_roundg g1
          case rel => exact ⟨j + 1, rfl, by omega, HJ⟩
          case measure => omega
end Go.Proofs.YtbklgijndjpgoaaDoor
