/-
  MerkleMoves, walked.
-/
import Derived.Test.YtbklgijndjpgoaaDoorMkModes
import Derived.Test.YtbklgijndjpgoaaDoorMkAwake
import Derived.Test.YtbklgijndjpgoaaDoorMkSmall
namespace Go.Proofs.YtbklgijndjpgoaaDoor
open Go.RowKit
set_option maxRecDepth 100000

theorem set_same {l : List Nd} {j : Nat} {n : Nd} (h : l[j]? = some n) : l.set j n = l := by
  obtain ⟨h1, rfl⟩ := List.getElem?_eq_some_iff.1 h
  exact List.set_getElem_self h1

set_option maxHeartbeats 64000000 in
theorem moves_law (A : Option Addr) (l : List Nd) (c : Nat) (p q : ByteArray) (mt : Int) (w : World) (hA : RdN w w.heap.size A l) :
    Calls Tryd.prog 5 #[.slice A l.length c, .agg #[.string p, .string q], .int .i64 mt] w fun e w' => e = .returned (.bool true) ∧ Below w.heap.size w w' := by
  obtain ⟨W0, hW0⟩ : ∃ W0, W0 = w.alloc (.cells #[.string p, .string q] 38) := ⟨_, rfl⟩
  have hb0 : Below w.heap.size w W0 := by rw [hW0]; exact (Below.refl _ w).alloc (Nat.le_refl _) _
  have r0 : W0.heap[w.heap.size]? = some (.cells #[.string p, .string q] 38 (0, 0)) := by rw [hW0]; exact World.alloc_heap_new w _
  have hAB := (Array.getElem?_eq_some_iff.1 r0).1
  have HPQ := hide (fun (W : World) (hb : Below W0.heap.size W0 W) => (⟨cell_of_row _ _ _ _ _ _ ((hb.block w.heap.size hAB).trans r0), cell_of_row _ _ _ _ _ _ ((hb.block w.heap.size hAB).trans r0)⟩ : W.cell? ⟨w.heap.size, 0, none⟩ = some (.string p) ∧ W.cell? ⟨w.heap.size, 1, none⟩ = some (.string q)))
  obtain ⟨p0, q0⟩ := HPQ.out W0 (Below.refl _ _)
  have HS1 := hide (small_any A l c W0 (hA.step hb0))
  have HAw := hide (awake_any W0)
  cases hs1 : smallL l with
  | false =>
    rw [hs1] at HS1
    clear hA r0 hAB HPQ
    go_enter Tryd.func5, Tryd.ntmps5
    go_wp2_with fail
    rw [← hW0]
    clear hW0
    refine HS1.out.mono ?_
    rintro e _ ⟨rfl, rfl⟩
    go_wp2_with fail
    refine HAw.out.mono ?_
    rintro e w9 ⟨rfl, hb9⟩
    go_wp2_with fail
    exact bodyPost_ret (results_tmp rfl _ _ _) rfl ⟨rfl, hb0.trans (hb9.mono hb0.size)⟩
  | true =>
  rw [hs1] at HS1
  by_cases hp : (200 : Int) < p.size
  · clear hA r0 hAB HPQ
    go_enter Tryd.func5, Tryd.ntmps5
    go_wp2_with fail
    rw [← hW0]
    clear hW0
    refine HS1.out.mono ?_
    rintro e _ ⟨rfl, rfl⟩
    go_wp2_with fail
    refine HAw.out.mono ?_
    rintro e w9 ⟨rfl, hb9⟩
    go_wp2_with fail
    exact bodyPost_ret (results_tmp rfl _ _ _) rfl ⟨rfl, hb0.trans (hb9.mono hb0.size)⟩
  by_cases hq : (200 : Int) < q.size
  · clear hA r0 hAB HPQ
    go_enter Tryd.func5, Tryd.ntmps5
    go_wp2_with fail
    rw [← hW0]
    clear hW0
    refine HS1.out.mono ?_
    rintro e _ ⟨rfl, rfl⟩
    go_wp2_with fail
    refine HAw.out.mono ?_
    rintro e w9 ⟨rfl, hb9⟩
    go_wp2_with fail
    exact bodyPost_ret (results_tmp rfl _ _ _) rfl ⟨rfl, hb0.trans (hb9.mono hb0.size)⟩
  have ht := WF.tree hs1
  have h24 : l.length ≤ 24 := by
    unfold smallL at hs1
    rw [Bool.and_eq_true] at hs1
    exact of_decide_eq_true hs1.1
  have hf : FewN l := fun k n hn => by have := small_mem hs1 (List.mem_of_getElem? hn); omega
  have hts : ∀ n ∈ treeL l, n.path.size ≤ 200 := fun n hn => (small_mem hs1 (tree_in hn).1).1
  have HTree1 := hide (refOfTree_any A l c W0 (hA.step hb0) hf (by omega))
  generalize treeL l = t at ht HTree1 hts
  have hlt := ht.mt.len
  have HT := hide ht
  have HTs := hide hts
  have HB0 := hide hb0
  clear hs1 hA r0 ht hts hf hb0 HAw
  go_enter Tryd.func5, Tryd.ntmps5
  go_wp2_with fail
  rw [← hW0]
  clear hW0
  refine HS1.out.mono ?_
  rintro e _ ⟨rfl, rfl⟩
  clear HS1
  rename World => W0
  go_wp2_with fail
  refine HTree1.out.mono ?_
  rintro e w1 ⟨v, rfl, hN1⟩
  obtain ⟨E, f, rfl⟩ := ownsRow_slice hN1.own
  have hRt := RdN.own hN1.own
  have hb1 := hN1.below
  have HRt := hide hRt
  have HMv := hide (refMove_any E t f p q w1 hRt HT.out.mt.few (fun n hn => Nat.le_trans (HTs.out n hn) (by decide)) (by omega) (by omega) (by omega))
  have HPW := hide (fun (W : World) (h : Below w1.heap.size w1 W) => HPQ.out W (hb1.trans (h.mono hb1.size)))
  have HBW := hide (fun (W : World) (h : Below w1.heap.size w1 W) => (HB0.out.trans ((hb1.trans (h.mono hb1.size)).mono HB0.out.size) : Below w.heap.size w W))
  obtain ⟨p2, q2⟩ := HPW.out w1 (Below.refl _ _)
  clear HTree1 hN1 p0 q0 hRt hb1 HPQ HB0 hAB
  go_wp2_with fail
  refine HMv.out.mono ?_
  rintro e w2 ⟨v, code, rfl, hb2, hmv⟩
  clear HMv p2 q2
  by_cases hc : code = 0
  case neg =>
    clear hmv HT HTs HRt
    have HAw := hide (awake_any w2)
    go_wp2_with fail
    refine HAw.out.mono ?_
    rintro e w9 ⟨rfl, hb9⟩
    have HF := hide (HBW.out w9 (hb2.trans (hb9.mono hb2.size)))
    clear HAw hb9
    go_wp2_with fail
    exact bodyPost_ret (results_tmp rfl _ _ _) rfl ⟨rfl, HF.out⟩
  subst hc
  obtain ⟨o, hmo, hN2⟩ := hmv rfl
  obtain ⟨G, g, rfl⟩ := ownsRow_slice hN2.own
  have HM := hide hmo
  have hlo : o.length ≤ 600 := by have := (MvR.of HT.out hmo.all).len; omega
  have HN2 := hide (show NI w1 (.slice G o.length g) (modes (bits BinOp.and IntKind.i64 mt 4095) 0 o) w2 by rw [modes_zero]; exact hN2)
  clear hmv hmo hN2 hb2
  go_wp2_with fail
  go_loopg [10] o.length (fun gk iv wr => ∃ (j : Nat), iv = .int .i64 j ∧ j + gk = o.length ∧ Hid (NI w1 (.slice G o.length g) (modes (bits BinOp.and IntKind.i64 mt 4095) j o) wr))
  case atStart => exact ⟨0, rfl, by omega, HN2⟩
  case round =>
    obtain ⟨j, rfl, hjg, HO⟩ := hrel
    clear HN2
    cases gk with
    | zero =>
      obtain rfl : j = o.length := by omega
      have hN := HO.out
      rw [modes_all] at hN
      have HAll := moves_like (bits BinOp.and IntKind.i64 mt 4095) HT.out HTs.out (by omega) HM.out
      obtain ⟨hM, hlk, hok, hpr⟩ := HAll
      have hul : (o.map (setM (bits BinOp.and IntKind.i64 mt 4095))).length = o.length := List.length_map _
      generalize o.map (setM (bits BinOp.and IntKind.i64 mt 4095)) = u at hN hM hlk hpr hul
      have hbr := hN.below
      have hou := hN.own
      have hRu : RdN wr wr.heap.size G u := RdN.own (n := u.length) (by rw [hul]; rw [hul] at hou; exact hou)
      have hlu := hM.len
      have hRt := HRt.out.step hbr
      have HO1 := hide (mkOf_any E t f p wr hRt HT.out.mt)
      have h2 := fun (W : World) (h : Below wr.heap.size wr W) => mkOf_any G u g q W (hRu.step h) hM
      have h3 := fun (W : World) (h : Below wr.heap.size wr W) => like_any E G t u f g p q W (hRt.step h) (hRu.step h) HT.out.mt.few hM.few (by omega) (by omega) (by omega) (by omega)
      rw [hlk] at h3
      rw [← hpr] at h2
      simp only [hul] at h2 h3
      have HO2 := hide h2
      have HLk := hide h3
      have HPR := hide (fun (W : World) (h : Below wr.heap.size wr W) => HPW.out W (hbr.trans (h.mono hbr.size)))
      have HBR := hide (fun (W : World) (h : Below wr.heap.size wr W) => HBW.out W (hbr.trans (h.mono hbr.size)))
      obtain ⟨p2, q2⟩ := HPR.out wr (Below.refl _ _)
      clear hRt hRu h2 h3 hlk hpr hN hM hou hbr HO HM HRt HPW HBW HT HTs
      generalize prtL p t = V at HO1 HO2 hok
      obtain ⟨⟨x1, x2⟩, ok⟩ := V
      simp only at HO1 HO2 hok
      subst hok
      obtain ⟨W5, rfl⟩ : ∃ W5, W5 = wr := ⟨_, rfl⟩
      go_wp2_with fail
      refine HO1.out.mono ?_
      rintro e w5 ⟨rfl, hb5⟩
      have r5 := World.alloc_heap_new w5 (Obj.cells #[.int .u64 (x1 : Nat), .int .u64 (x2 : Nat)] 28)
      have hc6 := hb5.alloc hb5.size (.cells #[.int .u64 (x1 : Nat), .int .u64 (x2 : Nat)] 28)
      obtain ⟨p6, q6⟩ := HPR.out _ hc6
      have HO6 := hide (HO2.out _ hc6)
      clear HO1 HO2 p2 q2
      go_wp2_with fail
      refine HO6.out.mono ?_
      rintro e w7 ⟨rfl, hb7⟩
      have hc7 := hc6.trans (hb7.mono hc6.size)
      have r7 := (hb7.block w5.heap.size (by simp)).trans r5
      have r8 := (Below.heap_alloc w7 (.cells #[.int .u64 (x1 : Nat), .int .u64 (x2 : Nat)] 28) _ (Array.getElem?_eq_some_iff.1 r7).1).trans r7
      have s8 := World.alloc_heap_new w7 (Obj.cells #[.int .u64 (x1 : Nat), .int .u64 (x2 : Nat)] 28)
      have hc8 := hc7.alloc hc7.size (.cells #[.int .u64 (x1 : Nat), .int .u64 (x2 : Nat)] 28)
      obtain ⟨W8, hW8⟩ : ∃ W8, W8 = w7.alloc (.cells #[.int .u64 (x1 : Nat), .int .u64 (x2 : Nat)] 28) := ⟨_, rfl⟩
      rw [← hW8] at r8 s8 hc8
      have HAw := hide (awake_any W8)
      clear HO6 hb7 hc6 hc7 p6 q6 r5 r7 hb5
      go_wp2_with fail
      rw [← hW8]
      refine HAw.out.mono ?_
      rintro e w9 ⟨rfl, hb9⟩
      have r9 := (hb9.block w5.heap.size (Array.getElem?_eq_some_iff.1 r8).1).trans r8
      have s9 := (hb9.block w7.heap.size (Array.getElem?_eq_some_iff.1 s8).1).trans s8
      have a0 : w9.cell? ⟨w5.heap.size, 0, none⟩ = some (.int .u64 (x1 : Nat)) := cell_of_row _ _ _ _ _ _ r9
      have a1 : w9.cell? ⟨w5.heap.size, 1, none⟩ = some (.int .u64 (x2 : Nat)) := cell_of_row _ _ _ _ _ _ r9
      have b0 : w9.cell? ⟨w7.heap.size, 0, none⟩ = some (.int .u64 (x1 : Nat)) := cell_of_row _ _ _ _ _ _ s9
      have b1 : w9.cell? ⟨w7.heap.size, 1, none⟩ = some (.int .u64 (x2 : Nat)) := cell_of_row _ _ _ _ _ _ s9
      have hc9 := hc8.trans (hb9.mono hc8.size)
      obtain ⟨p9, q9⟩ := HPR.out _ hc9
      have HL9 := hide (HLk.out _ hc9)
      have HB9 := hide (HBR.out _ hc9)
      clear HAw hb9 r8 s8 hc8 r9 s9 hc9 HPR HBR HLk hW8
      go_wp2_with fail
      refine HL9.out.mono ?_
      rintro e w10 ⟨rfl, hb10⟩
      have HF := hide (HB9.out.trans (hb10.mono HB9.out.size))
      clear HL9 HB9 hb10
      go_wp2_with fail
      exact bodyPost_ret (results_tmp rfl _ _ _) rfl ⟨rfl, HF.out⟩
    | succ g1 =>
      have hji : (j : Int) < o.length := by omega
      have hj0 : (0 : Int) ≤ (j : Int) := by omega
      obtain ⟨n, hn⟩ : ∃ n, o[j]? = some n := ⟨_, List.getElem?_eq_getElem (by omega)⟩
      have hown := HO.out.own
      rw [modes_len] at hown
      obtain ⟨ad, rfl, hlt1, hnd⟩ := (RdN.own hown) j n (modes_get hn)
      have hst := HO.out.mode rfl (modes_len _ _ _) (modes_get hn) (bits BinOp.and IntKind.i64 mt 4095)
      have hstep := modes_step (k := bits BinOp.and IntKind.i64 mt 4095) hn
      have hjw : IntKind.i64.wrap ((j : Int) + 1) = ((j + 1 : Nat) : Int) := by rw [IntWalk.i64_in _ (by omega)]; rfl
      obtain ⟨hst1, hst2⟩ := hst
      have c1 := hnd.kind
      have c2 := hnd.mode
      by_cases h3 : n.kind = 3
      · have hs : setM (bits BinOp.and IntKind.i64 mt 4095) n = n := by unfold setM; rw [if_pos h3]
        have HO5 := hide (show NI w1 (.slice (some ad) o.length g) (modes (bits BinOp.and IntKind.i64 mt 4095) (j + 1) o) wr by
          rw [hstep, hs, set_same (modes_get hn)]; exact HO.out)
        rw [h3] at c1
        clear hst1 hst2 hstep hown hnd HO c2
        go_wp2_with fail
        go_roundg g1
        case rel => exact ⟨j + 1, rfl, by omega, HO5⟩
        case measure => omega
      · have hs : setM (bits BinOp.and IntKind.i64 mt 4095) n = ⟨n.path, n.kind, bits BinOp.and IntKind.i64 mt 4095, n.time, n.data⟩ := by unfold setM; rw [if_neg h3]
        rw [hs] at hstep
        rw [← hstep] at hst1
        have HO5 := hide hst1
        have h3b : (n.kind == 3) = false := by simpa using h3
        generalize n.kind = kn at c1 h3 h3b
        generalize n.mode = mn at c2
        clear hst1 hstep hown hnd HO hs hn
        go_wp2_with fail
        go_roundg g1
        case rel => exact ⟨j + 1, rfl, by omega, HO5⟩
        case measure => omega
end Go.Proofs.YtbklgijndjpgoaaDoor
