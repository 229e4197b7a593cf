/-
  search's tokens: what bytes are put together of.
-/
import Derived.Test.YtobgbheodlpclaaSrEnd
import Derived.Test.YtobgbheodlpclaaAutoRollStep
import Derived.WalkMore
namespace Go.Proofs.Ytobgbheodlpclaa
open Go.RowKit
set_option maxRecDepth 100000

theorem progW_succ (bl : List Sg) (n tl : Nat) (ls : Sg) (f : Nat) (b : List UInt8) (nx : Nat) : progW litL bl n tl ls (f + 1) b nx = match scanA bl n (b.length + 1) 0 b nx with
    | some (p, k) => litL (b.take p) ++ (copyT k :: progW litL bl n tl ls f (b.drop (p + n)) (k + 1))
    | none => endW litL bl.length tl ls b := rfl
theorem scanA_succ (bl : List Sg) (n f p : Nat) (r : List UInt8) (nx : Nat) : scanA bl n (f + 1) p r nx = if n ≤ r.length then (match whichL bl (signL (r.take n)) nx with
    | some k => some (p, k)
    | none => scanA bl n f (p + 1) (r.drop 1) 0) else none := rfl
/-- The sum that stands ahead of place p's test. -/
def wsN (r : List UInt8) (n p : Nat) : Nat := if p = 0 then weakN (r.take (min n r.length)) else weakN (winW r n (p - 1))

theorem winW_both (r : List UInt8) (n q p : Nat) (h : 1 ≤ n) (hp : p = q + 1) (hq : p + n ≤ r.length) : ∃ y1 y2 z, r[q]? = some y1 ∧ r[q + n]? = some y2 ∧ winW r n q = y1 :: z ∧ winW r n p = z ++ [y2] ∧ z.length + 1 = n := by
  subst hp
  obtain ⟨z, h1, h2, h3⟩ := winW_step r n q h (by omega)
  exact ⟨_, _, z, List.getElem?_eq_getElem _, List.getElem?_eq_getElem _, h1, h2, h3⟩

theorem index_byte (ad : Addr) (n c i : Nat) (h : i < n) (w : World) : (Instr.indexAt 22 (.slice (some ad) n c) (.int .i64 (i : Nat))).run Try.prog w = .ok (.pointer (some (ad.add i))) w := by
  have h1 : (0 : Int) ≤ i := by omega
  have h2 : (i : Int) < n := by omega
  simp [Instr.indexAt, asIntOf, run_underlying Try.underlying22, Try.sizeOf5, go_sem, h]

set_option maxHeartbeats 32000000 in
theorem tokens_any (n : Nat) (A : Option Addr) (bl : List Sg) (c tl : Nat) (s : Sg) (m1 m2 N : Nat) (C : Option Addr) (b : List UInt8) (k : Nat) (w : World) (hn : 4 ≤ n) (hn2 : n ≤ 64) (hA : RdSg w w.heap.size A bl) (hbl : bl.length ≤ 4096) (htl : tl ≤ 100)
    (h1 : MapG weakK w m1 N (weakF bl)) (h2 : MapG signK w m2 N (leastF bl 0)) (hC : RdB w w.heap.size C b) (hk : Caps C b.length k) (hl : b.length ≤ 16384) :
    Calls Try.prog 97 #[.agg (finC (n : Nat) A bl.length c (tl : Nat) s m1 m2), .slice C b.length k] w fun e w' => ∃ v, e = .returned v ∧ TI w 71 v (progW litL bl n tl s (b.length + 1) b 0) w' := by
  obtain ⟨i0, hi, hz0, hz1, hz2⟩ := info_parts info_tk
  obtain ⟨V, hV⟩ : ∃ V, V = progW litL bl n tl s (b.length + 1) b 0 := ⟨_, rfl⟩
  have HV := hide (show ([] : List Tk) ++ progW litL bl n tl s (b.length + 1) b 0 = V by rw [hV]; rfl)
  rw [← hV]
  obtain ⟨sw, sh, slo⟩ := s
  have hb1 := (Below.refl w.heap.size w).alloc (Nat.le_refl _) (Obj.cells (finC (n : Nat) A bl.length c (tl : Nat) ⟨sw, sh, slo⟩ m1 m2) 144)
  have hr1 := World.alloc_heap_new w (Obj.cells (finC (n : Nat) A bl.length c (tl : Nat) ⟨sw, sh, slo⟩ m1 m2) 144)
  obtain ⟨w0, hw0⟩ : ∃ w0, w0 = w.alloc (Obj.cells (finC (n : Nat) A bl.length c (tl : Nat) ⟨sw, sh, slo⟩ m1 m2) 144) := ⟨_, rfl⟩
  have hW0 := hw0
  rw [← hw0] at hb1 hr1
  have HA := hide (hA.step hb1)
  have H1 := hide (h1.below hb1 h1.lt)
  have H2 := hide (h2.below hb1 h2.lt)
  have HC := hide (And.intro (hC.step hb1) hk)
  have HR := hide hr1
  have HB := hide hb1
  have HO := hide (World.ownsRow_nil w0 w0.heap.size 71 3)
  simp only [finC] at hW0 HR ⊢
  clear hA h1 h2 hC hk hV hr1 hb1 hw0
  go_enter Try.func97, Try.ntmps97
  go_wp2_with fail
  rw [← hW0]
  clear hW0
  go_step3
  go_wp2_with fail
  go_step3
  go_wp2_with fail
  go_loopg [1, 5, 6] (b.length + 1) (fun gk bv lv nv wr => ∃ (C B : Option Addr) (k d nx : Nat) (r : List UInt8) (o : List Tk), bv = .slice C r.length k ∧ lv = .slice B o.length d ∧ nv = .int .i64 (nx : Nat) ∧ r.length < gk ∧ o.length + 2 * r.length ≤ 2 * b.length ∧ nx ≤ 4097 ∧ Hid (RdB w0 w0.heap.size C r ∧ Caps C r.length k) ∧ Hid (TI w0 71 (.slice B o.length d) o wr) ∧ Hid (o ++ progW litL bl n tl ⟨sw, sh, slo⟩ gk r nx = V))
  case atStart => exact ⟨C, none, k, 0, 0, b, [], rfl, rfl, rfl, Nat.lt_succ_self _, by simp, by omega, HC, hide ⟨Below.refl _ _, HO.out⟩, HV⟩
  case round =>
    obtain ⟨C', B, k', d, nx, r, o, rfl, rfl, rfl, hrg, hol, hnx, HRd, HI, HQ⟩ := hrel
    clear HV HO HC
    cases gk with
    | zero => omega
    | succ g0 =>
      have hrl : r.length ≤ 16384 := by omega
      obtain ⟨M, hM⟩ : ∃ M, M = min n r.length := ⟨_, rfl⟩
      have hMi : min (n : Int) (r.length : Int) = (M : Nat) := by omega
      have hM1 : (0 : Int) ≤ M := by omega
      have hM2 : (M : Int) ≤ r.length := by omega
      have hM3 : (M : Int) ≤ k' := by have := HRd.out.2.1; omega
      have HOf := hide (show Calls Try.prog 69 #[.slice C' M k'] wr fun e w' => e = .returned (.int .u32 (weakN (r.take M) : Nat)) ∧ Below wr.heap.size wr w' from by
        have h := rollOf_any C' (r.take M) k' wr (((HRd.out.1.below HI.out.below (Nat.le_refl _)).mono HI.out.below.size).take M) (by rw [List.length_take]; omega)
        rw [List.length_take, Nat.min_eq_left (by omega)] at h
        exact h)
      have HM := hide hM
      clear hM
      have c0 : wr.cell? ⟨w.heap.size, 0, none⟩ = some (.int .i64 (n : Nat)) := cell_of_row _ _ 0 _ _ _ ((HI.out.below.block _ (Array.getElem?_eq_some_iff.1 HR.out).1).trans HR.out)
      go_wp2_with fail
      refine HOf.out.mono ?_
      rintro e w1 ⟨rfl, hb1⟩
      have HB1 := hide (HI.out.below.trans (hb1.mono HI.out.below.size))
      have HI1 := hide (HI.out.step hb1)
      have HR1 := hide ((HB1.out.block _ (Array.getElem?_eq_some_iff.1 HR.out).1).trans HR.out)
      have c1 : w1.cell? ⟨w.heap.size, 0, none⟩ = some (.int .i64 (n : Nat)) := cell_of_row _ _ 0 _ _ _ HR1.out
      clear hb1 HOf c0 HI
      go_wp2_with fail
      obtain ⟨R, hR⟩ : ∃ R, R = scanA bl n (r.length + 1) 0 r nx := ⟨_, rfl⟩
      have HRs := hide hR.symm
      have HP := HQ.out
      rw [progW_succ, ← hR] at HP
      have HPr := hide HP
      have hws : weakN (r.take M) = wsN r n 0 := by unfold wsN; rw [if_pos rfl, ← HM.out]
      rw [hws]
      have HB0 := hide (fun (W : World) (q : Below w1.heap.size w1 W) => HB1.out.trans (q.mono HB1.out.size))
      have HRow := hide (fun (W : World) (q : Below w1.heap.size w1 W) => (q.block _ (Array.getElem?_eq_some_iff.1 HR1.out).1).trans HR1.out)
      have HRB := hide (fun (W : World) (q : Below w1.heap.size w1 W) => (HRd.out.1.below (HB0.out W q) (Nat.le_refl _)).mono (HB0.out W q).size)
      have hkr : (r.length : Int) ≤ k' := by have := HRd.out.2.1; omega
      have HCap := hide HRd.out.2
      obtain ⟨Wo, rfl⟩ : ∃ Wo, Wo = wr := ⟨_, rfl⟩
      clear hR HP HQ hws HR1 c1 hM1 hM2 hM3 hMi HM
      go_loopg [1, 5, 6, 7, 28] (r.length + 1) (fun gi bv lv nv sv iv wi => ∃ (p nx' sq : Nat), bv = .slice C' r.length k' ∧ lv = .slice B o.length d ∧ nv = .int .i64 (nx' : Nat) ∧ sv = .int .u32 (sq : Nat) ∧ iv = .int .i64 (p : Nat) ∧ p + gi = r.length + 1 ∧ nx' ≤ 4097 ∧ (p = 0 → nx' = nx) ∧ Hid (sq = wsN r n p) ∧ Hid (Below w1.heap.size w1 wi) ∧ Hid (scanA bl n gi p (r.drop p) (if p = 0 then nx else 0) = R))
      case atStart => exact ⟨0, nx, wsN r n 0, rfl, rfl, rfl, rfl, rfl, by omega, hnx, fun _ => rfl, hide rfl, hide (Below.refl _ _), HRs⟩
      case round =>
        obtain ⟨p, nx', sq, rfl, rfl, rfl, rfl, rfl, hpg, hnx', hp0, HSq, HW, HS⟩ := hrel
        clear HRs
        have c0 : wr.cell? ⟨w.heap.size, 0, none⟩ = some (.int .i64 (n : Nat)) := cell_of_row _ _ 0 _ _ _ (HRow.out _ HW.out)
        by_cases hpn : r.length < p + n
        · have ht : ¬ (p : Int) < (r.length : Int) - n + 1 := by omega
          have c1 : wr.cell? ⟨w.heap.size, 1, none⟩ = some (.slice A bl.length c) := cell_of_row _ _ 1 _ _ _ (HRow.out _ HW.out)
          have c2 : wr.cell? ⟨w.heap.size, 2, none⟩ = some (.int .i64 (tl : Nat)) := cell_of_row _ _ 2 _ _ _ (HRow.out _ HW.out)
          have c3 : wr.cell? ⟨w.heap.size, 3, none⟩ = some (.int .u32 (sw : Nat)) := cell_of_row _ _ 3 _ _ _ (HRow.out _ HW.out)
          have c4 : wr.cell? ⟨w.heap.size, 4, none⟩ = some (.int .u64 (sh : Nat)) := cell_of_row _ _ 4 _ _ _ (HRow.out _ HW.out)
          have c5 : wr.cell? ⟨w.heap.size, 5, none⟩ = some (.int .u64 (slo : Nat)) := cell_of_row _ _ 5 _ _ _ (HRow.out _ HW.out)
          have c6 : wr.cell? ⟨w.heap.size, 6, none⟩ = some (.map (some m1)) := cell_of_row _ _ 6 _ _ _ (HRow.out _ HW.out)
          have c7 : wr.cell? ⟨w.heap.size, 7, none⟩ = some (.map (some m2)) := cell_of_row _ _ 7 _ _ _ (HRow.out _ HW.out)
          have HE := hide (show o ++ endW litL bl.length tl ⟨sw, sh, slo⟩ r = V from by
            have hRn : R = none := by
              rw [← HS.out]
              cases gk with
              | zero => rfl
              | succ gi => rw [scanA_succ, if_neg (by rw [List.length_drop]; omega)]
            have := HPr.out
            rw [hRn] at this
            exact this)
          have HEn := hide (fun (W : World) (q : Below w1.heap.size w1 W) => srEnd_any (n : Nat) A bl.length c tl ⟨sw, sh, slo⟩ m1 m2 C' r k' W (HRB.out W q) HCap.out hrl (by omega) htl)
          have hel := (endW_len bl.length tl ⟨sw, sh, slo⟩ r).1
          have HIw := hide (HI1.out.step HW.out)
          simp only [finC] at HEn
          clear HS HPr
          generalize endW litL bl.length tl ⟨sw, sh, slo⟩ r = en at HE HEn hel
          go_wp2_with fail
          refine (HEn.out _ HW.out).mono ?_
          rintro e w3 ⟨v, rfl, hI3⟩
          obtain ⟨D, g, rfl⟩ := ownsRow_slice hI3.own
          have hI4 := HIw.out.step hI3.below
          have hO4 := hI4.own
          have hB4 := hI4.below
          have hsz := hB4.size
          have hRn := RdT.own hI3.own
          clear HEn hI3 hI4 HIw c0 c1 c2 c3 c4 c5 c6 c7
          go_wp2_with (at_builtin; go_loud (refine wpList_append_toks rfl _ _ 65 rfl w0.heap.size 71 i0 Try.underlying65 hi hz0 hz1 hz2 _ _ _ rfl hO4 D _ g _ en rfl rfl hRn (by unfold maxLen; omega) (by omega) hsz ?_))
          intro v5 w5 hO5 hg5
          have hB5 := hB4.grown hg5 hB4.size (fun r e => (hO4.lt r e).1)
          have HF := hide (show TI w 71 v5 V w5 from by
            refine ⟨HB.out.trans (hB5.mono HB.out.size), ?_⟩
            rw [← HE.out, List.length_append, cellsT_app]
            exact ownsRow_lowerT hO5 HB.out.size)
          clear hO4 hB4 hO5 hg5 hB5 hRn hsz
          go_wp2_with fail
          try rw [Exit.noGoto_ret]
          exact bodyPost_ret (results_tmp rfl _ _ _) rfl ⟨v5, rfl, HF.out⟩
        · cases gk with
          | zero => omega
          | succ g1 =>
            have ht : (p : Int) < (r.length : Int) - n + 1 := by omega
            obtain ⟨ad, rfl⟩ : ∃ ad, C' = some ad := by
              obtain ⟨ad, e, _⟩ := HRd.out.1 0 r[0] (List.getElem?_eq_getElem (by omega))
              exact ⟨ad, e⟩
            have hwl : (winW r n p).length = n := by unfold winW; rw [List.length_take, List.length_drop]; omega
            have HSc := hide HS.out
            rw [scanA_succ, if_pos (by rw [List.length_drop]; omega)] at HSc
            change Hid ((match whichL bl (signL (winW r n p)) (if p = 0 then nx else 0) with | some k => some (p, k) | none => scanA bl n g1 (p + 1) ((r.drop p).drop 1) 0) = R) at HSc
            have hws1 : wsN r n (p + 1) = weakN (winW r n p) := by unfold wsN; rw [if_neg (by omega), Nat.add_sub_cancel]
            clear HS
            by_cases hp : p = 0
            · subst hp
              obtain rfl : nx = nx' := (hp0 rfl).symm
              have hws : wsN r n 0 = weakN (winW r n 0) := by unfold wsN winW; rw [if_pos rfl, Nat.min_eq_left (by omega), List.drop_zero]
              have hs2 := HSq.out
              rw [hws] at hs2
              rw [← hs2] at hws1
              have HX2 := hide hs2.symm
              have HL := hide hwl
              rw [if_pos rfl] at HSc
              have HW5 := HW
              obtain ⟨W5, hW5⟩ : ∃ W5, W5 = wr := ⟨_, rfl⟩
              rw [← hW5] at HW5 c0 ⊢
              clear hs2 hwl hws HW hW5 hp0 HSq
              have f0 : W5.cell? ⟨w.heap.size, 0, none⟩ = some (.int .i64 (n : Nat)) := cell_of_row _ _ 0 _ _ _ (HRow.out _ HW5.out)
              have f1 : W5.cell? ⟨w.heap.size, 1, none⟩ = some (.slice A bl.length c) := cell_of_row _ _ 1 _ _ _ (HRow.out _ HW5.out)
              have f2 : W5.cell? ⟨w.heap.size, 2, none⟩ = some (.int .i64 (tl : Nat)) := cell_of_row _ _ 2 _ _ _ (HRow.out _ HW5.out)
              have f3 : W5.cell? ⟨w.heap.size, 3, none⟩ = some (.int .u32 (sw : Nat)) := cell_of_row _ _ 3 _ _ _ (HRow.out _ HW5.out)
              have f4 : W5.cell? ⟨w.heap.size, 4, none⟩ = some (.int .u64 (sh : Nat)) := cell_of_row _ _ 4 _ _ _ (HRow.out _ HW5.out)
              have f5 : W5.cell? ⟨w.heap.size, 5, none⟩ = some (.int .u64 (slo : Nat)) := cell_of_row _ _ 5 _ _ _ (HRow.out _ HW5.out)
              have f6 : W5.cell? ⟨w.heap.size, 6, none⟩ = some (.map (some m1)) := cell_of_row _ _ 6 _ _ _ (HRow.out _ HW5.out)
              have f7 : W5.cell? ⟨w.heap.size, 7, none⟩ = some (.map (some m2)) := cell_of_row _ _ 7 _ _ _ (HRow.out _ HW5.out)
              have he3 : (n : Int) ≤ r.length := by omega
              have he4 : (n : Int) ≤ k' := by omega
              have he5 : (0 : Int) ≤ n := by omega
              have HFd := hide (fun (W : World) (q : Below w1.heap.size w1 W) => (show Calls Try.prog 120 #[.agg #[.int .i64 (n : Nat), .slice A bl.length c, .int .i64 (tl : Nat), .int .u32 (sw : Nat), .int .u64 (sh : Nat), .int .u64 (slo : Nat), .map (some m1), .map (some m2)], .int .u32 (weakN (winW r n 0) : Nat), .slice (some ad) n k', .int .i64 (nx : Nat)] W (FoundR bl (signL (winW r n 0)) nx W) from by
                have hx : RdB W W.heap.size (some ad) (winW r n 0) := (HRB.out W q).take n
                have h := find_any (n : Nat) A bl c (tl : Nat) ⟨sw, sh, slo⟩ m1 m2 N (some ad) (winW r n 0) k' nx W ((HA.out.below (HB0.out W q) (Nat.le_refl _)).mono (HB0.out W q).size) (signL_fits _) (H1.out.below (HB0.out W q) H1.out.lt) (H2.out.below (HB0.out W q) H2.out.lt) hx (by rw [HL.out]; omega) (by rw [HL.out]; omega) (by omega)
                rw [HL.out] at h
                exact h))
              rw [HX2.out] at HFd
              unfold FoundR at HFd
              have HS5 := hide (fun (W : World) (h : Below W5.heap.size W5 W) => (⟨h, cell_of_row _ _ 0 _ _ _ (HRow.out _ (HW5.out.trans (h.mono HW5.out.size))), cell_of_row _ _ 1 _ _ _ (HRow.out _ (HW5.out.trans (h.mono HW5.out.size))), cell_of_row _ _ 2 _ _ _ (HRow.out _ (HW5.out.trans (h.mono HW5.out.size))), cell_of_row _ _ 3 _ _ _ (HRow.out _ (HW5.out.trans (h.mono HW5.out.size))), cell_of_row _ _ 4 _ _ _ (HRow.out _ (HW5.out.trans (h.mono HW5.out.size))), cell_of_row _ _ 5 _ _ _ (HRow.out _ (HW5.out.trans (h.mono HW5.out.size))), cell_of_row _ _ 6 _ _ _ (HRow.out _ (HW5.out.trans (h.mono HW5.out.size))), cell_of_row _ _ 7 _ _ _ (HRow.out _ (HW5.out.trans (h.mono HW5.out.size)))⟩ : Below W5.heap.size W5 W ∧ W.cell? ⟨w.heap.size, 0, none⟩ = some (.int .i64 (n : Nat)) ∧ W.cell? ⟨w.heap.size, 1, none⟩ = some (.slice A bl.length c) ∧ W.cell? ⟨w.heap.size, 2, none⟩ = some (.int .i64 (tl : Nat)) ∧ W.cell? ⟨w.heap.size, 3, none⟩ = some (.int .u32 (sw : Nat)) ∧ W.cell? ⟨w.heap.size, 4, none⟩ = some (.int .u64 (sh : Nat)) ∧ W.cell? ⟨w.heap.size, 5, none⟩ = some (.int .u64 (slo : Nat)) ∧ W.cell? ⟨w.heap.size, 6, none⟩ = some (.map (some m1)) ∧ W.cell? ⟨w.heap.size, 7, none⟩ = some (.map (some m2))))
              have hd5 := HS5.out _ (Below.refl W5.heap.size W5).drew
              go_wp2_with fail
              refine wp_region_held (by kernel_rfl) (S := fun W => Below W5.heap.size W5 W ∧ W.cell? ⟨w.heap.size, 0, none⟩ = some (.int .i64 (n : Nat)) ∧ W.cell? ⟨w.heap.size, 1, none⟩ = some (.slice A bl.length c) ∧ W.cell? ⟨w.heap.size, 2, none⟩ = some (.int .i64 (tl : Nat)) ∧ W.cell? ⟨w.heap.size, 3, none⟩ = some (.int .u32 (sw : Nat)) ∧ W.cell? ⟨w.heap.size, 4, none⟩ = some (.int .u64 (sh : Nat)) ∧ W.cell? ⟨w.heap.size, 5, none⟩ = some (.int .u64 (slo : Nat)) ∧ W.cell? ⟨w.heap.size, 6, none⟩ = some (.map (some m1)) ∧ W.cell? ⟨w.heap.size, 7, none⟩ = some (.map (some m2))) ?_
              change wpAnyH _ _ _ _ _ _ _ _ (World.drew _)
              refine wpAnyH_take (i := 0) (v := .agg #[.int .i64 (n : Nat), .slice A bl.length c, .int .i64 (tl : Nat), .int .u32 (sw : Nat), .int .u64 (sh : Nat), .int .u64 (slo : Nat), .map (some m1), .map (some m2)]) rfl (by kernel_rfl) (by kernel_rfl) (by kernel_rfl) (fun _ _ _ h => h) (Or.inl ⟨by kernel_rfl, ?ya0⟩) hd5 ?ra0
              case ya0 => intro W hS; obtain ⟨_, s0, s1, s2, s3, s4, s5, s6, s7⟩ := hS; go_simp; try with_reducible rfl
              try simp only [Act.put, List.getElem_toArray, List.getElem_cons_zero, List.setIfInBounds_toArray, List.set_cons_zero, List.set_cons_succ]
              refine wpAnyH_take (i := 1) (v := ?va1) rfl (by kernel_rfl) (by kernel_rfl) (by kernel_rfl) (fun _ _ _ h => h) (Or.inl ⟨by kernel_rfl, ?ya1⟩) hd5 ?ra1
              case ya1 => intro W hS; obtain ⟨_, s0, s1, s2, s3, s4, s5, s6, s7⟩ := hS; go_simp; try with_reducible rfl
              try simp only [Act.put, List.getElem_toArray, List.getElem_cons_succ, List.getElem_cons_zero, List.setIfInBounds_toArray, List.set_cons_zero, List.set_cons_succ]
              refine wpAnyH_take (i := 2) (v := ?va2) rfl (by kernel_rfl) (by kernel_rfl) (by kernel_rfl) (fun _ _ _ h => h) (Or.inl ⟨by kernel_rfl, ?ya2⟩) hd5 ?ra2
              case ya2 => intro W hS; obtain ⟨_, s0, s1, s2, s3, s4, s5, s6, s7⟩ := hS; go_simp; try with_reducible rfl
              try simp only [Act.put, List.getElem_toArray, List.getElem_cons_succ, List.getElem_cons_zero, List.setIfInBounds_toArray, List.set_cons_zero, List.set_cons_succ]
              refine wpAnyH_take (i := 3) (v := ?va3) rfl (by kernel_rfl) (by kernel_rfl) (by kernel_rfl) (fun _ _ _ h => h) (Or.inl ⟨by kernel_rfl, ?ya3⟩) hd5 ?ra3
              case ya3 => intro W hS; obtain ⟨_, s0, s1, s2, s3, s4, s5, s6, s7⟩ := hS; go_simp; try with_reducible rfl
              try simp only [Act.put, List.getElem_toArray, List.getElem_cons_succ, List.getElem_cons_zero, List.setIfInBounds_toArray, List.set_cons_zero, List.set_cons_succ]
              refine wpAnyH_take (i := 4) (v := ?va4) rfl (by kernel_rfl) (by kernel_rfl) (by kernel_rfl) (fun _ _ _ h => h) (Or.inl ⟨by kernel_rfl, ?ya4⟩) hd5 ?ra4
              case ya4 => intro W hS; obtain ⟨_, s0, s1, s2, s3, s4, s5, s6, s7⟩ := hS; go_simp; try with_reducible rfl
              try simp only [Act.put, List.getElem_toArray, List.getElem_cons_succ, List.getElem_cons_zero, List.setIfInBounds_toArray, List.set_cons_zero, List.set_cons_succ]
              refine wpAnyH_take (i := 5) (v := .slice (some ad) n k') rfl (by kernel_rfl) (by kernel_rfl) (by kernel_rfl) (fun _ _ _ h => h) (Or.inl ⟨by kernel_rfl, ?ya5⟩) hd5 ?ra5
              case ya5 => intro W hS; obtain ⟨_, s0, s1, s2, s3, s4, s5, s6, s7⟩ := hS; go_simp; try with_reducible rfl
              try simp only [Act.put, List.getElem_toArray, List.getElem_cons_succ, List.getElem_cons_zero, List.setIfInBounds_toArray, List.set_cons_zero, List.set_cons_succ]
              refine wpAnyH_take (i := 6) (v := ?va6) rfl (by kernel_rfl) (by kernel_rfl) (by kernel_rfl) (fun _ _ _ h => h) (Or.inl ⟨by kernel_rfl, ?ya6⟩) hd5 ?ra6
              case ya6 => intro W hS; obtain ⟨_, s0, s1, s2, s3, s4, s5, s6, s7⟩ := hS; go_simp; try with_reducible rfl
              try simp only [Act.put, List.getElem_toArray, List.getElem_cons_succ, List.getElem_cons_zero, List.setIfInBounds_toArray, List.set_cons_zero, List.set_cons_succ]
              refine held_one (i := 7) (by kernel_rfl) rfl (fun K hK => ?_)
              go_simp
              refine (HFd.out _ (HW5.out.trans ((Below.refl W5.heap.size W5).drew.mono HW5.out.size))).mono ?_
              rintro en W6 ⟨rfl, hbk⟩
              have hbk2 := (Below.refl W5.heap.size W5).drew.trans hbk
              refine hK _ _ (HS5.out _ hbk2) ?_
              clear hK K
              try simp only [Act.put, List.getElem_toArray, List.getElem_cons_succ, List.getElem_cons_zero, List.setIfInBounds_toArray, List.set_cons_zero, List.set_cons_succ]
              refine wpAnyH_take (i := 8) (v := ?va8) rfl (by kernel_rfl) (by kernel_rfl) (by kernel_rfl) (fun _ _ _ h => h) (Or.inl ⟨by kernel_rfl, ?ya8⟩) (HS5.out _ hbk2) ?ra8
              case ya8 => intro W hS; obtain ⟨_, s0, s1, s2, s3, s4, s5, s6, s7⟩ := hS; go_simp; try with_reducible rfl
              try simp only [Act.put, List.getElem_toArray, List.getElem_cons_succ, List.getElem_cons_zero, List.setIfInBounds_toArray, List.set_cons_zero, List.set_cons_succ]
              refine wpAnyH_take (i := 9) (v := ?va9) rfl (by kernel_rfl) (by kernel_rfl) (by kernel_rfl) (fun _ _ _ h => h) (Or.inl ⟨by kernel_rfl, ?ya9⟩) (HS5.out _ hbk2) ?ra9
              case ya9 => intro W hS; obtain ⟨_, s0, s1, s2, s3, s4, s5, s6, s7⟩ := hS; go_simp; try with_reducible rfl
              try simp only [Act.put, List.getElem_toArray, List.getElem_cons_succ, List.getElem_cons_zero, List.setIfInBounds_toArray, List.set_cons_zero, List.set_cons_succ]
              refine wpAnyH_take (i := 10) (v := ?va10) rfl (by kernel_rfl) (by kernel_rfl) (by kernel_rfl) (fun _ _ _ h => h) (Or.inl ⟨by kernel_rfl, ?ya10⟩) (HS5.out _ hbk2) ?ra10
              case ya10 => intro W hS; obtain ⟨_, s0, s1, s2, s3, s4, s5, s6, s7⟩ := hS; go_simp; try with_reducible rfl
              try simp only [Act.put, List.getElem_toArray, List.getElem_cons_succ, List.getElem_cons_zero, List.setIfInBounds_toArray, List.set_cons_zero, List.set_cons_succ]
              refine wpAnyH_take (i := 11) (v := ?va11) rfl (by kernel_rfl) (by kernel_rfl) (by kernel_rfl) (fun _ _ _ h => h) (Or.inl ⟨by kernel_rfl, ?ya11⟩) (HS5.out _ hbk2) ?ra11
              case ya11 => intro W hS; obtain ⟨_, s0, s1, s2, s3, s4, s5, s6, s7⟩ := hS; go_simp; try with_reducible rfl
              try simp only [Act.put, List.getElem_toArray, List.getElem_cons_succ, List.getElem_cons_zero, List.setIfInBounds_toArray, List.set_cons_zero, List.set_cons_succ]
              refine wpAnyH_take (i := 12) (v := ?va12) rfl (by kernel_rfl) (by kernel_rfl) (by kernel_rfl) (fun _ _ _ h => h) (Or.inl ⟨by kernel_rfl, ?ya12⟩) (HS5.out _ hbk2) ?ra12
              case ya12 => intro W hS; obtain ⟨_, s0, s1, s2, s3, s4, s5, s6, s7⟩ := hS; go_simp; try with_reducible rfl
              try simp only [Act.put, List.getElem_toArray, List.getElem_cons_succ, List.getElem_cons_zero, List.setIfInBounds_toArray, List.set_cons_zero, List.set_cons_succ]
              refine wpAnyH_done (by kernel_rfl) ?_ _
              have HW6 := hide (HW5.out.trans (hbk2.mono HW5.out.size))
              clear hbk hbk2 hd5 HS5 HFd f0 f1 f2 f3 f4 f5 f6 f7
              cases hwh : whichL bl (signL (winW r n 0)) nx with
              | none =>
                rw [hwh] at HSc
                have HS9 := hide (show scanA bl n g1 (0 + 1) (r.drop (0 + 1)) (if 0 + 1 = 0 then nx else 0) = R from by rw [if_neg (by omega)]; rw [← HSc.out]; simp only; rw [List.drop_drop])
                clear hwh HSc
                go_wp2_with fail
                go_roundg g1
                case rel => exact ⟨0 + 1, nx, sq, rfl, rfl, rfl, rfl, rfl, by omega, by omega, fun h => absurd h (by omega), hide hws1.symm, HW6, HS9⟩
                case measure => omega
              | some kk =>
                rw [hwh] at HSc
                have hkk := whichL_lt hwh
                have HP9 := hide (show o ++ (litL (r.take 0) ++ (copyT kk :: progW litL bl n tl ⟨sw, sh, slo⟩ g0 (r.drop n) (kk + 1))) = V from by have h := HPr.out; rw [← HSc.out] at h; simp only at h; rw [Nat.zero_add] at h; exact h)
                clear hwh HSc
                have HLt := hide (fun (W : World) (q : Below w1.heap.size w1 W) => (show Calls Try.prog 95 #[.slice (some ad) 0 k'] W fun e w' => ∃ v, e = .returned v ∧ TI W 71 v (litL (r.take 0)) w' from by
                  have h := literal_all (some ad) (r.take 0) k' W ((HRB.out W q).take _) ⟨by rw [List.length_take]; have := HCap.out.1; omega, fun h => by cases h⟩ (by rw [List.length_take]; omega)
                  rw [List.length_take, Nat.min_eq_left (by omega)] at h
                  exact h))
                have hll := litL_len (r.take 0)
                rw [List.length_take] at hll
                have HDr := hide ((HRd.out.1).drop (k := n) HRd.out.2.1)
                have HCd := hide (caps_drop (k := n) HRd.out.2 (by omega))
                have HI6 := hide (HI1.out.step HW6.out)
                have HCp := hide (fun W => copy_any (kk : Nat) 1 W)
                simp only [Tk.cells] at HCp
                have hlt9 : (r.drop n).length = r.length - n := List.length_drop
                generalize litL (r.take 0) = lt at HP9 HLt hll
                clear HPr HRB HRow
                go_wp2_with fail
                refine (HLt.out _ HW6.out).mono ?_
                rintro en W7 ⟨v, rfl, hI7⟩
                obtain ⟨D, dl, rfl⟩ := ownsRow_slice hI7.own
                have hI8 := HI6.out.step hI7.below
                have hO8 := hI8.own
                have hB8 := hI8.below
                have hsz8 := hB8.size
                have hRn := RdT.own hI7.own
                clear HLt hI7 hI8 HI6
                go_wp2_with (at_builtin; go_loud (refine wpList_append_toks rfl _ _ 65 rfl w0.heap.size 71 i0 Try.underlying65 hi hz0 hz1 hz2 _ _ _ rfl hO8 D _ dl _ lt rfl rfl hRn (by unfold maxLen; omega) (by omega) hsz8 ?_))
                intro v8 W8 hO9 hg8
                have hB9 := hB8.grown hg8 hB8.size (fun r e => (hO8.lt r e).1)
                obtain ⟨E, g, rfl⟩ := ownsRow_slice hO9
                have HI9 := hide (show TI w0 71 (.slice E (o.length + lt.length) g) (o ++ lt) W8 from ⟨hB9, by rw [cellsT_app, List.length_append]; exact hO9⟩)
                clear hO8 hB8 hsz8 hRn hO9 hg8 hB9
                go_wp2_with fail
                refine (HCp.out _).mono ?_
                rintro en W10 ⟨rfl, hb10⟩
                have hI10 := HI9.out.step hb10
                have hO11 : (W10.alloc (.cells #[.int .i64 (kk : Nat), .int .i64 1, .string ⟨#[]⟩] 71)).ownsRow w0.heap.size 71 3 (.slice E (o.length + lt.length) g) (o.length + lt.length) (cellsT (o ++ lt)) := by have h := hI10.own; rw [List.length_append] at h; exact h.alloc _
                have hRn : RdT (W10.alloc (.cells #[.int .i64 (kk : Nat), .int .i64 1, .string ⟨#[]⟩] 71)) (W10.alloc (.cells #[.int .i64 (kk : Nat), .int .i64 1, .string ⟨#[]⟩] 71)).heap.size (some ⟨W10.heap.size, 0, none⟩) [copyT kk] := RdT.one W10 (copyT kk) 71
                have hB11 := hI10.below.alloc hI10.below.size (.cells #[.int .i64 (kk : Nat), .int .i64 1, .string ⟨#[]⟩] 71)
                have hsz := hB11.size
                clear hb10 hI10 HI9
                go_wp2_with (at_builtin; go_loud (refine wpList_append_toks rfl _ _ 65 rfl w0.heap.size 71 i0 Try.underlying65 hi hz0 hz1 hz2 _ _ _ rfl hO11 (some ⟨W10.heap.size, 0, none⟩) _ 1 _ [copyT kk] rfl rfl hRn (by unfold maxLen; omega) (by omega) hsz ?_))
                intro v12 W12 hO12 hg12
                have hB12 := hB11.grown hg12 hB11.size (fun r e => (hO11.lt r e).1)
                obtain ⟨F, g2, rfl⟩ := ownsRow_slice hO12
                have hlen9 : (o ++ lt ++ [copyT kk]).length = o.length + lt.length + 1 := by rw [List.length_append, List.length_append]; rfl
                have HI12 := hide (show TI w0 71 (.slice F (o ++ lt ++ [copyT kk]).length g2) (o ++ lt ++ [copyT kk]) W12 from ⟨hB12, by rw [cellsT_app, hlen9]; exact hO12⟩)
                rw [hlen9] at HI12
                have HP12 := hide (show (o ++ lt ++ [copyT kk]) ++ progW litL bl n tl ⟨sw, sh, slo⟩ g0 (r.drop n) (kk + 1) = V from by rw [← HP9.out]; simp)
                clear hO11 hRn hB11 hsz hO12 hg12 hB12 HP9
                have hkw : IntKind.i64.wrap ((kk : Int) + 1) = ((kk + 1 : Nat) : Int) := by rw [IntWalk.i64_in _ (by omega)]; rfl
                by_cases hke : k' = n
                · rw [if_pos hke] at HDr HCd
                  go_wp2_with fail
                  go_roundg g0
                  case rel => exact ⟨some ad, F, k' - n, g2, kk + 1, r.drop n, o ++ lt ++ [copyT kk], by rw [hlt9, show k' - n = 0 by omega], by rw [hlen9], rfl, by omega, by rw [hlen9]; omega, by omega, hide ⟨HDr.out, by rw [hlt9]; exact HCd.out⟩, by rw [hlen9]; exact HI12, HP12⟩
                  case measure => omega
                · rw [if_neg hke] at HDr HCd
                  go_wp2_with fail
                  go_roundg g0
                  case rel => exact ⟨some (ad.add n), F, k' - n, g2, kk + 1, r.drop n, o ++ lt ++ [copyT kk], by rw [hlt9], by rw [hlen9], rfl, by omega, by rw [hlen9]; omega, by omega, hide ⟨HDr.out, by rw [hlt9]; exact HCd.out⟩, by rw [hlen9]; exact HI12, HP12⟩
                  case measure => omega
            · obtain ⟨q, hq⟩ : ∃ q, q = p - 1 := ⟨_, rfl⟩
              have hpq : p = q + 1 := by omega
              obtain ⟨y1, y2, z, g1, g2, hzz, hwn, hzl⟩ := winW_both r n q p (by omega) hpq (by omega)
              have hws : wsN r n p = weakN (winW r n q) := by unfold wsN; rw [if_neg hp, ← hq]
              obtain ⟨_, e1, a1, b1⟩ := (HRB.out _ HW.out) q _ g1
              obtain ⟨_, e2, _, b2⟩ := (HRB.out _ HW.out) (q + n) _ g2
              cases e1
              cases e2
              have hsq := HSq.out
              rw [hws, hzz] at hsq
              have HRo := hide (fun W => wroll_any z y1 y2 n W (by omega) hzl.symm)
              have hq1 : (p : Int) - 1 = (q : Nat) := by omega
              have hq2 : IntKind.i64.wrap ((p : Int) - 1) = (q : Nat) := by rw [hq1]; exact IntWalk.i64_in _ (by omega)
              obtain ⟨qn, hqn⟩ : ∃ qn, qn = q + n := ⟨_, rfl⟩
              rw [← hqn] at b2
              have hq3 : (q : Int) + n = (qn : Nat) := by omega
              have hq4 : IntKind.i64.wrap ((q : Int) + n) = (qn : Nat) := by rw [hq3]; exact IntWalk.i64_in _ (by omega)
              have hq9 : IntKind.i64.wrap (q : Int) = (q : Nat) := IntWalk.i64_in _ (by omega)
              have hqA : IntKind.i64.wrap (qn : Int) = (qn : Nat) := IntWalk.i64_in _ (by omega)
              have hq5 : (0 : Int) ≤ q := by omega
              have hq6 : (q : Int) < r.length := by omega
              have hq7 : (0 : Int) ≤ qn := by omega
              have hq8 : (qn : Int) < r.length := by omega
              have hp1 : (0 : Int) < p := by omega
              have hx1 := index_byte ad r.length k' q (by omega)
              have hx2 := index_byte ad r.length k' qn (by omega)
              rw [← hsq] at HRo
              rw [show weakN (z ++ [y2]) = weakN (winW r n p) from by rw [hwn]] at HRo
              obtain ⟨s2, hs2⟩ : ∃ s2, s2 = weakN (winW r n p) := ⟨_, rfl⟩
              rw [← hs2] at HRo hws1
              have HX2 := hide hs2.symm
              have HL := hide hwl
              rw [if_neg hp] at HSc
              clear g1 g2 hzz hwn hzl hws hqn hq hpq hwl hs2 hsq HSq
              go_wp2_with fail
              have HSB := hide (fun (W : World) (h : Below wr.heap.size wr W) => (⟨h, cell_of_row _ _ 0 _ _ _ (HRow.out _ (HW.out.trans (h.mono HW.out.size))), (h.cell (p := ad.add q) (by rw [add_block]; exact a1)).trans b1, (h.cell (p := ad.add qn) (by rw [add_block]; exact a1)).trans b2⟩ :
                Below wr.heap.size wr W ∧ W.cell? ⟨w.heap.size, 0, none⟩ = some (.int .i64 (n : Nat)) ∧ W.cell? (ad.add q) = some (byteV y1) ∧ W.cell? (ad.add qn) = some (byteV y2)))
              have hdd := HSB.out _ (Below.refl wr.heap.size wr).drew
              unfold byteV at *
              refine wp_region_held (by kernel_rfl) (S := fun W => Below wr.heap.size wr W ∧ W.cell? ⟨w.heap.size, 0, none⟩ = some (.int .i64 (n : Nat)) ∧ W.cell? (ad.add q) = some (.int .u8 y1.toNat) ∧ W.cell? (ad.add qn) = some (.int .u8 y2.toNat)) ?_
              change wpAnyH _ _ _ _ _ _ _ _ (World.drew _)
              refine wpAnyH_take (i := 0) (v := ?v80) rfl (by kernel_rfl) (by kernel_rfl) (by kernel_rfl) (fun _ _ _ h => h) (Or.inl ⟨by kernel_rfl, ?y80⟩) hdd ?r80
              case y80 => intro W hS; obtain ⟨_, s1, s2, s3⟩ := hS; go_simp; try with_reducible rfl
              try simp only [Act.put, List.getElem_toArray, List.getElem_cons_zero, List.setIfInBounds_toArray, List.set_cons_zero, List.set_cons_succ]
              refine wpAnyH_take (i := 1) (v := ?v81) rfl (by kernel_rfl) (by kernel_rfl) (by kernel_rfl) (fun _ _ _ h => h) (Or.inl ⟨by kernel_rfl, ?y81⟩) hdd ?r81
              case y81 => intro W hS; obtain ⟨_, s1, s2, s3⟩ := hS; go_simp; try with_reducible rfl
              try simp only [Act.put, List.getElem_toArray, List.getElem_cons_succ, List.getElem_cons_zero, List.setIfInBounds_toArray, List.set_cons_zero, List.set_cons_succ]
              refine wpAnyH_take (i := 2) (v := ?v82) rfl (by kernel_rfl) (by kernel_rfl) (by kernel_rfl) (fun _ _ _ h => h) (Or.inl ⟨by kernel_rfl, ?y82⟩) hdd ?r82
              case y82 => intro W hS; obtain ⟨_, s1, s2, s3⟩ := hS; go_simp; try with_reducible rfl
              try simp only [Act.put, List.getElem_toArray, List.getElem_cons_succ, List.getElem_cons_zero, List.setIfInBounds_toArray, List.set_cons_zero, List.set_cons_succ]
              refine wpAnyH_take (i := 3) (v := ?v83) rfl (by kernel_rfl) (by kernel_rfl) (by kernel_rfl) (fun _ _ _ h => h) (Or.inl ⟨by kernel_rfl, ?y83⟩) hdd ?r83
              case y83 => intro W hS; obtain ⟨_, s1, s2, s3⟩ := hS; go_simp; try with_reducible rfl
              try simp only [Act.put, List.getElem_toArray, List.getElem_cons_succ, List.getElem_cons_zero, List.setIfInBounds_toArray, List.set_cons_zero, List.set_cons_succ]
              refine wpAnyH_take (i := 4) (v := ?v84) rfl (by kernel_rfl) (by kernel_rfl) (by kernel_rfl) (fun _ _ _ h => h) (Or.inl ⟨by kernel_rfl, ?y84⟩) hdd ?r84
              case y84 => intro W hS; obtain ⟨_, s1, s2, s3⟩ := hS; go_simp; try with_reducible rfl
              try simp only [Act.put, List.getElem_toArray, List.getElem_cons_succ, List.getElem_cons_zero, List.setIfInBounds_toArray, List.set_cons_zero, List.set_cons_succ]
              refine wpAnyH_take (i := 5) (v := ?v85) rfl (by kernel_rfl) (by kernel_rfl) (by kernel_rfl) (fun _ _ _ h => h) (Or.inl ⟨by kernel_rfl, ?y85⟩) hdd ?r85
              case y85 => intro W hS; obtain ⟨_, s1, s2, s3⟩ := hS; go_simp; try with_reducible rfl
              try simp only [Act.put, List.getElem_toArray, List.getElem_cons_succ, List.getElem_cons_zero, List.setIfInBounds_toArray, List.set_cons_zero, List.set_cons_succ]
              refine wpAnyH_take (i := 6) (v := .int .i64 (q : Nat)) rfl (by kernel_rfl) (by kernel_rfl) (by kernel_rfl) (fun _ _ _ h => h) (Or.inl ⟨by kernel_rfl, ?y86⟩) hdd ?r86
              case y86 => intro W hS; obtain ⟨_, s1, s2, s3⟩ := hS; go_simp; try with_reducible rfl
              try simp only [Act.put, List.getElem_toArray, List.getElem_cons_succ, List.getElem_cons_zero, List.setIfInBounds_toArray, List.set_cons_zero, List.set_cons_succ]
              refine wpAnyH_take (i := 7) (v := .pointer (some (ad.add q))) rfl (by kernel_rfl) (by kernel_rfl) (by kernel_rfl) (fun _ _ _ h => h) (Or.inl ⟨by kernel_rfl, ?y87⟩) hdd ?r87
              case y87 => intro W hS; obtain ⟨_, s1, s2, s3⟩ := hS; go_simp; try with_reducible rfl
              try simp only [Act.put, List.getElem_toArray, List.getElem_cons_succ, List.getElem_cons_zero, List.setIfInBounds_toArray, List.set_cons_zero, List.set_cons_succ]
              refine wpAnyH_take (i := 8) (v := .int .u8 y1.toNat) rfl (by kernel_rfl) (by kernel_rfl) (by kernel_rfl) (fun _ _ _ h => h) (Or.inl ⟨by kernel_rfl, ?y88⟩) hdd ?r88
              case y88 => intro W hS; obtain ⟨_, s1, s2, s3⟩ := hS; go_simp; try with_reducible rfl
              try simp only [Act.put, List.getElem_toArray, List.getElem_cons_succ, List.getElem_cons_zero, List.setIfInBounds_toArray, List.set_cons_zero, List.set_cons_succ]
              refine wpAnyH_take (i := 9) (v := ?v89) rfl (by kernel_rfl) (by kernel_rfl) (by kernel_rfl) (fun _ _ _ h => h) (Or.inl ⟨by kernel_rfl, ?y89⟩) hdd ?r89
              case y89 => intro W hS; obtain ⟨_, s1, s2, s3⟩ := hS; go_simp; try with_reducible rfl
              try simp only [Act.put, List.getElem_toArray, List.getElem_cons_succ, List.getElem_cons_zero, List.setIfInBounds_toArray, List.set_cons_zero, List.set_cons_succ]
              refine wpAnyH_take (i := 10) (v := ?v810) rfl (by kernel_rfl) (by kernel_rfl) (by kernel_rfl) (fun _ _ _ h => h) (Or.inl ⟨by kernel_rfl, ?y810⟩) hdd ?r810
              case y810 => intro W hS; obtain ⟨_, s1, s2, s3⟩ := hS; go_simp; try with_reducible rfl
              try simp only [Act.put, List.getElem_toArray, List.getElem_cons_succ, List.getElem_cons_zero, List.setIfInBounds_toArray, List.set_cons_zero, List.set_cons_succ]
              refine wpAnyH_take (i := 11) (v := .int .i64 (q : Nat)) rfl (by kernel_rfl) (by kernel_rfl) (by kernel_rfl) (fun _ _ _ h => h) (Or.inl ⟨by kernel_rfl, ?y811⟩) hdd ?r811
              case y811 => intro W hS; obtain ⟨_, s1, s2, s3⟩ := hS; go_simp; try with_reducible rfl
              try simp only [Act.put, List.getElem_toArray, List.getElem_cons_succ, List.getElem_cons_zero, List.setIfInBounds_toArray, List.set_cons_zero, List.set_cons_succ]
              refine wpAnyH_take (i := 12) (v := ?v812) rfl (by kernel_rfl) (by kernel_rfl) (by kernel_rfl) (fun _ _ _ h => h) (Or.inl ⟨by kernel_rfl, ?y812⟩) hdd ?r812
              case y812 => intro W hS; obtain ⟨_, s1, s2, s3⟩ := hS; go_simp; try with_reducible rfl
              try simp only [Act.put, List.getElem_toArray, List.getElem_cons_succ, List.getElem_cons_zero, List.setIfInBounds_toArray, List.set_cons_zero, List.set_cons_succ]
              refine wpAnyH_take (i := 13) (v := ?v813) rfl (by kernel_rfl) (by kernel_rfl) (by kernel_rfl) (fun _ _ _ h => h) (Or.inl ⟨by kernel_rfl, ?y813⟩) hdd ?r813
              case y813 => intro W hS; obtain ⟨_, s1, s2, s3⟩ := hS; go_simp; try with_reducible rfl
              try simp only [Act.put, List.getElem_toArray, List.getElem_cons_succ, List.getElem_cons_zero, List.setIfInBounds_toArray, List.set_cons_zero, List.set_cons_succ]
              refine wpAnyH_take (i := 14) (v := ?v814) rfl (by kernel_rfl) (by kernel_rfl) (by kernel_rfl) (fun _ _ _ h => h) (Or.inl ⟨by kernel_rfl, ?y814⟩) hdd ?r814
              case y814 => intro W hS; obtain ⟨_, s1, s2, s3⟩ := hS; go_simp; try with_reducible rfl
              try simp only [Act.put, List.getElem_toArray, List.getElem_cons_succ, List.getElem_cons_zero, List.setIfInBounds_toArray, List.set_cons_zero, List.set_cons_succ]
              refine wpAnyH_take (i := 15) (v := .int .i64 (qn : Nat)) rfl (by kernel_rfl) (by kernel_rfl) (by kernel_rfl) (fun _ _ _ h => h) (Or.inl ⟨by kernel_rfl, ?y815⟩) hdd ?r815
              case y815 => intro W hS; obtain ⟨_, s1, s2, s3⟩ := hS; go_simp; try with_reducible rfl
              try simp only [Act.put, List.getElem_toArray, List.getElem_cons_succ, List.getElem_cons_zero, List.setIfInBounds_toArray, List.set_cons_zero, List.set_cons_succ]
              refine wpAnyH_take (i := 16) (v := .pointer (some (ad.add qn))) rfl (by kernel_rfl) (by kernel_rfl) (by kernel_rfl) (fun _ _ _ h => h) (Or.inl ⟨by kernel_rfl, ?y816⟩) hdd ?r816
              case y816 => intro W hS; obtain ⟨_, s1, s2, s3⟩ := hS; go_simp; try with_reducible rfl
              try simp only [Act.put, List.getElem_toArray, List.getElem_cons_succ, List.getElem_cons_zero, List.setIfInBounds_toArray, List.set_cons_zero, List.set_cons_succ]
              refine wpAnyH_take (i := 17) (v := .int .u8 y2.toNat) rfl (by kernel_rfl) (by kernel_rfl) (by kernel_rfl) (fun _ _ _ h => h) (Or.inl ⟨by kernel_rfl, ?y817⟩) hdd ?r817
              case y817 => intro W hS; obtain ⟨_, s1, s2, s3⟩ := hS; go_simp; try with_reducible rfl
              try simp only [Act.put, List.getElem_toArray, List.getElem_cons_succ, List.getElem_cons_zero, List.setIfInBounds_toArray, List.set_cons_zero, List.set_cons_succ]
              refine held_one (i := 18) (by kernel_rfl) rfl (fun K hK => ?_)
              go_simp
              refine (HRo.out _).mono ?_
              rintro en W5 ⟨rfl, hbk⟩
              have hbk2 := (Below.refl wr.heap.size wr).drew.trans hbk
              refine hK _ _ (HSB.out _ hbk2) ?_
              clear hK K
              try simp only [Act.put, List.getElem_toArray, List.getElem_cons_succ, List.getElem_cons_zero, List.setIfInBounds_toArray, List.set_cons_zero, List.set_cons_succ]
              refine wpAnyH_take (i := 19) (v := ?v819) rfl (by kernel_rfl) (by kernel_rfl) (by kernel_rfl) (fun _ _ _ h => h) (Or.inl ⟨by kernel_rfl, ?y819⟩) (HSB.out _ hbk2) ?r819
              case y819 => intro W hS; obtain ⟨_, s1, s2, s3⟩ := hS; go_simp; try with_reducible rfl
              try simp only [Act.put, List.getElem_toArray, List.getElem_cons_succ, List.getElem_cons_zero, List.setIfInBounds_toArray, List.set_cons_zero, List.set_cons_succ]
              refine wpAnyH_done (by kernel_rfl) ?_ _
              have HW5 := hide (HW.out.trans (hbk2.mono HW.out.size))
              clear hbk hbk2 hdd
              have f0 : W5.cell? ⟨w.heap.size, 0, none⟩ = some (.int .i64 (n : Nat)) := cell_of_row _ _ 0 _ _ _ (HRow.out _ HW5.out)
              have f1 : W5.cell? ⟨w.heap.size, 1, none⟩ = some (.slice A bl.length c) := cell_of_row _ _ 1 _ _ _ (HRow.out _ HW5.out)
              have f2 : W5.cell? ⟨w.heap.size, 2, none⟩ = some (.int .i64 (tl : Nat)) := cell_of_row _ _ 2 _ _ _ (HRow.out _ HW5.out)
              have f3 : W5.cell? ⟨w.heap.size, 3, none⟩ = some (.int .u32 (sw : Nat)) := cell_of_row _ _ 3 _ _ _ (HRow.out _ HW5.out)
              have f4 : W5.cell? ⟨w.heap.size, 4, none⟩ = some (.int .u64 (sh : Nat)) := cell_of_row _ _ 4 _ _ _ (HRow.out _ HW5.out)
              have f5 : W5.cell? ⟨w.heap.size, 5, none⟩ = some (.int .u64 (slo : Nat)) := cell_of_row _ _ 5 _ _ _ (HRow.out _ HW5.out)
              have f6 : W5.cell? ⟨w.heap.size, 6, none⟩ = some (.map (some m1)) := cell_of_row _ _ 6 _ _ _ (HRow.out _ HW5.out)
              have f7 : W5.cell? ⟨w.heap.size, 7, none⟩ = some (.map (some m2)) := cell_of_row _ _ 7 _ _ _ (HRow.out _ HW5.out)
              obtain ⟨e, he⟩ : ∃ e, e = p + n := ⟨_, rfl⟩
              have he1 : (p : Int) + n = (e : Nat) := by omega
              have he2 : (p : Int) ≤ e := by omega
              have hpk : (p : Int) ≤ k' := by omega
              have hpr : (p : Int) ≤ r.length := by omega
              have hen : e - p = n := by omega
              have hkp : ¬ k' = p := by omega
              have he3 : (e : Int) ≤ r.length := by omega
              have he4 : (e : Int) ≤ k' := by omega
              have he5 : (0 : Int) ≤ e := by omega
              have HE := hide he
              have HFd := hide (fun (W : World) (q : Below w1.heap.size w1 W) => (show Calls Try.prog 120 #[.agg #[.int .i64 (n : Nat), .slice A bl.length c, .int .i64 (tl : Nat), .int .u32 (sw : Nat), .int .u64 (sh : Nat), .int .u64 (slo : Nat), .map (some m1), .map (some m2)], .int .u32 (weakN (winW r n p) : Nat), .slice (some (ad.add p)) n (k' - p), .int .i64 (0 : Nat)] W (FoundR bl (signL (winW r n p)) 0 W) from by
                have hx : RdB W W.heap.size (some (ad.add p)) (winW r n p) := (by have h := ((HRB.out W q).drop (c := k') (k := p) (by omega)).take n; rw [if_neg hkp] at h; exact h)
                have h := find_any (n : Nat) A bl c (tl : Nat) ⟨sw, sh, slo⟩ m1 m2 N (some (ad.add p)) (winW r n p) (k' - p) 0 W ((HA.out.below (HB0.out W q) (Nat.le_refl _)).mono (HB0.out W q).size) (signL_fits _) (H1.out.below (HB0.out W q) H1.out.lt) (H2.out.below (HB0.out W q) H2.out.lt) hx (by rw [HL.out]; omega) (by rw [HL.out]; omega) (by omega)
                rw [HL.out] at h
                exact h))
              rw [HX2.out] at HFd
              rw [show ((0 : Nat) : Int) = 0 from rfl] at HFd
              unfold FoundR at HFd
              clear he
              have HS5 := hide (fun (W : World) (h : Below W5.heap.size W5 W) => (⟨h, cell_of_row _ _ 0 _ _ _ (HRow.out _ (HW5.out.trans (h.mono HW5.out.size))), cell_of_row _ _ 1 _ _ _ (HRow.out _ (HW5.out.trans (h.mono HW5.out.size))), cell_of_row _ _ 2 _ _ _ (HRow.out _ (HW5.out.trans (h.mono HW5.out.size))), cell_of_row _ _ 3 _ _ _ (HRow.out _ (HW5.out.trans (h.mono HW5.out.size))), cell_of_row _ _ 4 _ _ _ (HRow.out _ (HW5.out.trans (h.mono HW5.out.size))), cell_of_row _ _ 5 _ _ _ (HRow.out _ (HW5.out.trans (h.mono HW5.out.size))), cell_of_row _ _ 6 _ _ _ (HRow.out _ (HW5.out.trans (h.mono HW5.out.size))), cell_of_row _ _ 7 _ _ _ (HRow.out _ (HW5.out.trans (h.mono HW5.out.size)))⟩ : Below W5.heap.size W5 W ∧ W.cell? ⟨w.heap.size, 0, none⟩ = some (.int .i64 (n : Nat)) ∧ W.cell? ⟨w.heap.size, 1, none⟩ = some (.slice A bl.length c) ∧ W.cell? ⟨w.heap.size, 2, none⟩ = some (.int .i64 (tl : Nat)) ∧ W.cell? ⟨w.heap.size, 3, none⟩ = some (.int .u32 (sw : Nat)) ∧ W.cell? ⟨w.heap.size, 4, none⟩ = some (.int .u64 (sh : Nat)) ∧ W.cell? ⟨w.heap.size, 5, none⟩ = some (.int .u64 (slo : Nat)) ∧ W.cell? ⟨w.heap.size, 6, none⟩ = some (.map (some m1)) ∧ W.cell? ⟨w.heap.size, 7, none⟩ = some (.map (some m2))))
              have hd5 := HS5.out _ (Below.refl W5.heap.size W5).drew
              go_wp2_with fail
              refine wp_region_held (by kernel_rfl) (S := fun W => Below W5.heap.size W5 W ∧ W.cell? ⟨w.heap.size, 0, none⟩ = some (.int .i64 (n : Nat)) ∧ W.cell? ⟨w.heap.size, 1, none⟩ = some (.slice A bl.length c) ∧ W.cell? ⟨w.heap.size, 2, none⟩ = some (.int .i64 (tl : Nat)) ∧ W.cell? ⟨w.heap.size, 3, none⟩ = some (.int .u32 (sw : Nat)) ∧ W.cell? ⟨w.heap.size, 4, none⟩ = some (.int .u64 (sh : Nat)) ∧ W.cell? ⟨w.heap.size, 5, none⟩ = some (.int .u64 (slo : Nat)) ∧ W.cell? ⟨w.heap.size, 6, none⟩ = some (.map (some m1)) ∧ W.cell? ⟨w.heap.size, 7, none⟩ = some (.map (some m2))) ?_
              change wpAnyH _ _ _ _ _ _ _ _ (World.drew _)
              refine wpAnyH_take (i := 0) (v := .agg #[.int .i64 (n : Nat), .slice A bl.length c, .int .i64 (tl : Nat), .int .u32 (sw : Nat), .int .u64 (sh : Nat), .int .u64 (slo : Nat), .map (some m1), .map (some m2)]) rfl (by kernel_rfl) (by kernel_rfl) (by kernel_rfl) (fun _ _ _ h => h) (Or.inl ⟨by kernel_rfl, ?yb0⟩) hd5 ?rb0
              case yb0 => intro W hS; obtain ⟨_, s0, s1, s2, s3, s4, s5, s6, s7⟩ := hS; go_simp; try with_reducible rfl
              try simp only [Act.put, List.getElem_toArray, List.getElem_cons_zero, List.setIfInBounds_toArray, List.set_cons_zero, List.set_cons_succ]
              refine wpAnyH_take (i := 1) (v := ?vb1) rfl (by kernel_rfl) (by kernel_rfl) (by kernel_rfl) (fun _ _ _ h => h) (Or.inl ⟨by kernel_rfl, ?yb1⟩) hd5 ?rb1
              case yb1 => intro W hS; obtain ⟨_, s0, s1, s2, s3, s4, s5, s6, s7⟩ := hS; go_simp; try with_reducible rfl
              try simp only [Act.put, List.getElem_toArray, List.getElem_cons_succ, List.getElem_cons_zero, List.setIfInBounds_toArray, List.set_cons_zero, List.set_cons_succ]
              refine wpAnyH_take (i := 2) (v := ?vb2) rfl (by kernel_rfl) (by kernel_rfl) (by kernel_rfl) (fun _ _ _ h => h) (Or.inl ⟨by kernel_rfl, ?yb2⟩) hd5 ?rb2
              case yb2 => intro W hS; obtain ⟨_, s0, s1, s2, s3, s4, s5, s6, s7⟩ := hS; go_simp; try with_reducible rfl
              try simp only [Act.put, List.getElem_toArray, List.getElem_cons_succ, List.getElem_cons_zero, List.setIfInBounds_toArray, List.set_cons_zero, List.set_cons_succ]
              refine wpAnyH_take (i := 3) (v := ?vb3) rfl (by kernel_rfl) (by kernel_rfl) (by kernel_rfl) (fun _ _ _ h => h) (Or.inl ⟨by kernel_rfl, ?yb3⟩) hd5 ?rb3
              case yb3 => intro W hS; obtain ⟨_, s0, s1, s2, s3, s4, s5, s6, s7⟩ := hS; go_simp; try with_reducible rfl
              try simp only [Act.put, List.getElem_toArray, List.getElem_cons_succ, List.getElem_cons_zero, List.setIfInBounds_toArray, List.set_cons_zero, List.set_cons_succ]
              refine wpAnyH_take (i := 4) (v := ?vb4) rfl (by kernel_rfl) (by kernel_rfl) (by kernel_rfl) (fun _ _ _ h => h) (Or.inl ⟨by kernel_rfl, ?yb4⟩) hd5 ?rb4
              case yb4 => intro W hS; obtain ⟨_, s0, s1, s2, s3, s4, s5, s6, s7⟩ := hS; go_simp; try with_reducible rfl
              try simp only [Act.put, List.getElem_toArray, List.getElem_cons_succ, List.getElem_cons_zero, List.setIfInBounds_toArray, List.set_cons_zero, List.set_cons_succ]
              refine wpAnyH_take (i := 5) (v := .slice (some (ad.add p)) n (k' - p)) rfl (by kernel_rfl) (by kernel_rfl) (by kernel_rfl) (fun _ _ _ h => h) (Or.inl ⟨by kernel_rfl, ?yb5⟩) hd5 ?rb5
              case yb5 => intro W hS; obtain ⟨_, s0, s1, s2, s3, s4, s5, s6, s7⟩ := hS; go_simp; try with_reducible rfl
              try simp only [Act.put, List.getElem_toArray, List.getElem_cons_succ, List.getElem_cons_zero, List.setIfInBounds_toArray, List.set_cons_zero, List.set_cons_succ]
              refine wpAnyH_take (i := 6) (v := ?vb6) rfl (by kernel_rfl) (by kernel_rfl) (by kernel_rfl) (fun _ _ _ h => h) (Or.inl ⟨by kernel_rfl, ?yb6⟩) hd5 ?rb6
              case yb6 => intro W hS; obtain ⟨_, s0, s1, s2, s3, s4, s5, s6, s7⟩ := hS; go_simp; try with_reducible rfl
              try simp only [Act.put, List.getElem_toArray, List.getElem_cons_succ, List.getElem_cons_zero, List.setIfInBounds_toArray, List.set_cons_zero, List.set_cons_succ]
              refine held_one (i := 7) (by kernel_rfl) rfl (fun K hK => ?_)
              go_simp
              refine (HFd.out _ (HW5.out.trans ((Below.refl W5.heap.size W5).drew.mono HW5.out.size))).mono ?_
              rintro en W6 ⟨rfl, hbk⟩
              have hbk2 := (Below.refl W5.heap.size W5).drew.trans hbk
              refine hK _ _ (HS5.out _ hbk2) ?_
              clear hK K
              try simp only [Act.put, List.getElem_toArray, List.getElem_cons_succ, List.getElem_cons_zero, List.setIfInBounds_toArray, List.set_cons_zero, List.set_cons_succ]
              refine wpAnyH_take (i := 8) (v := ?vb8) rfl (by kernel_rfl) (by kernel_rfl) (by kernel_rfl) (fun _ _ _ h => h) (Or.inl ⟨by kernel_rfl, ?yb8⟩) (HS5.out _ hbk2) ?rb8
              case yb8 => intro W hS; obtain ⟨_, s0, s1, s2, s3, s4, s5, s6, s7⟩ := hS; go_simp; try with_reducible rfl
              try simp only [Act.put, List.getElem_toArray, List.getElem_cons_succ, List.getElem_cons_zero, List.setIfInBounds_toArray, List.set_cons_zero, List.set_cons_succ]
              refine wpAnyH_take (i := 9) (v := ?vb9) rfl (by kernel_rfl) (by kernel_rfl) (by kernel_rfl) (fun _ _ _ h => h) (Or.inl ⟨by kernel_rfl, ?yb9⟩) (HS5.out _ hbk2) ?rb9
              case yb9 => intro W hS; obtain ⟨_, s0, s1, s2, s3, s4, s5, s6, s7⟩ := hS; go_simp; try with_reducible rfl
              try simp only [Act.put, List.getElem_toArray, List.getElem_cons_succ, List.getElem_cons_zero, List.setIfInBounds_toArray, List.set_cons_zero, List.set_cons_succ]
              refine wpAnyH_take (i := 10) (v := ?vb10) rfl (by kernel_rfl) (by kernel_rfl) (by kernel_rfl) (fun _ _ _ h => h) (Or.inl ⟨by kernel_rfl, ?yb10⟩) (HS5.out _ hbk2) ?rb10
              case yb10 => intro W hS; obtain ⟨_, s0, s1, s2, s3, s4, s5, s6, s7⟩ := hS; go_simp; try with_reducible rfl
              try simp only [Act.put, List.getElem_toArray, List.getElem_cons_succ, List.getElem_cons_zero, List.setIfInBounds_toArray, List.set_cons_zero, List.set_cons_succ]
              refine wpAnyH_take (i := 11) (v := ?vb11) rfl (by kernel_rfl) (by kernel_rfl) (by kernel_rfl) (fun _ _ _ h => h) (Or.inl ⟨by kernel_rfl, ?yb11⟩) (HS5.out _ hbk2) ?rb11
              case yb11 => intro W hS; obtain ⟨_, s0, s1, s2, s3, s4, s5, s6, s7⟩ := hS; go_simp; try with_reducible rfl
              try simp only [Act.put, List.getElem_toArray, List.getElem_cons_succ, List.getElem_cons_zero, List.setIfInBounds_toArray, List.set_cons_zero, List.set_cons_succ]
              refine wpAnyH_take (i := 12) (v := ?vb12) rfl (by kernel_rfl) (by kernel_rfl) (by kernel_rfl) (fun _ _ _ h => h) (Or.inl ⟨by kernel_rfl, ?yb12⟩) (HS5.out _ hbk2) ?rb12
              case yb12 => intro W hS; obtain ⟨_, s0, s1, s2, s3, s4, s5, s6, s7⟩ := hS; go_simp; try with_reducible rfl
              try simp only [Act.put, List.getElem_toArray, List.getElem_cons_succ, List.getElem_cons_zero, List.setIfInBounds_toArray, List.set_cons_zero, List.set_cons_succ]
              refine wpAnyH_done (by kernel_rfl) ?_ _
              have HW6 := hide (HW5.out.trans (hbk2.mono HW5.out.size))
              clear hbk hbk2 hd5 HS5 HFd f0 f1 f2 f3 f4 f5 f6 f7
              cases hwh : whichL bl (signL (winW r n p)) 0 with
              | none =>
                rw [hwh] at HSc
                have HS9 := hide (show scanA bl n g1 (p + 1) (r.drop (p + 1)) (if p + 1 = 0 then nx else 0) = R from by rw [if_neg (by omega)]; rw [← HSc.out]; simp only; rw [List.drop_drop])
                clear hwh HSc
                go_wp2_with fail
                go_roundg g1
                case rel => exact ⟨p + 1, 0, s2, rfl, rfl, rfl, rfl, rfl, by omega, by omega, fun h => absurd h (by omega), hide hws1.symm, HW6, HS9⟩
                case measure => omega
              | some kk =>
                rw [hwh] at HSc
                have hkk := whichL_lt hwh
                have HP9 := hide (show o ++ (litL (r.take p) ++ (copyT kk :: progW litL bl n tl ⟨sw, sh, slo⟩ g0 (r.drop e) (kk + 1))) = V from by have h := HPr.out; rw [← HSc.out] at h; simp only at h; rw [HE.out]; exact h)
                clear hwh HSc
                have HLt := hide (fun (W : World) (q : Below w1.heap.size w1 W) => (show Calls Try.prog 95 #[.slice (some ad) p k'] W fun e w' => ∃ v, e = .returned v ∧ TI W 71 v (litL (r.take p)) w' from by
                  have h := literal_all (some ad) (r.take p) k' W ((HRB.out W q).take _) ⟨by rw [List.length_take]; have := HCap.out.1; omega, fun h => by cases h⟩ (by rw [List.length_take]; omega)
                  rw [List.length_take, Nat.min_eq_left (by omega)] at h
                  exact h))
                have hll := litL_len (r.take p)
                rw [List.length_take] at hll
                have HDr := hide ((HRd.out.1).drop (k := e) HRd.out.2.1)
                have HCd := hide (caps_drop (k := e) HRd.out.2 (by omega))
                have HI6 := hide (HI1.out.step HW6.out)
                have HCp := hide (fun W => copy_any (kk : Nat) 1 W)
                simp only [Tk.cells] at HCp
                have hlt9 : (r.drop e).length = r.length - e := List.length_drop
                generalize litL (r.take p) = lt at HP9 HLt hll
                clear HPr HRB HRow
                go_wp2_with fail
                refine (HLt.out _ HW6.out).mono ?_
                rintro en W7 ⟨v, rfl, hI7⟩
                obtain ⟨D, dl, rfl⟩ := ownsRow_slice hI7.own
                have hI8 := HI6.out.step hI7.below
                have hO8 := hI8.own
                have hB8 := hI8.below
                have hsz8 := hB8.size
                have hRn := RdT.own hI7.own
                clear HLt hI7 hI8 HI6
                go_wp2_with (at_builtin; go_loud (refine wpList_append_toks rfl _ _ 65 rfl w0.heap.size 71 i0 Try.underlying65 hi hz0 hz1 hz2 _ _ _ rfl hO8 D _ dl _ lt rfl rfl hRn (by unfold maxLen; omega) (by omega) hsz8 ?_))
                intro v8 W8 hO9 hg8
                have hB9 := hB8.grown hg8 hB8.size (fun r e => (hO8.lt r e).1)
                obtain ⟨E, g, rfl⟩ := ownsRow_slice hO9
                have HI9 := hide (show TI w0 71 (.slice E (o.length + lt.length) g) (o ++ lt) W8 from ⟨hB9, by rw [cellsT_app, List.length_append]; exact hO9⟩)
                clear hO8 hB8 hsz8 hRn hO9 hg8 hB9
                go_wp2_with fail
                refine (HCp.out _).mono ?_
                rintro en W10 ⟨rfl, hb10⟩
                have hI10 := HI9.out.step hb10
                have hO11 : (W10.alloc (.cells #[.int .i64 (kk : Nat), .int .i64 1, .string ⟨#[]⟩] 71)).ownsRow w0.heap.size 71 3 (.slice E (o.length + lt.length) g) (o.length + lt.length) (cellsT (o ++ lt)) := by have h := hI10.own; rw [List.length_append] at h; exact h.alloc _
                have hRn : RdT (W10.alloc (.cells #[.int .i64 (kk : Nat), .int .i64 1, .string ⟨#[]⟩] 71)) (W10.alloc (.cells #[.int .i64 (kk : Nat), .int .i64 1, .string ⟨#[]⟩] 71)).heap.size (some ⟨W10.heap.size, 0, none⟩) [copyT kk] := RdT.one W10 (copyT kk) 71
                have hB11 := hI10.below.alloc hI10.below.size (.cells #[.int .i64 (kk : Nat), .int .i64 1, .string ⟨#[]⟩] 71)
                have hsz := hB11.size
                clear hb10 hI10 HI9
                go_wp2_with (at_builtin; go_loud (refine wpList_append_toks rfl _ _ 65 rfl w0.heap.size 71 i0 Try.underlying65 hi hz0 hz1 hz2 _ _ _ rfl hO11 (some ⟨W10.heap.size, 0, none⟩) _ 1 _ [copyT kk] rfl rfl hRn (by unfold maxLen; omega) (by omega) hsz ?_))
                intro v12 W12 hO12 hg12
                have hB12 := hB11.grown hg12 hB11.size (fun r e => (hO11.lt r e).1)
                obtain ⟨F, g2, rfl⟩ := ownsRow_slice hO12
                have hlen9 : (o ++ lt ++ [copyT kk]).length = o.length + lt.length + 1 := by rw [List.length_append, List.length_append]; rfl
                have HI12 := hide (show TI w0 71 (.slice F (o ++ lt ++ [copyT kk]).length g2) (o ++ lt ++ [copyT kk]) W12 from ⟨hB12, by rw [cellsT_app, hlen9]; exact hO12⟩)
                rw [hlen9] at HI12
                have HP12 := hide (show (o ++ lt ++ [copyT kk]) ++ progW litL bl n tl ⟨sw, sh, slo⟩ g0 (r.drop e) (kk + 1) = V from by rw [← HP9.out]; simp)
                clear hO11 hRn hB11 hsz hO12 hg12 hB12 HP9
                have hkw : IntKind.i64.wrap ((kk : Int) + 1) = ((kk + 1 : Nat) : Int) := by rw [IntWalk.i64_in _ (by omega)]; rfl
                by_cases hke : k' = e
                · rw [if_pos hke] at HDr HCd
                  go_wp2_with fail
                  go_roundg g0
                  case rel => exact ⟨some ad, F, k' - e, g2, kk + 1, r.drop e, o ++ lt ++ [copyT kk], by rw [hlt9, show k' - e = 0 by omega], by rw [hlen9], rfl, by omega, by rw [hlen9]; omega, by omega, hide ⟨HDr.out, by rw [hlt9]; exact HCd.out⟩, by rw [hlen9]; exact HI12, HP12⟩
                  case measure => omega
                · rw [if_neg hke] at HDr HCd
                  go_wp2_with fail
                  go_roundg g0
                  case rel => exact ⟨some (ad.add e), F, k' - e, g2, kk + 1, r.drop e, o ++ lt ++ [copyT kk], by rw [hlt9], by rw [hlen9], rfl, by omega, by rw [hlen9]; omega, by omega, hide ⟨HDr.out, by rw [hlt9]; exact HCd.out⟩, by rw [hlen9]; exact HI12, HP12⟩
                  case measure => omega
end Go.Proofs.Ytobgbheodlpclaa
