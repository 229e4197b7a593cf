/-
  The reference's Match: row by row.
-/
import Derived.Test.YteoafohebgfjdaaGreatDoorAutoRefRows
import Derived.Deep.RegionHeld3
namespace Go.Proofs.YteoafohebgfjdaaGreatDoor
open Go.RowKit
set_option maxRecDepth 100000

set_option maxHeartbeats 8000000 in
theorem refMatch_any (A : Option Addr) (l : List RPart) (c : Nat) (s : ByteArray) (w : World) (hA : RdP w w.heap.size A l) (hl : l.length ≤ 1000) (hs : (s.size : Int) ≤ 1000000) :
    Calls Tryz.prog 92 #[.slice A l.length c, .string s] w fun e w' => e = .returned (.bool (acc (l.map gOf) (toL s))) ∧ Below w.heap.size w w' := by
  obtain ⟨n, hn⟩ : ∃ n, n = s.size := ⟨_, rfl⟩
  have hni : (s.size : Int) = (n : Int) := by omega
  have HN := hide (show (toL s).length = n by rw [hn]; simp [toL])
  obtain ⟨q, hq⟩ : ∃ q, q = n + 1 := ⟨_, rfl⟩
  have hqi : (n : Int) + 1 = (q : Int) := by omega
  have hqw : IntKind.i64.wrap (q : Int) = (q : Int) := IntWalk.i64_in _ (by omega)
  have hmk := make_any q (by omega)
  have hnq : (n : Int) < (q : Int) := by omega
  have hn6 : (n : Int) ≤ 1000000 := by omega
  have hl3 : (l.length : Int) ≤ 1000 := by omega
  obtain ⟨Z, hZ⟩ : ∃ Z, Z = ((List.replicate q false).map Value.bool).toArray := ⟨_, rfl⟩
  have HZ := hide hZ
  rw [← hZ] at hmk
  have R0 : Row (w.alloc (.cells Z 4)) w.heap.size (List.replicate q false) := by rw [hZ]; exact World.alloc_heap_new w _
  have hB0 := (Below.refl _ w).alloc (Nat.le_refl _) (.cells Z 4)
  have hz0 : Z[n]? = some (.bool false) := by rw [hZ, List.getElem?_toArray, List.getElem?_map, List.getElem?_replicate, if_pos (by omega)]; rfl
  have z0 : (w.alloc (.cells Z 4)).frozen? ⟨w.heap.size, n, none⟩ = false := R0.frozen
  have x0 : (w.alloc (.cells Z 4)).cell? ⟨w.heap.size, n, none⟩ = some (.bool false) := R0.cell (by rw [List.getElem?_replicate, if_pos (by omega)])
  have e2 : (List.replicate q false).set n true = rowL l (toL s) l.length := by
    have h := rowL_end l (toL s)
    rw [HN.out, ← hq] at h
    exact h
  have R2 : Row (w.alloc (.cells (Z.setIfInBounds n (.bool true)) 4)) w.heap.size (rowL l (toL s) l.length) := by
    have h := World.alloc_heap_new w (.cells (Z.setIfInBounds n (.bool true)) 4)
    unfold Row
    rw [h, hZ, ← e2, List.setIfInBounds_toArray, List.map_set]
  have HR := hide (And.intro R2 ((Below.refl _ w).alloc (Nat.le_refl _) (.cells (Z.setIfInBounds n (.bool true)) 4)))
  clear R0 R2 e2 hB0 hn hZ
  have HQ := hide hq
  clear hq
  go_enter Tryz.func92, Tryz.ntmps92
  go_wp2_with fail
  generalize (w.alloc (.cells (Z.setIfInBounds n (.bool true)) 4)) = w2 at HR ⊢
  clear hz0 z0 x0
  have HA := hide hA
  clear hA
  go_loopw [5, 6, 7, 8] (fun v ki _ _ wr => ∃ (j b : Nat), j ≤ l.length ∧ ki = .int .i64 ((j : Int) - 1) ∧ v = .slice (some ⟨b, 0, none⟩) q q ∧ w.heap.size ≤ b ∧ Hid (Row wr b (rowL l (toL s) j) ∧ Below w.heap.size w wr)) (fun _ ki _ _ _ => (intOf ki + 1).toNat)
  case atStart => exact ⟨l.length, w.heap.size, Nat.le_refl _, rfl, rfl, Nat.le_refl _, HR⟩
  case round =>
    clear HR
    obtain ⟨j, b, hj, rfl, rfl, hwb, HT⟩ := hrel
    cases j with
    | zero =>
      have c0 : wr.cell? ⟨b, 0, none⟩ = some (.bool (rowAt l (toL s) 0 0)) := HT.out.1.cell (rowL_at _ _ _ _ (Nat.zero_le _))
      rw [rowAt_zero] at c0
      have HB := hide HT.out.2
      have hq0 : (0 : Int) < (q : Int) := by omega
      clear HT
      go_wp2_with fail
      exact bodyPost_ret (results_tmp rfl _ _ _) rfl ⟨rfl, HB.out⟩
    | succ kk =>
      have e1 : (((kk + 1 : Nat) : Int) - 1) = (kk : Int) := by omega
      rw [e1]
      obtain ⟨p, hp⟩ : ∃ p, l[kk]? = some p := ⟨_, List.getElem?_eq_getElem (by omega)⟩
      have hlb := (Array.getElem?_eq_some_iff.1 HT.out.1).1
      obtain ⟨g, hg⟩ : ∃ g, g = wr.heap.size := ⟨_, rfl⟩
      have Rg : Row (wr.alloc (.cells Z 4)) g (rowTo l (toL s) kk q) := by
        rw [HQ.out, ← HN.out, rowTo_none, HN.out, ← HQ.out, hg]
        rw [HZ.out]; exact World.alloc_heap_new wr _
      have Rb : Row (wr.alloc (.cells Z 4)) b (rowL l (toL s) (kk + 1)) := (Below.heap_alloc _ _ _ hlb).trans HT.out.1
      have hBa := HT.out.2.alloc HT.out.2.size (.cells Z 4)
      have hbg : b ≠ g := by omega
      have hwg : w.heap.size ≤ g := by rw [hg]; exact HT.out.2.size
      have HI := hide (And.intro Rg (And.intro Rb hBa))
      have hki : (kk : Int) < (l.length : Int) := by omega
      clear HT Rg Rb hBa hlb e1
      go_wp2_with fail
      rw [← hg]
      generalize (wr.alloc (.cells Z 4)) = w3 at HI ⊢
      clear hg
      go_loopw [8] (fun ii wr2 => ∃ i : Nat, i ≤ q ∧ ii = .int .i64 ((i : Int) - 1) ∧ Hid (Row wr2 g (rowTo l (toL s) kk i) ∧ Row wr2 b (rowL l (toL s) (kk + 1)) ∧ Below w.heap.size w wr2)) (fun ii _ => (intOf ii + 1).toNat)
      case atStart => exact ⟨q, Nat.le_refl _, by rw [show (q : Int) - 1 = (n : Int) by omega], HI⟩
      case round =>
        clear HI
        obtain ⟨i, hi, rfl, HT⟩ := hrel
        cases i with
        | zero =>
          have h := HT.out
          rw [rowTo_all] at h
          have HX := hide h
          clear h HT
          go_wp2_with fail
          go_roundw
          case rel => exact ⟨kk, g, by omega, by simp, rfl, hwg, hide ⟨HX.out.1, HX.out.2.2⟩⟩
          case measure => simp [intOf]
        | succ ii =>
          have e2 : (((ii + 1 : Nat) : Int) - 1) = (ii : Int) := by omega
          rw [e2]
          obtain ⟨Rg, Rb, hB⟩ := HT.out
          obtain ⟨ad, A', c', rfl, hblk, hrA, hpl, hc0⟩ := HA.out kk p hp
          have hc := fun j v hv => (hB.cell (p := (ad.add (kk * 4)).add j) (by rw [add_block, add_block]; omega)).trans (hc0 j v hv)
          have pc0 : wr.cell? (ad.add (kk * 4)) = some (.int .i64 p.many) := hc 0 _ rfl
          have pc1 : wr.cell? ⟨(ad.add (kk * 4)).block, (ad.add (kk * 4)).off + 1, none⟩ = some (.slice A' p.ins.length c') := hc 1 _ rfl
          have pc2 : wr.cell? ⟨(ad.add (kk * 4)).block, (ad.add (kk * 4)).off + 2, none⟩ = some (.bool p.no) := hc 2 _ rfl
          have pc3 : wr.cell? ⟨(ad.add (kk * 4)).block, (ad.add (kk * 4)).off + 3, none⟩ = some (.bool p.any) := hc 3 _ rfl
          have hgl := HN.out
          have hqq := HQ.out
          have cg : wr.cell? ⟨g, ii, none⟩ = some (.bool false) := Rg.cell (by unfold rowTo; rw [List.getElem?_map, List.getElem?_range (by omega), Option.map_some, if_neg (by omega)])
          have zg : wr.frozen? ⟨g, ii, none⟩ = false := Rg.frozen
          have hpe : l[kk]'(by omega) = p := by have h := List.getElem?_eq_some_iff.1 hp; exact h.2
          have hiq : (ii : Int) < (q : Int) := by omega
          clear hc hc0
          have hB' : Below w.heap.size w wr.drew := ⟨hB.os, hB.tape, hB.output, hB.size, hB.block⟩
          have hadg : (ad.add (kk * 4)).block ≠ g := by rw [add_block]; omega
          have hmg : ∀ (x : Nat) (rv : Bool), wr.cell? ⟨b, x, none⟩ = some (.bool rv) → MS w (ad.add (kk * 4)) A' c' p b g ii x rv (rowL l (toL s) (kk + 1)) (rowTo l (toL s) kk (ii + 1)) wr.drew := by
            intro x rv hx
            have e6 : wr.drew.cell? ⟨g, ii, none⟩ = some (.bool false) := cg
            have r9 : Row wr.drew g ((rowTo l (toL s) kk (ii + 1)).set ii false) := by
              have h : (rowTo l (toL s) kk (ii + 1)).set ii false = rowTo l (toL s) kk (ii + 1) := by
                apply List.ext_getElem?
                intro y
                rw [List.getElem?_set]
                by_cases hy : ii = y
                · subst hy
                  unfold rowTo
                  rw [if_pos rfl, List.getElem?_map, List.getElem?_range (by omega), List.length_map, List.length_range, if_pos (by omega), Option.map_some, if_neg (by omega)]
                · rw [if_neg hy]
              rw [h]; exact Rg
            exact ⟨hB', pc0, pc1, pc2, pc3, hx, by rw [boolIn_of e6]; exact e6, zg, Rb, by rw [boolIn_of e6]; exact r9⟩
          by_cases hm0 : p.many = 0
          · have mk : (p.many == 0) = true := by rw [hm0]; rfl
            by_cases hin : ii < n
            · have hin2 : (ii : Int) < (n : Int) := by omega
              have hsi : ii < s.size := by omega
              have hsl : ii < (toL s).length := by omega
              obtain ⟨i1, hi1⟩ : ∃ i1, i1 = ii + 1 := ⟨_, rfl⟩
              have hii : (ii : Int) + 1 = (i1 : Int) := by omega
              have hi1w : IntKind.i64.wrap (i1 : Int) = (i1 : Int) := IntWalk.i64_in _ (by omega)
              have hi1q : (i1 : Int) < (q : Int) := by omega
              obtain ⟨x, hx⟩ : ∃ x, s[ii]'hsi = x := ⟨_, rfl⟩
              have hxl : (toL s)[ii]'hsl = x := hx
              obtain ⟨rv, hrv⟩ : ∃ rv, rv = rowAt l (toL s) (kk + 1) i1 := ⟨_, rfl⟩
              have cb : wr.cell? ⟨b, i1, none⟩ = some (.bool rv) := by rw [hrv]; exact Rb.cell (rowL_at _ _ _ _ (by omega))
              have hm0S := hmg _ _ cb
              have hv0 := rowAt_one l (toL s) kk ii (by omega) hsl (by rw [hpe]; exact hm0)
              rw [hpe, hxl, ← hi1, ← hrv] at hv0
              obtain ⟨sv, hsv⟩ : ∃ sv, sv = standsR p x := ⟨_, rfl⟩
              rw [← hsv] at hv0
              have HV := hide hv0
              have HS := hide (fun (W : World) (hW : Below w.heap.size w W) => show Calls Tryz.prog 104 #[.agg #[.int .i64 p.many, .slice A' p.ins.length c', .bool p.no, .bool p.any], .int .u8 x.toNat] W fun e w' => e = .returned (.bool sv) ∧ Below W.heap.size W w' from by
                rw [hsv]; exact stands_any p A' c' x W ((hrA.below hW (Nat.le_refl _)).mono hW.size) hpl)
              have HHI := hide hi1
              clear hv0 hsv hrv Rg Rb hB hB' hrA hsl hxl hi1 hgl hqq hpe hp HT e2 hm0 hblk cg zg pc1 pc2 pc3 cb hmg
              cases sv with
              | true =>
                go_wp2_with fail
                clear pc0
                refine wp_region_noPanic ?_
                go_region_held (fun w' => Below w.heap.size w w' ∧ w'.cell? (ad.add (kk * 4)) = some (.int .i64 p.many) ∧ w'.cell? ⟨(ad.add (kk * 4)).block, (ad.add (kk * 4)).off + 1, none⟩ = some (.slice A' p.ins.length c') ∧ w'.cell? ⟨(ad.add (kk * 4)).block, (ad.add (kk * 4)).off + 2, none⟩ = some (.bool p.no) ∧ w'.cell? ⟨(ad.add (kk * 4)).block, (ad.add (kk * 4)).off + 3, none⟩ = some (.bool p.any) ∧ w'.cell? ⟨b, i1, none⟩ = some (.bool rv) ∧ w'.cell? ⟨g, ii, none⟩ = some (.bool (boolIn ⟨g, ii, none⟩ w')) ∧ w'.frozen? ⟨g, ii, none⟩ = false ∧ Row w' b (rowL l (toL s) (kk + 1)) ∧ Row w' g ((rowTo l (toL s) kk (ii + 1)).set ii (boolIn ⟨g, ii, none⟩ w')))
                  (first
                    | assumption
                    | exact hm0S
                    | exact MS.call (by assumption) hbk
                    | exact MS.store (by assumption) hadg hbg hwg _)
                  (first | (go_at_call 104; refine (HS.out _ (And.left (by assumption))).mono ?_; rintro e wk ⟨rfl, hbk⟩))
                all_goals
                  rename_i hH2
                  refine NoPanic.normal ?_
                  have HF := hide hH2
                  clear hH2
                  have HX := hide (MS.fin' HF.out HV.out)
                  clear HF hm0S
                  go_wp2_with fail
                  go_roundw
                  case rel => exact ⟨ii, by omega, rfl, HX⟩
                  case measure => simp [intOf]
              | false =>
                go_wp2_with fail
                clear pc0
                have HK := hide (fun (wk : World) (hbk : Below wr.drew.heap.size wr.drew wk) => hm0S.call hbk)
                obtain ⟨hbw, q0, q1, q2, q3, q4, _⟩ := hm0S
                refine wp_region_noPanic ?_
                refine wp_region_any (by kernel_rfl) ?_
                change wpAny _ _ _ _ _ _ _ (World.drew _)
                refine wpAny_take (i := 0) (v := .slice (some ⟨g, 0, none⟩) q q) rfl (by kernel_rfl) (by kernel_rfl) (by kernel_rfl) (fun _ _ _ h => h) (Or.inl ⟨by kernel_rfl, fun W => by go_simp⟩) ?_
                try simp only [Act.put, List.getElem_toArray, List.getElem_cons_zero, List.setIfInBounds_toArray, List.set_cons_zero, List.set_cons_succ]
                refine wpAny_take (i := 1) (v := .int .i64 (ii : Nat)) rfl (by kernel_rfl) (by kernel_rfl) (by kernel_rfl) (fun _ _ _ h => h) (Or.inl ⟨by kernel_rfl, fun W => by go_simp⟩) ?_
                try simp only [Act.put, List.getElem_toArray, List.getElem_cons_succ, List.getElem_cons_zero, List.setIfInBounds_toArray, List.set_cons_zero, List.set_cons_succ]
                refine wpAny_take (i := 2) (v := .int .i64 (ii : Nat)) rfl (by kernel_rfl) (by kernel_rfl) (by kernel_rfl) (fun _ _ _ h => h) (Or.inl ⟨by kernel_rfl, fun W => by go_simp⟩) ?_
                try simp only [Act.put, List.getElem_toArray, List.getElem_cons_succ, List.getElem_cons_zero, List.setIfInBounds_toArray, List.set_cons_zero, List.set_cons_succ]
                refine wpAny_take (i := 3) (v := .string s) rfl (by kernel_rfl) (by kernel_rfl) (by kernel_rfl) (fun _ _ _ h => h) (Or.inl ⟨by kernel_rfl, fun W => by go_simp⟩) ?_
                try simp only [Act.put, List.getElem_toArray, List.getElem_cons_succ, List.getElem_cons_zero, List.setIfInBounds_toArray, List.set_cons_zero, List.set_cons_succ]
                refine wpAny_take (i := 4) (v := .int .i64 (n : Nat)) rfl (by kernel_rfl) (by kernel_rfl) (by kernel_rfl) (fun _ _ _ h => h) (Or.inl ⟨by kernel_rfl, fun W => by go_simp⟩) ?_
                try simp only [Act.put, List.getElem_toArray, List.getElem_cons_succ, List.getElem_cons_zero, List.setIfInBounds_toArray, List.set_cons_zero, List.set_cons_succ]
                refine wpAny_take (i := 5) (v := .bool true) rfl (by kernel_rfl) (by kernel_rfl) (by kernel_rfl) (fun _ _ _ h => h) (Or.inl ⟨by kernel_rfl, fun W => by go_simp⟩) ?_
                try simp only [Act.put, List.getElem_toArray, List.getElem_cons_succ, List.getElem_cons_zero, List.setIfInBounds_toArray, List.set_cons_zero, List.set_cons_succ]
                refine wpAny_take (i := 6) (v := .bool true) rfl (by kernel_rfl) (by kernel_rfl) (by kernel_rfl) (fun _ _ _ h => h) (Or.inl ⟨by kernel_rfl, fun W => by go_simp⟩) ?_
                try simp only [Act.put, List.getElem_toArray, List.getElem_cons_succ, List.getElem_cons_zero, List.setIfInBounds_toArray, List.set_cons_zero, List.set_cons_succ]
                refine wpAny_take (i := 7) (v := .slice (some ad) l.length c) rfl (by kernel_rfl) (by kernel_rfl) (by kernel_rfl) (fun _ _ _ h => h) (Or.inl ⟨by kernel_rfl, fun W => by go_simp⟩) ?_
                try simp only [Act.put, List.getElem_toArray, List.getElem_cons_succ, List.getElem_cons_zero, List.setIfInBounds_toArray, List.set_cons_zero, List.set_cons_succ]
                refine wpAny_take (i := 8) (v := .int .i64 (kk : Nat)) rfl (by kernel_rfl) (by kernel_rfl) (by kernel_rfl) (fun _ _ _ h => h) (Or.inl ⟨by kernel_rfl, fun W => by go_simp⟩) ?_
                try simp only [Act.put, List.getElem_toArray, List.getElem_cons_succ, List.getElem_cons_zero, List.setIfInBounds_toArray, List.set_cons_zero, List.set_cons_succ]
                refine wpAny_take (i := 9) (v := .pointer (some (ad.add (kk * 4)))) rfl (by kernel_rfl) (by kernel_rfl) (by kernel_rfl) (fun _ _ _ h => h) (Or.inl ⟨by kernel_rfl, fun W => by go_simp⟩) ?_
                try simp only [Act.put, List.getElem_toArray, List.getElem_cons_succ, List.getElem_cons_zero, List.setIfInBounds_toArray, List.set_cons_zero, List.set_cons_succ]
                refine wpAny_take (i := 11) (v := .string s) rfl (by kernel_rfl) (by kernel_rfl) (by kernel_rfl) (fun _ _ _ h => h) (Or.inl ⟨by kernel_rfl, fun W => by go_simp⟩) ?_
                try simp only [Act.put, List.getElem_toArray, List.getElem_cons_succ, List.getElem_cons_zero, List.setIfInBounds_toArray, List.set_cons_zero, List.set_cons_succ]
                refine wpAny_take (i := 12) (v := .int .i64 (ii : Nat)) rfl (by kernel_rfl) (by kernel_rfl) (by kernel_rfl) (fun _ _ _ h => h) (Or.inl ⟨by kernel_rfl, fun W => by go_simp⟩) ?_
                try simp only [Act.put, List.getElem_toArray, List.getElem_cons_succ, List.getElem_cons_zero, List.setIfInBounds_toArray, List.set_cons_zero, List.set_cons_succ]
                refine wpAny_take (i := 13) (v := .int .u8 x.toNat) rfl (by kernel_rfl) (by kernel_rfl) (by kernel_rfl) (fun _ _ _ h => h) (Or.inl ⟨by kernel_rfl, fun W => by go_simp⟩) ?_
                try simp only [Act.put, List.getElem_toArray, List.getElem_cons_succ, List.getElem_cons_zero, List.setIfInBounds_toArray, List.set_cons_zero, List.set_cons_succ]
                refine wpAny_ready (rs := [10]) (by kernel_rfl) (by simp) ?_
                refine AllReady.cons rfl (fun K hK => ?_) AllReady.nil
                go_simp
                refine hK _ _ ?_
                clear hK K
                try simp only [Act.put, List.getElem_toArray, List.getElem_cons_succ, List.getElem_cons_zero, List.setIfInBounds_toArray, List.set_cons_zero, List.set_cons_succ]
                refine wpAny_ready (rs := [14]) (by kernel_rfl) (by simp) ?_
                refine AllReady.cons rfl (fun K hK => ?_) AllReady.nil
                go_simp
                refine (HS.out _ hbw).mono ?_
                rintro e wk ⟨rfl, hbk⟩
                have hMS := HK.out wk hbk
                have k6 := hMS.2.2.2.2.2.2.1
                have k7 := hMS.2.2.2.2.2.2.2.1
                have hMZ := hMS.store hadg hbg hwg false
                clear hMS
                refine hK _ _ ?_
                clear hK K
                try simp only [Act.put, List.getElem_toArray, List.getElem_cons_succ, List.getElem_cons_zero, List.setIfInBounds_toArray, List.set_cons_zero, List.set_cons_succ]
                refine wpAny_take (i := 15) (v := .bool false) rfl (by kernel_rfl) (by kernel_rfl) (by kernel_rfl) (fun _ _ _ h => h) (Or.inl ⟨by kernel_rfl, fun W => by go_simp⟩) ?_
                try simp only [Act.put, List.getElem_toArray, List.getElem_cons_succ, List.getElem_cons_zero, List.setIfInBounds_toArray, List.set_cons_zero, List.set_cons_succ]
                refine wpAny_take (i := 16) (v := .bool false) rfl (by kernel_rfl) (by kernel_rfl) (by kernel_rfl) (fun _ _ _ h => h) (Or.inl ⟨by kernel_rfl, fun W => by go_simp⟩) ?_
                try simp only [Act.put, List.getElem_toArray, List.getElem_cons_succ, List.getElem_cons_zero, List.setIfInBounds_toArray, List.set_cons_zero, List.set_cons_succ]
                refine wpAny_take (i := 17) (v := undef) rfl (by kernel_rfl) (by kernel_rfl) (by kernel_rfl) (fun _ _ _ h => h) (Or.inr ⟨by kernel_rfl, rfl⟩) ?_
                try simp only [Act.put, List.getElem_toArray, List.getElem_cons_succ, List.getElem_cons_zero, List.setIfInBounds_toArray, List.set_cons_zero, List.set_cons_succ]
                refine wpAny_take (i := 18) (v := undef) rfl (by kernel_rfl) (by kernel_rfl) (by kernel_rfl) (fun _ _ _ h => h) (Or.inr ⟨by kernel_rfl, rfl⟩) ?_
                try simp only [Act.put, List.getElem_toArray, List.getElem_cons_succ, List.getElem_cons_zero, List.setIfInBounds_toArray, List.set_cons_zero, List.set_cons_succ]
                refine wpAny_take (i := 19) (v := undef) rfl (by kernel_rfl) (by kernel_rfl) (by kernel_rfl) (fun _ _ _ h => h) (Or.inr ⟨by kernel_rfl, rfl⟩) ?_
                try simp only [Act.put, List.getElem_toArray, List.getElem_cons_succ, List.getElem_cons_zero, List.setIfInBounds_toArray, List.set_cons_zero, List.set_cons_succ]
                refine wpAny_take (i := 20) (v := undef) rfl (by kernel_rfl) (by kernel_rfl) (by kernel_rfl) (fun _ _ _ h => h) (Or.inr ⟨by kernel_rfl, rfl⟩) ?_
                try simp only [Act.put, List.getElem_toArray, List.getElem_cons_succ, List.getElem_cons_zero, List.setIfInBounds_toArray, List.set_cons_zero, List.set_cons_succ]
                refine wpAny_take (i := 21) (v := undef) rfl (by kernel_rfl) (by kernel_rfl) (by kernel_rfl) (fun _ _ _ h => h) (Or.inr ⟨by kernel_rfl, rfl⟩) ?_
                try simp only [Act.put, List.getElem_toArray, List.getElem_cons_succ, List.getElem_cons_zero, List.setIfInBounds_toArray, List.set_cons_zero, List.set_cons_succ]
                refine wpAny_take (i := 22) (v := .bool false) rfl (by kernel_rfl) (by kernel_rfl) (by kernel_rfl) (fun _ _ _ h => h) (Or.inl ⟨by kernel_rfl, fun W => by go_simp⟩) ?_
                try simp only [Act.put, List.getElem_toArray, List.getElem_cons_succ, List.getElem_cons_zero, List.setIfInBounds_toArray, List.set_cons_zero, List.set_cons_succ]
                refine wpAny_take (i := 23) (v := .pointer (some ⟨g, ii, none⟩)) rfl (by kernel_rfl) (by kernel_rfl) (by kernel_rfl) (fun _ _ _ h => h) (Or.inl ⟨by kernel_rfl, fun W => by go_simp⟩) ?_
                try simp only [Act.put, List.getElem_toArray, List.getElem_cons_succ, List.getElem_cons_zero, List.setIfInBounds_toArray, List.set_cons_zero, List.set_cons_succ]
                refine wpAny_ready (rs := [24]) (by kernel_rfl) (by simp) ?_
                refine AllReady.cons rfl (fun K hK => ?_) AllReady.nil
                go_simp
                refine hK _ _ ?_
                clear hK K
                try simp only [Act.put, List.getElem_toArray, List.getElem_cons_succ, List.getElem_cons_zero, List.setIfInBounds_toArray, List.set_cons_zero, List.set_cons_succ]
                refine wpAny_done (by kernel_rfl) ?_ _
                refine NoPanic.normal ?_
                have HX := hide (MS.fin' hMZ HV.out)
                clear hMZ k6 k7 q0 q1 q2 q3 q4 hbw hbk
                go_wp2_with fail
                go_roundw
                case rel => exact ⟨ii, by omega, rfl, HX⟩
                case measure => simp [intOf]
            · have hnn : ¬ ((ii : Nat) : Int) < (n : Int) := by omega
              have cg' : wr.drew.cell? ⟨g, ii, none⟩ = some (.bool false) := cg
              have zg' : wr.drew.frozen? ⟨g, ii, none⟩ = false := zg
              have hv : rowAt l (toL s) kk ii = false := by rw [show ii = (toL s).length by omega]; exact rowAt_one_end l (toL s) kk (by omega) (by rw [hpe]; exact hm0)
              have hX0 := hide (And.intro Rg (And.intro Rb hB'))
              have HV := hide hv
              clear hmg cg zg hgl hqq hpe hB hB' Rg Rb hv
              go_wp2_with fail
              refine wp_region_noPanic ?_
              refine wp_region_any (by kernel_rfl) ?_
              change wpAny _ _ _ _ _ _ _ (World.drew _)
              refine wpAny_take (i := 0) (v := .slice (some ⟨g, 0, none⟩) q q) rfl (by kernel_rfl) (by kernel_rfl) (by kernel_rfl) (fun _ _ _ h => h) (Or.inl ⟨by kernel_rfl, fun W => by go_simp⟩) ?_
              try simp only [Act.put, List.getElem_toArray, List.getElem_cons_zero, List.setIfInBounds_toArray, List.set_cons_zero, List.set_cons_succ]
              refine wpAny_take (i := 1) (v := .int .i64 (ii : Nat)) rfl (by kernel_rfl) (by kernel_rfl) (by kernel_rfl) (fun _ _ _ h => h) (Or.inl ⟨by kernel_rfl, fun W => by go_simp⟩) ?_
              try simp only [Act.put, List.getElem_toArray, List.getElem_cons_succ, List.getElem_cons_zero, List.setIfInBounds_toArray, List.set_cons_zero, List.set_cons_succ]
              refine wpAny_take (i := 2) (v := .int .i64 (ii : Nat)) rfl (by kernel_rfl) (by kernel_rfl) (by kernel_rfl) (fun _ _ _ h => h) (Or.inl ⟨by kernel_rfl, fun W => by go_simp⟩) ?_
              try simp only [Act.put, List.getElem_toArray, List.getElem_cons_succ, List.getElem_cons_zero, List.setIfInBounds_toArray, List.set_cons_zero, List.set_cons_succ]
              refine wpAny_take (i := 3) (v := .string s) rfl (by kernel_rfl) (by kernel_rfl) (by kernel_rfl) (fun _ _ _ h => h) (Or.inl ⟨by kernel_rfl, fun W => by go_simp⟩) ?_
              try simp only [Act.put, List.getElem_toArray, List.getElem_cons_succ, List.getElem_cons_zero, List.setIfInBounds_toArray, List.set_cons_zero, List.set_cons_succ]
              refine wpAny_take (i := 4) (v := .int .i64 (n : Nat)) rfl (by kernel_rfl) (by kernel_rfl) (by kernel_rfl) (fun _ _ _ h => h) (Or.inl ⟨by kernel_rfl, fun W => by go_simp⟩) ?_
              try simp only [Act.put, List.getElem_toArray, List.getElem_cons_succ, List.getElem_cons_zero, List.setIfInBounds_toArray, List.set_cons_zero, List.set_cons_succ]
              refine wpAny_take (i := 5) (v := .bool false) rfl (by kernel_rfl) (by kernel_rfl) (by kernel_rfl) (fun _ _ _ h => h) (Or.inl ⟨by kernel_rfl, fun W => by go_simp⟩) ?_
              try simp only [Act.put, List.getElem_toArray, List.getElem_cons_succ, List.getElem_cons_zero, List.setIfInBounds_toArray, List.set_cons_zero, List.set_cons_succ]
              refine wpAny_take (i := 6) (v := .bool false) rfl (by kernel_rfl) (by kernel_rfl) (by kernel_rfl) (fun _ _ _ h => h) (Or.inl ⟨by kernel_rfl, fun W => by go_simp⟩) ?_
              try simp only [Act.put, List.getElem_toArray, List.getElem_cons_succ, List.getElem_cons_zero, List.setIfInBounds_toArray, List.set_cons_zero, List.set_cons_succ]
              refine wpAny_take (i := 7) (v := undef) rfl (by kernel_rfl) (by kernel_rfl) (by kernel_rfl) (fun _ _ _ h => h) (Or.inr ⟨by kernel_rfl, rfl⟩) ?_
              try simp only [Act.put, List.getElem_toArray, List.getElem_cons_succ, List.getElem_cons_zero, List.setIfInBounds_toArray, List.set_cons_zero, List.set_cons_succ]
              refine wpAny_take (i := 8) (v := undef) rfl (by kernel_rfl) (by kernel_rfl) (by kernel_rfl) (fun _ _ _ h => h) (Or.inr ⟨by kernel_rfl, rfl⟩) ?_
              try simp only [Act.put, List.getElem_toArray, List.getElem_cons_succ, List.getElem_cons_zero, List.setIfInBounds_toArray, List.set_cons_zero, List.set_cons_succ]
              refine wpAny_take (i := 9) (v := undef) rfl (by kernel_rfl) (by kernel_rfl) (by kernel_rfl) (fun _ _ _ h => h) (Or.inr ⟨by kernel_rfl, rfl⟩) ?_
              try simp only [Act.put, List.getElem_toArray, List.getElem_cons_succ, List.getElem_cons_zero, List.setIfInBounds_toArray, List.set_cons_zero, List.set_cons_succ]
              refine wpAny_take (i := 10) (v := undef) rfl (by kernel_rfl) (by kernel_rfl) (by kernel_rfl) (fun _ _ _ h => h) (Or.inr ⟨by kernel_rfl, rfl⟩) ?_
              try simp only [Act.put, List.getElem_toArray, List.getElem_cons_succ, List.getElem_cons_zero, List.setIfInBounds_toArray, List.set_cons_zero, List.set_cons_succ]
              refine wpAny_take (i := 11) (v := undef) rfl (by kernel_rfl) (by kernel_rfl) (by kernel_rfl) (fun _ _ _ h => h) (Or.inr ⟨by kernel_rfl, rfl⟩) ?_
              try simp only [Act.put, List.getElem_toArray, List.getElem_cons_succ, List.getElem_cons_zero, List.setIfInBounds_toArray, List.set_cons_zero, List.set_cons_succ]
              refine wpAny_take (i := 12) (v := undef) rfl (by kernel_rfl) (by kernel_rfl) (by kernel_rfl) (fun _ _ _ h => h) (Or.inr ⟨by kernel_rfl, rfl⟩) ?_
              try simp only [Act.put, List.getElem_toArray, List.getElem_cons_succ, List.getElem_cons_zero, List.setIfInBounds_toArray, List.set_cons_zero, List.set_cons_succ]
              refine wpAny_take (i := 13) (v := undef) rfl (by kernel_rfl) (by kernel_rfl) (by kernel_rfl) (fun _ _ _ h => h) (Or.inr ⟨by kernel_rfl, rfl⟩) ?_
              try simp only [Act.put, List.getElem_toArray, List.getElem_cons_succ, List.getElem_cons_zero, List.setIfInBounds_toArray, List.set_cons_zero, List.set_cons_succ]
              refine wpAny_take (i := 14) (v := undef) rfl (by kernel_rfl) (by kernel_rfl) (by kernel_rfl) (fun _ _ _ h => h) (Or.inr ⟨by kernel_rfl, rfl⟩) ?_
              try simp only [Act.put, List.getElem_toArray, List.getElem_cons_succ, List.getElem_cons_zero, List.setIfInBounds_toArray, List.set_cons_zero, List.set_cons_succ]
              refine wpAny_take (i := 15) (v := .bool false) rfl (by kernel_rfl) (by kernel_rfl) (by kernel_rfl) (fun _ _ _ h => h) (Or.inl ⟨by kernel_rfl, fun W => by go_simp⟩) ?_
              try simp only [Act.put, List.getElem_toArray, List.getElem_cons_succ, List.getElem_cons_zero, List.setIfInBounds_toArray, List.set_cons_zero, List.set_cons_succ]
              refine wpAny_take (i := 16) (v := .bool false) rfl (by kernel_rfl) (by kernel_rfl) (by kernel_rfl) (fun _ _ _ h => h) (Or.inl ⟨by kernel_rfl, fun W => by go_simp⟩) ?_
              try simp only [Act.put, List.getElem_toArray, List.getElem_cons_succ, List.getElem_cons_zero, List.setIfInBounds_toArray, List.set_cons_zero, List.set_cons_succ]
              refine wpAny_take (i := 17) (v := undef) rfl (by kernel_rfl) (by kernel_rfl) (by kernel_rfl) (fun _ _ _ h => h) (Or.inr ⟨by kernel_rfl, rfl⟩) ?_
              try simp only [Act.put, List.getElem_toArray, List.getElem_cons_succ, List.getElem_cons_zero, List.setIfInBounds_toArray, List.set_cons_zero, List.set_cons_succ]
              refine wpAny_take (i := 18) (v := undef) rfl (by kernel_rfl) (by kernel_rfl) (by kernel_rfl) (fun _ _ _ h => h) (Or.inr ⟨by kernel_rfl, rfl⟩) ?_
              try simp only [Act.put, List.getElem_toArray, List.getElem_cons_succ, List.getElem_cons_zero, List.setIfInBounds_toArray, List.set_cons_zero, List.set_cons_succ]
              refine wpAny_take (i := 19) (v := undef) rfl (by kernel_rfl) (by kernel_rfl) (by kernel_rfl) (fun _ _ _ h => h) (Or.inr ⟨by kernel_rfl, rfl⟩) ?_
              try simp only [Act.put, List.getElem_toArray, List.getElem_cons_succ, List.getElem_cons_zero, List.setIfInBounds_toArray, List.set_cons_zero, List.set_cons_succ]
              refine wpAny_take (i := 20) (v := undef) rfl (by kernel_rfl) (by kernel_rfl) (by kernel_rfl) (fun _ _ _ h => h) (Or.inr ⟨by kernel_rfl, rfl⟩) ?_
              try simp only [Act.put, List.getElem_toArray, List.getElem_cons_succ, List.getElem_cons_zero, List.setIfInBounds_toArray, List.set_cons_zero, List.set_cons_succ]
              refine wpAny_take (i := 21) (v := undef) rfl (by kernel_rfl) (by kernel_rfl) (by kernel_rfl) (fun _ _ _ h => h) (Or.inr ⟨by kernel_rfl, rfl⟩) ?_
              try simp only [Act.put, List.getElem_toArray, List.getElem_cons_succ, List.getElem_cons_zero, List.setIfInBounds_toArray, List.set_cons_zero, List.set_cons_succ]
              refine wpAny_take (i := 22) (v := .bool false) rfl (by kernel_rfl) (by kernel_rfl) (by kernel_rfl) (fun _ _ _ h => h) (Or.inl ⟨by kernel_rfl, fun W => by go_simp⟩) ?_
              try simp only [Act.put, List.getElem_toArray, List.getElem_cons_succ, List.getElem_cons_zero, List.setIfInBounds_toArray, List.set_cons_zero, List.set_cons_succ]
              refine wpAny_take (i := 23) (v := .pointer (some ⟨g, ii, none⟩)) rfl (by kernel_rfl) (by kernel_rfl) (by kernel_rfl) (fun _ _ _ h => h) (Or.inl ⟨by kernel_rfl, fun W => by go_simp⟩) ?_
              try simp only [Act.put, List.getElem_toArray, List.getElem_cons_succ, List.getElem_cons_zero, List.setIfInBounds_toArray, List.set_cons_zero, List.set_cons_succ]
              refine wpAny_ready (rs := [24]) (by kernel_rfl) (by simp) ?_
              refine AllReady.cons rfl (fun K hK => ?_) AllReady.nil
              go_simp
              refine hK _ _ ?_
              clear hK K
              try simp only [Act.put, List.getElem_toArray, List.getElem_cons_succ, List.getElem_cons_zero, List.setIfInBounds_toArray, List.set_cons_zero, List.set_cons_succ]
              refine wpAny_done (by kernel_rfl) ?_ _
              refine NoPanic.normal ?_
              have HX := hide (row_fin (W := wr.drew) hX0.out.1 hX0.out.2.1 hX0.out.2.2 hbg hwg HV.out)
              clear hX0 cg' zg'
              go_wp2_with fail
              go_roundw
              case rel => exact ⟨ii, by omega, rfl, HX⟩
              case measure => simp [intOf]
          · have mk : (p.many == 0) = false := beq_eq_false_iff_ne.2 hm0
            obtain ⟨r1, hr1⟩ : ∃ r1, r1 = rowAt l (toL s) (kk + 1) ii := ⟨_, rfl⟩
            have cb : wr.cell? ⟨b, ii, none⟩ = some (.bool r1) := by rw [hr1]; exact Rb.cell (rowL_at _ _ _ _ (by omega))
            by_cases hin : ii < n
            · have hin2 : (ii : Int) < (n : Int) := by omega
              have hsi : ii < s.size := by omega
              have hsl : ii < (toL s).length := by omega
              obtain ⟨i1, hi1⟩ : ∃ i1, i1 = ii + 1 := ⟨_, rfl⟩
              have hii : (ii : Int) + 1 = (i1 : Int) := by omega
              have hi1w : IntKind.i64.wrap (i1 : Int) = (i1 : Int) := IntWalk.i64_in _ (by omega)
              have hi1q : (i1 : Int) < (q : Int) := by omega
              obtain ⟨x, hx⟩ : ∃ x, s[ii]'hsi = x := ⟨_, rfl⟩
              have hxl : (toL s)[ii]'hsl = x := hx
              obtain ⟨r2, hr2⟩ : ∃ r2, r2 = rowAt l (toL s) kk i1 := ⟨_, rfl⟩
              have cg1 : wr.cell? ⟨g, i1, none⟩ = some (.bool r2) := by rw [hr2]; exact Rg.cell (rowTo_at _ _ _ _ _ (by omega) (by omega))
              have hv0 := rowAt_many l (toL s) kk ii (by omega) hsl (by rw [hpe]; exact hm0)
              rw [hpe, hxl, ← hi1, ← hr1, ← hr2] at hv0
              have hx4 := beq47 x
              cases r1 with
              | true =>
                have HX := hide (row_fin (W := wr) Rg Rb hB hbg hwg (show rowAt l (toL s) kk ii = true by rw [hv0]; rfl))
                clear hv0 Rg Rb hB hB' hrA hgl hqq hpe hp HT e2 hm0 hblk pc1 pc2 pc3 hmg hr1 hsl hxl hi1 hr2
                go_wp2_with fail
                go_roundw
                case rel => exact ⟨ii, by omega, rfl, HX⟩
                case measure => simp [intOf]
              | false =>
                by_cases h2 : p.many = 2
                · have m2 : (p.many == 2) = true := by rw [h2]; rfl
                  have HX := hide (row_fin (W := wr) Rg Rb hB hbg hwg (show rowAt l (toL s) kk ii = r2 by rw [hv0]; simp [h2]))
                  clear hv0 Rg Rb hB hB' hrA hgl hqq hpe hp HT e2 hm0 hblk pc1 pc2 pc3 hmg hr1 hsl hxl hi1 hr2 h2
                  go_wp2_with fail
                  go_roundw
                  case rel => exact ⟨ii, by omega, rfl, HX⟩
                  case measure => simp [intOf]
                · have m2 : (p.many == 2) = false := beq_eq_false_iff_ne.2 h2
                  cases hx47 : (x == 47) with
                  | true =>
                    rw [hx47] at hx4 hv0
                    have HX := hide (row_fin (W := wr) Rg Rb hB hbg hwg (show rowAt l (toL s) kk ii = false by rw [hv0]; simp [h2]))
                    clear hv0 Rg Rb hB hB' hrA hgl hqq hpe hp HT e2 hm0 hblk pc1 pc2 pc3 hmg hr1 hsl hxl hi1 hr2 h2 hx47
                    go_wp2_with fail
                    go_roundw
                    case rel => exact ⟨ii, by omega, rfl, HX⟩
                    case measure => simp [intOf]
                  | false =>
                    rw [hx47] at hx4 hv0
                    have HX := hide (row_fin (W := wr) Rg Rb hB hbg hwg (show rowAt l (toL s) kk ii = r2 by rw [hv0]; simp [h2]))
                    clear hv0 Rg Rb hB hB' hrA hgl hqq hpe hp HT e2 hm0 hblk pc1 pc2 pc3 hmg hr1 hsl hxl hi1 hr2 h2 hx47
                    go_wp2_with fail
                    go_roundw
                    case rel => exact ⟨ii, by omega, rfl, HX⟩
                    case measure => simp [intOf]
            · have hnn : ¬ ((ii : Nat) : Int) < (n : Int) := by omega
              have hv0 : rowAt l (toL s) kk ii = r1 := by
                rw [hr1, show ii = (toL s).length by omega]; exact rowAt_many_end l (toL s) kk (by omega) (by rw [hpe]; exact hm0)
              cases r1 with
              | true =>
                have HX := hide (row_fin (W := wr) Rg Rb hB hbg hwg (show rowAt l (toL s) kk ii = true by rw [hv0]))
                clear hv0 Rg Rb hB hB' hrA hgl hqq hpe hp HT e2 hm0 hblk pc1 pc2 pc3 hmg hr1
                go_wp2_with fail
                go_roundw
                case rel => exact ⟨ii, by omega, rfl, HX⟩
                case measure => simp [intOf]
              | false =>
                have HX := hide (row_fin (W := wr) Rg Rb hB hbg hwg (show rowAt l (toL s) kk ii = false by rw [hv0]))
                clear hv0 Rg Rb hB hB' hrA hgl hqq hpe hp HT e2 hm0 hblk pc1 pc2 pc3 hmg hr1
                go_wp2_with fail
                go_roundw
                case rel => exact ⟨ii, by omega, rfl, HX⟩
                case measure => simp [intOf]
end Go.Proofs.YteoafohebgfjdaaGreatDoor
