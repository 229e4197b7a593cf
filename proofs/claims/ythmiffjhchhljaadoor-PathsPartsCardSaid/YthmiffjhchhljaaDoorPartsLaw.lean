/-
  PathsParts's law, walked.
-/
import Derived.Test.YthmiffjhchhljaaDoorRefRebase
namespace Go.Proofs.YthmiffjhchhljaaDoor
open Go.RowKit
set_option maxRecDepth 100000

/-- Slices that read as texts, all below the heap's end. -/
def Rds (w : World) (L : List (Option Addr × List ByteArray)) : Prop := ∀ x, x ∈ L → Rd w w.heap.size x.1 x.2
theorem Rds.step {w w' : World} {L : List (Option Addr × List ByteArray)} (h : Rds w L) (hb : Below w.heap.size w w') : Rds w' L := fun x hx => ((h x hx).below hb (Nat.le_refl _)).mono hb.size
theorem Rds.cons {w : World} {L : List (Option Addr × List ByteArray)} {A : Option Addr} {l : List ByteArray} (h : Rds w L) (ha : Rd w w.heap.size A l) : Rds w ((A, l) :: L) := fun x hx => by
  rcases List.mem_cons.1 hx with rfl | hx
  · exact ha
  · exact h x hx
theorem Rds.nil (w : World) : Rds w [] := fun x hx => by simp at hx

theorem ups_take_succ (p : List UInt8) (cs us : List ByteArray) (k : Nat) (g : ByteArray) (hcs : cs.map toL = namesL p) (hk : k < cs.length) (hus : us.map toL = (upsL p).take k) (hg : toL g = glueL ((cs.map toL).take k)) :
    (us ++ [g]).map toL = (upsL p).take (k + 1) := by
  have hl : k < (upsL p).length := by rw [upsL_len, ← hcs]; simpa using hk
  rw [List.take_succ_eq_append_getElem hl, List.map_append, hus]
  congr 1
  simp only [upsL_glue, List.getElem_map, List.getElem_range, List.map_cons, List.map_nil]
  rw [hg, hcs]

set_option maxHeartbeats 8000000 in
theorem parts_long (p : ByteArray) (s : Int) (w : World) (h : (400 : Int) < p.size) :
    Calls Tryd.prog 3 #[.string p, .int .u8 s] w fun e w' => e = .returned (.bool true) ∧ Below w.heap.size w w' := by
  go_enter Tryd.func3, Tryd.ntmps3
  go_wp2_with fail
  refine (awake_any _).mono ?_
  rintro e w9 ⟨rfl, hB9⟩
  go_wp2_with fail
  refine bodyPost_ret (results_tmp rfl _ _ _) rfl ⟨rfl, hB9⟩

set_option maxHeartbeats 8000000 in
theorem parts_short (p : ByteArray) (s : Nat) (w : World) (h : ¬ (400 : Int) < p.size) (hs : (s : Int) ≤ 255) :
    Calls Tryd.prog 3 #[.string p, .int .u8 s] w fun e w' => e = .returned (.bool true) ∧ Below w.heap.size w w' := by
  obtain ⟨i0, hi, hz0, hz1, hz2⟩ := info_parts info_string
  have hs0 : (0 : Int) ≤ s := by omega
  go_enter Tryd.func3, Tryd.ntmps3
  go_wp2_with fail
  refine (refNames_any p w (by omega)).mono ?_
  rintro e w1 ⟨A, c, cs, rfl, hcs, hcap, hR1, hB1⟩
  obtain ⟨hn, hz⟩ := names_size hcs (by omega)
  have HZ := hide hz
  have HC := hide hcs
  have R1 := (Rds.nil w1).cons hR1
  clear hcs hz hR1
  go_wp2_with fail
  refine (lawNames_any p 99 _ (by omega) (by omega)).mono ?_
  rintro e w2 ⟨A1, c1, l1, rfl, hl1, hcap1, hR2, hB2'⟩
  have H1 := hide (show (l1.map toL == cs.map toL) = true by
    rw [beq_iff_eq, hl1, HC.out, List.take_of_length_le (by have := namesL_len (toL p); omega)])
  have n1 : (l1.length : Int) ≤ 16 := by
    have := congrArg List.length (beq_iff_eq.1 H1.out)
    simp at this; omega
  have R2 := (R1.step hB2').cons hR2
  have hB2 := hB1.trans (hB2'.mono hB1.size)
  clear hB1 hB2' R1 hR2 hl1
  go_wp2_with fail
  refine (lawNames_any p s _ (by omega) (by omega)).mono ?_
  rintro e w3 ⟨A2, c2, l2, rfl, hl2, hcap2, hR3, hB3'⟩
  have H2 := hide hl2
  have n2 : (l2.length : Int) ≤ 16 := by
    have := congrArg List.length hl2
    have h16 := namesL_len (toL p)
    simp at this; omega
  have R3 := (R2.step hB3').cons hR3
  have hB3 := hB2.trans (hB3'.mono hB2.size)
  clear hB2 hB3' R2 hR3 hl2
  go_wp2_with fail
  refine (lawUps_any p 99 _ (by omega) (by omega)).mono ?_
  rintro e w4 ⟨A3, c3, l3, rfl, hl3, hcap3, hR4, hB4'⟩
  have H3 := hide (show l3.map toL = upsL (toL p) by
    rw [hl3, List.take_of_length_le (by rw [upsL_len]; have := namesL_len (toL p); omega)])
  have n3 : (l3.length : Int) ≤ 16 := by
    have := congrArg List.length H3.out
    have h16 := namesL_len (toL p)
    rw [upsL_len] at this
    simp at this; omega
  have R4 := (R3.step hB4').cons hR4
  have hB4 := hB3.trans (hB4'.mono hB3.size)
  clear hB3 hB4' R3 hR4 hl3
  go_wp2_with fail
  refine (lawUps_any p s _ (by omega) (by omega)).mono ?_
  rintro e w5 ⟨A4, c4, l4, rfl, hl4, hcap4, hR5, hB5'⟩
  have H4 := hide hl4
  have n4 : (l4.length : Int) ≤ 16 := by
    have := congrArg List.length hl4
    have h16 := namesL_len (toL p)
    simp [upsL_len] at this; omega
  have R5 := (R4.step hB5').cons hR5
  have hB5 := hB4.trans (hB5'.mono hB4.size)
  clear hB4 hB5' R4 hR5 hl4
  go_wp2_with fail
  refine (parent_any p _ (by omega)).mono ?_
  rw [(parent_names p).1]
  rintro e w6 ⟨rfl, hB6'⟩
  have R6 := R5.step hB6'
  have hB6 := hB5.trans (hB6'.mono hB5.size)
  clear hB5 hB6' R5
  go_wp2_with fail
  refine (refParent_any p _ (by omega)).mono ?_
  rintro e w7 ⟨⟨g, rfl, hg⟩, hB7'⟩
  obtain rfl : g = parentB p := toL_inj (hg.trans (parent_names p).2.symm)
  have R7 := R6.step hB7'
  have hB7 := hB6.trans (hB7'.mono hB6.size)
  clear hB6 hB7' R6 hg
  go_wp2_with fail
  go_loopw [18, 19] (fun v i wr => ∃ (us : List ByteArray) (U : Option Addr) (u : Nat), us.length ≤ cs.length ∧ i = .int .i64 (us.length : Nat) ∧ v = .slice U us.length u ∧ Hid (us.map toL = (upsL (toL p)).take us.length) ∧
      wr.ownsRow w7.heap.size 9 1 v us.length (us.map Value.string) ∧ Below w7.heap.size w7 wr) (fun _ i _ => cs.length - (intOf i).toNat)
  case atStart => exact ⟨[], none, 0, Nat.zero_le _, rfl, rfl, hide (by simp), World.ownsRow_nil _ _ _ _, Below.refl _ _⟩
  case round =>
    obtain ⟨us, U, u, hk, rfl, rfl, HU, hown, hW⟩ := hrel
    by_cases l1' : (us.length : Int) < cs.length
    · have n0 : us.length < cs.length := by omega
      have hkc : (us.length : Int) ≤ c := by omega
      have hG := refGlue_any A (cs.take us.length) c wr.heap.size wr (((R7.step hW) (A, cs) (by simp)).take us.length) (by simp; omega) (fun j x hx => by
        rw [List.getElem?_take] at hx
        split at hx
        · exact HZ.out j x hx
        · cases hx)
      rw [List.length_take, Nat.min_eq_left (by omega)] at hG
      have HG := hide hG
      clear hG
      go_wp2_with fail
      refine HG.out.mono ?_
      rintro e w8 ⟨⟨g, rfl, hg, _⟩, rfl⟩
      have HS := hide (show (us ++ [g]).map toL = (upsL (toL p)).take (us.length + 1) from ups_take_succ (toL p) cs us us.length g HC.out n0 HU.out (by rw [hg, List.map_take]))
      clear hg HG
      go_wp2_with (at_builtin; refine wpList_append_own _ rfl _ _ 23 rfl w7.heap.size 9 i0 (.string ⟨#[]⟩) 1 16 Tryd.underlying23 hi hz0 hz1 hz2 rfl (by decide) _ _ _ rfl (hown.alloc _) ⟨w8.heap.size, 0, none⟩ 1 1 [.string g] rfl rfl (cell_one_new _ _ _) (by simp [Value.oneCell']) (by unfold maxLen; omega) (by omega) (by have := hW.size; simp; omega) ?_)
      intro v' w9 hown' hgrow hnil
      obtain ⟨g', cap', rfl⟩ := ownsRow_succ hown'
      go_wp2_with fail
      go_roundw
      case rel => exact ⟨us ++ [g], some ⟨g', 0, none⟩, cap', by simp; omega, by simp, by simp, hide (by rw [HS.out]; simp), by simpa using hown', (hW.alloc hW.size _).grown hgrow (by have := hW.size; simp; omega) (fun r e => (hown.lt r e).1)⟩
      case measure => simp [intOf]; omega
    · have eul : us.length = cs.length := by omega
      have HUU := hide (show us.map toL = upsL (toL p) by
        rw [HU.out, List.take_of_length_le (by
          have := congrArg List.length HC.out
          simp at this
          rw [upsL_len]; omega)])
      have R8 := (R7.step hW).cons (Rd.own hown)
      have hB8 := hB7.trans (hW.mono hB7.size)
      have nu : (us.length : Int) ≤ 16 := by omega
      have hucap := ownsRow_cap hown
      clear eul HU hown hW R7 hB7
      go_wp2_with fail
      refine (refSame_any A1 A l1 cs c1 c _ (R8 (A1, l1) (by simp)) (R8 (A, cs) (by simp)) (by omega)).mono ?_
      rw [H1.out]
      rintro e wa ⟨rfl, hBa⟩
      have R9 := R8.step hBa
      have hB9 := hB8.trans (hBa.mono hB8.size)
      clear R8 hB8 hBa
      have H3t := hide (show (l3.map toL == us.map toL) = true by rw [beq_iff_eq, H3.out, HUU.out])
      by_cases hsm : (cs.length : Int) ≤ s
      · have hsu : (us.length : Int) ≤ s := by omega
        have H2t := hide (show (l2.map toL == cs.map toL) = true by
          rw [beq_iff_eq, H2.out, HC.out, List.take_of_length_le]
          have := congrArg List.length HC.out
          simp at this
          omega)
        have H4t := hide (show (l4.map toL == us.map toL) = true by
          rw [beq_iff_eq, H4.out, HUU.out, List.take_of_length_le]
          have := congrArg List.length HUU.out
          simp at this
          omega)
        go_wp2_with fail
        refine (refSame_any A2 A l2 cs c2 c _ (R9 (A2, l2) (by simp)) (R9 (A, cs) (by simp)) (by omega)).mono ?_
        rw [H2t.out]
        rintro e wb ⟨rfl, hBb⟩
        have R10 := R9.step hBb
        have hB10 := hB9.trans (hBb.mono hB9.size)
        clear R9 hB9 hBb
        go_wp2_with fail
        refine (refSame_any A3 U l3 us c3 u _ (R10 (A3, l3) (by simp)) (R10 (U, us) (by simp)) (by omega)).mono ?_
        rw [H3t.out]
        rintro e wc ⟨rfl, hBc⟩
        have R11 := R10.step hBc
        have hB11 := hB10.trans (hBc.mono hB10.size)
        clear R10 hB10 hBc
        go_wp2_with fail
        refine (refSame_any A4 U l4 us c4 u _ (R11 (A4, l4) (by simp)) (R11 (U, us) (by simp)) (by omega)).mono ?_
        rw [H4t.out]
        rintro e wd ⟨rfl, hBd⟩
        have hB12 := hB11.trans (hBd.mono hB11.size)
        clear R11 hB11 hBd
        go_wp2_with fail
        have HDep := hide (show (namesL (toL p)).length = cs.length by rw [← HC.out, List.length_map])
        refine (awake_any _).mono ?_
        rintro e x1 ⟨rfl, hx1⟩
        have hX1 := hB12.trans (hx1.mono hB12.size)
        clear hB12 hx1
        go_wp2_with fail
        refine (name_any p _).mono ?_
        rintro e x2 ⟨rfl, rfl⟩
        go_wp2_with fail
        refine (refName_any p _ (by omega)).mono ?_
        rintro e x3 ⟨rfl, rfl⟩
        go_wp2_with fail
        refine (right_any p _ (by omega)).mono ?_
        rw [show rightL p.data.toList = rightL (toL p) from rfl]
        rintro e x4 ⟨rfl, hx4⟩
        have hX4 := hX1.trans (hx4.mono hX1.size)
        clear hX1 hx4
        go_wp2_with fail
        refine (refRight_any p _ (by omega)).mono ?_
        rintro e x5 ⟨rfl, hx5⟩
        have hX5 := hX4.trans (hx5.mono hX4.size)
        clear hX4 hx5
        go_wp2_with fail
        refine (callsIn_wide.1 (depth_in p _ (by omega))).mono ?_
        rw [HDep.out]
        rintro e x6 ⟨rfl, hx6⟩
        have hX6 := hX5.trans (hx6.mono hX5.size)
        clear hX5 hx6
        go_wp2_with fail
        refine (base_any p _ (by omega)).mono ?_
        rintro e x7 ⟨rfl, hx7⟩
        have hX7 := hX6.trans (hx7.mono hX6.size)
        clear hX6 hx7
        go_wp2_with fail
        refine (refBase_any p _ (by omega)).mono ?_
        rintro e x8 ⟨⟨b, rfl, hb⟩, hx8⟩
        obtain rfl : b = baseB p := toL_inj (hb.trans (base_names p).symm)
        have hX8 := hX7.trans (hx8.mono hX7.size)
        clear hX7 hx8 hb
        go_wp2_with fail
        refine (reserved_any p _ (by omega)).mono ?_
        rintro e x9 ⟨rfl, hx9⟩
        have hX9 := hX8.trans (hx9.mono hX8.size)
        clear hX8 hx9
        go_wp2_with fail
        refine (refWithin_any p ⟨#[46, 102, 108, 105, 116]⟩ _ (by omega) (by decide)).mono ?_
        rw [← okB_eq]
        rintro e x10 ⟨rfl, hx10⟩
        go_wp2_with fail
        refine bodyPost_ret (results_tmp rfl _ _ _) rfl ⟨rfl, hX9.trans (hx10.mono hX9.size)⟩
      · have hsu : ¬ (us.length : Int) ≤ s := by omega
        have hsc : (s : Int) ≤ c := by omega
        have hsu2 : (s : Int) ≤ u := by omega
        have H2t := hide (show (l2.map toL == (cs.take s).map toL) = true by
          rw [beq_iff_eq, H2.out, List.map_take, HC.out])
        have H4t := hide (show (l4.map toL == (us.take s).map toL) = true by
          rw [beq_iff_eq, H4.out, List.map_take, HUU.out])
        have hS2 := refSame_any A2 A l2 (cs.take s) c2 c wa (R9 (A2, l2) (by simp)) ((R9 (A, cs) (by simp)).take s) (by omega)
        rw [List.length_take, Nat.min_eq_left (by omega), H2t.out] at hS2
        have HS2 := hide hS2
        clear hS2
        go_wp2_with fail
        refine HS2.out.mono ?_
        rintro e wb ⟨rfl, hBb⟩
        have R10 := R9.step hBb
        have hB10 := hB9.trans (hBb.mono hB9.size)
        clear R9 hB9 hBb HS2
        go_wp2_with fail
        refine (refSame_any A3 U l3 us c3 u _ (R10 (A3, l3) (by simp)) (R10 (U, us) (by simp)) (by omega)).mono ?_
        rw [H3t.out]
        rintro e wc ⟨rfl, hBc⟩
        have R11 := R10.step hBc
        have hB11 := hB10.trans (hBc.mono hB10.size)
        clear R10 hB10 hBc
        have hS4 := refSame_any A4 U l4 (us.take s) c4 u wc (R11 (A4, l4) (by simp)) ((R11 (U, us) (by simp)).take s) (by omega)
        rw [List.length_take, Nat.min_eq_left (by omega), H4t.out] at hS4
        have HS4 := hide hS4
        clear hS4
        go_wp2_with fail
        refine HS4.out.mono ?_
        rintro e wd ⟨rfl, hBd⟩
        have hB12 := hB11.trans (hBd.mono hB11.size)
        clear R11 hB11 hBd HS4
        go_wp2_with fail
        have HDep := hide (show (namesL (toL p)).length = cs.length by rw [← HC.out, List.length_map])
        refine (awake_any _).mono ?_
        rintro e x1 ⟨rfl, hx1⟩
        have hX1 := hB12.trans (hx1.mono hB12.size)
        clear hB12 hx1
        go_wp2_with fail
        refine (name_any p _).mono ?_
        rintro e x2 ⟨rfl, rfl⟩
        go_wp2_with fail
        refine (refName_any p _ (by omega)).mono ?_
        rintro e x3 ⟨rfl, rfl⟩
        go_wp2_with fail
        refine (right_any p _ (by omega)).mono ?_
        rw [show rightL p.data.toList = rightL (toL p) from rfl]
        rintro e x4 ⟨rfl, hx4⟩
        have hX4 := hX1.trans (hx4.mono hX1.size)
        clear hX1 hx4
        go_wp2_with fail
        refine (refRight_any p _ (by omega)).mono ?_
        rintro e x5 ⟨rfl, hx5⟩
        have hX5 := hX4.trans (hx5.mono hX4.size)
        clear hX4 hx5
        go_wp2_with fail
        refine (callsIn_wide.1 (depth_in p _ (by omega))).mono ?_
        rw [HDep.out]
        rintro e x6 ⟨rfl, hx6⟩
        have hX6 := hX5.trans (hx6.mono hX5.size)
        clear hX5 hx6
        go_wp2_with fail
        refine (base_any p _ (by omega)).mono ?_
        rintro e x7 ⟨rfl, hx7⟩
        have hX7 := hX6.trans (hx7.mono hX6.size)
        clear hX6 hx7
        go_wp2_with fail
        refine (refBase_any p _ (by omega)).mono ?_
        rintro e x8 ⟨⟨b, rfl, hb⟩, hx8⟩
        obtain rfl : b = baseB p := toL_inj (hb.trans (base_names p).symm)
        have hX8 := hX7.trans (hx8.mono hX7.size)
        clear hX7 hx8 hb
        go_wp2_with fail
        refine (reserved_any p _ (by omega)).mono ?_
        rintro e x9 ⟨rfl, hx9⟩
        have hX9 := hX8.trans (hx9.mono hX8.size)
        clear hX8 hx9
        go_wp2_with fail
        refine (refWithin_any p ⟨#[46, 102, 108, 105, 116]⟩ _ (by omega) (by decide)).mono ?_
        rw [← okB_eq]
        rintro e x10 ⟨rfl, hx10⟩
        go_wp2_with fail
        refine bodyPost_ret (results_tmp rfl _ _ _) rfl ⟨rfl, hX9.trans (hx10.mono hX9.size)⟩

theorem parts_law (p : ByteArray) (s : Int) (w : World) (hs : (Lit.int .u8 s).wf = true) :
    Calls Tryd.prog 3 #[.string p, .int .u8 s] w fun e w' => e = .returned (.bool true) ∧ Below w.heap.size w w' := by
  have h : 0 ≤ s ∧ s ≤ 255 := by simpa [Lit.wf, IntKind.min, IntKind.max, IntKind.signed, IntKind.bits] using hs
  obtain ⟨n, rfl⟩ : ∃ n : Nat, s = n := ⟨s.toNat, by omega⟩
  by_cases hl : (400 : Int) < p.size
  · exact parts_long p n w hl
  · exact parts_short p n w hl h.2
end Go.Proofs.YthmiffjhchhljaaDoor
