/-
  (*Link).Turn.
-/
import Derived.Test.YtfknfpngcnianaaLkActs
import Derived.Test.YtfknfpngcnianaaCrcRefTurn
import Derived.Test.YtfknfpngcnianaaHeldStep
namespace Go.Proofs.Ytfknfpngcnianaa
open Go.RowKit
set_option maxRecDepth 100000

set_option maxHeartbeats 2000000 in
theorem turn_none (P : Value) (k i at_ mask : Int) (w : World) (H : At P k i none w) : Calls Try.prog 17 #[P, .int .i64 k, .int .i64 i, .int .i64 at_, .int .u32 mask] w fun e w' => e = .returned (.bool false) ∧ w' = w := by
  have HH := hide H
  clear H
  go_enter Try.func17, Try.ntmps17
  go_wp2_with fail
  refine HH.out.mono ?_
  rintro e w1 ⟨rfl, rfl⟩
  go_wp2_with fail
  exact bodyPost_ret (results_tmp rfl _ _ _) rfl ⟨rfl, rfl⟩
set_option maxHeartbeats 2000000 in
theorem turn_twice (P : Value) (k : Int) (i g o : Nat) (at_ mask : Int) (C : Array Value) (q : Way) (w : World) (H : At P k i (some ⟨g, o, none⟩) w) (h : In w g o C q) (hi : i < q.l.length) (ht : q.trn i = true) :
    Calls Try.prog 17 #[P, .int .i64 k, .int .i64 i, .int .i64 at_, .int .u32 mask] w fun e w' => e = .returned (.bool false) ∧ w' = w := by
  have HH := hide H
  obtain ⟨h0, h1, _⟩ := h.at_.cells h.row
  have c1 := h1 i (by have := h.few; omega)
  rw [ht] at c1
  have hi16 : (i : Int) < 16 := by have := h.few; omega
  clear H h hi h0 h1 ht
  go_enter Try.func17, Try.ntmps17
  go_wp2_with fail
  refine HH.out.mono ?_
  rintro e w1 ⟨rfl, rfl⟩
  go_wp2_with fail
  exact bodyPost_ret (results_tmp rfl _ _ _) rfl ⟨rfl, rfl⟩
set_option maxHeartbeats 4000000 in
theorem turn_in (P : Value) (k : Int) (i g o : Nat) (at_ : Int) (mask : Nat) (C : Array Value) (q : Way) (p : Pk) (w : World) (H : At P k i (some ⟨g, o, none⟩) w) (h : In w g o C q) (hi : i < q.l.length) (hp : q.l[i]? = some p) (ht : p.t = false)
    (hl : p.b.length ≤ 1000) (ha1 : -9223372036854775808 ≤ at_) (ha2 : at_ ≤ 9223372036854775807) (hm : mask < 4294967296) :
    Calls Try.prog 17 #[P, .int .i64 k, .int .i64 i, .int .i64 at_, .int .u32 mask] w fun e w' => e = .returned (.bool true) ∧ QTo w g o C { q with l := q.l.set i ⟨turnL p.b at_ mask, true⟩ } w' := by
  have HH := hide H
  have hd : q.dat i = ofL p.b := by unfold Way.dat; rw [hp]; rfl
  have ht2 : q.trn i = false := by unfold Way.trn; rw [hp]; exact ht
  obtain ⟨h0, h1, _⟩ := h.at_.cells h.row
  have c0 := h0 i (by have := h.few; omega)
  have c1 := h1 i (by have := h.few; omega)
  rw [hd] at c0
  rw [ht2] at c1
  have hi16 : (i : Int) < 16 := by have := h.few; omega
  have HC := hide (fun (W : World) (A : Option Addr) (c : Nat) (hR : RdB W W.heap.size A p.b) (hc : Caps A p.b.length c) => turn_any A p.b c at_ mask W hR hc (by omega) ha1 ha2 hm)
  have HI := hide h
  have hcv := fun W : World => Lib.run_convert_string_bytes (P := Try.prog) W 9 41 5 (ofL p.b) Try.underlying9 Try.underlying41 Try.underlying5
  have HM := hide (fun W => made_bytes W (ofL p.b))
  have HLn := hide (ofL_size p.b)
  have HTo := hide (toL_ofL p.b)
  have HT := hide (To.start h.row)
  have HG := hide (fun (W : World) (n : Nat) => grownCap_ge W n 0 5)
  have HPI := hide (And.intro hi h.few)
  generalize turnL p.b at_ mask = tl at *
  obtain ⟨S, hS⟩ : ∃ S, S = ofL p.b := ⟨_, rfl⟩
  rw [← hS] at c0 hcv HM HLn HTo
  clear hS
  clear H h hi h0 h1 hd ht ht2 hp hl ha1 ha2 hm
  go_enter Try.func17, Try.ntmps17
  go_wp2_with fail
  refine HH.out.mono ?_
  rintro e w1 ⟨rfl, rfl⟩
  go_upto_region 4 with fail
  have hgl : g < w1.heap.size := HT.out.lt
  have hS : True := trivial
  have hB0 := (Below.refl w1.heap.size w1).drew
  refine wp_region_held (by kernel_rfl) (S := fun _ => True) ?_
  change wpAnyH _ _ _ _ _ _ _ _ (World.drew _)
  refine wpAnyH_take (i := 0) (v := .pointer (some ⟨g, o, none⟩)) rfl (by kernel_rfl) (by kernel_rfl) (by kernel_rfl) (fun _ _ _ h => h) (Or.inl ⟨by kernel_rfl, ?y0⟩) hS ?r0
  case y0 => intro W hS; go_simp; try with_reducible rfl
  try simp only [Act.put, List.getElem_toArray, List.getElem_cons_zero, List.setIfInBounds_toArray, List.set_cons_zero, List.set_cons_succ]
  refine wpAnyH_take (i := 1) (v := .int .i64 i) rfl (by kernel_rfl) (by kernel_rfl) (by kernel_rfl) (fun _ _ _ h => h) (Or.inl ⟨by kernel_rfl, ?y1⟩) hS ?r1
  case y1 => intro W hS; go_simp; try with_reducible rfl
  try simp only [Act.put, List.getElem_toArray, List.getElem_cons_succ, List.getElem_cons_zero, List.setIfInBounds_toArray, List.set_cons_zero, List.set_cons_succ]
  refine wpAnyH_take (i := 2) (v := .pointer (some ⟨g, o, none⟩)) rfl (by kernel_rfl) (by kernel_rfl) (by kernel_rfl) (fun _ _ _ h => h) (Or.inl ⟨by kernel_rfl, ?y2⟩) hS ?r2
  case y2 => intro W hS; go_simp; try with_reducible rfl
  try simp only [Act.put, List.getElem_toArray, List.getElem_cons_succ, List.getElem_cons_zero, List.setIfInBounds_toArray, List.set_cons_zero, List.set_cons_succ]
  refine wpAnyH_take (i := 3) (v := .int .i64 i) rfl (by kernel_rfl) (by kernel_rfl) (by kernel_rfl) (fun _ _ _ h => h) (Or.inl ⟨by kernel_rfl, ?y3⟩) hS ?r3
  case y3 => intro W hS; go_simp; try with_reducible rfl
  try simp only [Act.put, List.getElem_toArray, List.getElem_cons_succ, List.getElem_cons_zero, List.setIfInBounds_toArray, List.set_cons_zero, List.set_cons_succ]
  refine wpAnyH_take (i := 4) (v := .pointer (some ⟨g, o, none⟩)) rfl (by kernel_rfl) (by kernel_rfl) (by kernel_rfl) (fun _ _ _ h => h) (Or.inl ⟨by kernel_rfl, ?y4⟩) hS ?r4
  case y4 => intro W hS; go_simp; try with_reducible rfl
  try simp only [Act.put, List.getElem_toArray, List.getElem_cons_succ, List.getElem_cons_zero, List.setIfInBounds_toArray, List.set_cons_zero, List.set_cons_succ]
  refine wpAnyH_take (i := 5) (v := .pointer (some ⟨g, o, none⟩)) rfl (by kernel_rfl) (by kernel_rfl) (by kernel_rfl) (fun _ _ _ h => h) (Or.inl ⟨by kernel_rfl, ?y5⟩) hS ?r5
  case y5 => intro W hS; go_simp; try with_reducible rfl
  try simp only [Act.put, List.getElem_toArray, List.getElem_cons_succ, List.getElem_cons_zero, List.setIfInBounds_toArray, List.set_cons_zero, List.set_cons_succ]
  refine wpAnyH_take (i := 6) (v := .pointer (some ⟨g, o + i * 2, none⟩)) rfl (by kernel_rfl) (by kernel_rfl) (by kernel_rfl) (fun _ _ _ h => h) (Or.inl ⟨by kernel_rfl, ?y6⟩) hS ?r6
  case y6 => intro W hS; go_simp; try with_reducible rfl
  try simp only [Act.put, List.getElem_toArray, List.getElem_cons_succ, List.getElem_cons_zero, List.setIfInBounds_toArray, List.set_cons_zero, List.set_cons_succ]
  refine wpAnyH_take (i := 7) (v := .pointer (some ⟨g, o + i * 2, none⟩)) rfl (by kernel_rfl) (by kernel_rfl) (by kernel_rfl) (fun _ _ _ h => h) (Or.inl ⟨by kernel_rfl, ?y7⟩) hS ?r7
  case y7 => intro W hS; go_simp; try with_reducible rfl
  try simp only [Act.put, List.getElem_toArray, List.getElem_cons_succ, List.getElem_cons_zero, List.setIfInBounds_toArray, List.set_cons_zero, List.set_cons_succ]
  refine wpAnyH_take (i := 10) (v := .int .i64 at_) rfl (by kernel_rfl) (by kernel_rfl) (by kernel_rfl) (fun _ _ _ h => h) (Or.inl ⟨by kernel_rfl, ?y10⟩) hS ?r10
  case y10 => intro W hS; go_simp; try with_reducible rfl
  try simp only [Act.put, List.getElem_toArray, List.getElem_cons_succ, List.getElem_cons_zero, List.setIfInBounds_toArray, List.set_cons_zero, List.set_cons_succ]
  refine wpAnyH_take (i := 11) (v := .int .u32 mask) rfl (by kernel_rfl) (by kernel_rfl) (by kernel_rfl) (fun _ _ _ h => h) (Or.inl ⟨by kernel_rfl, ?y11⟩) hS ?r11
  case y11 => intro W hS; go_simp; try with_reducible rfl
  try simp only [Act.put, List.getElem_toArray, List.getElem_cons_succ, List.getElem_cons_zero, List.setIfInBounds_toArray, List.set_cons_zero, List.set_cons_succ]
  refine wpAnyH_take (i := 15) (v := .pointer (some ⟨g, o, none⟩)) rfl (by kernel_rfl) (by kernel_rfl) (by kernel_rfl) (fun _ _ _ h => h) (Or.inl ⟨by kernel_rfl, ?y15⟩) hS ?r15
  case y15 => intro W hS; go_simp; try with_reducible rfl
  try simp only [Act.put, List.getElem_toArray, List.getElem_cons_succ, List.getElem_cons_zero, List.setIfInBounds_toArray, List.set_cons_zero, List.set_cons_succ]
  refine wpAnyH_take (i := 16) (v := .pointer (some ⟨g, o, none⟩)) rfl (by kernel_rfl) (by kernel_rfl) (by kernel_rfl) (fun _ _ _ h => h) (Or.inl ⟨by kernel_rfl, ?y16⟩) hS ?r16
  case y16 => intro W hS; go_simp; try with_reducible rfl
  try simp only [Act.put, List.getElem_toArray, List.getElem_cons_succ, List.getElem_cons_zero, List.setIfInBounds_toArray, List.set_cons_zero, List.set_cons_succ]
  clear hS
  have c0 : w1.drew.cell? ⟨g, o + i * 2, none⟩ = some (.string S) := c0
  generalize w1.drew = U0 at hB0 c0 ⊢
  refine heldS_one (i := 8) (by kernel_rfl) rfl (fun K hK => ?_)
  go_simp
  refine hK _ _ trivial ?_
  clear hK K c0 c1
  try simp only [Act.put, List.getElem_toArray, List.getElem_cons_succ, List.getElem_cons_zero, List.setIfInBounds_toArray, List.set_cons_zero, List.set_cons_succ]
  have hcv0 := hcv U0
  have hm := HM.out U0
  rw [HTo.out] at hm
  refine heldS_one (i := 9) (by kernel_rfl) rfl (fun K hK => ?_)
  go_simp
  have hB1 := hB0.trans (hm.2.mono hB0.size)
  refine hK _ _ trivial ?_
  clear hK K hcv0
  try simp only [Act.put, List.getElem_toArray, List.getElem_cons_succ, List.getElem_cons_zero, List.setIfInBounds_toArray, List.set_cons_zero, List.set_cons_succ]
  rw [HLn.out]
  have HCa := hide (HC.out (Lib.bytesWorld U0 5 S) (some ⟨U0.heap.size, 0, none⟩) (grownCap U0 p.b.length 0 5) hm.1 ⟨HG.out _ _, fun e => by cases e⟩)
  clear hm
  generalize Lib.bytesWorld U0 5 S = U1 at hB1 HCa ⊢
  refine heldS_one (i := 12) (by kernel_rfl) rfl (fun K hK => ?_)
  go_simp
  refine HCa.out.mono ?_
  rintro e U2 ⟨A2, c2, rfl, hc2, hR2, hb2⟩
  have hB2 := hB1.trans (hb2.mono hB1.size)
  refine hK _ _ trivial ?_
  clear hK K hb2 HCa
  try simp only [Act.put, List.getElem_toArray, List.getElem_cons_succ, List.getElem_cons_zero, List.setIfInBounds_toArray, List.set_cons_zero, List.set_cons_succ]
  have hk2 := conv_any hR2 c2
  refine heldS_one (i := 13) (by kernel_rfl) rfl (fun K hK => ?_)
  go_simp
  refine hK _ _ trivial ?_
  clear hK K hk2 hR2 hc2
  try simp only [Act.put, List.getElem_toArray, List.getElem_cons_succ, List.getElem_cons_zero, List.setIfInBounds_toArray, List.set_cons_zero, List.set_cons_succ]
  have hS : True := trivial
  refine wpAnyH_take (i := 14) (v := .agg #[.string (ofL tl), .bool true]) rfl (by kernel_rfl) (by kernel_rfl) (by kernel_rfl) (fun _ _ _ h => h) (Or.inl ⟨by kernel_rfl, ?y14⟩) hS ?r14
  case y14 => intro W hS; go_simp; try with_reducible rfl
  try simp only [Act.put, List.getElem_toArray, List.getElem_cons_succ, List.getElem_cons_zero, List.setIfInBounds_toArray, List.set_cons_zero, List.set_cons_succ]
  refine wpAnyH_take (i := 17) (v := .pointer (some ⟨g, o + i * 2, none⟩)) rfl (by kernel_rfl) (by kernel_rfl) (by kernel_rfl) (fun _ _ _ h => h) (Or.inl ⟨by kernel_rfl, ?y17⟩) hS ?r17
  case y17 => intro W hS; go_simp; try with_reducible rfl
  try simp only [Act.put, List.getElem_toArray, List.getElem_cons_succ, List.getElem_cons_zero, List.setIfInBounds_toArray, List.set_cons_zero, List.set_cons_succ]
  clear hS
  have T2 := HT.out.below hB2
  have HQ := hide (HI.out.alloc hB2)
  have hs := HI.out.size
  obtain ⟨v0, hv0⟩ : ∃ v, C[o + i * 2]? = some v := ⟨_, Array.getElem?_eq_getElem (by omega)⟩
  obtain ⟨v1, hv1⟩ : ∃ v, C[o + i * 2 + 1]? = some v := ⟨_, Array.getElem?_eq_getElem (by omega)⟩
  have f0 : U2.cell? ⟨g, o + i * 2, none⟩ = some v0 := (T2.cell _).trans hv0
  have f1 : U2.cell? ⟨g, o + i * 2 + 1, none⟩ = some v1 := (T2.cell _).trans hv1
  have z0 : U2.frozen? ⟨g, o + i * 2, none⟩ = false := T2.free _
  have z1 : U2.frozen? ⟨g, o + i * 2 + 1, none⟩ = false := T2.free _
  have T3 := (T2.set (o + i * 2) (.string (ofL tl))).set (o + i * 2 + 1) (.bool true)
  have HX := hide T3
  clear hv0 hv1 hs T2 T3
  refine heldS_one (i := 18) (by kernel_rfl) rfl (fun K hK => ?_)
  go_simp
  refine hK _ _ trivial ?_
  clear hK K f0 f1 z0 z1
  try simp only [Act.put, List.getElem_toArray, List.getElem_cons_succ, List.getElem_cons_zero, List.setIfInBounds_toArray, List.set_cons_zero, List.set_cons_succ]
  refine wpAnyH_done (by kernel_rfl) ?_ _
  have HB := hide hB2
  clear hB2 hB1 hB0
  go_wp2_with fail
  have hq := HQ.out.at_.turn HQ.out.size i HPI.out.1 HPI.out.2 ⟨tl, true⟩
  refine bodyPost_ret (results_tmp rfl _ _ _) rfl ⟨rfl, _, HX.out, ⟨HX.out.1, ?_, one_set (one_set HI.out.one _ _ rfl) _ _ rfl, hq, ?_⟩, ?_, fun j hj => ?_⟩
  · simp only [Array.size_setIfInBounds]; exact HI.out.size
  · show (q.l.set i _).length ≤ 16; rw [List.length_set]; exact HPI.out.2
  · simp only [Array.size_setIfInBounds]
  · have := HPI.out; rw [get_ne (by omega), get_ne (by omega)]
end Go.Proofs.Ytfknfpngcnianaa
