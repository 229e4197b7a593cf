/-
  The law SearchSelf: its walk.
-/
import Derived.Test.YtobgbheodlpclaaAutoSrAwake
import Derived.Test.YtobgbheodlpclaaBkAt
namespace Go.Proofs.Ytobgbheodlpclaa
open Go.RowKit Go.Shelf
set_option maxRecDepth 100000

theorem valsL_take (l : List UInt8) (size : Int) (T : List Tk) (i : Nat) (t : Tk) (h : T[i]? = some t) : valsL l size (T.take (i + 1)) = valsL l size (T.take i) ++ stepV l size t := by
  obtain ⟨hlt, e⟩ := List.getElem?_eq_some_iff.1 h
  rw [← List.take_append_getElem hlt, e, valsL_app]
  simp [valsL]
theorem stepV_len (l : List UInt8) (size : Int) (t : Tk) : (stepV l size t).length = t.data.size + (manyB l size t.from_ t.many.toNat).length := by
  unfold stepV
  rw [List.length_append]
  simp [toL]
theorem valsL_le (l : List UInt8) (size : Int) (T : List Tk) (i : Nat) : (valsL l size (T.take i)).length ≤ (valsL l size T).length := by
  have h := valsL_app l size (T.take i) (T.drop i)
  rw [List.take_append_drop] at h
  rw [h, List.length_append]
  omega

set_option maxHeartbeats 32000000 in
theorem self_law (A : Option Addr) (l : List UInt8) (c : Nat) (C : Option Addr) (b : List UInt8) (k : Nat) (size : Int) (w : World) (hR : RdB w w.heap.size A l) (hc : Caps A l.length c) (hC : RdB w w.heap.size C b) (hk : Caps C b.length k) (_ : -9223372036854775808 ≤ size ∧ size ≤ 9223372036854775807) :
    Calls Try.prog 11 #[.slice A l.length c, .slice C b.length k, .int .i64 size] w fun e w' => e = .returned (.bool true) ∧ Below w.heap.size w w' := by
  by_cases h1 : (300 : Int) < l.length
  · clear hR hc hC hk
    go_enter Try.func11, Try.ntmps11
    go_wp2_with fail
    refine (srAwake_any w).mono ?_
    rintro e w2 ⟨rfl, hb⟩
    go_wp2_with fail
    exact bodyPost_ret (results_tmp rfl _ _ _) rfl ⟨rfl, hb⟩
  by_cases h2 : (300 : Int) < b.length
  · clear hR hc hC hk
    go_enter Try.func11, Try.ntmps11
    go_wp2_with fail
    refine (srAwake_any w).mono ?_
    rintro e w2 ⟨rfl, hb⟩
    go_wp2_with fail
    exact bodyPost_ret (results_tmp rfl _ _ _) rfl ⟨rfl, hb⟩
  have hl : l.length ≤ 300 := by omega
  have hbl : b.length ≤ 300 := by omega
  have hf := fitN_in size
  obtain ⟨h, hh⟩ : ∃ h : Nat, fitN size = h := ⟨(fitN size).toNat, by omega⟩
  obtain ⟨s1, s2, s3, s4, s5⟩ := self_facts l b size h hh (by omega) (by omega)
  obtain ⟨_, f2, f3, f4⟩ := sigOf_facts l size h hh (by omega)
  have HOf := hide (bkOf_any A l c size h w hR hc (by omega) hh)
  change Hid (Calls _ _ _ _ fun e w' => ∃ B d, e = .returned (.agg (sigC h B (sigOf l h).1.length d (sigOf l h).2.1 (sigOf l h).2.2)) ∧ SI w 30 (.slice B (sigOf l h).1.length d) (sigOf l h).1 w') at HOf
  unfold deltaL at s1 s2 s3 s4 s5
  obtain ⟨⟨bl, tl, s⟩, hs⟩ : ∃ q, q = sigOf l h := ⟨_, rfl⟩
  rw [← hs] at HOf f2 f3 f4 s1 s2 s3 s4 s5
  simp only at HOf f2 f3 f4 s1 s2 s3 s4 s5
  have HSr := hide (fun (W : World) (B : Option Addr) (d : Nat) (q : RdSg W W.heap.size B bl) (q2 : Below w.heap.size w W) => srOf_any h B bl d tl s C b k W f2 q f4 (hC.step q2) hk (by omega))
  have HC1 := hide (fun (W : World) (B : Option Addr) (d : Nat) (q : RdSg W W.heap.size B bl) (q2 : Below w.heap.size w W) => cost_any h B bl d tl s A l c W f2 q f4 (hR.step q2) hc (by omega))
  have HC2 := hide (fun (W : World) (B : Option Addr) (d : Nat) (q : RdSg W W.heap.size B bl) (q2 : Below w.heap.size w W) => cost_any h B bl d tl s C b k W f2 q f4 (hC.step q2) hk (by omega))
  rw [s2] at HC1
  have HAt := hide (fun (W : World) (q : Below w.heap.size w W) (j : Int) => at_any A l c size j W (hR.step q) hc (by omega))
  obtain ⟨F, hF⟩ : ∃ F, F = foundL bl h tl s b := ⟨_, rfl⟩
  rw [← hF] at HSr HC2 s1 s3 s4 s5
  obtain ⟨by1, hby1⟩ : ∃ q, q = bytesL F := ⟨_, rfl⟩
  rw [← hby1] at HC2 s3
  have HS1 := hide s1
  have HS5 := hide s5
  obtain ⟨sw, sh, slo⟩ := s
  simp only [sigC] at HOf HSr HC1 HC2
  have hs3 : (by1 : Int) ≤ b.length := by omega
  clear hs hF hby1 s1 s2 s5 f2 f3 f4 hR hc hC hk hh
  go_enter Try.func11, Try.ntmps11
  go_wp2_with fail
  refine HOf.out.mono ?_
  rintro e w1 ⟨B, d, rfl, hI⟩
  have hb2 := (Below.refl w1.heap.size w1).alloc (Nat.le_refl _) (Obj.cells #[.int .i64 h, .slice B bl.length d, .int .i64 (tl : Nat), .int .u32 (sw : Nat), .int .u64 (sh : Nat), .int .u64 (slo : Nat)] 32)
  have HR2 := hide (World.alloc_heap_new w1 (Obj.cells #[.int .i64 h, .slice B bl.length d, .int .i64 (tl : Nat), .int .u32 (sw : Nat), .int .u64 (sh : Nat), .int .u64 (slo : Nat)] 32))
  have HB2 := hide (hI.below.trans (hb2.mono hI.below.size))
  have HD2 := hide ((RdSg.own hI.own).step hb2)
  clear hI hb2 HOf
  go_upto_region 4 with fail
  generalize w1.alloc (Obj.cells #[.int .i64 h, .slice B bl.length d, .int .i64 (tl : Nat), .int .u32 (sw : Nat), .int .u64 (sh : Nat), .int .u64 (slo : Nat)] 32) = w2 at HR2 HB2 HD2 ⊢
  have c0 : w2.cell? ⟨w1.heap.size, 0, none⟩ = some (.int .i64 h) := cell_of_row _ _ 0 _ _ _ HR2.out
  have c1 : w2.cell? ⟨w1.heap.size, 1, none⟩ = some (.slice B bl.length d) := cell_of_row _ _ 1 _ _ _ HR2.out
  have c2 : w2.cell? ⟨w1.heap.size, 2, none⟩ = some (.int .i64 (tl : Nat)) := cell_of_row _ _ 2 _ _ _ HR2.out
  have c3 : w2.cell? ⟨w1.heap.size, 3, none⟩ = some (.int .u32 (sw : Nat)) := cell_of_row _ _ 3 _ _ _ HR2.out
  have c4 : w2.cell? ⟨w1.heap.size, 4, none⟩ = some (.int .u64 (sh : Nat)) := cell_of_row _ _ 4 _ _ _ HR2.out
  have c5 : w2.cell? ⟨w1.heap.size, 5, none⟩ = some (.int .u64 (slo : Nat)) := cell_of_row _ _ 5 _ _ _ HR2.out
  have HSr2 := hide (HSr.out w2 B d HD2.out HB2.out)
  clear HSr
  go_wp2_with fail
  refine HSr2.out.mono ?_
  rintro e w3 ⟨v, rfl, hI⟩
  obtain ⟨D, dd, rfl⟩ := ownsRow_slice hI.own
  have HB23 := hide hI.below
  have HT3 := hide (RdT.own hI.own)
  have HR3 := hide ((hI.below.block _ (Array.getElem?_eq_some_iff.1 HR2.out).1).trans HR2.out)
  have HB3 := hide (HB2.out.trans (hI.below.mono HB2.out.size))
  have HD3 := hide (HD2.out.step hI.below)
  clear hI HSr2 c0 c1 c2 c3 c4 c5 HR2 HB2 HD2 HB23
  go_wp2_with fail
  go_loopg [9, 10] F.length (fun gk nv iv wr => ∃ i : Nat, nv = .int .i64 ((valsL l size (F.take i)).length : Nat) ∧ iv = .int .i64 i ∧ i + gk = F.length ∧ Hid (Below w3.heap.size w3 wr))
  case atStart => exact ⟨0, rfl, rfl, by omega, hide (Below.refl _ _)⟩
  case round =>
    obtain ⟨i, rfl, rfl, hig, HW⟩ := hrel
    cases gk with
    | zero =>
      obtain rfl : i = F.length := by omega
      rw [List.take_length, HS1.out]
      have hR4 := (HW.out.block _ (Array.getElem?_eq_some_iff.1 HR3.out).1).trans HR3.out
      have HR4 := hide hR4
      have HB4 := hide (HB3.out.trans (HW.out.mono HB3.out.size))
      have HD4 := hide (HD3.out.step HW.out)
      clear hR4 HS1 HS5 HT3
      have HAw := hide (srAwake_any wr)
      have ebb : ((b.length : Int) == (b.length : Int)) = true := by simp
      go_wp2_with fail
      refine HAw.out.mono ?_
      rintro e w5 ⟨rfl, hb5⟩
      have HR5 := hide ((hb5.block _ (Array.getElem?_eq_some_iff.1 HR4.out).1).trans HR4.out)
      have HB5 := hide (HB4.out.trans (hb5.mono HB4.out.size))
      have HD5 := hide (HD4.out.step hb5)
      clear hb5 HAw HR4 HB4 HD4
      have c0 : w5.cell? ⟨w1.heap.size, 0, none⟩ = some (.int .i64 h) := cell_of_row _ _ 0 _ _ _ HR5.out
      have c1 : w5.cell? ⟨w1.heap.size, 1, none⟩ = some (.slice B bl.length d) := cell_of_row _ _ 1 _ _ _ HR5.out
      have c2 : w5.cell? ⟨w1.heap.size, 2, none⟩ = some (.int .i64 (tl : Nat)) := cell_of_row _ _ 2 _ _ _ HR5.out
      have c3 : w5.cell? ⟨w1.heap.size, 3, none⟩ = some (.int .u32 (sw : Nat)) := cell_of_row _ _ 3 _ _ _ HR5.out
      have c4 : w5.cell? ⟨w1.heap.size, 4, none⟩ = some (.int .u64 (sh : Nat)) := cell_of_row _ _ 4 _ _ _ HR5.out
      have c5 : w5.cell? ⟨w1.heap.size, 5, none⟩ = some (.int .u64 (slo : Nat)) := cell_of_row _ _ 5 _ _ _ HR5.out
      go_wp2_with fail
      refine (HC1.out w5 B d HD5.out HB5.out).mono ?_
      rintro e w6 ⟨rfl, hb6⟩
      have HR6 := hide ((hb6.block _ (Array.getElem?_eq_some_iff.1 HR5.out).1).trans HR5.out)
      have HB6 := hide (HB5.out.trans (hb6.mono HB5.out.size))
      have HD6 := hide (HD5.out.step hb6)
      clear hb6 HR5 HB5 HD5 c0 c1 c2 c3 c4 c5
      have c0 : w6.cell? ⟨w1.heap.size, 0, none⟩ = some (.int .i64 h) := cell_of_row _ _ 0 _ _ _ HR6.out
      have c1 : w6.cell? ⟨w1.heap.size, 1, none⟩ = some (.slice B bl.length d) := cell_of_row _ _ 1 _ _ _ HR6.out
      have c2 : w6.cell? ⟨w1.heap.size, 2, none⟩ = some (.int .i64 (tl : Nat)) := cell_of_row _ _ 2 _ _ _ HR6.out
      have c3 : w6.cell? ⟨w1.heap.size, 3, none⟩ = some (.int .u32 (sw : Nat)) := cell_of_row _ _ 3 _ _ _ HR6.out
      have c4 : w6.cell? ⟨w1.heap.size, 4, none⟩ = some (.int .u64 (sh : Nat)) := cell_of_row _ _ 4 _ _ _ HR6.out
      have c5 : w6.cell? ⟨w1.heap.size, 5, none⟩ = some (.int .u64 (slo : Nat)) := cell_of_row _ _ 5 _ _ _ HR6.out
      go_wp2_with fail
      refine (HC2.out w6 B d HD6.out HB6.out).mono ?_
      rintro e w7 ⟨rfl, hb7⟩
      have HB7 := hide (HB6.out.trans (hb7.mono HB6.out.size))
      clear hb7 c0 c1 c2 c3 c4 c5
      go_wp2_with fail
      exact bodyPost_ret (results_tmp rfl _ _ _) rfl ⟨rfl, HB7.out⟩
    | succ g0 =>
      have hii : (i : Int) < F.length := by omega
      have hi0 : (0 : Int) ≤ (i : Int) := by omega
      obtain ⟨t, ht⟩ : ∃ t, F[i]? = some t := ⟨_, List.getElem?_eq_getElem (by omega)⟩
      have hiw : IntKind.i64.wrap ((i : Int) + 1) = ((i + 1 : Nat) : Int) := by rw [IntWalk.i64_in _ (by omega)]; rfl
      obtain ⟨ad, rfl, hlt, hnd⟩ := HT3.out i t ht
      have hstep := valsL_take l size F i t ht
      have hsl := stepV_len l size t
      have hle := valsL_le l size F (i + 1)
      rw [hstep, List.length_append, HS1.out, hsl] at hle
      obtain ⟨t1, t2, t3, _, _⟩ := rightT_facts t (HS5.out t (List.mem_of_getElem? ht))
      have hnext : (valsL l size (F.take (i + 1))).length = (valsL l size (F.take i)).length + (t.data.size + (manyB l size t.from_ t.many.toNat).length) := by rw [hstep, List.length_append, hsl]
      have HNx := hide hnext
      obtain ⟨fr, many, data⟩ := t
      simp only at t1 t2 t3 hle HNx
      obtain ⟨m, hm⟩ : ∃ m : Nat, many = (m : Int) := ⟨many.toNat, by omega⟩
      subst hm
      rw [Int.toNat_natCast] at hle HNx
      have hcells := hide (fun (W : World) (q : Below w3.heap.size w3 W) => (hnd.below q (by rw [add_block]; exact hlt)))
      obtain ⟨x0, x1, x2⟩ := hcells.out wr HW.out
      simp only at x0 x1 x2
      obtain ⟨base, hbase⟩ : ∃ q, q = (valsL l size (F.take i)).length := ⟨_, rfl⟩
      rw [← hbase] at hle HNx ⊢
      have hsw : IntKind.i64.wrap ((base : Int) + (data.size : Int)) = ((base + data.size : Nat) : Int) := by rw [IntWalk.i64_in _ (by omega)]; rfl
      clear hnd hstep hsl hbase hnext ht
      go_wp2_with fail
      obtain ⟨Wo, rfl⟩ : ∃ Wo, Wo = wr := ⟨_, rfl⟩
      have HW0 := HW
      clear x0 x1 x2
      go_loopg [9, 11] m (fun gj nv kv wi => ∃ j : Nat, nv = .int .i64 ((base + data.size + (manyB l size fr j).length : Nat) : Int) ∧ kv = .int .i64 (fr + (j : Nat)) ∧ j + gj = m ∧ Hid (Below w3.heap.size w3 wi))
      case atStart => exact ⟨0, rfl, by simp, by omega, HW0⟩
      case round =>
        obtain ⟨j, rfl, rfl, hjg, HWi⟩ := hrel
        clear HW0 HW
        obtain ⟨x0, x1, x2⟩ := hcells.out wr HWi.out
        simp only at x0 x1 x2
        have hwm : IntKind.i64.wrap (fr + (m : Int)) = fr + (m : Int) := IntWalk.i64_in _ (by omega)
        cases gk with
        | zero =>
          obtain rfl : j = m := by omega
          have hd0 : ¬ fr + (j : Int) < fr + (j : Int) := by omega
          have hN := HNx.out
          have HV := hide (show base + data.size + (manyB l size fr j).length = (valsL l size (F.take (i + 1))).length from by omega)
          clear HNx
          go_wp2_with fail
          go_quiet (fail)
          rename_i nq
          go_wp2_with fail
          go_roundg g0
          case rel => exact ⟨i + 1, by rw [← HV.out]; rfl, rfl, by omega, hide (below_drewN HWi.out nq)⟩
          case measure => omega
        | succ g1 =>
          have hd0 : fr + (j : Int) < fr + (m : Int) := by omega
          have HAj := hide (fun (W : World) (q : Below w3.heap.size w3 W) => HAt.out W (HB3.out.trans (q.mono HB3.out.size)) (fr + (j : Nat)))
          have hmj : manyB l size fr (j + 1) = manyB l size fr j ++ blkL l size (fr + (j : Nat)) := rfl
          have hml : (manyB l size fr (j + 1)).length = (manyB l size fr j).length + (blkL l size (fr + (j : Nat))).length := by rw [hmj, List.length_append]
          have hb1 := blkL_len l size (fr + (j : Nat))
          have hb2 := manyB_len l size fr j
          have HM := hide hml
          generalize blkL l size (fr + (j : Nat)) = bk at HAj HM hb1 ⊢
          obtain ⟨nb, hnb⟩ : ∃ nb, nb = bk.length := ⟨_, rfl⟩
          obtain ⟨nm, hnm⟩ : ∃ nm, nm = base + data.size + (manyB l size fr j).length := ⟨_, rfl⟩
          have HN1 := hide (show nm + nb = base + data.size + (manyB l size fr (j + 1)).length from by rw [HM.out, hnm, hnb, Nat.add_assoc])
          rw [← hnm]
          have hnw : IntKind.i64.wrap ((nm : Int) + (nb : Int)) = ((nm + nb : Nat) : Int) := by rw [IntWalk.i64_in _ (by omega)]; rfl
          have hjw : IntKind.i64.wrap (fr + (j : Int) + 1) = fr + (j : Int) + 1 := IntWalk.i64_in _ (by omega)
          unfold Cloned at HAj
          rw [← hnb] at HAj
          clear hmj hml HM hb1 hb2 hnm hnb
          go_wp2_with fail
          go_quiet (fail)
          rename_i nq
          go_wp2_with fail
          refine (HAj.out _ (below_drewN HWi.out nq)).mono ?_
          rintro e w6 ⟨E, f, rfl, _, hb6⟩
          have HW6 := hide ((below_drewN HWi.out nq).trans (hb6.mono (below_drewN HWi.out nq).size))
          clear hb6 HAj
          go_wp2_with fail
          go_roundg g1
          case rel => exact ⟨j + 1, by rw [← HN1.out]; rfl, by simp [Int.add_assoc], by omega, HW6⟩
          case measure => omega
end Go.Proofs.Ytobgbheodlpclaa
