/-
  MirrorPlain, walked.
-/
import Derived.Test.YteoafohebgfjdaaGreatDoorMiLaw
import Derived.Test.YteoafohebgfjdaaGreatDoorMiAwake
import Derived.Test.YteoafohebgfjdaaGreatDoorMiNeq
import Derived.Lib.QuietBelow
import Derived.BigQuiet
namespace Go.Proofs.YteoafohebgfjdaaGreatDoor
open Go.RowKit Go.Maps
set_option maxRecDepth 100000

set_option maxHeartbeats 64000000 in
theorem plain_law (A : Option Addr) (a : List Nd) (c : Nat) (B : Option Addr) (b : List Nd) (d : Nat) (C : Option Addr) (R : List (Bool × ByteArray)) (f : Nat) (w : World) (hA : RdN w w.heap.size A a) (hB : RdN w w.heap.size B b) (hR : RdR w w.heap.size C R) :
    Calls Tryz.prog 5 #[.slice A a.length c, .slice B b.length d, .slice C R.length f] w fun e w' => e = .returned (.bool true) ∧ Below w.heap.size w w' := by
  have HFw := hide (few_any A a c B b d C R f w hA hB hR)
  cases hs : (smallL a && (smallL b && smallR R)) with
  | false =>
    rw [hs] at HFw
    have HAw := hide (awake_any w)
    clear hA hB hR
    go_enter Tryz.func5, Tryz.ntmps5
    go_wp2_with fail
    refine HFw.out.mono ?_
    rintro e _ ⟨rfl, rfl⟩
    go_wp2_with fail
    refine HAw.out.mono ?_
    rintro e w9 ⟨rfl, hb9⟩
    go_wp2_with fail
    exact bodyPost_ret (results_tmp rfl _ _ _) rfl ⟨rfl, hb9⟩
  | true =>
  rw [hs] at HFw
  obtain ⟨hsa, hsb, hsr⟩ : smallL a = true ∧ smallL b = true ∧ smallR R = true := by simpa using hs
  obtain ⟨la, lta, fa⟩ := small_len hsa
  obtain ⟨lb, ltb, fb⟩ := small_len hsb
  obtain ⟨fR, lR⟩ := smallR_few hsr
  have ha := TW.tree hsa
  have hb := TW.tree hsb
  have HTa := hide (refOfTree_any A a c w hA fa (by omega))
  have HTb := hide (fun (W : World) (h : Below w.heap.size w W) => refOfTree_any B b d W (hB.step h) fb (by omega))
  generalize treeL a = s at ha HTa lta
  generalize treeL b = t at hb HTb ltb
  have hLr := both_ok ha hb
  have hLl : (s ++ t).length ≤ 48 := by rw [List.length_append]; omega
  have HRs := hide (fun (W : World) (h : Below w.heap.size w W) => hR.step h)
  have H1 := hide (fun (E1 : Option Addr) (c1 : Nat) (E2 : Option Addr) (c2 : Nat) (W : World) (h1 : RdN W W.heap.size E1 s) (h2 : RdN W W.heap.size E2 t) => (show Calls Tryz.prog 13 #[.slice E1 s.length c1, .slice E2 t.length c2, .slice none 0 0, .bool true] W fun e w' => ∃ v, e = .returned v ∧ NI W v (shownL s) w' from by
    refine (mirOfT_any hLr hLl E1 s c1 E2 t c2 none [] 0 true W h1 ha (by omega) h2 hb (by omega) (fun k r h => by simp at h) (fun k r h => by simp at h) (by decide) (fun n hn => List.mem_append.2 hn)).mono ?_
    rintro e w' ⟨v, l, rfl, ht, -, hN⟩
    exact ⟨v, rfl, by rw [← plain_is ha hb ht]; exact hN⟩))
  have H2 := hide (fun (E1 : Option Addr) (c1 : Nat) (W : World) (h1 : RdN W W.heap.size E1 s) (h3 : RdR W W.heap.size C R) => (show Calls Tryz.prog 13 #[.slice E1 s.length c1, .slice none 0 0, .slice C R.length f, .bool true] W fun e w' => ∃ v, e = .returned v ∧ NI W v (sentL (rulesL R) s) w' from by
    refine (mirOfT_any hLr hLl E1 s c1 none [] 0 C R f true W h1 ha (by omega) (RdN.nil _ _ _) TW.nil (by simp) h3 fR (by omega) (fun n hn => List.mem_append.2 (hn.imp id fun h => (List.not_mem_nil h).elim))).mono ?_
    rintro e w' ⟨v, l, rfl, ht, -, hN⟩
    exact ⟨v, rfl, by rw [← empty_is ha ht]; exact hN⟩))
  have H3 := hide (fun (E1 : Option Addr) (c1 : Nat) (E2 : Option Addr) (c2 : Nat) (W : World) (h1 : RdN W W.heap.size E1 s) (h2 : RdN W W.heap.size E2 t) (h3 : RdR W W.heap.size C R) => (show Calls Tryz.prog 13 #[.slice E1 s.length c1, .slice E2 t.length c2, .slice C R.length f, .bool false] W fun e w' => ∃ v l, e = .returned v ∧ Told (layV (sentL (rulesL R) s) (shownL t) (guardL (rulesL R) t) false) l ∧ l.length ≤ 1000 ∧ NI W v (l.map (·.node)) w' from
    mirOfT_any hLr hLl E1 s c1 E2 t c2 C R f false W h1 ha (by omega) h2 hb (by omega) h3 fR (by omega) (fun n hn => List.mem_append.2 hn)))
  have H4 := hide (fun (E2 : Option Addr) (c2 : Nat) (W : World) (h2 : RdN W W.heap.size E2 t) (h3 : RdR W W.heap.size C R) => (show Calls Tryz.prog 13 #[.slice none 0 0, .slice E2 t.length c2, .slice C R.length f, .bool false] W fun e w' => ∃ v, e = .returned v ∧ NI W v (shownL t) w' from by
    refine (mirOfT_any hLr hLl none [] 0 E2 t c2 C R f false W (RdN.nil _ _ _) TW.nil (by simp) h2 hb (by omega) h3 fR (by omega) (fun n hn => List.mem_append.2 (hn.imp (fun h => (List.not_mem_nil h).elim) id))).mono ?_
    rintro e w' ⟨v, l, rfl, ht, -, hN⟩
    exact ⟨v, rfl, by rw [← keeps_all hb ht]; exact hN⟩))
  have HSh := hide (fun (l : List Nd) (hl : TW l) (hll : l.length ≤ 24) (E1 : Option Addr) (c1 : Nat) (W : World) (h1 : RdN W W.heap.size E1 l) => (show Calls Tryz.prog 12 #[.slice E1 l.length c1] W fun e w' => ∃ v, e = .returned v ∧ NI W v (shownL l) w' from by
    rw [← side_shown]
    exact refShown_any E1 l c1 W h1 hl.fewN (by omega)))
  have HPk := hide (fun (E1 : Option Addr) (c1 : Nat) (W : World) (h1 : RdN W W.heap.size E1 s) (h3 : RdR W W.heap.size C R) => (show Calls Tryz.prog 15 #[.slice E1 s.length c1, .slice C R.length f, .bool false] W fun e w' => ∃ v, e = .returned v ∧ NI W v (sentL (rulesL R) s) w' from by
    rw [← pick_sent]
    exact refPick_any E1 s c1 C R f false W h1 ha.fewN (by omega) h3 fR (by omega)))
  have HSm := hide (fun (l : List Nd) (E1 : Option Addr) (c1 : Nat) (E2 : Option Addr) (c2 : Nat) (W : World) (h1 : RdN W W.heap.size E1 l) (h2 : RdN W W.heap.size E2 l) (h3 : (l.length : Int) ≤ 1000000) => (show Calls Tryz.prog 10 #[.slice E1 l.length c1, .slice E2 l.length c2] W fun e w' => e = .returned (.bool true) ∧ Below W.heap.size W w' from by
    have := refSame_any E1 E2 l l c1 c2 W h1 h2 h3
    rwa [(listB_iff _ _).2 rfl] at this))
  have HFi := hide (fun (l : List Fd) (ht : Told (layV (sentL (rulesL R) s) (shownL t) (guardL (rulesL R) t) false) l) (n : Nd) (hn : n ∈ shownL t) => plain_find ha hb ht hn)
  have HTs := hide ha
  have HTt := hide hb
  have hsl : (shownL t).length ≤ 24 := Nat.le_trans (List.length_filter_le _ _) ltb
  have HAw := hide awake_any
  have hssl : (shownL s).length ≤ 24 := Nat.le_trans (List.length_filter_le _ _) lta
  have hsel : (sentL (rulesL R) s).length ≤ 24 := Nat.le_trans (List.length_filter_le _ _) hssl
  generalize sentL (rulesL R) s = ss at H2 H3 HPk HFi hsel
  have HSt := hide (show ∀ n ∈ shownL t, n.path.size ≤ 200 from fun n hn => (hb.shown.few n hn).1)
  clear hA hB hR ha hb fa fb fR hs hsa hsb hsr hLr hLl
  go_enter Tryz.func5, Tryz.ntmps5
  go_wp2_with fail
  refine HFw.out.mono ?_
  rintro e W0 ⟨rfl, rfl⟩
  clear HFw
  go_wp2_with fail
  refine HTa.out.mono ?_
  rintro e w1 ⟨v, rfl, hN1⟩
  obtain ⟨E1, c1, rfl⟩ := ownsRow_slice hN1.own
  have HB1 := hide hN1.below
  have HX1 := hide (RdN.own hN1.own)
  have HTb1 := hide (HTb.out w1 HB1.out)
  clear hN1 HTa HTb
  go_wp2_with fail
  refine HTb1.out.mono ?_
  rintro e w2 ⟨v, rfl, hN2⟩
  obtain ⟨E2, c2, rfl⟩ := ownsRow_slice hN2.own
  have HB2 := hide (HB1.out.trans (hN2.below.mono HB1.out.size))
  have HX := hide (fun (W : World) (h : Below w2.heap.size w2 W) => (HX1.out.step hN2.below).step h)
  have HY := hide (fun (W : World) (h : Below w2.heap.size w2 W) => (RdN.own hN2.own).step h)
  have HZ := hide (fun (W : World) (h : Below w2.heap.size w2 W) => HRs.out W (HB2.out.trans (h.mono HB2.out.size)))
  clear hN2 HTb1 HB1 HX1 HRs
  have HO3 := hide (H1.out E1 c1 E2 c2 w2 (HX.out _ (Below.refl _ _)) (HY.out _ (Below.refl _ _)))
  clear H1
  go_wp2_with fail
  refine HO3.out.mono ?_
  rintro e w3 ⟨v, rfl, hN3⟩
  obtain ⟨E3, c3, rfl⟩ := ownsRow_slice hN3.own
  have HB3 := hide hN3.below
  have HX3 := hide (RdN.own hN3.own)
  have HS3 := hide (HSh.out s HTs.out lta E1 c1 w3 (HX.out _ HB3.out))
  clear hN3 HO3
  go_wp2_with fail
  refine HS3.out.mono ?_
  rintro e w4 ⟨v, rfl, hN4⟩
  obtain ⟨E4, c4, rfl⟩ := ownsRow_slice hN4.own
  have HB4 := hide (HB3.out.trans (hN4.below.mono HB3.out.size))
  have HS4 := hide (HSm.out (shownL s) E3 c3 E4 c4 w4 (HX3.out.step hN4.below) (RdN.own hN4.own) (by omega))
  clear hN4 HS3 HB3 HX3
  go_wp2_with fail
  refine HS4.out.mono ?_
  rintro e w5 ⟨rfl, hb5⟩
  have HB5 := hide (HB4.out.trans (hb5.mono HB4.out.size))
  have HO5 := hide (H2.out E1 c1 w5 (HX.out _ HB5.out) (HZ.out _ HB5.out))
  clear hb5 HS4 HB4 H2
  go_wp2_with fail
  refine HO5.out.mono ?_
  rintro e w6 ⟨v, rfl, hN6⟩
  obtain ⟨E6, c6, rfl⟩ := ownsRow_slice hN6.own
  have HB6 := hide (HB5.out.trans (hN6.below.mono HB5.out.size))
  have HX6 := hide (RdN.own hN6.own)
  have HP6 := hide (HPk.out E1 c1 w6 (HX.out _ HB6.out) (HZ.out _ HB6.out))
  clear hN6 HO5 HB5 HPk
  go_wp2_with fail
  refine HP6.out.mono ?_
  rintro e w7 ⟨v, rfl, hN7⟩
  obtain ⟨E7, c7, rfl⟩ := ownsRow_slice hN7.own
  have HB7 := hide (HB6.out.trans (hN7.below.mono HB6.out.size))
  have HS7 := hide (HSm.out ss E6 c6 E7 c7 w7 (HX6.out.step hN7.below) (RdN.own hN7.own) (by omega))
  clear hN7 HP6 HB6 HX6
  go_wp2_with fail
  refine HS7.out.mono ?_
  rintro e w8 ⟨rfl, hb8⟩
  have HB8 := hide (HB7.out.trans (hb8.mono HB7.out.size))
  have HO8 := hide (H3.out E1 c1 E2 c2 w8 (HX.out _ HB8.out) (HY.out _ HB8.out) (HZ.out _ HB8.out))
  clear hb8 HS7 HB7 H3
  go_wp2_with fail
  refine HO8.out.mono ?_
  rintro e w9 ⟨v, l, rfl, ht, hll, hN9⟩
  have HF9 := hide (HFi.out l ht)
  have hml : (l.map (·.node)).length ≤ 1000 := by rw [List.length_map]; exact hll
  generalize l.map (·.node) = m at hN9 HF9 hml
  obtain ⟨E9, c9, rfl⟩ := ownsRow_slice hN9.own
  have HB9 := hide (HB8.out.trans (hN9.below.mono HB8.out.size))
  have HX9 := hide (RdN.own hN9.own)
  have HS9 := hide (HSh.out t HTt.out ltb E2 c2 w9 (HY.out _ HB9.out))
  clear hN9 HO8 HB8 HFi ht hll
  go_wp2_with fail
  refine HS9.out.mono ?_
  rintro e w10 ⟨v, rfl, hN10⟩
  obtain ⟨E10, c10, rfl⟩ := ownsRow_slice hN10.own
  have HB10 := hide (HB9.out.trans (hN10.below.mono HB9.out.size))
  have HM := hide (HX9.out.step hN10.below)
  have HD := hide (RdN.own hN10.own)
  clear hN10 HS9 HB9 HX9 HSh
  generalize shownL t = D at HD HF9 H4 hsl HSt
  go_wp2_with fail
  obtain ⟨W0, rfl⟩ : ∃ W0, W0 = w10 := ⟨_, rfl⟩
  go_loopg [11] D.length (fun gk iv wr => ∃ j : Nat, iv = .int .i64 j ∧ j + gk = D.length ∧ Hid (Below W0.heap.size W0 wr))
  case atStart => exact ⟨0, rfl, by omega, hide (Below.refl _ _)⟩
  case round =>
    obtain ⟨j, rfl, hjg, HBr⟩ := hrel
    cases gk with
    | zero =>
      obtain rfl : j = D.length := by omega
      have HA1 := hide (HAw.out wr)
      go_wp2_with fail
      refine HA1.out.mono ?_
      rintro e w11 ⟨rfl, hb11⟩
      have HB11 := hide (HBr.out.trans (hb11.mono HBr.out.size))
      have hb2 := HB10.out.trans (HB11.out.mono HB10.out.size)
      have HO11 := hide (H4.out E2 c2 w11 (HY.out _ hb2) (HZ.out _ hb2))
      clear hb11 hb2 HA1
      go_wp2_with fail
      refine HO11.out.mono ?_
      rintro e w12 ⟨v, rfl, hN12⟩
      obtain ⟨E12, c12, rfl⟩ := ownsRow_slice hN12.own
      have HB12 := hide (HB11.out.trans (hN12.below.mono HB11.out.size))
      have HS12 := hide (HSm.out D E12 c12 E10 c10 w12 (RdN.own hN12.own) (HD.out.step HB12.out) (by omega))
      clear hN12 HO11
      go_wp2_with fail
      refine HS12.out.mono ?_
      rintro e w13 ⟨rfl, hb13⟩
      have HF := hide (HB2.out.trans ((HB10.out.trans ((HB12.out.trans (hb13.mono HB12.out.size)).mono HB10.out.size)).mono HB2.out.size))
      clear hb13 HS12
      go_wp2_with fail
      exact bodyPost_ret (results_tmp rfl _ _ _) rfl ⟨rfl, HF.out⟩
    | succ g1 =>
      have hji : (j : Int) < D.length := by omega
      have hj0 : (0 : Int) ≤ (j : Int) := by omega
      obtain ⟨n, hn⟩ : ∃ n, D[j]? = some n := ⟨_, List.getElem?_eq_getElem (by omega)⟩
      obtain ⟨x, hfx, hx⟩ := HF9.out n (List.mem_of_getElem? hn)
      have HFd := hide (find_any E9 m c9 n.path wr (HM.out.step HBr.out) (by omega))
      rw [hfx] at HFd
      obtain ⟨ad, rfl, hlt, hnd⟩ := (HD.out.step HBr.out) j n hn
      have hltx : ad.block < wr.heap.size := hlt
      have HND := hide (fun W (hb : Below wr.heap.size wr W) => hnd.below hb (by rw [add_block]; exact hltx))
      have HAt := hide (fun W (hb : Below wr.heap.size wr W) => refAt_any E1 s c1 n.path W (HX.out W (HB10.out.trans ((HBr.out.trans (hb.mono HBr.out.size)).mono HB10.out.size))) (by omega))
      have hjw : IntKind.i64.wrap ((j : Int) + 1) = ((j + 1 : Nat) : Int) := by rw [IntWalk.i64_in _ (by omega)]; rfl
      generalize atL n.path s = z at hx HAt
      have hcase : ndB x n = true ∨ (ndB x n = false ∧ ¬ z < 0) := by
        cases hq : ndB x n with
        | true => exact .inl rfl
        | false => exact .inr ⟨rfl, by have := hx.resolve_left (fun e => by rw [(ndB_iff x n).2 e] at hq; cases hq); omega⟩
      obtain ⟨c0, c1', c2', c3', c4'⟩ := hnd
      clear hfx hx hn hlt hltx
      obtain ⟨path, kind, mode, time, data⟩ := n
      obtain ⟨path', kind', mode', time', data'⟩ := x
      simp only [Nd.cells] at c0 c1' c2' c3' c4' HFd HAt HND
      go_wp2_with fail
      refine HFd.out.mono ?_
      rintro e w11 ⟨rfl, hb11⟩
      have r12 := World.alloc_heap_new w11 (Obj.cells #[.string path', .int .i64 kind', .int .i64 mode', .int .i64 time', .string data'] 36)
      have hb12 := hb11.alloc hb11.size (.cells #[.string path', .int .i64 kind', .int .i64 mode', .int .i64 time', .string data'] 36)
      obtain ⟨W12, hW12⟩ : ∃ W12, W12 = w11.alloc (.cells #[.string path', .int .i64 kind', .int .i64 mode', .int .i64 time', .string data'] 36) := ⟨_, rfl⟩
      rw [← hW12] at r12 hb12
      obtain ⟨k0, k1, k2, k3, k4⟩ := HND.out W12 hb12
      have d0 := cell_of_row _ _ 0 _ _ _ r12
      have d1 := cell_of_row _ _ 1 _ _ _ r12
      have d2 := cell_of_row _ _ 2 _ _ _ r12
      have d3 := cell_of_row _ _ 3 _ _ _ r12
      have d4 := cell_of_row _ _ 4 _ _ _ r12
      simp only at k0 k1 k2 k3 k4
      have f0 := fun d os => cell_regrown k0 d os
      have f1 := fun d os => cell_regrown k1 d os
      have f2 := fun d os => cell_regrown k2 d os
      have f3 := fun d os => cell_regrown k3 d os
      have f4 := fun d os => cell_regrown k4 d os
      have q0 := fun d os => cell_regrown d0 d os
      have q1 := fun d os => cell_regrown d1 d os
      have q2 := fun d os => cell_regrown d2 d os
      have q3 := fun d os => cell_regrown d3 d os
      have q4 := fun d os => cell_regrown d4 d os
      have cA := fun d os => Calls.regrown_of (HAt.out (Go.Sort.grow (redrawn W12 d) os) (hb12.trans ((below_regrown W12 d os).mono hb12.size)))
      have HB12 := hide (HBr.out.trans (hb12.mono HBr.out.size))
      clear HFd hb11 hb12 r12 HND HAt k0 k1 k2 k3 k4 d0 d1 d2 d3 d4 c0 c1' c2' c3' c4'
      go_wp2_with fail
      rw [← hW12]
      clear hW12
      rcases hcase with hq | ⟨hq, hz⟩
      · have e := (ndB_iff _ _).1 hq
        injection e with e1 e2 e3 e4 e5
        subst e1 e2 e3 e4 e5
        clear hq cA
        refine wp_region_quiet_below (by kernel_rfl) (by kernel_rfl) ?_
        repeat (go_big_quiet_step (fail))
        refine wpQuiet_nil ?_
        intro w13 hw13
        obtain ⟨⟨d9, os9⟩, rfl⟩ := hw13
        have hb13 := below_regrown W12 d9 os9
        go_wp2_with fail
        go_roundg g1
        case rel => exact ⟨j + 1, rfl, by omega, hide (HB12.out.trans (hb13.mono HB12.out.size))⟩
        case measure => omega
      · have hNE := fun W => nd_neq ⟨path', kind', mode', time', data'⟩ ⟨path, kind, mode, time, data⟩ W
        rw [hq] at hNE
        simp only [Nd.cells] at hNE
        clear hq
        by_cases hk : kind' = 1
        · subst hk
          clear cA hz
          refine wp_region_quiet_below (by kernel_rfl) (by kernel_rfl) ?_
          repeat (go_big_quiet_step (fail))
          refine wpQuiet_nil ?_
          intro w13 hw13
          obtain ⟨⟨d9, os9⟩, rfl⟩ := hw13
          have hb13 := below_regrown W12 d9 os9
          go_wp2_with fail
          go_roundg g1
          case rel => exact ⟨j + 1, rfl, by omega, hide (HB12.out.trans (hb13.mono HB12.out.size))⟩
          case measure => omega
        · have hk1 : (kind' == 1) = false := by simpa using hk
          have hk2 : (kind' != 1) = true := by simpa using hk
          have hk3 : decide (kind' = 1) = false := by simpa using hk
          refine wp_region_quiet_below (by kernel_rfl) (by kernel_rfl) ?_
          repeat (go_big_quiet_step ((go_at_call 17; exact cA _ _)))
          refine wpQuiet_nil ?_
          intro w13 hw13
          obtain ⟨⟨d9, os9⟩, rfl⟩ := hw13
          have hb13 := below_regrown W12 d9 os9
          go_wp2_with fail
          go_roundg g1
          case rel => exact ⟨j + 1, rfl, by omega, hide (HB12.out.trans (hb13.mono HB12.out.size))⟩
          case measure => omega
end Go.Proofs.YteoafohebgfjdaaGreatDoor
