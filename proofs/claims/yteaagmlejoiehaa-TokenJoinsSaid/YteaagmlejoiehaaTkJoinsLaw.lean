/-
  The law TokenJoins: its walk.
-/
import Derived.Test.YteaagmlejoiehaaTkAwake
import Derived.Deep.RegionHeld3
namespace Go.Proofs.Yteaagmlejoiehaa
open Go.RowKit
set_option maxRecDepth 100000

/-- append, in a region that draws its order, onto a row of the call's own of a slice that reads as tokens, nil or not. -/
theorem step_append_toks {P : Program} {w : World} {ops : Array Oper} {o : Oper} {a : Act} {K : Act → World → Prop} {Q : Exit → Act → World → Prop} {F : Prop} (hgd : o.guard = none) (s x : Operand) (t : TypeId)
    (ho : o.op = .call { callee := .builtin .append, args := #[s, x], argTypes := #[t, t] })
    (base : Nat) (e : TypeId) (i : TypeInfo) (ht : P.underlying t = some (.slice e)) (hi : P.info? e = some i) (hz : i.zero = some (.agg #[.int .i64 0, .int .i64 0, .string ⟨#[]⟩])) (hsize : i.size = 3) (hby : i.bytes = 32)
    (v : Value) (n : Nat) (xs : List Value) (hs : a.eval s = v) (hown : w.ownsRow base e 3 v n xs)
    (A : Option Addr) (m c B : Nat) (cs : List Tk) (hx : a.eval x = .slice A m c) (hm : m = cs.length) (hr : RdT w B A cs)
    (h63 : n + m ≤ maxLen) (hbytes : (n + m) * 32 ≤ 140737488355328) (hbase : base ≤ w.heap.size)
    (h : ∀ v' w', w'.ownsRow base e 3 v' (n + m) (xs ++ cellsT cs) → w.grownBy w' v.ownBlock → K (a.put o.dst v') w') :
    if Region.wanted o (yielded ops a.tmps) = true then Oper.wp P o a w K Q else F := by
  have hw : Region.wanted o (yielded ops a.tmps) = true := by simp [Region.wanted, hgd]
  rw [if_pos hw]
  rcases A with _ | ad
  · have h0 : cs = [] := hr.of_none
    subst h0
    obtain rfl : m = 0 := hm
    have hrun := run_append_nil (P := P) (w := w) base t o.type e i 3 ht hi v n xs hown c
    unfold Oper.wp
    simp [execOp, ho, resolve, invoke, builtin, hs, hx, hrun, Result.andThen]
    exact h v w (by simpa [cellsT] using hown) (World.grownBy.refl w _)
  · exact wp_append_own w s x t ho base e i _ 3 32 ht hi hz hsize hby rfl (by decide) v n xs hs hown ad m c (cellsT cs) hx (by rw [cellsT_len, hm]) hr.cell (cellsT_one cs) h63 hbytes hbase (fun v' w' h1 h2 _ => h v' w' h1 h2)

set_option maxHeartbeats 64000000 in
theorem joins_law (A : Option Addr) (l : List Tk) (c : Nat) (z : Int) (w : World) (hA : RdT w w.heap.size A l) (hc : l.length ≤ c) (hz : 0 ≤ z ∧ z ≤ 255) :
    Calls Try.prog 9 #[.slice A l.length c, .int .u8 z] w fun e w' => e = .returned (.bool true) ∧ Below w.heap.size w w' := by
  obtain ⟨i0, hi, hz0, hz1, hz2⟩ := info_parts info_tk
  have HF1 := hide (fewT_any A l c w hA)
  cases h1 : fewT l with
  | false =>
    rw [h1] at HF1
    clear hA h1
    go_enter Try.func9, Try.ntmps9
    go_wp2_with fail
    refine HF1.out.mono ?_
    rintro e w1 ⟨rfl, rfl⟩
    go_wp2_with fail
    refine (tkAwake_any w1).mono ?_
    rintro e w2 ⟨rfl, hb⟩
    go_wp2_with fail
    exact bodyPost_ret (results_tmp rfl _ _ _) rfl ⟨rfl, hb⟩
  | true =>
    have hl : (l.length : Int) ≤ 30 := by have := few_len h1; omega
    have hs : sizeL l ≤ 16384 := by have := sizeL_le l 200 (few_size h1); have := few_len h1; omega
    have hsz : ∀ t ∈ l, t.data.size ≤ 1000000 := fun t ht => by have := few_size h1 t ht; omega
    rw [h1] at HF1
    have HT1 := hide (to_any A l c w hA (by omega))
    have HA := hide hA
    have HSz := hide hsz
    clear hA h1 hsz
    have hzk : ∃ k : Nat, (if 0 < l.length then z % ((l.length : Int) + 1) else 0) = k ∧ k ≤ l.length := by
      by_cases h0 : 0 < l.length
      · rw [if_pos h0]
        have e1 := Int.emod_nonneg z (show ((l.length : Int) + 1) ≠ 0 by omega)
        have e2 := Int.emod_lt_of_pos z (show (0 : Int) < (l.length : Int) + 1 by omega)
        exact ⟨(z % ((l.length : Int) + 1)).toNat, by omega, by omega⟩
      · rw [if_neg h0]; exact ⟨0, rfl, Nat.zero_le _⟩
    obtain ⟨k, hk, hkl⟩ := hzk
    go_enter Try.func9, Try.ntmps9
    go_wp2_with fail
    refine HF1.out.mono ?_
    rintro e w1 ⟨rfl, rfl⟩
    clear HF1
    go_wp2_with fail
    refine HT1.out.mono ?_
    rintro e w3 ⟨v, rfl, hI3⟩
    obtain ⟨D, d, rfl⟩ := ownsRow_slice hI3.own
    have HB3 := hide hI3.below
    have HJ := hide (joinP_any D l d w3 (RdT.own hI3.own) (by omega) (by omega))
    rw [joinP_eq] at HJ
    clear hI3 HT1
    go_wp2_with fail
    refine HJ.out.mono ?_
    rintro e w4 ⟨v, rfl, hI4⟩
    obtain ⟨E, f, rfl⟩ := ownsRow_slice hI4.own
    have hB4 := HB3.out.trans (hI4.below.mono HB3.out.size)
    have HE := hide (fun (W : World) (h : Below w4.heap.size w4 W) => (RdT.own hI4.own).step h)
    have HL := hide (fun (W : World) (h : Below w4.heap.size w4 W) => HA.out.step (hB4.trans (h.mono hB4.size)))
    have HB4 := hide hB4
    clear hI4 hB4 HJ HB3 HA
    have hd1 : (l.take k).length = k := by rw [List.length_take]; omega
    have hd2 : (l.drop k).length = l.length - k := List.length_drop
    have hsd := sizeL_app (l.take k) (l.drop k)
    rw [List.take_append_drop] at hsd
    have HTo1 := hide (fun (W : World) (h : Below w4.heap.size w4 W) => (show Calls Try.prog 32 #[.slice A k c] W fun e w' => ∃ v, e = .returned v ∧ TI W 71 v (l.take k) w' from by
      have h9 := to_any A (l.take k) c W ((HL.out W h).take k) (by omega)
      rw [hd1] at h9
      exact h9))
    have HTo2 := hide (fun (W : World) (h : Below w4.heap.size w4 W) => (show Calls Try.prog 32 #[.slice (if c = k then A else A.map (·.add (k * 3))) (l.length - k) (c - k)] W fun e w' => ∃ v, e = .returned v ∧ TI W 71 v (l.drop k) w' from by
      have h9 := to_any _ (l.drop k) (c - k) W ((HL.out W h).drop (k := k) hc) (by omega)
      rw [hd2] at h9
      exact h9))
    have HParts := hide (show joinR (joinR (l.take k) ++ joinR (l.drop k)) = joinR l by
      have h9 := joinR_parts (l.take k) (l.drop k) (by rw [List.take_append_drop]; exact hs)
      rw [List.take_append_drop] at h9
      exact h9)
    have j1 := joinR_len (l.take k)
    have j2 := joinR_len (l.drop k)
    have j3 := joinR_size (l.take k)
    have j4 := joinR_size (l.drop k)
    have j5 := joinR_len l
    have j6 := joinR_size l
    generalize l.take k = lt at *
    generalize l.drop k = ld at *
    have JJ := hide (And.intro hd1 (And.intro hd2 (And.intro hsd (And.intro j1 (And.intro j2 (And.intro j3 (And.intro j4 (And.intro j5 j6))))))))
    clear hd1 hd2 hsd j1 j2 j3 j4
    have hk0 : (0 : Int) ≤ (k : Int) := by omega
    have hk1 : (k : Int) ≤ l.length := by omega
    have hk2 : (k : Int) ≤ c := by omega
    have hk3 : (l.length : Int) ≤ c := by omega
    have HFin : Hid (∀ (W : World), Below w4.heap.size w4 W → True) := hide fun _ _ => trivial
    clear HFin
    by_cases h0 : (0 : Int) < l.length
    · have hwr : IntKind.i64.wrap ((l.length : Int) + 1) = (l.length : Int) + 1 := IntWalk.i64_in _ (by omega)
      have hk2 : z % ((l.length : Int) + 1) = k := by rw [if_pos (by omega)] at hk; exact hk
      have hnz : ((l.length : Int) + 1 == 0) = false := by rw [beq_eq_false_iff_ne]; omega
      have htm : z.tmod ((l.length : Int) + 1) = k := by rw [Int.tmod_eq_emod_of_nonneg hz.1]; exact hk2
      clear hk
      go_wp2_with fail
      refine Code.wp_mono (Q := fun e a' W => e = .normal ∧ ∃ (V10 : Option Addr) (c10 : Nat) (u17 u18 u19 u20 u21 u22 u23 u24 u25 u26 u27 u28 u29 u30 u31 u32 u33 u34 u35 u36 u37 : Value), a' = ⟨#[.slice A l.length c, .int .u8 z, undef, undef, .bool false, .slice E (joinR l).length f, .int .i64 k, .slice V10 (joinR l).length c10, .slice A l.length c, .bool true, .bool false, undef, .slice A l.length c, .slice D l.length d, .slice E (joinR l).length f, .slice A l.length c, .int .i64 l.length, u17, u18, u19, u20, u21, u22, u23, u24, u25, u26, u27, u28, u29, u30, u31, u32, u33, u34, u35, u36, u37, undef, undef, undef, undef, undef, undef, undef, undef, undef, undef, undef, undef, undef, undef, undef, undef, undef, undef, undef, undef, undef, undef, undef, undef, undef, undef], []⟩ ∧ Below w4.heap.size w4 W ∧ RdT W W.heap.size V10 (joinR l)) ?cont ?reg
      case reg =>
        refine wp_region_noPanic ?_
        refine wp_region_any (by kernel_rfl) ?_
        change wpAny _ _ _ _ _ _ _ (World.drew _)
        have hWd := (Below.refl w4.heap.size w4).drew
        generalize w4.drew = wq at hWd ⊢
        refine wpAny_take (i := 1) (v := .slice A l.length c) rfl (by kernel_rfl) (by kernel_rfl) (by kernel_rfl) (fun _ _ _ h => h) (Or.inl ⟨by kernel_rfl, fun W => by go_simp⟩) ?_
        try simp only [Act.put, List.getElem_toArray, List.getElem_cons_succ, List.getElem_cons_zero, List.setIfInBounds_toArray, List.set_cons_zero, List.set_cons_succ]
        refine wpAny_take (i := 2) (v := .int .i64 (k : Nat)) rfl (by kernel_rfl) (by kernel_rfl) (by kernel_rfl) (fun _ _ _ h => h) (Or.inl ⟨by kernel_rfl, fun W => by go_simp⟩) ?_
        try simp only [Act.put, List.getElem_toArray, List.getElem_cons_succ, List.getElem_cons_zero, List.setIfInBounds_toArray, List.set_cons_zero, List.set_cons_succ]
        refine wpAny_take (i := 3) (v := .slice A k c) rfl (by kernel_rfl) (by kernel_rfl) (by kernel_rfl) (fun _ _ _ h => h) (Or.inl ⟨by kernel_rfl, fun W => by go_simp⟩) ?_
        try simp only [Act.put, List.getElem_toArray, List.getElem_cons_succ, List.getElem_cons_zero, List.setIfInBounds_toArray, List.set_cons_zero, List.set_cons_succ]
        refine wpAny_take (i := 7) (v := .slice A l.length c) rfl (by kernel_rfl) (by kernel_rfl) (by kernel_rfl) (fun _ _ _ h => h) (Or.inl ⟨by kernel_rfl, fun W => by go_simp⟩) ?_
        try simp only [Act.put, List.getElem_toArray, List.getElem_cons_succ, List.getElem_cons_zero, List.setIfInBounds_toArray, List.set_cons_zero, List.set_cons_succ]
        refine wpAny_take (i := 8) (v := .int .i64 (k : Nat)) rfl (by kernel_rfl) (by kernel_rfl) (by kernel_rfl) (fun _ _ _ h => h) (Or.inl ⟨by kernel_rfl, fun W => by go_simp⟩) ?_
        try simp only [Act.put, List.getElem_toArray, List.getElem_cons_succ, List.getElem_cons_zero, List.setIfInBounds_toArray, List.set_cons_zero, List.set_cons_succ]
        refine wpAny_take (i := 9) (v := .slice (if c = k then A else A.map (·.add (k * 3))) (l.length - k) (c - k)) rfl (by kernel_rfl) (by kernel_rfl) (by kernel_rfl) (fun _ _ _ h => h) (Or.inl ⟨by kernel_rfl, fun W => by by_cases hck : c = k <;> simp only [hck, if_true, if_false] <;> go_simp⟩) ?_
        try simp only [Act.put, List.getElem_toArray, List.getElem_cons_succ, List.getElem_cons_zero, List.setIfInBounds_toArray, List.set_cons_zero, List.set_cons_succ]
        generalize (if c = k then A else A.map (·.add (k * 3))) = A2 at HTo2 ⊢
        refine wpAny_ready (rs := [0, 4]) (by kernel_rfl) (by simp) ?_
        refine AllReady.cons rfl (fun K hK => ?_) (AllReady.cons rfl (fun K hK => ?_) AllReady.nil)
        · go_simp
          have hO0 := World.ownsRow_lit (base := w4.heap.size) (e := 71) (size := 3) (wq) #[] 0 hWd.size (by decide) rfl
          have hW0 := hWd.alloc hWd.size (.cells #[] 71)
          refine hK _ _ ?_
          clear hK K
          try simp only [Act.put, List.getElem_toArray, List.getElem_cons_succ, List.getElem_cons_zero, List.setIfInBounds_toArray, List.set_cons_zero, List.set_cons_succ]
          generalize wq.alloc (.cells #[] 71) = wa at hO0 hW0 ⊢
          refine wpAny_ready (rs := [4]) (by kernel_rfl) (by simp) ?_
          refine AllReady.cons rfl (fun K hK => ?_) AllReady.nil
          go_simp
          refine (HTo1.out wa hW0).mono ?_
          rintro e w5 ⟨v, rfl, hI1⟩
          obtain ⟨G1, g1, rfl⟩ := ownsRow_slice hI1.own
          have hW5 := hW0.trans (hI1.below.mono hW0.size)
          have hO5 := own_below hO0 hI1.below
          refine hK _ _ ?_
          clear hK K
          try simp only [Act.put, List.getElem_toArray, List.getElem_cons_succ, List.getElem_cons_zero, List.setIfInBounds_toArray, List.set_cons_zero, List.set_cons_succ]
          refine wpAny_ready (rs := [5]) (by kernel_rfl) (by simp) ?_
          refine AllReady.cons rfl (fun K hK => ?_) AllReady.nil
          go_simp
          have HJ1 := hide (joinP_any G1 lt g1 w5 (RdT.own hI1.own) (by have := JJ.out; omega) (by have := JJ.out; omega))
          rw [joinP_eq] at HJ1
          refine HJ1.out.mono ?_
          rintro e wt ⟨v, rfl, hI2⟩
          obtain ⟨G2, g2, rfl⟩ := ownsRow_slice hI2.own
          have hWt := hW5.trans (hI2.below.mono hW5.size)
          have hOt := own_below hO5 hI2.below
          refine hK _ _ ?_
          clear hK K
          try simp only [Act.put, List.getElem_toArray, List.getElem_cons_succ, List.getElem_cons_zero, List.setIfInBounds_toArray, List.set_cons_zero, List.set_cons_succ]
          refine wpAny_ready (rs := [6]) (by kernel_rfl) (by simp) ?_
          refine AllReady.cons rfl (fun K hK => ?_) AllReady.nil
          refine step_append_toks rfl (.tmp 24) (.tmp 29) 65 rfl w4.heap.size 71 i0 Try.underlying65 hi hz0 hz1 hz2 (.slice (some ⟨wq.heap.size, 0, none⟩) 0 0) 0 [] rfl hOt G2 _ g2 _ (joinR lt) rfl rfl (RdT.own hI2.own) (by have := JJ.out; unfold maxLen; omega) (by have := JJ.out; omega) hWt.size ?_
          intro v6 w6 hO6 hg6
          obtain ⟨V6, c6, rfl⟩ := ownsRow_slice hO6
          rw [Nat.zero_add, List.nil_append] at hO6
          rw [Nat.zero_add]
          have hW6 := hWt.grown hg6 hWt.size (fun r e => (hOt.lt r e).1)
          refine hK _ _ ?_
          clear hK K
          try simp only [Act.put, List.getElem_toArray, List.getElem_cons_succ, List.getElem_cons_zero, List.setIfInBounds_toArray, List.set_cons_zero, List.set_cons_succ]
          refine wpAny_ready (rs := [10]) (by kernel_rfl) (by simp) ?_
          refine AllReady.cons rfl (fun K hK => ?_) AllReady.nil
          go_simp
          refine (HTo2.out w6 hW6).mono ?_
          rintro e w7 ⟨v, rfl, hI7⟩
          obtain ⟨G7, g7, rfl⟩ := ownsRow_slice hI7.own
          have hW7 := hW6.trans (hI7.below.mono hW6.size)
          have hO7 := own_below hO6 hI7.below
          refine hK _ _ ?_
          clear hK K
          try simp only [Act.put, List.getElem_toArray, List.getElem_cons_succ, List.getElem_cons_zero, List.setIfInBounds_toArray, List.set_cons_zero, List.set_cons_succ]
          refine wpAny_ready (rs := [11]) (by kernel_rfl) (by simp) ?_
          refine AllReady.cons rfl (fun K hK => ?_) AllReady.nil
          go_simp
          have HJ2 := hide (joinP_any G7 ld g7 w7 (RdT.own hI7.own) (by have := JJ.out; omega) (by have := JJ.out; omega))
          rw [joinP_eq] at HJ2
          refine HJ2.out.mono ?_
          rintro e w8 ⟨v, rfl, hI8⟩
          obtain ⟨G8, g8, rfl⟩ := ownsRow_slice hI8.own
          have hW8 := hW7.trans (hI8.below.mono hW7.size)
          have hO8 := own_below hO7 hI8.below
          refine hK _ _ ?_
          clear hK K
          try simp only [Act.put, List.getElem_toArray, List.getElem_cons_succ, List.getElem_cons_zero, List.setIfInBounds_toArray, List.set_cons_zero, List.set_cons_succ]
          refine wpAny_ready (rs := [12]) (by kernel_rfl) (by simp) ?_
          refine AllReady.cons rfl (fun K hK => ?_) AllReady.nil
          refine step_append_toks rfl (.tmp 30) (.tmp 35) 65 rfl w4.heap.size 71 i0 Try.underlying65 hi hz0 hz1 hz2 (.slice V6 (joinR lt).length c6) (joinR lt).length (cellsT (joinR lt)) rfl hO8 G8 _ g8 _ (joinR ld) rfl rfl (RdT.own hI8.own) (by have := JJ.out; unfold maxLen; omega) (by have := JJ.out; omega) hW8.size ?_
          intro v9 w9 hO9 hg9
          obtain ⟨V9, c9, rfl⟩ := ownsRow_slice hO9
          have hW9 := hW8.grown hg9 hW8.size (fun r e => (hO8.lt r e).1)
          obtain ⟨Y, hY⟩ : ∃ Y, Y = joinR lt ++ joinR ld := ⟨_, rfl⟩
          have HY := hide (show Y.length ≤ 100 ∧ sizeL Y ≤ 1000000 ∧ joinR Y = joinR l from ⟨by have := JJ.out; rw [hY, List.length_append]; omega, by have := JJ.out; rw [hY, sizeL_app]; omega, by rw [hY]; exact HParts.out⟩)
          have hX9 : cellsT (joinR lt) ++ cellsT (joinR ld) = cellsT Y := by rw [hY, cellsT_app]
          have hN9 : (joinR lt).length + (joinR ld).length = Y.length := by rw [hY, List.length_append]
          rw [hX9, hN9] at hO9
          rw [hN9]
          clear hX9 hN9 hY
          refine hK _ _ ?_
          clear hK K
          try simp only [Act.put, List.getElem_toArray, List.getElem_cons_succ, List.getElem_cons_zero, List.setIfInBounds_toArray, List.set_cons_zero, List.set_cons_succ]
          refine wpAny_ready (rs := [13]) (by kernel_rfl) (by simp) ?_
          refine AllReady.cons rfl (fun K hK => ?_) AllReady.nil
          go_simp
          have HJ3 := hide (joinP_any V9 Y c9 w9 (RdT.own hO9) (by have := HY.out.1; omega) HY.out.2.1)
          rw [joinP_eq, HY.out.2.2] at HJ3
          refine HJ3.out.mono ?_
          rintro e w10 ⟨v, rfl, hI10⟩
          obtain ⟨V10, c10, rfl⟩ := ownsRow_slice hI10.own
          have hW10 := hW9.trans (hI10.below.mono hW9.size)
          refine hK _ _ ?_
          clear hK K
          try simp only [Act.put, List.getElem_toArray, List.getElem_cons_succ, List.getElem_cons_zero, List.setIfInBounds_toArray, List.set_cons_zero, List.set_cons_succ]
          refine wpAny_take (i := 14) (v := .slice V10 (joinR l).length c10) rfl (by kernel_rfl) (by kernel_rfl) (by kernel_rfl) (fun _ _ _ h => h) (Or.inl ⟨by kernel_rfl, fun W => by go_simp⟩) ?_
          try simp only [Act.put, List.getElem_toArray, List.getElem_cons_succ, List.getElem_cons_zero, List.setIfInBounds_toArray, List.set_cons_zero, List.set_cons_succ]
          refine wpAny_done (by kernel_rfl) ?_ _
          refine NoPanic.normal ?_
          exact ⟨rfl, V10, c10, _, _, _, _, _, _, _, _, _, _, _, _, _, _, _, _, _, _, _, _, _, rfl, hW10, RdT.own hI10.own⟩
        · go_simp
          refine (HTo1.out wq hWd).mono ?_
          rintro e w5 ⟨v, rfl, hI1⟩
          obtain ⟨G1, g1, rfl⟩ := ownsRow_slice hI1.own
          have hW5 := hWd.trans (hI1.below.mono hWd.size)
          refine hK _ _ ?_
          clear hK K
          try simp only [Act.put, List.getElem_toArray, List.getElem_cons_succ, List.getElem_cons_zero, List.setIfInBounds_toArray, List.set_cons_zero, List.set_cons_succ]
          refine wpAny_ready (rs := [0, 5]) (by kernel_rfl) (by simp) ?_
          refine AllReady.cons rfl (fun K hK => ?_) (AllReady.cons rfl (fun K hK => ?_) AllReady.nil)
          · go_simp
            have hO0 := World.ownsRow_lit (base := w4.heap.size) (e := 71) (size := 3) (w5) #[] 0 hW5.size (by decide) rfl
            have hW0 := hW5.alloc hW5.size (.cells #[] 71)
            refine hK _ _ ?_
            clear hK K
            try simp only [Act.put, List.getElem_toArray, List.getElem_cons_succ, List.getElem_cons_zero, List.setIfInBounds_toArray, List.set_cons_zero, List.set_cons_succ]
            have hb5 := (Below.refl w5.heap.size w5).alloc (Nat.le_refl _) (.cells #[] 71)
            generalize w5.alloc (.cells #[] 71) = wa at hO0 hW0 hb5 ⊢
            refine wpAny_ready (rs := [5]) (by kernel_rfl) (by simp) ?_
            refine AllReady.cons rfl (fun K hK => ?_) AllReady.nil
            go_simp
            have HJ1 := hide (joinP_any G1 lt g1 wa ((RdT.own hI1.own).step hb5) (by have := JJ.out; omega) (by have := JJ.out; omega))
            rw [joinP_eq] at HJ1
            refine HJ1.out.mono ?_
            rintro e wt ⟨v, rfl, hI2⟩
            obtain ⟨G2, g2, rfl⟩ := ownsRow_slice hI2.own
            have hWt := hW0.trans (hI2.below.mono hW0.size)
            have hOt := own_below hO0 hI2.below
            refine hK _ _ ?_
            clear hK K
            try simp only [Act.put, List.getElem_toArray, List.getElem_cons_succ, List.getElem_cons_zero, List.setIfInBounds_toArray, List.set_cons_zero, List.set_cons_succ]
            refine wpAny_ready (rs := [6]) (by kernel_rfl) (by simp) ?_
            refine AllReady.cons rfl (fun K hK => ?_) AllReady.nil
            refine step_append_toks rfl (.tmp 24) (.tmp 29) 65 rfl w4.heap.size 71 i0 Try.underlying65 hi hz0 hz1 hz2 (.slice (some ⟨w5.heap.size, 0, none⟩) 0 0) 0 [] rfl hOt G2 _ g2 _ (joinR lt) rfl rfl (RdT.own hI2.own) (by have := JJ.out; unfold maxLen; omega) (by have := JJ.out; omega) hWt.size ?_
            intro v6 w6 hO6 hg6
            obtain ⟨V6, c6, rfl⟩ := ownsRow_slice hO6
            rw [Nat.zero_add, List.nil_append] at hO6
            rw [Nat.zero_add]
            have hW6 := hWt.grown hg6 hWt.size (fun r e => (hOt.lt r e).1)
            refine hK _ _ ?_
            clear hK K
            try simp only [Act.put, List.getElem_toArray, List.getElem_cons_succ, List.getElem_cons_zero, List.setIfInBounds_toArray, List.set_cons_zero, List.set_cons_succ]
            refine wpAny_ready (rs := [10]) (by kernel_rfl) (by simp) ?_
            refine AllReady.cons rfl (fun K hK => ?_) AllReady.nil
            go_simp
            refine (HTo2.out w6 hW6).mono ?_
            rintro e w7 ⟨v, rfl, hI7⟩
            obtain ⟨G7, g7, rfl⟩ := ownsRow_slice hI7.own
            have hW7 := hW6.trans (hI7.below.mono hW6.size)
            have hO7 := own_below hO6 hI7.below
            refine hK _ _ ?_
            clear hK K
            try simp only [Act.put, List.getElem_toArray, List.getElem_cons_succ, List.getElem_cons_zero, List.setIfInBounds_toArray, List.set_cons_zero, List.set_cons_succ]
            refine wpAny_ready (rs := [11]) (by kernel_rfl) (by simp) ?_
            refine AllReady.cons rfl (fun K hK => ?_) AllReady.nil
            go_simp
            have HJ2 := hide (joinP_any G7 ld g7 w7 (RdT.own hI7.own) (by have := JJ.out; omega) (by have := JJ.out; omega))
            rw [joinP_eq] at HJ2
            refine HJ2.out.mono ?_
            rintro e w8 ⟨v, rfl, hI8⟩
            obtain ⟨G8, g8, rfl⟩ := ownsRow_slice hI8.own
            have hW8 := hW7.trans (hI8.below.mono hW7.size)
            have hO8 := own_below hO7 hI8.below
            refine hK _ _ ?_
            clear hK K
            try simp only [Act.put, List.getElem_toArray, List.getElem_cons_succ, List.getElem_cons_zero, List.setIfInBounds_toArray, List.set_cons_zero, List.set_cons_succ]
            refine wpAny_ready (rs := [12]) (by kernel_rfl) (by simp) ?_
            refine AllReady.cons rfl (fun K hK => ?_) AllReady.nil
            refine step_append_toks rfl (.tmp 30) (.tmp 35) 65 rfl w4.heap.size 71 i0 Try.underlying65 hi hz0 hz1 hz2 (.slice V6 (joinR lt).length c6) (joinR lt).length (cellsT (joinR lt)) rfl hO8 G8 _ g8 _ (joinR ld) rfl rfl (RdT.own hI8.own) (by have := JJ.out; unfold maxLen; omega) (by have := JJ.out; omega) hW8.size ?_
            intro v9 w9 hO9 hg9
            obtain ⟨V9, c9, rfl⟩ := ownsRow_slice hO9
            have hW9 := hW8.grown hg9 hW8.size (fun r e => (hO8.lt r e).1)
            obtain ⟨Y, hY⟩ : ∃ Y, Y = joinR lt ++ joinR ld := ⟨_, rfl⟩
            have HY := hide (show Y.length ≤ 100 ∧ sizeL Y ≤ 1000000 ∧ joinR Y = joinR l from ⟨by have := JJ.out; rw [hY, List.length_append]; omega, by have := JJ.out; rw [hY, sizeL_app]; omega, by rw [hY]; exact HParts.out⟩)
            have hX9 : cellsT (joinR lt) ++ cellsT (joinR ld) = cellsT Y := by rw [hY, cellsT_app]
            have hN9 : (joinR lt).length + (joinR ld).length = Y.length := by rw [hY, List.length_append]
            rw [hX9, hN9] at hO9
            rw [hN9]
            clear hX9 hN9 hY
            refine hK _ _ ?_
            clear hK K
            try simp only [Act.put, List.getElem_toArray, List.getElem_cons_succ, List.getElem_cons_zero, List.setIfInBounds_toArray, List.set_cons_zero, List.set_cons_succ]
            refine wpAny_ready (rs := [13]) (by kernel_rfl) (by simp) ?_
            refine AllReady.cons rfl (fun K hK => ?_) AllReady.nil
            go_simp
            have HJ3 := hide (joinP_any V9 Y c9 w9 (RdT.own hO9) (by have := HY.out.1; omega) HY.out.2.1)
            rw [joinP_eq, HY.out.2.2] at HJ3
            refine HJ3.out.mono ?_
            rintro e w10 ⟨v, rfl, hI10⟩
            obtain ⟨V10, c10, rfl⟩ := ownsRow_slice hI10.own
            have hW10 := hW9.trans (hI10.below.mono hW9.size)
            refine hK _ _ ?_
            clear hK K
            try simp only [Act.put, List.getElem_toArray, List.getElem_cons_succ, List.getElem_cons_zero, List.setIfInBounds_toArray, List.set_cons_zero, List.set_cons_succ]
            refine wpAny_take (i := 14) (v := .slice V10 (joinR l).length c10) rfl (by kernel_rfl) (by kernel_rfl) (by kernel_rfl) (fun _ _ _ h => h) (Or.inl ⟨by kernel_rfl, fun W => by go_simp⟩) ?_
            try simp only [Act.put, List.getElem_toArray, List.getElem_cons_succ, List.getElem_cons_zero, List.setIfInBounds_toArray, List.set_cons_zero, List.set_cons_succ]
            refine wpAny_done (by kernel_rfl) ?_ _
            refine NoPanic.normal ?_
            exact ⟨rfl, V10, c10, _, _, _, _, _, _, _, _, _, _, _, _, _, _, _, _, _, _, _, _, _, rfl, hW10, RdT.own hI10.own⟩
          · go_simp
            have HJ1 := hide (joinP_any G1 lt g1 w5 (RdT.own hI1.own) (by have := JJ.out; omega) (by have := JJ.out; omega))
            rw [joinP_eq] at HJ1
            refine HJ1.out.mono ?_
            rintro e w5b ⟨v, rfl, hI2⟩
            obtain ⟨G2, g2, rfl⟩ := ownsRow_slice hI2.own
            have hW5b := hW5.trans (hI2.below.mono hW5.size)
            refine hK _ _ ?_
            clear hK K
            try simp only [Act.put, List.getElem_toArray, List.getElem_cons_succ, List.getElem_cons_zero, List.setIfInBounds_toArray, List.set_cons_zero, List.set_cons_succ]
            refine wpAny_ready (rs := [0]) (by kernel_rfl) (by simp) ?_
            refine AllReady.cons rfl (fun K hK => ?_) AllReady.nil
            go_simp
            have hO0 := World.ownsRow_lit (base := w4.heap.size) (e := 71) (size := 3) (w5b) #[] 0 hW5b.size (by decide) rfl
            have hW0 := hW5b.alloc hW5b.size (.cells #[] 71)
            refine hK _ _ ?_
            clear hK K
            try simp only [Act.put, List.getElem_toArray, List.getElem_cons_succ, List.getElem_cons_zero, List.setIfInBounds_toArray, List.set_cons_zero, List.set_cons_succ]
            have hb5 := (Below.refl w5b.heap.size w5b).alloc (Nat.le_refl _) (.cells #[] 71)
            have hRt := (RdT.own hI2.own).step hb5
            generalize w5b.alloc (.cells #[] 71) = wa at hO0 hW0 hb5 hRt ⊢
            refine wpAny_ready (rs := [6]) (by kernel_rfl) (by simp) ?_
            refine AllReady.cons rfl (fun K hK => ?_) AllReady.nil
            refine step_append_toks rfl (.tmp 24) (.tmp 29) 65 rfl w4.heap.size 71 i0 Try.underlying65 hi hz0 hz1 hz2 (.slice (some ⟨w5b.heap.size, 0, none⟩) 0 0) 0 [] rfl hO0 G2 _ g2 _ (joinR lt) rfl rfl hRt (by have := JJ.out; unfold maxLen; omega) (by have := JJ.out; omega) hW0.size ?_
            intro v6 w6 hO6 hg6
            obtain ⟨V6, c6, rfl⟩ := ownsRow_slice hO6
            rw [Nat.zero_add, List.nil_append] at hO6
            rw [Nat.zero_add]
            have hW6 := hW0.grown hg6 hW0.size (fun r e => (hO0.lt r e).1)
            refine hK _ _ ?_
            clear hK K
            try simp only [Act.put, List.getElem_toArray, List.getElem_cons_succ, List.getElem_cons_zero, List.setIfInBounds_toArray, List.set_cons_zero, List.set_cons_succ]
            refine wpAny_ready (rs := [10]) (by kernel_rfl) (by simp) ?_
            refine AllReady.cons rfl (fun K hK => ?_) AllReady.nil
            go_simp
            refine (HTo2.out w6 hW6).mono ?_
            rintro e w7 ⟨v, rfl, hI7⟩
            obtain ⟨G7, g7, rfl⟩ := ownsRow_slice hI7.own
            have hW7 := hW6.trans (hI7.below.mono hW6.size)
            have hO7 := own_below hO6 hI7.below
            refine hK _ _ ?_
            clear hK K
            try simp only [Act.put, List.getElem_toArray, List.getElem_cons_succ, List.getElem_cons_zero, List.setIfInBounds_toArray, List.set_cons_zero, List.set_cons_succ]
            refine wpAny_ready (rs := [11]) (by kernel_rfl) (by simp) ?_
            refine AllReady.cons rfl (fun K hK => ?_) AllReady.nil
            go_simp
            have HJ2 := hide (joinP_any G7 ld g7 w7 (RdT.own hI7.own) (by have := JJ.out; omega) (by have := JJ.out; omega))
            rw [joinP_eq] at HJ2
            refine HJ2.out.mono ?_
            rintro e w8 ⟨v, rfl, hI8⟩
            obtain ⟨G8, g8, rfl⟩ := ownsRow_slice hI8.own
            have hW8 := hW7.trans (hI8.below.mono hW7.size)
            have hO8 := own_below hO7 hI8.below
            refine hK _ _ ?_
            clear hK K
            try simp only [Act.put, List.getElem_toArray, List.getElem_cons_succ, List.getElem_cons_zero, List.setIfInBounds_toArray, List.set_cons_zero, List.set_cons_succ]
            refine wpAny_ready (rs := [12]) (by kernel_rfl) (by simp) ?_
            refine AllReady.cons rfl (fun K hK => ?_) AllReady.nil
            refine step_append_toks rfl (.tmp 30) (.tmp 35) 65 rfl w4.heap.size 71 i0 Try.underlying65 hi hz0 hz1 hz2 (.slice V6 (joinR lt).length c6) (joinR lt).length (cellsT (joinR lt)) rfl hO8 G8 _ g8 _ (joinR ld) rfl rfl (RdT.own hI8.own) (by have := JJ.out; unfold maxLen; omega) (by have := JJ.out; omega) hW8.size ?_
            intro v9 w9 hO9 hg9
            obtain ⟨V9, c9, rfl⟩ := ownsRow_slice hO9
            have hW9 := hW8.grown hg9 hW8.size (fun r e => (hO8.lt r e).1)
            obtain ⟨Y, hY⟩ : ∃ Y, Y = joinR lt ++ joinR ld := ⟨_, rfl⟩
            have HY := hide (show Y.length ≤ 100 ∧ sizeL Y ≤ 1000000 ∧ joinR Y = joinR l from ⟨by have := JJ.out; rw [hY, List.length_append]; omega, by have := JJ.out; rw [hY, sizeL_app]; omega, by rw [hY]; exact HParts.out⟩)
            have hX9 : cellsT (joinR lt) ++ cellsT (joinR ld) = cellsT Y := by rw [hY, cellsT_app]
            have hN9 : (joinR lt).length + (joinR ld).length = Y.length := by rw [hY, List.length_append]
            rw [hX9, hN9] at hO9
            rw [hN9]
            clear hX9 hN9 hY
            refine hK _ _ ?_
            clear hK K
            try simp only [Act.put, List.getElem_toArray, List.getElem_cons_succ, List.getElem_cons_zero, List.setIfInBounds_toArray, List.set_cons_zero, List.set_cons_succ]
            refine wpAny_ready (rs := [13]) (by kernel_rfl) (by simp) ?_
            refine AllReady.cons rfl (fun K hK => ?_) AllReady.nil
            go_simp
            have HJ3 := hide (joinP_any V9 Y c9 w9 (RdT.own hO9) (by have := HY.out.1; omega) HY.out.2.1)
            rw [joinP_eq, HY.out.2.2] at HJ3
            refine HJ3.out.mono ?_
            rintro e w10 ⟨v, rfl, hI10⟩
            obtain ⟨V10, c10, rfl⟩ := ownsRow_slice hI10.own
            have hW10 := hW9.trans (hI10.below.mono hW9.size)
            refine hK _ _ ?_
            clear hK K
            try simp only [Act.put, List.getElem_toArray, List.getElem_cons_succ, List.getElem_cons_zero, List.setIfInBounds_toArray, List.set_cons_zero, List.set_cons_succ]
            refine wpAny_take (i := 14) (v := .slice V10 (joinR l).length c10) rfl (by kernel_rfl) (by kernel_rfl) (by kernel_rfl) (fun _ _ _ h => h) (Or.inl ⟨by kernel_rfl, fun W => by go_simp⟩) ?_
            try simp only [Act.put, List.getElem_toArray, List.getElem_cons_succ, List.getElem_cons_zero, List.setIfInBounds_toArray, List.set_cons_zero, List.set_cons_succ]
            refine wpAny_done (by kernel_rfl) ?_ _
            refine NoPanic.normal ?_
            exact ⟨rfl, V10, c10, _, _, _, _, _, _, _, _, _, _, _, _, _, _, _, _, _, _, _, _, _, rfl, hW10, RdT.own hI10.own⟩
      case cont =>
        rintro e a' W ⟨rfl, V10, c10, u17, u18, u19, u20, u21, u22, u23, u24, u25, u26, u27, u28, u29, u30, u31, u32, u33, u34, u35, u36, u37, rfl, hW, hRV⟩
        have HRV := hide (fun (W2 : World) (h : Below W.heap.size W W2) => hRV.step h)
        have HWW := hide hW
        clear hRV hW HTo1 HTo2
        go_wp2_with fail
        refine (tkAwake_any _).mono ?_
        rintro e wa ⟨rfl, hba⟩
        have HW1 := hide (HWW.out.trans (hba.mono HWW.out.size))
        have HV1 := hide hba
        have HFr := hide (from_any E (joinR l) f wa (HE.out wa HW1.out) (by omega))
        clear hba
        go_wp2_with fail
        refine HFr.out.mono ?_
        rintro e wb ⟨v, rfl, hIb⟩
        obtain ⟨G, g, rfl⟩ := ownsRow_slice hIb.own
        have HW2 := hide (HW1.out.trans (hIb.below.mono HW1.out.size))
        have HV2 := hide (HV1.out.trans (hIb.below.mono HV1.out.size))
        have HRJ := hide (refJoin_any A l c wb (HL.out wb HW2.out) (by omega) HSz.out)
        have HG := hide (RdT.own hIb.own)
        clear hIb HFr
        go_wp2_with fail
        refine HRJ.out.mono ?_
        rintro e wc ⟨v, rfl, hIc⟩
        obtain ⟨H, h, rfl⟩ := ownsRow_slice hIc.own
        have HW3 := hide (HW2.out.trans (hIc.below.mono HW2.out.size))
        have HV3 := hide (HV2.out.trans (hIc.below.mono HV2.out.size))
        have HSm := hide (refTSame_any G H (joinR l) (joinR l) g h wc (HG.out.step hIc.below) (RdT.own hIc.own) (by omega))
        rw [sameB_refl] at HSm
        clear hIc HRJ HG
        go_wp2_with fail
        refine HSm.out.mono ?_
        rintro e wd ⟨rfl, hbd⟩
        have HW4 := hide (HW3.out.trans (hbd.mono HW3.out.size))
        have HV4 := hide (HV3.out.trans (hbd.mono HV3.out.size))
        have HJ2 := hide (joinP_any E (joinR l) f wd (HE.out wd HW4.out) (by omega) (by omega))
        rw [joinP_eq, joinR_twice l hs] at HJ2
        clear hbd HSm
        go_wp2_with fail
        refine HJ2.out.mono ?_
        rintro e we ⟨v, rfl, hIe⟩
        obtain ⟨I, ii, rfl⟩ := ownsRow_slice hIe.own
        have HW5 := hide (HW4.out.trans (hIe.below.mono HW4.out.size))
        have HV5 := hide (HV4.out.trans (hIe.below.mono HV4.out.size))
        have HS2 := hide (same_any I E (joinR l) (joinR l) ii f we (RdT.own hIe.own) (HE.out we HW5.out) (by omega))
        rw [sameB_refl] at HS2
        clear hIe HJ2
        go_wp2_with fail
        refine HS2.out.mono ?_
        rintro e wf ⟨rfl, hbf⟩
        have HW6 := hide (HW5.out.trans (hbf.mono HW5.out.size))
        have HV6 := hide (HV5.out.trans (hbf.mono HV5.out.size))
        have HY1 := hide (bytesL_any E (joinR l) f wf (HE.out wf HW6.out) (by omega) (by omega))
        rw [joinR_bytes] at HY1
        clear hbf HS2
        go_wp2_with fail
        refine HY1.out.mono ?_
        rintro e wg ⟨rfl, hbg⟩
        have HW7 := hide (HW6.out.trans (hbg.mono HW6.out.size))
        have HV7 := hide (HV6.out.trans (hbg.mono HV6.out.size))
        have HY2 := hide (refBytesL_any A l c wg (HL.out wg HW7.out) (by omega) (by omega))
        clear hbg HY1
        go_wp2_with fail
        refine HY2.out.mono ?_
        rintro e wh ⟨rfl, hbh⟩
        have HW8 := hide (HW7.out.trans (hbh.mono HW7.out.size))
        have HV8 := hide (HV7.out.trans (hbh.mono HV7.out.size))
        have HS3 := hide (same_any V10 E (joinR l) (joinR l) c10 f wh (HRV.out wh HV8.out) (HE.out wh HW8.out) (by omega))
        rw [sameB_refl] at HS3
        clear hbh HY2
        go_wp2_with fail
        refine HS3.out.mono ?_
        rintro e wi ⟨rfl, hbi⟩
        have HW9 := hide (HW8.out.trans (hbi.mono HW8.out.size))
        clear hbi HS3
        go_wp2_with fail
        exact bodyPost_ret (results_tmp rfl _ _ _) rfl ⟨rfl, HB4.out.trans (HW9.out.mono HB4.out.size)⟩
    · have hk0 : k = 0 := by rw [if_neg (by omega)] at hk; omega
      clear hk
      subst hk0
      have hm0 : (if c = 0 then A else A.map (·.add (0 * 3))) = A := by
        split
        · rfl
        · cases A with
          | none => rfl
          | some a => show some (a.add 0) = some a; rfl
      have HTo3 := hide (fun (W : World) (h : Below w4.heap.size w4 W) => (show Calls Try.prog 32 #[.slice A l.length c] W fun e w' => ∃ v, e = .returned v ∧ TI W 71 v ld w' from by
        have h9 := HTo2.out W h
        rw [hm0] at h9
        exact h9))
      clear HTo2 hm0
      have HTo2 := HTo3
      clear HTo3
      go_wp2_with fail
      refine Code.wp_mono (Q := fun e a' W => e = .normal ∧ ∃ (V10 : Option Addr) (c10 : Nat) (u17 u18 u19 u20 u21 u22 u23 u24 u25 u26 u27 u28 u29 u30 u31 u32 u33 u34 u35 u36 u37 : Value), a' = ⟨#[.slice A l.length c, .int .u8 z, undef, undef, .bool false, .slice E (joinR l).length f, .int .i64 0, .slice V10 (joinR l).length c10, .slice A l.length c, .bool true, .bool false, undef, .slice A l.length c, .slice D l.length d, .slice E (joinR l).length f, .slice A l.length c, .int .i64 l.length, u17, u18, u19, u20, u21, u22, u23, u24, u25, u26, u27, u28, u29, u30, u31, u32, u33, u34, u35, u36, u37, undef, undef, undef, undef, undef, undef, undef, undef, undef, undef, undef, undef, undef, undef, undef, undef, undef, undef, undef, undef, undef, undef, undef, undef, undef, undef], []⟩ ∧ Below w4.heap.size w4 W ∧ RdT W W.heap.size V10 (joinR l)) ?cont ?reg
      case reg =>
        refine wp_region_noPanic ?_
        refine wp_region_any (by kernel_rfl) ?_
        change wpAny _ _ _ _ _ _ _ (World.drew _)
        have hWd := (Below.refl w4.heap.size w4).drew
        generalize w4.drew = wq at hWd ⊢
        refine wpAny_take (i := 1) (v := .slice A l.length c) rfl (by kernel_rfl) (by kernel_rfl) (by kernel_rfl) (fun _ _ _ h => h) (Or.inl ⟨by kernel_rfl, fun W => by go_simp⟩) ?_
        try simp only [Act.put, List.getElem_toArray, List.getElem_cons_succ, List.getElem_cons_zero, List.setIfInBounds_toArray, List.set_cons_zero, List.set_cons_succ]
        refine wpAny_take (i := 2) (v := .int .i64 0) rfl (by kernel_rfl) (by kernel_rfl) (by kernel_rfl) (fun _ _ _ h => h) (Or.inl ⟨by kernel_rfl, fun W => by go_simp⟩) ?_
        try simp only [Act.put, List.getElem_toArray, List.getElem_cons_succ, List.getElem_cons_zero, List.setIfInBounds_toArray, List.set_cons_zero, List.set_cons_succ]
        refine wpAny_take (i := 3) (v := .slice A 0 c) rfl (by kernel_rfl) (by kernel_rfl) (by kernel_rfl) (fun _ _ _ h => h) (Or.inl ⟨by kernel_rfl, fun W => by go_simp⟩) ?_
        try simp only [Act.put, List.getElem_toArray, List.getElem_cons_succ, List.getElem_cons_zero, List.setIfInBounds_toArray, List.set_cons_zero, List.set_cons_succ]
        refine wpAny_take (i := 7) (v := .slice A l.length c) rfl (by kernel_rfl) (by kernel_rfl) (by kernel_rfl) (fun _ _ _ h => h) (Or.inl ⟨by kernel_rfl, fun W => by go_simp⟩) ?_
        try simp only [Act.put, List.getElem_toArray, List.getElem_cons_succ, List.getElem_cons_zero, List.setIfInBounds_toArray, List.set_cons_zero, List.set_cons_succ]
        refine wpAny_take (i := 8) (v := .int .i64 0) rfl (by kernel_rfl) (by kernel_rfl) (by kernel_rfl) (fun _ _ _ h => h) (Or.inl ⟨by kernel_rfl, fun W => by go_simp⟩) ?_
        try simp only [Act.put, List.getElem_toArray, List.getElem_cons_succ, List.getElem_cons_zero, List.setIfInBounds_toArray, List.set_cons_zero, List.set_cons_succ]
        refine wpAny_take (i := 9) (v := .slice A l.length c) rfl (by kernel_rfl) (by kernel_rfl) (by kernel_rfl) (fun _ _ _ h => h) (Or.inl ⟨by kernel_rfl, fun W => by go_simp⟩) ?_
        try simp only [Act.put, List.getElem_toArray, List.getElem_cons_succ, List.getElem_cons_zero, List.setIfInBounds_toArray, List.set_cons_zero, List.set_cons_succ]
        refine wpAny_ready (rs := [0, 4]) (by kernel_rfl) (by simp) ?_
        refine AllReady.cons rfl (fun K hK => ?_) (AllReady.cons rfl (fun K hK => ?_) AllReady.nil)
        · go_simp
          have hO0 := World.ownsRow_lit (base := w4.heap.size) (e := 71) (size := 3) (wq) #[] 0 hWd.size (by decide) rfl
          have hW0 := hWd.alloc hWd.size (.cells #[] 71)
          refine hK _ _ ?_
          clear hK K
          try simp only [Act.put, List.getElem_toArray, List.getElem_cons_succ, List.getElem_cons_zero, List.setIfInBounds_toArray, List.set_cons_zero, List.set_cons_succ]
          generalize wq.alloc (.cells #[] 71) = wa at hO0 hW0 ⊢
          refine wpAny_ready (rs := [4]) (by kernel_rfl) (by simp) ?_
          refine AllReady.cons rfl (fun K hK => ?_) AllReady.nil
          go_simp
          refine (HTo1.out wa hW0).mono ?_
          rintro e w5 ⟨v, rfl, hI1⟩
          obtain ⟨G1, g1, rfl⟩ := ownsRow_slice hI1.own
          have hW5 := hW0.trans (hI1.below.mono hW0.size)
          have hO5 := own_below hO0 hI1.below
          refine hK _ _ ?_
          clear hK K
          try simp only [Act.put, List.getElem_toArray, List.getElem_cons_succ, List.getElem_cons_zero, List.setIfInBounds_toArray, List.set_cons_zero, List.set_cons_succ]
          refine wpAny_ready (rs := [5]) (by kernel_rfl) (by simp) ?_
          refine AllReady.cons rfl (fun K hK => ?_) AllReady.nil
          go_simp
          have HJ1 := hide (joinP_any G1 lt g1 w5 (RdT.own hI1.own) (by have := JJ.out; omega) (by have := JJ.out; omega))
          rw [joinP_eq] at HJ1
          refine HJ1.out.mono ?_
          rintro e wt ⟨v, rfl, hI2⟩
          obtain ⟨G2, g2, rfl⟩ := ownsRow_slice hI2.own
          have hWt := hW5.trans (hI2.below.mono hW5.size)
          have hOt := own_below hO5 hI2.below
          refine hK _ _ ?_
          clear hK K
          try simp only [Act.put, List.getElem_toArray, List.getElem_cons_succ, List.getElem_cons_zero, List.setIfInBounds_toArray, List.set_cons_zero, List.set_cons_succ]
          refine wpAny_ready (rs := [6]) (by kernel_rfl) (by simp) ?_
          refine AllReady.cons rfl (fun K hK => ?_) AllReady.nil
          refine step_append_toks rfl (.tmp 24) (.tmp 29) 65 rfl w4.heap.size 71 i0 Try.underlying65 hi hz0 hz1 hz2 (.slice (some ⟨wq.heap.size, 0, none⟩) 0 0) 0 [] rfl hOt G2 _ g2 _ (joinR lt) rfl rfl (RdT.own hI2.own) (by have := JJ.out; unfold maxLen; omega) (by have := JJ.out; omega) hWt.size ?_
          intro v6 w6 hO6 hg6
          obtain ⟨V6, c6, rfl⟩ := ownsRow_slice hO6
          rw [Nat.zero_add, List.nil_append] at hO6
          rw [Nat.zero_add]
          have hW6 := hWt.grown hg6 hWt.size (fun r e => (hOt.lt r e).1)
          refine hK _ _ ?_
          clear hK K
          try simp only [Act.put, List.getElem_toArray, List.getElem_cons_succ, List.getElem_cons_zero, List.setIfInBounds_toArray, List.set_cons_zero, List.set_cons_succ]
          refine wpAny_ready (rs := [10]) (by kernel_rfl) (by simp) ?_
          refine AllReady.cons rfl (fun K hK => ?_) AllReady.nil
          go_simp
          refine (HTo2.out w6 hW6).mono ?_
          rintro e w7 ⟨v, rfl, hI7⟩
          obtain ⟨G7, g7, rfl⟩ := ownsRow_slice hI7.own
          have hW7 := hW6.trans (hI7.below.mono hW6.size)
          have hO7 := own_below hO6 hI7.below
          refine hK _ _ ?_
          clear hK K
          try simp only [Act.put, List.getElem_toArray, List.getElem_cons_succ, List.getElem_cons_zero, List.setIfInBounds_toArray, List.set_cons_zero, List.set_cons_succ]
          refine wpAny_ready (rs := [11]) (by kernel_rfl) (by simp) ?_
          refine AllReady.cons rfl (fun K hK => ?_) AllReady.nil
          go_simp
          have HJ2 := hide (joinP_any G7 ld g7 w7 (RdT.own hI7.own) (by have := JJ.out; omega) (by have := JJ.out; omega))
          rw [joinP_eq] at HJ2
          refine HJ2.out.mono ?_
          rintro e w8 ⟨v, rfl, hI8⟩
          obtain ⟨G8, g8, rfl⟩ := ownsRow_slice hI8.own
          have hW8 := hW7.trans (hI8.below.mono hW7.size)
          have hO8 := own_below hO7 hI8.below
          refine hK _ _ ?_
          clear hK K
          try simp only [Act.put, List.getElem_toArray, List.getElem_cons_succ, List.getElem_cons_zero, List.setIfInBounds_toArray, List.set_cons_zero, List.set_cons_succ]
          refine wpAny_ready (rs := [12]) (by kernel_rfl) (by simp) ?_
          refine AllReady.cons rfl (fun K hK => ?_) AllReady.nil
          refine step_append_toks rfl (.tmp 30) (.tmp 35) 65 rfl w4.heap.size 71 i0 Try.underlying65 hi hz0 hz1 hz2 (.slice V6 (joinR lt).length c6) (joinR lt).length (cellsT (joinR lt)) rfl hO8 G8 _ g8 _ (joinR ld) rfl rfl (RdT.own hI8.own) (by have := JJ.out; unfold maxLen; omega) (by have := JJ.out; omega) hW8.size ?_
          intro v9 w9 hO9 hg9
          obtain ⟨V9, c9, rfl⟩ := ownsRow_slice hO9
          have hW9 := hW8.grown hg9 hW8.size (fun r e => (hO8.lt r e).1)
          obtain ⟨Y, hY⟩ : ∃ Y, Y = joinR lt ++ joinR ld := ⟨_, rfl⟩
          have HY := hide (show Y.length ≤ 100 ∧ sizeL Y ≤ 1000000 ∧ joinR Y = joinR l from ⟨by have := JJ.out; rw [hY, List.length_append]; omega, by have := JJ.out; rw [hY, sizeL_app]; omega, by rw [hY]; exact HParts.out⟩)
          have hX9 : cellsT (joinR lt) ++ cellsT (joinR ld) = cellsT Y := by rw [hY, cellsT_app]
          have hN9 : (joinR lt).length + (joinR ld).length = Y.length := by rw [hY, List.length_append]
          rw [hX9, hN9] at hO9
          rw [hN9]
          clear hX9 hN9 hY
          refine hK _ _ ?_
          clear hK K
          try simp only [Act.put, List.getElem_toArray, List.getElem_cons_succ, List.getElem_cons_zero, List.setIfInBounds_toArray, List.set_cons_zero, List.set_cons_succ]
          refine wpAny_ready (rs := [13]) (by kernel_rfl) (by simp) ?_
          refine AllReady.cons rfl (fun K hK => ?_) AllReady.nil
          go_simp
          have HJ3 := hide (joinP_any V9 Y c9 w9 (RdT.own hO9) (by have := HY.out.1; omega) HY.out.2.1)
          rw [joinP_eq, HY.out.2.2] at HJ3
          refine HJ3.out.mono ?_
          rintro e w10 ⟨v, rfl, hI10⟩
          obtain ⟨V10, c10, rfl⟩ := ownsRow_slice hI10.own
          have hW10 := hW9.trans (hI10.below.mono hW9.size)
          refine hK _ _ ?_
          clear hK K
          try simp only [Act.put, List.getElem_toArray, List.getElem_cons_succ, List.getElem_cons_zero, List.setIfInBounds_toArray, List.set_cons_zero, List.set_cons_succ]
          refine wpAny_take (i := 14) (v := .slice V10 (joinR l).length c10) rfl (by kernel_rfl) (by kernel_rfl) (by kernel_rfl) (fun _ _ _ h => h) (Or.inl ⟨by kernel_rfl, fun W => by go_simp⟩) ?_
          try simp only [Act.put, List.getElem_toArray, List.getElem_cons_succ, List.getElem_cons_zero, List.setIfInBounds_toArray, List.set_cons_zero, List.set_cons_succ]
          refine wpAny_done (by kernel_rfl) ?_ _
          refine NoPanic.normal ?_
          exact ⟨rfl, V10, c10, _, _, _, _, _, _, _, _, _, _, _, _, _, _, _, _, _, _, _, _, _, rfl, hW10, RdT.own hI10.own⟩
        · go_simp
          refine (HTo1.out wq hWd).mono ?_
          rintro e w5 ⟨v, rfl, hI1⟩
          obtain ⟨G1, g1, rfl⟩ := ownsRow_slice hI1.own
          have hW5 := hWd.trans (hI1.below.mono hWd.size)
          refine hK _ _ ?_
          clear hK K
          try simp only [Act.put, List.getElem_toArray, List.getElem_cons_succ, List.getElem_cons_zero, List.setIfInBounds_toArray, List.set_cons_zero, List.set_cons_succ]
          refine wpAny_ready (rs := [0, 5]) (by kernel_rfl) (by simp) ?_
          refine AllReady.cons rfl (fun K hK => ?_) (AllReady.cons rfl (fun K hK => ?_) AllReady.nil)
          · go_simp
            have hO0 := World.ownsRow_lit (base := w4.heap.size) (e := 71) (size := 3) (w5) #[] 0 hW5.size (by decide) rfl
            have hW0 := hW5.alloc hW5.size (.cells #[] 71)
            refine hK _ _ ?_
            clear hK K
            try simp only [Act.put, List.getElem_toArray, List.getElem_cons_succ, List.getElem_cons_zero, List.setIfInBounds_toArray, List.set_cons_zero, List.set_cons_succ]
            have hb5 := (Below.refl w5.heap.size w5).alloc (Nat.le_refl _) (.cells #[] 71)
            generalize w5.alloc (.cells #[] 71) = wa at hO0 hW0 hb5 ⊢
            refine wpAny_ready (rs := [5]) (by kernel_rfl) (by simp) ?_
            refine AllReady.cons rfl (fun K hK => ?_) AllReady.nil
            go_simp
            have HJ1 := hide (joinP_any G1 lt g1 wa ((RdT.own hI1.own).step hb5) (by have := JJ.out; omega) (by have := JJ.out; omega))
            rw [joinP_eq] at HJ1
            refine HJ1.out.mono ?_
            rintro e wt ⟨v, rfl, hI2⟩
            obtain ⟨G2, g2, rfl⟩ := ownsRow_slice hI2.own
            have hWt := hW0.trans (hI2.below.mono hW0.size)
            have hOt := own_below hO0 hI2.below
            refine hK _ _ ?_
            clear hK K
            try simp only [Act.put, List.getElem_toArray, List.getElem_cons_succ, List.getElem_cons_zero, List.setIfInBounds_toArray, List.set_cons_zero, List.set_cons_succ]
            refine wpAny_ready (rs := [6]) (by kernel_rfl) (by simp) ?_
            refine AllReady.cons rfl (fun K hK => ?_) AllReady.nil
            refine step_append_toks rfl (.tmp 24) (.tmp 29) 65 rfl w4.heap.size 71 i0 Try.underlying65 hi hz0 hz1 hz2 (.slice (some ⟨w5.heap.size, 0, none⟩) 0 0) 0 [] rfl hOt G2 _ g2 _ (joinR lt) rfl rfl (RdT.own hI2.own) (by have := JJ.out; unfold maxLen; omega) (by have := JJ.out; omega) hWt.size ?_
            intro v6 w6 hO6 hg6
            obtain ⟨V6, c6, rfl⟩ := ownsRow_slice hO6
            rw [Nat.zero_add, List.nil_append] at hO6
            rw [Nat.zero_add]
            have hW6 := hWt.grown hg6 hWt.size (fun r e => (hOt.lt r e).1)
            refine hK _ _ ?_
            clear hK K
            try simp only [Act.put, List.getElem_toArray, List.getElem_cons_succ, List.getElem_cons_zero, List.setIfInBounds_toArray, List.set_cons_zero, List.set_cons_succ]
            refine wpAny_ready (rs := [10]) (by kernel_rfl) (by simp) ?_
            refine AllReady.cons rfl (fun K hK => ?_) AllReady.nil
            go_simp
            refine (HTo2.out w6 hW6).mono ?_
            rintro e w7 ⟨v, rfl, hI7⟩
            obtain ⟨G7, g7, rfl⟩ := ownsRow_slice hI7.own
            have hW7 := hW6.trans (hI7.below.mono hW6.size)
            have hO7 := own_below hO6 hI7.below
            refine hK _ _ ?_
            clear hK K
            try simp only [Act.put, List.getElem_toArray, List.getElem_cons_succ, List.getElem_cons_zero, List.setIfInBounds_toArray, List.set_cons_zero, List.set_cons_succ]
            refine wpAny_ready (rs := [11]) (by kernel_rfl) (by simp) ?_
            refine AllReady.cons rfl (fun K hK => ?_) AllReady.nil
            go_simp
            have HJ2 := hide (joinP_any G7 ld g7 w7 (RdT.own hI7.own) (by have := JJ.out; omega) (by have := JJ.out; omega))
            rw [joinP_eq] at HJ2
            refine HJ2.out.mono ?_
            rintro e w8 ⟨v, rfl, hI8⟩
            obtain ⟨G8, g8, rfl⟩ := ownsRow_slice hI8.own
            have hW8 := hW7.trans (hI8.below.mono hW7.size)
            have hO8 := own_below hO7 hI8.below
            refine hK _ _ ?_
            clear hK K
            try simp only [Act.put, List.getElem_toArray, List.getElem_cons_succ, List.getElem_cons_zero, List.setIfInBounds_toArray, List.set_cons_zero, List.set_cons_succ]
            refine wpAny_ready (rs := [12]) (by kernel_rfl) (by simp) ?_
            refine AllReady.cons rfl (fun K hK => ?_) AllReady.nil
            refine step_append_toks rfl (.tmp 30) (.tmp 35) 65 rfl w4.heap.size 71 i0 Try.underlying65 hi hz0 hz1 hz2 (.slice V6 (joinR lt).length c6) (joinR lt).length (cellsT (joinR lt)) rfl hO8 G8 _ g8 _ (joinR ld) rfl rfl (RdT.own hI8.own) (by have := JJ.out; unfold maxLen; omega) (by have := JJ.out; omega) hW8.size ?_
            intro v9 w9 hO9 hg9
            obtain ⟨V9, c9, rfl⟩ := ownsRow_slice hO9
            have hW9 := hW8.grown hg9 hW8.size (fun r e => (hO8.lt r e).1)
            obtain ⟨Y, hY⟩ : ∃ Y, Y = joinR lt ++ joinR ld := ⟨_, rfl⟩
            have HY := hide (show Y.length ≤ 100 ∧ sizeL Y ≤ 1000000 ∧ joinR Y = joinR l from ⟨by have := JJ.out; rw [hY, List.length_append]; omega, by have := JJ.out; rw [hY, sizeL_app]; omega, by rw [hY]; exact HParts.out⟩)
            have hX9 : cellsT (joinR lt) ++ cellsT (joinR ld) = cellsT Y := by rw [hY, cellsT_app]
            have hN9 : (joinR lt).length + (joinR ld).length = Y.length := by rw [hY, List.length_append]
            rw [hX9, hN9] at hO9
            rw [hN9]
            clear hX9 hN9 hY
            refine hK _ _ ?_
            clear hK K
            try simp only [Act.put, List.getElem_toArray, List.getElem_cons_succ, List.getElem_cons_zero, List.setIfInBounds_toArray, List.set_cons_zero, List.set_cons_succ]
            refine wpAny_ready (rs := [13]) (by kernel_rfl) (by simp) ?_
            refine AllReady.cons rfl (fun K hK => ?_) AllReady.nil
            go_simp
            have HJ3 := hide (joinP_any V9 Y c9 w9 (RdT.own hO9) (by have := HY.out.1; omega) HY.out.2.1)
            rw [joinP_eq, HY.out.2.2] at HJ3
            refine HJ3.out.mono ?_
            rintro e w10 ⟨v, rfl, hI10⟩
            obtain ⟨V10, c10, rfl⟩ := ownsRow_slice hI10.own
            have hW10 := hW9.trans (hI10.below.mono hW9.size)
            refine hK _ _ ?_
            clear hK K
            try simp only [Act.put, List.getElem_toArray, List.getElem_cons_succ, List.getElem_cons_zero, List.setIfInBounds_toArray, List.set_cons_zero, List.set_cons_succ]
            refine wpAny_take (i := 14) (v := .slice V10 (joinR l).length c10) rfl (by kernel_rfl) (by kernel_rfl) (by kernel_rfl) (fun _ _ _ h => h) (Or.inl ⟨by kernel_rfl, fun W => by go_simp⟩) ?_
            try simp only [Act.put, List.getElem_toArray, List.getElem_cons_succ, List.getElem_cons_zero, List.setIfInBounds_toArray, List.set_cons_zero, List.set_cons_succ]
            refine wpAny_done (by kernel_rfl) ?_ _
            refine NoPanic.normal ?_
            exact ⟨rfl, V10, c10, _, _, _, _, _, _, _, _, _, _, _, _, _, _, _, _, _, _, _, _, _, rfl, hW10, RdT.own hI10.own⟩
          · go_simp
            have HJ1 := hide (joinP_any G1 lt g1 w5 (RdT.own hI1.own) (by have := JJ.out; omega) (by have := JJ.out; omega))
            rw [joinP_eq] at HJ1
            refine HJ1.out.mono ?_
            rintro e w5b ⟨v, rfl, hI2⟩
            obtain ⟨G2, g2, rfl⟩ := ownsRow_slice hI2.own
            have hW5b := hW5.trans (hI2.below.mono hW5.size)
            refine hK _ _ ?_
            clear hK K
            try simp only [Act.put, List.getElem_toArray, List.getElem_cons_succ, List.getElem_cons_zero, List.setIfInBounds_toArray, List.set_cons_zero, List.set_cons_succ]
            refine wpAny_ready (rs := [0]) (by kernel_rfl) (by simp) ?_
            refine AllReady.cons rfl (fun K hK => ?_) AllReady.nil
            go_simp
            have hO0 := World.ownsRow_lit (base := w4.heap.size) (e := 71) (size := 3) (w5b) #[] 0 hW5b.size (by decide) rfl
            have hW0 := hW5b.alloc hW5b.size (.cells #[] 71)
            refine hK _ _ ?_
            clear hK K
            try simp only [Act.put, List.getElem_toArray, List.getElem_cons_succ, List.getElem_cons_zero, List.setIfInBounds_toArray, List.set_cons_zero, List.set_cons_succ]
            have hb5 := (Below.refl w5b.heap.size w5b).alloc (Nat.le_refl _) (.cells #[] 71)
            have hRt := (RdT.own hI2.own).step hb5
            generalize w5b.alloc (.cells #[] 71) = wa at hO0 hW0 hb5 hRt ⊢
            refine wpAny_ready (rs := [6]) (by kernel_rfl) (by simp) ?_
            refine AllReady.cons rfl (fun K hK => ?_) AllReady.nil
            refine step_append_toks rfl (.tmp 24) (.tmp 29) 65 rfl w4.heap.size 71 i0 Try.underlying65 hi hz0 hz1 hz2 (.slice (some ⟨w5b.heap.size, 0, none⟩) 0 0) 0 [] rfl hO0 G2 _ g2 _ (joinR lt) rfl rfl hRt (by have := JJ.out; unfold maxLen; omega) (by have := JJ.out; omega) hW0.size ?_
            intro v6 w6 hO6 hg6
            obtain ⟨V6, c6, rfl⟩ := ownsRow_slice hO6
            rw [Nat.zero_add, List.nil_append] at hO6
            rw [Nat.zero_add]
            have hW6 := hW0.grown hg6 hW0.size (fun r e => (hO0.lt r e).1)
            refine hK _ _ ?_
            clear hK K
            try simp only [Act.put, List.getElem_toArray, List.getElem_cons_succ, List.getElem_cons_zero, List.setIfInBounds_toArray, List.set_cons_zero, List.set_cons_succ]
            refine wpAny_ready (rs := [10]) (by kernel_rfl) (by simp) ?_
            refine AllReady.cons rfl (fun K hK => ?_) AllReady.nil
            go_simp
            refine (HTo2.out w6 hW6).mono ?_
            rintro e w7 ⟨v, rfl, hI7⟩
            obtain ⟨G7, g7, rfl⟩ := ownsRow_slice hI7.own
            have hW7 := hW6.trans (hI7.below.mono hW6.size)
            have hO7 := own_below hO6 hI7.below
            refine hK _ _ ?_
            clear hK K
            try simp only [Act.put, List.getElem_toArray, List.getElem_cons_succ, List.getElem_cons_zero, List.setIfInBounds_toArray, List.set_cons_zero, List.set_cons_succ]
            refine wpAny_ready (rs := [11]) (by kernel_rfl) (by simp) ?_
            refine AllReady.cons rfl (fun K hK => ?_) AllReady.nil
            go_simp
            have HJ2 := hide (joinP_any G7 ld g7 w7 (RdT.own hI7.own) (by have := JJ.out; omega) (by have := JJ.out; omega))
            rw [joinP_eq] at HJ2
            refine HJ2.out.mono ?_
            rintro e w8 ⟨v, rfl, hI8⟩
            obtain ⟨G8, g8, rfl⟩ := ownsRow_slice hI8.own
            have hW8 := hW7.trans (hI8.below.mono hW7.size)
            have hO8 := own_below hO7 hI8.below
            refine hK _ _ ?_
            clear hK K
            try simp only [Act.put, List.getElem_toArray, List.getElem_cons_succ, List.getElem_cons_zero, List.setIfInBounds_toArray, List.set_cons_zero, List.set_cons_succ]
            refine wpAny_ready (rs := [12]) (by kernel_rfl) (by simp) ?_
            refine AllReady.cons rfl (fun K hK => ?_) AllReady.nil
            refine step_append_toks rfl (.tmp 30) (.tmp 35) 65 rfl w4.heap.size 71 i0 Try.underlying65 hi hz0 hz1 hz2 (.slice V6 (joinR lt).length c6) (joinR lt).length (cellsT (joinR lt)) rfl hO8 G8 _ g8 _ (joinR ld) rfl rfl (RdT.own hI8.own) (by have := JJ.out; unfold maxLen; omega) (by have := JJ.out; omega) hW8.size ?_
            intro v9 w9 hO9 hg9
            obtain ⟨V9, c9, rfl⟩ := ownsRow_slice hO9
            have hW9 := hW8.grown hg9 hW8.size (fun r e => (hO8.lt r e).1)
            obtain ⟨Y, hY⟩ : ∃ Y, Y = joinR lt ++ joinR ld := ⟨_, rfl⟩
            have HY := hide (show Y.length ≤ 100 ∧ sizeL Y ≤ 1000000 ∧ joinR Y = joinR l from ⟨by have := JJ.out; rw [hY, List.length_append]; omega, by have := JJ.out; rw [hY, sizeL_app]; omega, by rw [hY]; exact HParts.out⟩)
            have hX9 : cellsT (joinR lt) ++ cellsT (joinR ld) = cellsT Y := by rw [hY, cellsT_app]
            have hN9 : (joinR lt).length + (joinR ld).length = Y.length := by rw [hY, List.length_append]
            rw [hX9, hN9] at hO9
            rw [hN9]
            clear hX9 hN9 hY
            refine hK _ _ ?_
            clear hK K
            try simp only [Act.put, List.getElem_toArray, List.getElem_cons_succ, List.getElem_cons_zero, List.setIfInBounds_toArray, List.set_cons_zero, List.set_cons_succ]
            refine wpAny_ready (rs := [13]) (by kernel_rfl) (by simp) ?_
            refine AllReady.cons rfl (fun K hK => ?_) AllReady.nil
            go_simp
            have HJ3 := hide (joinP_any V9 Y c9 w9 (RdT.own hO9) (by have := HY.out.1; omega) HY.out.2.1)
            rw [joinP_eq, HY.out.2.2] at HJ3
            refine HJ3.out.mono ?_
            rintro e w10 ⟨v, rfl, hI10⟩
            obtain ⟨V10, c10, rfl⟩ := ownsRow_slice hI10.own
            have hW10 := hW9.trans (hI10.below.mono hW9.size)
            refine hK _ _ ?_
            clear hK K
            try simp only [Act.put, List.getElem_toArray, List.getElem_cons_succ, List.getElem_cons_zero, List.setIfInBounds_toArray, List.set_cons_zero, List.set_cons_succ]
            refine wpAny_take (i := 14) (v := .slice V10 (joinR l).length c10) rfl (by kernel_rfl) (by kernel_rfl) (by kernel_rfl) (fun _ _ _ h => h) (Or.inl ⟨by kernel_rfl, fun W => by go_simp⟩) ?_
            try simp only [Act.put, List.getElem_toArray, List.getElem_cons_succ, List.getElem_cons_zero, List.setIfInBounds_toArray, List.set_cons_zero, List.set_cons_succ]
            refine wpAny_done (by kernel_rfl) ?_ _
            refine NoPanic.normal ?_
            exact ⟨rfl, V10, c10, _, _, _, _, _, _, _, _, _, _, _, _, _, _, _, _, _, _, _, _, _, rfl, hW10, RdT.own hI10.own⟩
      case cont =>
        rintro e a' W ⟨rfl, V10, c10, u17, u18, u19, u20, u21, u22, u23, u24, u25, u26, u27, u28, u29, u30, u31, u32, u33, u34, u35, u36, u37, rfl, hW, hRV⟩
        have HRV := hide (fun (W2 : World) (h : Below W.heap.size W W2) => hRV.step h)
        have HWW := hide hW
        clear hRV hW HTo1 HTo2
        go_wp2_with fail
        refine (tkAwake_any _).mono ?_
        rintro e wa ⟨rfl, hba⟩
        have HW1 := hide (HWW.out.trans (hba.mono HWW.out.size))
        have HV1 := hide hba
        have HFr := hide (from_any E (joinR l) f wa (HE.out wa HW1.out) (by omega))
        clear hba
        go_wp2_with fail
        refine HFr.out.mono ?_
        rintro e wb ⟨v, rfl, hIb⟩
        obtain ⟨G, g, rfl⟩ := ownsRow_slice hIb.own
        have HW2 := hide (HW1.out.trans (hIb.below.mono HW1.out.size))
        have HV2 := hide (HV1.out.trans (hIb.below.mono HV1.out.size))
        have HRJ := hide (refJoin_any A l c wb (HL.out wb HW2.out) (by omega) HSz.out)
        have HG := hide (RdT.own hIb.own)
        clear hIb HFr
        go_wp2_with fail
        refine HRJ.out.mono ?_
        rintro e wc ⟨v, rfl, hIc⟩
        obtain ⟨H, h, rfl⟩ := ownsRow_slice hIc.own
        have HW3 := hide (HW2.out.trans (hIc.below.mono HW2.out.size))
        have HV3 := hide (HV2.out.trans (hIc.below.mono HV2.out.size))
        have HSm := hide (refTSame_any G H (joinR l) (joinR l) g h wc (HG.out.step hIc.below) (RdT.own hIc.own) (by omega))
        rw [sameB_refl] at HSm
        clear hIc HRJ HG
        go_wp2_with fail
        refine HSm.out.mono ?_
        rintro e wd ⟨rfl, hbd⟩
        have HW4 := hide (HW3.out.trans (hbd.mono HW3.out.size))
        have HV4 := hide (HV3.out.trans (hbd.mono HV3.out.size))
        have HJ2 := hide (joinP_any E (joinR l) f wd (HE.out wd HW4.out) (by omega) (by omega))
        rw [joinP_eq, joinR_twice l hs] at HJ2
        clear hbd HSm
        go_wp2_with fail
        refine HJ2.out.mono ?_
        rintro e we ⟨v, rfl, hIe⟩
        obtain ⟨I, ii, rfl⟩ := ownsRow_slice hIe.own
        have HW5 := hide (HW4.out.trans (hIe.below.mono HW4.out.size))
        have HV5 := hide (HV4.out.trans (hIe.below.mono HV4.out.size))
        have HS2 := hide (same_any I E (joinR l) (joinR l) ii f we (RdT.own hIe.own) (HE.out we HW5.out) (by omega))
        rw [sameB_refl] at HS2
        clear hIe HJ2
        go_wp2_with fail
        refine HS2.out.mono ?_
        rintro e wf ⟨rfl, hbf⟩
        have HW6 := hide (HW5.out.trans (hbf.mono HW5.out.size))
        have HV6 := hide (HV5.out.trans (hbf.mono HV5.out.size))
        have HY1 := hide (bytesL_any E (joinR l) f wf (HE.out wf HW6.out) (by omega) (by omega))
        rw [joinR_bytes] at HY1
        clear hbf HS2
        go_wp2_with fail
        refine HY1.out.mono ?_
        rintro e wg ⟨rfl, hbg⟩
        have HW7 := hide (HW6.out.trans (hbg.mono HW6.out.size))
        have HV7 := hide (HV6.out.trans (hbg.mono HV6.out.size))
        have HY2 := hide (refBytesL_any A l c wg (HL.out wg HW7.out) (by omega) (by omega))
        clear hbg HY1
        go_wp2_with fail
        refine HY2.out.mono ?_
        rintro e wh ⟨rfl, hbh⟩
        have HW8 := hide (HW7.out.trans (hbh.mono HW7.out.size))
        have HV8 := hide (HV7.out.trans (hbh.mono HV7.out.size))
        have HS3 := hide (same_any V10 E (joinR l) (joinR l) c10 f wh (HRV.out wh HV8.out) (HE.out wh HW8.out) (by omega))
        rw [sameB_refl] at HS3
        clear hbh HY2
        go_wp2_with fail
        refine HS3.out.mono ?_
        rintro e wi ⟨rfl, hbi⟩
        have HW9 := hide (HW8.out.trans (hbi.mono HW8.out.size))
        clear hbi HS3
        go_wp2_with fail
        exact bodyPost_ret (results_tmp rfl _ _ _) rfl ⟨rfl, HB4.out.trans (HW9.out.mono HB4.out.size)⟩
end Go.Proofs.Yteaagmlejoiehaa
